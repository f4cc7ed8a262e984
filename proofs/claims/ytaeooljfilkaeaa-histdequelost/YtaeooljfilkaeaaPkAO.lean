import Derived.Test.YtaeooljfilkaeaaPkAN
import Derived.Test.YtaeooljfilkaeaaRows
import Derived.OwnWalk
import Derived.Test.YtaeooljfilkaeaaPkAA
import Derived.Deep.DeepCutAuto
import Derived.Deep.QuietTactic
import Derived.BigQuiet
/-! Play, walked. -/
namespace Go.Proofs.Ytaeooljfilkaeaa
set_option linter.unusedVariables false
set_option maxRecDepth 20000
set_option linter.unusedSimpArgs false
open Go.RowKit Go.HeapKit Go.IntWalk Go.PlainOps

theorem TodoAt.kept {w w' : World} {ta : Option Addr} {ts : List Tod} (h : TodoAt w ta ts) (hk : Keeps None w w') : TodoAt w' ta ts := by
  intro h0
  obtain ⟨b, off, e, hb, hc⟩ := h h0
  exact ⟨b, off, e, Nat.lt_of_lt_of_le hb hk.size, fun i t hi => ⟨hk.cell (hc i t hi).1 (fun f => f), hk.cell (hc i t hi).2 (fun f => f)⟩⟩
def whoS (th : Nat) (zs : List Int) : List Nat := zs.map (fun z => (z % ((1 + th : Nat) : Int)).toNat)
theorem isdp_start {wR wx : World} {p P G f most th size tc : Nat} {F : Nat → Prop} {ta : Option Addr} {ts : List Tod} (hk : Keeps None wR wx) (hA : ArF wx p F (startA size f)) (hF : ∀ k, F k → wR.heap.size ≤ k) (hb : wx.heap[P]? = some (.cells #[.pointer (some ⟨p, 0, none⟩), .int .i64 0, .int .i64 most, .slice ta ts.length tc, .slice (some ⟨G, 0, none⟩) (1 + th) (1 + th), .slice none 0 0] 68 (0, 0))) (hG : wx.heap[G]? = some (.cells (rowVals Dac.vals (List.replicate (1 + th) Dac.zero)).toArray 121 (0, 0))) (hPn : ¬ F P) (hGn : ¬ F G) (hPl : wR.heap.size ≤ P) (hGl : wR.heap.size ≤ G) (htd : TodoAt wR ta ts) (hfit : ts.length ≤ tc) (hth : th ≤ 3) :
    IsDp wR wx P p F ta tc (.slice (some ⟨G, 0, none⟩) (1 + th) (1 + th)) (.slice none 0 0) (startS size f most th ts) := by
  refine ⟨hb, hA, ?_, World.ownsRow_nil _ _ _ _, fun k f g => ?_, hk, fun k f => ?_, htd, hfit⟩
  · have hl : (rowVals Dac.vals (List.replicate (1 + th) Dac.zero)).length = (1 + th) * 14 := by rw [rowVals_length Dac.vals_size]; simp
    show wx.ownsRow 0 121 14 _ (List.replicate (1 + th) Dac.zero).length _
    rw [List.length_replicate]
    refine ⟨hl, .inr ⟨G, 1 + th, _, rfl, Nat.zero_le _, hG, Nat.le_refl _, by show 1 + th ≤ _; unfold maxLen; omega, by simpa using hl, ?_⟩⟩
    simp only [List.toList_toArray]
    exact List.take_of_length_le (by omega)
  · rcases g with rfl | e | e
    · exact hPn f
    · injection e with e; subst e; exact hGn f
    · simp [Value.ownBlock] at e
  · rcases f with f | rfl | e | e
    · exact hF k f
    · exact hPl
    · injection e with e; subst e; exact hGl
    · simp [Value.ownBlock] at e
theorem drun_made {w wR wr wz w' : World} {R g : Nat} {va vr : Value} {S : Dpl} {L : List Int} (hkR : Keeps None w wR) (hR : w.heap.size = R) (hRl : R < wR.heap.size) (hk8 : Keeps None wR wr) (hkz : Keeps None wr wz) (hk : Keeps (· = R) wz w')
    (hca : wz.ownsRow 0 45 7 va S.calls.length (rowVals Cal.vals S.calls)) (hre : wz.ownsRow 0 2 1 vr L.length (L.map (Value.int .i64))) (hlo : wz.heap[g]? = some (.cells (logVals S.A.log).toArray 166 (0, 0)))
    (hnc : ∀ k, va.ownBlock = some k → wR.heap.size ≤ k) (hnr : ∀ k, vr.ownBlock = some k → wr.heap.size ≤ k) (hng : wr.heap.size ≤ g) : DRun w w' va vr (.slice (some ⟨g, 0, none⟩) S.A.log.length S.A.log.length) S L := by
  have h8 := hk8.size
  have hz := hkz.size
  have h0 := hkR.size
  refine ⟨hk.own hca (fun k e e2 => by have := hnc k e; omega), hk.own hre (fun k e e2 => by have := hnr k e; omega), ⟨g, rfl, blkD hlo hk (fun e => by omega), by omega⟩, ((hkR.trans hk8 (fun _ f _ => f)).trans hkz (fun _ f _ => f)).trans hk (fun i e hi => by omega), fun k e => by have := hnc k e; omega, fun k e => by have := hnr k e; omega⟩
theorem picks_more {S : Dpl} {l : List Nat} {k i : Nat} (hi : l[k]? = some i) : S.picks 0 (l.take (k + 1)) = (S.picks 0 (l.take k)).pick k i := by
  have hk := (List.getElem?_eq_some_iff.1 hi).1
  have e : l.take (k + 1) = l.take k ++ [i] := by
    rw [List.take_succ_eq_append_getElem hk]
    congr 2
    exact (List.getElem?_eq_some_iff.1 hi).2
  rw [e, Dpl.picks_app, List.length_take, Nat.min_eq_left (by omega), Nat.zero_add]
  rfl
set_option maxHeartbeats 8000000 in
set_option maxRecDepth 100000 in
theorem dplay_ok (f m th : Nat) (ta pa : Option Addr) (ts : List Tod) (tc pc : Nat) (zs : List Int) (w : World) (hc : CapOK f m) (hth : th ≤ 3) (hts : ts.length ≤ 4096) (hnp : zs.length ≤ 1048576) (hk : TKinds ts) (htd : TodoAt w ta ts) (hfit : ts.length ≤ tc) (hz : Ints w pa zs) :
    Calls Try.prog 14 #[.int .i64 f, .int .i64 m, .slice ta ts.length tc, .int .i64 th, .slice pa zs.length pc] w fun e w' => ∃ va vr vl g,
      e = .returned (.tuple #[.agg #[va, vr, vl], .int .i64 0]) ∧ DRun w w' va vr vl ((startS (cellsFrom m f (4 + f)) f m th ts).picks 0 (whoS th zs)) (restL g) ∧
      PS m (cellsFrom m f (4 + f)) th ((startS (cellsFrom m f (4 + f)) f m th ts).picks 0 (whoS th zs)) g zs.length := by
  have hc' := hc
  unfold CapOK at hc'
  have hps := ps_start f m th ts (by omega) (by omega) (by omega)
  have hd := fun w => dcells_ok f m w hc
  have hle := le_cellsFrom m f (4 + f)
  have hsz : cellsFrom m f (4 + f) ≤ 1048576 := hps.sz
  generalize cellsFrom m f (4 + f) = size at hps hd hle hsz ⊢
  have hkR : Keeps None w (w.alloc (.cells #[.slice none 0 0, .slice none 0 0, .slice none 0 0] 32)) := Keeps.alloc None w _
  have hbR := new_at w (.cells #[.slice none 0 0, .slice none 0 0, .slice none 0 0] 32) _ rfl
  have hszR : w.heap.size < (w.alloc (.cells #[.slice none 0 0, .slice none 0 0, .slice none 0 0] 32)).heap.size := by simp
  have hfl := dfault_ok f m th ta pa ts tc zs.length pc (w.alloc (.cells #[.slice none 0 0, .slice none 0 0, .slice none 0 0] 32)) hc hth hts hnp hk (htd.kept hkR)
  have hnew := fun w => newA_new size w hsz
  have hdn := fun p w1 F hF => dnew_ok p F (Ar.new size) f m w1 hc hF (by simp [Ar.new]; exact hle) hsz (by simp [Ar.new])
  have hl0 : (Ar.new size).cells.length = 0 := rfl
  simp only [hl0, show ((0 : Nat) : Int) = 0 from rfl] at hdn
  have HR : Hid _ := And.intro hkR (And.intro hbR hszR)
  have HT : Hid _ := And.intro (htd.kept hkR) (hz.kept hkR)
  have HP : Hid _ := hps
  have HN : Hid _ := And.intro hth (And.intro hnp hfit)
  clear hkR hbR hszR hk htd hz hps hl0 hts hnp hle hc hfit
  go_enter Try.func14, Try.ntmps14
  go_wp2_with fail
  generalize hwR : (w.alloc (.cells #[.slice none 0 0, .slice none 0 0, .slice none 0 0] 32)) = wR at HR HT hfl ⊢
  clear hwR
  generalize hRb : w.heap.size = R at HR ⊢
  have HRb : Hid _ := hRb
  clear hRb
  refine hfl.mono ?_
  rintro e w1 ⟨rfl, hk1⟩
  have HK1 : Hid _ := hk1
  clear hk1 hfl
  go_wp2_with fail
  refine (hd _).mono ?_
  rintro e w2 ⟨rfl, hw⟩
  have hw2 := hw.symm
  subst hw2
  clear hw hd
  go_wp2_with fail
  refine (hnew _).mono ?_
  rintro e w3 ⟨rfl, F3, hF3, hk3, hf3⟩
  have hdn3 := hdn w1.heap.size w3 F3 hF3
  have hk13 := HK1.out.trans hk3 (fun _ f _ => f.elim)
  have hs1 := HK1.out.size
  have hlo3 : ∀ k, F3 k → wR.heap.size ≤ k := fun k f => by have := hf3 k f; omega
  generalize w1.heap.size = p at hdn3 ⊢
  have H3 : Hid _ := And.intro hF3 (And.intro hk13 hlo3)
  clear hF3 hk3 hf3 hnew hdn hk13 hs1 hlo3 HK1
  go_wp2_with fail
  refine hdn3.mono ?_
  rintro e w4 ⟨rfl, hA4⟩
  obtain ⟨F4, hF4, hk4, hlo4⟩ := NewA.step H3.out.2.1 H3.out.2.2 hA4
  have hD : Keeps None w4 (w4.alloc (.cells #[.int .i64 0, .int .i64 m] 62)) := Keeps.alloc None w4 _
  have hDb := new_at w4 (.cells #[.int .i64 0, .int .i64 m] 62) _ rfl
  have hDn : ¬ F4 w4.heap.size := fun f => by have := hF4.lt f; omega
  have hw5 := arf_watch p F4 _ true _ (hF4.kept hD (fun _ _ f => f))
  have H4 : Hid _ := And.intro (hk4.trans hD (fun _ f _ => f.elim)) (And.intro hlo4 (And.intro hDb hDn))
  clear hA4 hdn3 hF4 hk4 hlo4 hD hDb hDn H3
  go_wp2_with fail
  generalize (w4.alloc (.cells #[.int .i64 0, .int .i64 m] 62)) = w5 at H4 hw5 ⊢
  generalize w4.heap.size = D at H4 ⊢
  refine hw5.mono ?_
  rintro e w6 ⟨rfl, F6, hF6, hk6, hlo6⟩
  have hDb6 := blkD H4.out.2.2.1 hk6 H4.out.2.2.2
  have hs5 := H4.out.1.size
  have H6 : Hid (ArF w6 p F6 (startA size f) ∧ Keeps None wR w6 ∧ ∀ k, F6 k → wR.heap.size ≤ k) := by
    refine ⟨hF6, H4.out.1.trans hk6 (fun i f hi => by have := H4.out.2.1 i f; omega), fun k f => ?_⟩
    rcases hlo6 k f with f | f
    · exact H4.out.2.1 k f
    · omega
  have d0 := cell_of_block hDb6 0
  have d1 := cell_of_block hDb6 1
  simp only [List.size_toArray, List.length_cons, List.length_nil, Array.getElem?_eq_getElem, List.getElem_toArray, List.getElem_cons_zero, List.getElem_cons_succ, Nat.reduceLT, Nat.reduceAdd, Nat.zero_lt_succ] at d0 d1
  have hs := And.intro d0 d1
  have i3 : (th : Int) ≤ 3 := by have := HN.out.1; omega
  have hmk := fun w => acts_make (1 + th) w (by have := HN.out.1; omega)
  have e1 : ((1 + th : Nat) : Int) = 1 + (th : Int) := by omega
  have hwrap : IntKind.i64.wrap (1 + (th : Int)) = 1 + (th : Int) := (i64_left _).trans (wrap64_in _ (by omega))
  rw [e1] at hmk
  clear e1 hF6 hk6 hlo6 hDb6 hs5 H4 hw5 d0 d1
  go_upto_region 11 with fail
  go_cut [16] (fun s16 wx => ∃ P G F, s16 = .pointer (some ⟨P, 0, none⟩) ∧ IsDp wR wx P p F ta tc (.slice (some ⟨G, 0, none⟩) (1 + th) (1 + th)) (.slice none 0 0) (startS size f m th ts))
  case first =>
    refine wp_region_held_drew (S := (fun w' => w'.cell? ⟨D, 0, none⟩ = some (.int .i64 0) ∧ w'.cell? ⟨D, 1, none⟩ = some (.int .i64 m))) (by kernel_rfl) ?_ (fun hHeld => ?_)
    · (try dsimp only); (first | with_reducible exact hs | go_keep)
    refine wpAnyH_take (i := 0) (oi := { dst := some 54, op := Op.move (Operand.tmp 13), type := 58, pos := "play.go:38", after := #[], guard := none }) (v := ?_) rfl (by kernel_rfl) (by kernel_rfl) (by kernel_rfl) (fun _ _ _ h => h) (Or.inl ⟨by rfl, ?_⟩) (by assumption) ?_
    rotate_left
    · (intro wz hSw; (try dsimp only at hSw); go_simp; try with_reducible rfl)
    simp only [Act.put, List.setIfInBounds_toArray, List.set_cons_zero, List.set_cons_succ]
    refine wpAnyH_take (i := 1) (oi := { dst := some 55, op := Op.load 62 (Operand.tmp 15), type := 62, pos := "play.go:38", after := #[], guard := none }) (v := ?_) rfl (by kernel_rfl) (by kernel_rfl) (by kernel_rfl) (fun _ _ _ h => h) (Or.inl ⟨by rfl, ?_⟩) (by assumption) ?_
    rotate_left
    · (intro wz hSw; (try dsimp only at hSw); go_simp; try with_reducible rfl)
    simp only [Act.put, List.setIfInBounds_toArray, List.set_cons_zero, List.set_cons_succ]
    refine wpAnyH_take (i := 2) (oi := { dst := some 56, op := Op.move (Operand.tmp 2), type := 22, pos := "play.go:38", after := #[], guard := none }) (v := ?_) rfl (by kernel_rfl) (by kernel_rfl) (by kernel_rfl) (fun _ _ _ h => h) (Or.inl ⟨by rfl, ?_⟩) (by assumption) ?_
    rotate_left
    · (intro wz hSw; (try dsimp only at hSw); go_simp; try with_reducible rfl)
    simp only [Act.put, List.setIfInBounds_toArray, List.set_cons_zero, List.set_cons_succ]
    refine wpAnyH_take (i := 3) (oi := { dst := some 57, op := Op.move (Operand.tmp 3), type := 3, pos := "play.go:38", after := #[], guard := none }) (v := ?_) rfl (by kernel_rfl) (by kernel_rfl) (by kernel_rfl) (fun _ _ _ h => h) (Or.inl ⟨by rfl, ?_⟩) (by assumption) ?_
    rotate_left
    · (intro wz hSw; (try dsimp only at hSw); go_simp; try with_reducible rfl)
    simp only [Act.put, List.setIfInBounds_toArray, List.set_cons_zero, List.set_cons_succ]
    refine wpAnyH_take (i := 4) (oi := { dst := some 58, op := Op.binOp BinOp.add 3 (Operand.const (Value.int IntKind.i64 1)) (Operand.tmp 57) 3, type := 3, pos := "play.go:38", after := #[{ on := 3, ground := Ground.data }], guard := none }) (v := ?_) rfl (by kernel_rfl) (by kernel_rfl) (by kernel_rfl) (fun _ _ _ h => h) (Or.inl ⟨by rfl, ?_⟩) (by assumption) ?_
    rotate_left
    · (intro wz hSw; (try dsimp only at hSw); go_simp; try with_reducible rfl)
    simp only [Act.put, List.setIfInBounds_toArray, List.set_cons_zero, List.set_cons_succ]
    refine wpAnyH_ready (rs := [5, 7]) (by kernel_rfl) (by simp) ?_
    refine AllReadyH.cons (o := { dst := some 59, op := Op.makeSlice 66 (Operand.tmp 58) (Operand.tmp 58), type := 66, pos := "play.go:38", after := #[{ on := 4, ground := Ground.data }, { on := 4, ground := Ground.data }], guard := none }) rfl (fun K hK => ?_) ?_
    · refine step_make_runD rfl (.tmp 58) (.tmp 58) 66 rfl (by simp [Act.eval, hwrap]) (by simp [Act.eval, hwrap]) (hmk _) ?_
      refine hK.out _ _ ?_ (fun hHeld2 => ?_)
      · (try dsimp only); (first | with_reducible exact hs | go_keep)
      clear hK K
      try simp only [Act.put, List.setIfInBounds_toArray, List.set_cons_zero, List.set_cons_succ]
      refine wpAnyH_take (i := 6) (oi := { dst := some 60, op := Op.build 68 #[(0, Operand.tmp 54), (1, Operand.tmp 55), (2, Operand.tmp 56), (3, Operand.tmp 59)], type := 68, pos := "play.go:38", after := #[{ on := 0, ground := Ground.data }, { on := 1, ground := Ground.data }, { on := 2, ground := Ground.data }, { on := 5, ground := Ground.data }], guard := none }) (v := ?_) rfl (by kernel_rfl) (by kernel_rfl) (by kernel_rfl) (fun _ _ _ h => h) (Or.inl ⟨by rfl, ?_⟩) (by assumption) ?_
      rotate_left
      · (intro wz hSw; (try dsimp only at hSw); go_simp; try with_reducible rfl)
      simp only [Act.put, List.setIfInBounds_toArray, List.set_cons_zero, List.set_cons_succ]
      refine wpAnyH_ready (rs := [7]) (by kernel_rfl) (by simp) ?_
      refine AllReadyH.cons (o := { dst := some 16, op := Op.alloc 68, type := 0, pos := "play.go:38", after := #[], guard := none }) rfl (fun K hK => ?_) ?_
      · go_simp
        refine hK.out _ _ ?_ (fun hHeld2 => ?_)
        · (try dsimp only); (first | with_reducible exact hs | go_keep)
        clear hK K
        try simp only [Act.put, List.setIfInBounds_toArray, List.set_cons_zero, List.set_cons_succ]
        refine wpAnyH_ready (rs := [8]) (by kernel_rfl) (by simp) ?_
        refine AllReadyH.cons (o := { dst := none, op := Op.store 68 (Operand.tmp 16) (Operand.tmp 60), type := 0, pos := "play.go:38", after := #[{ on := 7, ground := Ground.data }, { on := 6, ground := Ground.data }, { on := 0, ground := Ground.phase }, { on := 1, ground := Ground.phase }, { on := 2, ground := Ground.phase }, { on := 3, ground := Ground.phase }, { on := 4, ground := Ground.phase }, { on := 5, ground := Ground.phase }, { on := 6, ground := Ground.phase }, { on := 7, ground := Ground.phase }], guard := none }) rfl (fun K hK => ?_) ?_
        · go_simp
          refine hK.out _ _ ?_ (fun hHeld2 => ?_)
          · (try dsimp only); (first | with_reducible exact hs | go_keep)
          clear hK K
          try simp only [Act.put, List.setIfInBounds_toArray, List.set_cons_zero, List.set_cons_succ]
          refine wpAnyH_done (by kernel_rfl) ?_ _
          go_wp2_with fail
          go_meet
          have hkk : ∀ a b, Keeps None w6 ((w6.alloc a).alloc b).drew := fun a b => (((Keeps.refl None w6).andAlloc a).andAlloc b).andDrew
          have hsz6 := H6.out.2.1.size
          have hFl : ∀ k, F6 k → k < w6.heap.size := fun k f => H6.out.1.lt f
          first | exact ⟨w6.heap.size + 1, w6.heap.size, F6, rfl, isdp_start (H6.out.2.1.trans (hkk _ _) (fun _ f _ => f.elim)) (H6.out.1.kept (hkk _ _) (fun _ _ f => f)) H6.out.2.2 (blkD (new_at (w6.alloc _) _ _ (by simp)) (Keeps.drew None _) (fun f => f)) (blkD (blkD (new_at w6 _ _ rfl) (Keeps.alloc None (w6.alloc _) _) (fun f => f)) (Keeps.drew None _) (fun f => f)) (fun f => by have := hFl _ f; omega) (fun f => by have := hFl _ f; omega) (by omega) (by omega) HT.out.1 HN.out.2.2 HN.out.1⟩ | exact ⟨w6.heap.size, w6.heap.size + 1, F6, rfl, isdp_start (H6.out.2.1.trans (hkk _ _) (fun _ f _ => f.elim)) (H6.out.1.kept (hkk _ _) (fun _ _ f => f)) H6.out.2.2 (blkD (blkD (new_at w6 _ _ rfl) (Keeps.alloc None (w6.alloc _) _) (fun f => f)) (Keeps.drew None _) (fun f => f)) (blkD (new_at (w6.alloc _) _ _ (by simp)) (Keeps.drew None _) (fun f => f)) (fun f => by have := hFl _ f; omega) (fun f => by have := hFl _ f; omega) (by omega) (by omega) HT.out.1 HN.out.2.2 HN.out.1⟩
        exact AllReadyH.nil
      exact AllReadyH.nil
    refine AllReadyH.cons (o := { dst := some 16, op := Op.alloc 68, type := 0, pos := "play.go:38", after := #[], guard := none }) rfl (fun K hK => ?_) ?_
    · go_simp
      refine hK.out _ _ ?_ (fun hHeld2 => ?_)
      · (try dsimp only); (first | with_reducible exact hs | go_keep)
      clear hK K
      try simp only [Act.put, List.setIfInBounds_toArray, List.set_cons_zero, List.set_cons_succ]
      refine wpAnyH_ready (rs := [5]) (by kernel_rfl) (by simp) ?_
      refine AllReadyH.cons (o := { dst := some 59, op := Op.makeSlice 66 (Operand.tmp 58) (Operand.tmp 58), type := 66, pos := "play.go:38", after := #[{ on := 4, ground := Ground.data }, { on := 4, ground := Ground.data }], guard := none }) rfl (fun K hK => ?_) ?_
      · refine step_make_runD rfl (.tmp 58) (.tmp 58) 66 rfl (by simp [Act.eval, hwrap]) (by simp [Act.eval, hwrap]) (hmk _) ?_
        refine hK.out _ _ ?_ (fun hHeld2 => ?_)
        · (try dsimp only); (first | with_reducible exact hs | go_keep)
        clear hK K
        try simp only [Act.put, List.setIfInBounds_toArray, List.set_cons_zero, List.set_cons_succ]
        refine wpAnyH_take (i := 6) (oi := { dst := some 60, op := Op.build 68 #[(0, Operand.tmp 54), (1, Operand.tmp 55), (2, Operand.tmp 56), (3, Operand.tmp 59)], type := 68, pos := "play.go:38", after := #[{ on := 0, ground := Ground.data }, { on := 1, ground := Ground.data }, { on := 2, ground := Ground.data }, { on := 5, ground := Ground.data }], guard := none }) (v := ?_) rfl (by kernel_rfl) (by kernel_rfl) (by kernel_rfl) (fun _ _ _ h => h) (Or.inl ⟨by rfl, ?_⟩) (by assumption) ?_
        rotate_left
        · (intro wz hSw; (try dsimp only at hSw); go_simp; try with_reducible rfl)
        simp only [Act.put, List.setIfInBounds_toArray, List.set_cons_zero, List.set_cons_succ]
        refine wpAnyH_ready (rs := [8]) (by kernel_rfl) (by simp) ?_
        refine AllReadyH.cons (o := { dst := none, op := Op.store 68 (Operand.tmp 16) (Operand.tmp 60), type := 0, pos := "play.go:38", after := #[{ on := 7, ground := Ground.data }, { on := 6, ground := Ground.data }, { on := 0, ground := Ground.phase }, { on := 1, ground := Ground.phase }, { on := 2, ground := Ground.phase }, { on := 3, ground := Ground.phase }, { on := 4, ground := Ground.phase }, { on := 5, ground := Ground.phase }, { on := 6, ground := Ground.phase }, { on := 7, ground := Ground.phase }], guard := none }) rfl (fun K hK => ?_) ?_
        · go_simp
          refine hK.out _ _ ?_ (fun hHeld2 => ?_)
          · (try dsimp only); (first | with_reducible exact hs | go_keep)
          clear hK K
          try simp only [Act.put, List.setIfInBounds_toArray, List.set_cons_zero, List.set_cons_succ]
          refine wpAnyH_done (by kernel_rfl) ?_ _
          go_wp2_with fail
          go_meet
          have hkk : ∀ a b, Keeps None w6 ((w6.alloc a).alloc b).drew := fun a b => (((Keeps.refl None w6).andAlloc a).andAlloc b).andDrew
          have hsz6 := H6.out.2.1.size
          have hFl : ∀ k, F6 k → k < w6.heap.size := fun k f => H6.out.1.lt f
          first | exact ⟨w6.heap.size + 1, w6.heap.size, F6, rfl, isdp_start (H6.out.2.1.trans (hkk _ _) (fun _ f _ => f.elim)) (H6.out.1.kept (hkk _ _) (fun _ _ f => f)) H6.out.2.2 (blkD (new_at (w6.alloc _) _ _ (by simp)) (Keeps.drew None _) (fun f => f)) (blkD (blkD (new_at w6 _ _ rfl) (Keeps.alloc None (w6.alloc _) _) (fun f => f)) (Keeps.drew None _) (fun f => f)) (fun f => by have := hFl _ f; omega) (fun f => by have := hFl _ f; omega) (by omega) (by omega) HT.out.1 HN.out.2.2 HN.out.1⟩ | exact ⟨w6.heap.size, w6.heap.size + 1, F6, rfl, isdp_start (H6.out.2.1.trans (hkk _ _) (fun _ f _ => f.elim)) (H6.out.1.kept (hkk _ _) (fun _ _ f => f)) H6.out.2.2 (blkD (blkD (new_at w6 _ _ rfl) (Keeps.alloc None (w6.alloc _) _) (fun f => f)) (Keeps.drew None _) (fun f => f)) (blkD (new_at (w6.alloc _) _ _ (by simp)) (Keeps.drew None _) (fun f => f)) (fun f => by have := hFl _ f; omega) (fun f => by have := hFl _ f; omega) (by omega) (by omega) HT.out.1 HN.out.2.2 HN.out.1⟩
        exact AllReadyH.nil
      exact AllReadyH.nil
    exact AllReadyH.nil
  case rest =>
    obtain ⟨P, G, F7, rfl, h7⟩ := hcut
    have H7 : Hid _ := h7
    clear h7 hs hmk hwrap H6
    go_wp2_with fail
    go_loopw [17, 18, 63] (fun s17 s18 s63 wr => ∃ k : Nat, k ≤ zs.length ∧ s63 = .int .i64 k ∧ ∃ F ta' tc' vc, IsDp wR wr P p F ta' tc' (.slice (some ⟨G, 0, none⟩) (1 + th) (1 + th)) vc ((startS size f m th ts).picks 0 ((whoS th zs).take k))) (fun _ _ s63 _ => zs.length - (intOf s63).toNat)
    case atStart => exact ⟨0, Nat.zero_le _, rfl, F7, ta, tc, _, H7.out⟩
    case round =>
      obtain ⟨k, hk, rfl, F8, ta8, tc8, vc8, h8⟩ := hrel
      have hwl : (whoS th zs).length = zs.length := by simp [whoS]
      have hlk : ((whoS th zs).take k).length = k := by rw [List.length_take, hwl]; omega
      have hwho : ∀ i ∈ whoS th zs, i < 1 + th := fun i hi => by
        obtain ⟨z, -, rfl⟩ := List.mem_map.1 hi
        have h1 := Int.emod_lt_of_pos z (show (0 : Int) < ((1 + th : Nat) : Int) by omega)
        have h2 := Int.emod_nonneg z (show ((1 + th : Nat) : Int) ≠ 0 by omega)
        omega
      have hnz := HN.out.2.1
      obtain ⟨g8, hp8⟩ := HP.out.picks ((whoS th zs).take k) (fun i hi => hwho i (List.mem_of_mem_take hi)) (by rw [hlk]; omega)
      rw [hlk, Nat.zero_add] at hp8
      by_cases hlt : k < zs.length
      · obtain ⟨b, off, rfl, hb, hcs⟩ := HT.out.2 (by omega)
        have cz := h8.kp.cell (hcs k hlt) (fun f => f)
        have hzk : zs.getD k 0 = zs[k] := by rw [List.getD_eq_getElem?_getD, List.getElem?_eq_getElem hlt]; rfl
        rw [hzk] at cz
        obtain ⟨i, hi⟩ : ∃ i : Nat, i = (zs[k] % ((1 + th : Nat) : Int)).toNat := ⟨_, rfl⟩
        have hik : (whoS th zs)[k]? = some i := by rw [hi]; simp [whoS, hlt]
        have hil : i < 1 + th := hwho i (List.mem_of_getElem? hik)
        have hmi : modV zs[k] ((1 + th : Nat) : Int) = (i : Int) := by
          unfold modV
          have h2 := Int.emod_nonneg zs[k] (show ((1 + th : Nat) : Int) ≠ 0 by omega)
          rw [if_neg (by omega), hi]
          omega
        have hmod := fun w => mod_any zs[k] ((1 + th : Nat) : Int) w (by omega)
        rw [hmi] at hmod
        have hpm := picks_more (S := startS size f m th ts) hik
        have hpick := fun wx (hx : IsDp wR wx P p F8 ta8 tc8 (.slice (some ⟨G, 0, none⟩) (1 + th) (1 + th)) vc8 ((startS size f m th ts).picks 0 ((whoS th zs).take k))) => dpick_ps hx hp8 hil (by omega)
        rw [← hpm] at hpick
        have c4 := h8.cs.1.2.2.2.2.1
        have j1 : (k : Int) < (zs.length : Int) := by omega
        have j2 : (k : Int) ≤ 1048576 := by omega
        generalize zs[k] = z at cz hmod
        have H8 : Hid _ := h8
        have HL : Hid _ := hlt
        clear h8 hcs hb hi hik hmi hpm hp8 hlk hwl hwho hzk hlt hil hk hnz
        go_wp2_with fail
        refine (hmod _).mono ?_
        rintro e w8 ⟨rfl, hw8⟩
        have hv8 := hw8.symm
        subst hv8
        clear hw8 hmod
        go_wp2_with fail
        refine (hpick _ H8.out).mono ?_
        rintro e w9 ⟨rfl, h9⟩
        have H9 : Hid _ := h9
        clear h9 hpick c4 cz
        go_wp2_with fail
        go_roundw
        case rel => exact ⟨k + 1, HL.out, by go_num, H9.out⟩
        case measure => simp only [intOf]; have := HL.out; omega
      · have hke : k = zs.length := by omega
        have htk : (whoS th zs).take k = whoS th zs := List.take_of_length_le (by rw [hwl]; omega)
        rw [htk] at h8 hp8
        have hps : Hid (PS m size th ((startS size f m th ts).picks 0 (whoS th zs)) g8 zs.length) := hke ▸ hp8
        generalize hSe : ((startS size f m th ts).picks 0 (whoS th zs)) = S at h8 hp8 hps ⊢
        have HSE : Hid _ := hSe
        clear hSe
        have hPR : ¬ P = R := by have := h8.lo P (.inr (.inl rfl)); have := HR.out.2.2; omega
        have hRP : ¬ R = P := fun e => hPR e.symm
        obtain ⟨xc, cc, hvc⟩ := own_shape h8.ca
        subst hvc
        have hrest := fun wx (hx : IsDp wR wx P p F8 ta8 tc8 (.slice (some ⟨G, 0, none⟩) (1 + th) (1 + th)) (.slice xc S.calls.length cc) S) => drest_any wR wx P p F8 ta8 tc8 (.slice (some ⟨G, 0, none⟩) (1 + th) (1 + th)) _ S m size g8 hx hp8.di
        have hlogc := fun wx (hx : IsDp wR wx P p F8 ta8 tc8 (.slice (some ⟨G, 0, none⟩) (1 + th) (1 + th)) (.slice xc S.calls.length cc) S) => darf_log p F8 S.A wx hx.ar (by have := hp8.ln; omega)
        have c5 := h8.cs.1.2.2.2.2.2
        have H8 : Hid _ := h8
        have j1 : ¬ (k : Int) < (zs.length : Int) := by omega
        clear h8 hp8 htk hwl hlk hwho hlt hnz hk hke
        go_upto_region 17 with fail
        refine wp_region_held_drew (S := (fun w' => w'.cell? ⟨P, 5, none⟩ = some (.slice xc S.calls.length cc))) (by kernel_rfl) ?_ (fun hHeld => ?_)
        · (try dsimp only); (first | with_reducible exact c5 | with_reducible exact hsM | with_reducible exact hsL | go_keep)
        refine wpAnyH_take (i := 0) (oi := { dst := some 76, op := Op.fieldAddr 68 (Operand.tmp 16) 4, type := 0, pos := "play.go:42", after := #[], guard := none }) (v := ?_) rfl (by kernel_rfl) (by kernel_rfl) (by kernel_rfl) (fun _ _ _ h => h) (Or.inl ⟨by rfl, ?_⟩) (by assumption) ?_
        rotate_left
        · (intro wz hSw; (try dsimp only at hSw); go_simp; try with_reducible rfl)
        simp only [Act.put, List.setIfInBounds_toArray, List.set_cons_zero, List.set_cons_succ]
        refine wpAnyH_take (i := 1) (oi := { dst := some 77, op := Op.load 28 (Operand.tmp 76), type := 28, pos := "play.go:42", after := #[{ on := 0, ground := Ground.data }], guard := none }) (v := ?_) rfl (by kernel_rfl) (by kernel_rfl) (by kernel_rfl) (fun _ _ _ h => h) (Or.inl ⟨by rfl, ?_⟩) (by assumption) ?_
        rotate_left
        · (intro wz hSw; (try dsimp only at hSw); go_simp; try with_reducible rfl)
        simp only [Act.put, List.setIfInBounds_toArray, List.set_cons_zero, List.set_cons_succ]
        refine wpAnyH_take (i := 3) (oi := { dst := some 79, op := Op.move (Operand.tmp 13), type := 58, pos := "play.go:42", after := #[], guard := none }) (v := ?_) rfl (by kernel_rfl) (by kernel_rfl) (by kernel_rfl) (fun _ _ _ h => h) (Or.inl ⟨by rfl, ?_⟩) (by assumption) ?_
        rotate_left
        · (intro wz hSw; (try dsimp only at hSw); go_simp; try with_reducible rfl)
        simp only [Act.put, List.setIfInBounds_toArray, List.set_cons_zero, List.set_cons_succ]
        refine wpAnyH_ready (rs := [2]) (by kernel_rfl) (by simp) ?_
        refine AllReadyH.cons (o := { dst := some 78, op := Op.call { callee := Callee.value (Operand.func 29), args := #[Operand.tmp 16], argTypes := #[68] }, type := 29, pos := "play.go:42", after := #[], guard := none }) rfl (fun K hK => ?_) ?_
        · go_simp
          refine (hrest _ (by first | exact (H8.out.kept (Keeps.drew None _)).kept hkL | exact H8.out.kept (Keeps.drew None _))).mono ?_
          rintro _ wM ⟨vr, rfl, hre, hkM, hnr⟩
          obtain ⟨xr, cr, hvr⟩ := own_shape hre
          subst hvr
          have hPM := IsDp.kept (by first | exact (H8.out.kept (Keeps.drew None _)).kept hkL | exact H8.out.kept (Keeps.drew None _)) hkM
          have hsM := hPM.cs.1.2.2.2.2.2
          have hRM := blkD HR.out.2.1 hPM.kp (fun f => f)
          have rM0 := (cell_of_block hRM 0).trans rfl
          have qM0 := free_of_block hRM 0
          have rM1 := (cell_of_block hRM 1).trans rfl
          have qM1 := free_of_block hRM 1
          have rM2 := (cell_of_block hRM 2).trans rfl
          have qM2 := free_of_block hRM 2
          refine hK.out _ _ ?_ (fun hHeld2 => ?_)
          · (try dsimp only); (first | with_reducible exact c5 | with_reducible exact hsM | with_reducible exact hsL | go_keep)
          clear hK K
          try simp only [Act.put, List.setIfInBounds_toArray, List.set_cons_zero, List.set_cons_succ]
          refine wpAnyH_ready (rs := [4]) (by kernel_rfl) (by simp) ?_
          refine AllReadyH.cons (o := { dst := some 80, op := Op.call { callee := Callee.value (Operand.func 30), args := #[Operand.tmp 79], argTypes := #[58] }, type := 30, pos := "play.go:42", after := #[{ on := 3, ground := Ground.data }, { on := 2, ground := Ground.chain }], guard := none }) rfl (fun K hK => ?_) ?_
          · go_simp
            refine (hlogc _ (by first | exact (H8.out.kept (Keeps.drew None _)).kept hkM | exact H8.out.kept (Keeps.drew None _))).mono ?_
            rintro _ wL ⟨gl, rfl, hgl, hbl, hkL⟩
            have hPL := IsDp.kept (by first | exact (H8.out.kept (Keeps.drew None _)).kept hkM | exact H8.out.kept (Keeps.drew None _)) hkL
            have hsL := hPL.cs.1.2.2.2.2.2
            have hRL := blkD HR.out.2.1 hPL.kp (fun f => f)
            have rL0 := (cell_of_block hRL 0).trans rfl
            have qL0 := free_of_block hRL 0
            have rL1 := (cell_of_block hRL 1).trans rfl
            have qL1 := free_of_block hRL 1
            have rL2 := (cell_of_block hRL 2).trans rfl
            have qL2 := free_of_block hRL 2
            refine hK.out _ _ ?_ (fun hHeld2 => ?_)
            · (try dsimp only); (first | with_reducible exact c5 | with_reducible exact hsM | with_reducible exact hsL | go_keep)
            clear hK K
            try simp only [Act.put, List.setIfInBounds_toArray, List.set_cons_zero, List.set_cons_succ]
            refine wpAnyH_take (i := 5) (oi := { dst := some 81, op := Op.build 32 #[(0, Operand.tmp 77), (1, Operand.tmp 78), (2, Operand.tmp 80)], type := 32, pos := "play.go:42", after := #[{ on := 1, ground := Ground.data }, { on := 2, ground := Ground.data }, { on := 4, ground := Ground.data }], guard := none }) (v := ?_) rfl (by kernel_rfl) (by kernel_rfl) (by kernel_rfl) (fun _ _ _ h => h) (Or.inl ⟨by rfl, ?_⟩) (by assumption) ?_
            rotate_left
            · (intro wz hSw; (try dsimp only at hSw); go_simp; try with_reducible rfl)
            simp only [Act.put, List.setIfInBounds_toArray, List.set_cons_zero, List.set_cons_succ]
            refine wpAnyH_ready (rs := [6]) (by kernel_rfl) (by simp) ?_
            refine AllReadyH.cons (o := { dst := none, op := Op.store 32 (Operand.tmp 10) (Operand.tmp 81), type := 0, pos := "play.go:42", after := #[{ on := 5, ground := Ground.data }, { on := 4, ground := Ground.chain }, { on := 0, ground := Ground.phase }, { on := 1, ground := Ground.phase }, { on := 2, ground := Ground.phase }, { on := 3, ground := Ground.phase }, { on := 4, ground := Ground.phase }, { on := 5, ground := Ground.phase }], guard := none }) rfl (fun K hK => ?_) ?_
            · go_simp
              refine hK.out _ _ ?_ (fun hHeld2 => ?_)
              · (try dsimp only); (first | with_reducible exact c5 | with_reducible exact hsM | with_reducible exact hsL | go_keep)
              clear hK K
              try simp only [Act.put, List.setIfInBounds_toArray, List.set_cons_zero, List.set_cons_succ]
              refine wpAnyH_take (i := 7) (oi := { dst := some 11, op := Op.assign (Operand.const (Value.int IntKind.i64 0)), type := 39, pos := "play.go:42", after := #[{ on := 6, ground := Ground.chain }, { on := 0, ground := Ground.phase }, { on := 1, ground := Ground.phase }, { on := 2, ground := Ground.phase }, { on := 3, ground := Ground.phase }, { on := 4, ground := Ground.phase }, { on := 5, ground := Ground.phase }, { on := 6, ground := Ground.phase }], guard := none }) (v := ?_) rfl (by kernel_rfl) (by kernel_rfl) (by kernel_rfl) (fun _ _ _ h => h) (Or.inl ⟨by rfl, ?_⟩) (by assumption) ?_
              rotate_left
              · (intro wz hSw; (try dsimp only at hSw); go_simp; try with_reducible rfl)
              simp only [Act.put, List.setIfInBounds_toArray, List.set_cons_zero, List.set_cons_succ]
              refine wpAnyH_done (by kernel_rfl) ?_ _
              go_wp2_with fail
              refine drun_end rfl rfl (by first | exact hRL | exact hRM) rfl rfl _ _ _ (fun w' hk => ⟨_, _, _, rfl, g8, ?_, ?_⟩)
              rotate_left
              · rw [HSE.out]; exact hps.out
              rw [HSE.out]
              first | exact drun_made HR.out.1 HRb.out HR.out.2.2 H8.out.kp (((Keeps.drew None wr).trans hkM (fun _ f _ => f)).trans hkL (fun _ f _ => f)) hk hPL.ca (hkL.own hre (fun _ _ f => f)) hbl (fun k e => hPL.lo k (.inr (.inr (.inr e)))) (fun k e => hnr k e) (by have := hkM.size; have e : wr.drew.heap.size = wr.heap.size := rfl; omega) | exact drun_made HR.out.1 HRb.out HR.out.2.2 H8.out.kp (((Keeps.drew None wr).trans hkL (fun _ f _ => f)).trans hkM (fun _ f _ => f)) hk hPM.ca hre (blkD hbl hkM (fun f => f)) (fun k e => hPM.lo k (.inr (.inr (.inr e)))) (fun k e => by have := hnr k e; have := hkL.size; have e2 : wr.drew.heap.size = wr.heap.size := rfl; omega) hgl
            exact AllReadyH.nil
          exact AllReadyH.nil
        exact AllReadyH.nil
end Go.Proofs.Ytaeooljfilkaeaa
/-! Calls of a history, plainly; lists of them in memory. -/
namespace Go.Proofs.Ytaeooljfilkaeaa
open Go.RowKit Go.HeapKit

theorem blk_cell {w : World} {p : Nat} {c : Array Value} {t : TypeId} {fz : Nat × Nat} (h : w.heap[p]? = some (.cells c t fz)) (i : Nat) : w.cell? ⟨p, i, none⟩ = c[i]? := by
  simp [World.cell?, h]
theorem blk_free {w : World} {p : Nat} {c : Array Value} {t : TypeId} (h : w.heap[p]? = some (.cells c t (0, 0))) (i : Nat) : w.frozen? ⟨p, i, none⟩ = false := by
  simp [World.frozen?, h]
theorem blk_set {w : World} {p i : Nat} {c : Array Value} {t : TypeId} {fz : Nat × Nat} (h : w.heap[p]? = some (.cells c t fz)) (v : Value) :
    (w.setCell ⟨p, i, none⟩ v).heap[p]? = some (.cells (c.setIfInBounds i v) t fz) := by
  simp [World.setCell, Array.getElem?_modify, h]
theorem blk_new (w : World) (o : Obj) (n : Nat) (hn : w.heap.size = n) : (w.alloc o).heap[n]? = some o := by subst hn; exact heap_alloc_new w o
theorem row_shape {w : World} {base : Nat} {e : TypeId} {size : Nat} {v : Value} {n : Nat} {xs : List Value} (h : w.ownsRow base e size v n xs) : ∃ ao cap, v = .slice ao n cap := by
  rcases h.2 with ⟨rfl, rfl⟩ | ⟨g, cap, cur, rfl, _⟩
  · exact ⟨none, 0, rfl⟩
  · exact ⟨_, cap, rfl⟩
theorem row_base {w : World} {base base' : Nat} {e : TypeId} {size : Nat} {v : Value} {n : Nat} {xs : List Value} (h : w.ownsRow base e size v n xs) (hb : base' ≤ base) : w.ownsRow base' e size v n xs := by
  refine ⟨h.1, ?_⟩
  rcases h.2 with h | ⟨g, cap, cur, hv, hbg, r⟩
  · exact .inl h
  · exact .inr ⟨g, cap, cur, hv, Nat.le_trans hb hbg, r⟩
theorem row_low {w : World} {base : Nat} {e : TypeId} {size : Nat} {v : Value} {n : Nat} {xs : List Value} (h : w.ownsRow base e size v n xs) {g : Nat} (hg : v.ownBlock = some g) : base ≤ g := by
  rcases h.2 with ⟨rfl, rfl⟩ | ⟨g', cap, cur, rfl, hbg, r⟩
  · simp [Value.ownBlock] at hg
  · simp [Value.ownBlock] at hg; omega
/-- A row stands while its block does. -/
theorem row_kept {S : Nat → Prop} {w w' : World} {base : Nat} {e : TypeId} {size : Nat} {v : Value} {n : Nat} {xs : List Value} (ho : w.ownsRow base e size v n xs) (h : Keeps S w w') (hS : ∀ g, v.ownBlock = some g → ¬ S g) : w'.ownsRow base e size v n xs := h.own ho hS
theorem row_nil (w : World) (base : Nat) (e : TypeId) (size : Nat) : w.ownsRow base e size (.slice none 0 0) 0 [] := ⟨by simp, .inl ⟨rfl, rfl⟩⟩

structure Cl where
  who : Int
  kind : Int
  arg : Int
  beg : Int
  fin : Int
  code : Int
  v : Int
deriving DecidableEq
def Cl.vals (c : Cl) : List Value := [.int .i64 c.who, .int .i64 c.kind, .int .i64 c.arg, .int .i64 c.beg, .int .i64 c.fin, .int .i64 c.code, .int .i64 c.v]
def Cl.value (c : Cl) : Value := .agg #[.int .i64 c.who, .int .i64 c.kind, .int .i64 c.arg, .int .i64 c.beg, .int .i64 c.fin, .int .i64 c.code, .int .i64 c.v]
theorem Cl.vals_length (c : Cl) : c.vals.length = 7 := rfl
def clVals (l : List Cl) : List Value := l.flatMap Cl.vals
theorem clVals_length (l : List Cl) : (clVals l).length = l.length * 7 := by
  induction l with
  | nil => rfl
  | cons x l ih => simp only [clVals, List.flatMap_cons, List.length_append, Cl.vals_length, List.length_cons] at ih ⊢; omega
theorem clVals_append (a b : List Cl) : clVals (a ++ b) = clVals a ++ clVals b := by simp [clVals]
theorem clVals_one (c : Cl) : clVals [c] = c.vals := by simp [clVals]
theorem clVals_at (l : List Cl) (k : Nat) (x : Cl) (h : l[k]? = some x) (j : Nat) (u : Value) (hu : x.vals[j]? = some u) : (clVals l)[k * 7 + j]? = some u := by
  have hj : j < 7 := by have := (List.getElem?_eq_some_iff.1 hu).1; simpa [Cl.vals] using this
  induction l generalizing k with
  | nil => simp at h
  | cons y l ih =>
    have e : clVals (y :: l) = y.vals ++ clVals l := rfl
    rw [e]
    cases k with
    | zero => simp at h; subst h; rw [List.getElem?_append_left (by rw [Cl.vals_length]; omega)]; simpa using hu
    | succ k =>
      rw [List.getElem?_append_right (by rw [Cl.vals_length]; omega), Cl.vals_length, show (k + 1) * 7 + j - 7 = k * 7 + j by omega]
      exact ih k (by simpa using h)

/-- The seven cells of a call. -/
structure C7 (w : World) (b o : Nat) (x : Cl) : Prop where
  c0 : w.cell? ⟨b, o, none⟩ = some (.int .i64 x.who)
  c1 : w.cell? ⟨b, o + 1, none⟩ = some (.int .i64 x.kind)
  c2 : w.cell? ⟨b, o + 2, none⟩ = some (.int .i64 x.arg)
  c3 : w.cell? ⟨b, o + 3, none⟩ = some (.int .i64 x.beg)
  c4 : w.cell? ⟨b, o + 4, none⟩ = some (.int .i64 x.fin)
  c5 : w.cell? ⟨b, o + 5, none⟩ = some (.int .i64 x.code)
  c6 : w.cell? ⟨b, o + 6, none⟩ = some (.int .i64 x.v)

/-- A list of calls that can be read. -/
structure Seen (w : World) (a : Option Addr) (n : Nat) (l : List Cl) : Prop where
  len : n = l.length
  ex : 0 < n → ∃ b off, a = some ⟨b, off, none⟩ ∧ b < w.heap.size ∧ ∀ k x, l[k]? = some x → C7 w b (off + k * 7) x
def blockOf (a : Option Addr) : Option Nat := a.map (·.block)
theorem C7.kept {w w' : World} {b o : Nat} {x : Cl} (h : C7 w b o x) {S : Nat → Prop} (hk : Keeps S w w') (hS : ¬ S b) : C7 w' b o x :=
  ⟨hk.cell h.c0 hS, hk.cell h.c1 hS, hk.cell h.c2 hS, hk.cell h.c3 hS, hk.cell h.c4 hS, hk.cell h.c5 hS, hk.cell h.c6 hS⟩
theorem Seen.kept {w w' : World} {a : Option Addr} {n : Nat} {l : List Cl} (h : Seen w a n l) {S : Nat → Prop} (hk : Keeps S w w') (hS : 0 < n → ∀ b, blockOf a = some b → b < w.heap.size → ¬ S b) : Seen w' a n l := by
  refine ⟨h.len, fun h0 => ?_⟩
  obtain ⟨b, off, rfl, hb, hc⟩ := h.ex h0
  exact ⟨b, off, rfl, Nat.lt_of_lt_of_le hb hk.size, fun k x hx => (hc k x hx).kept hk (hS h0 b rfl hb)⟩
theorem Seen.low {w : World} {a : Option Addr} {n : Nat} {l : List Cl} (h : Seen w a n l) (h0 : 0 < n) {b : Nat} (hb : blockOf a = some b) : b < w.heap.size := by
  obtain ⟨b', off, rfl, hlt, _⟩ := h.ex h0
  simp [blockOf] at hb
  omega
theorem Seen.more {w w' : World} {a : Option Addr} {n : Nat} {l : List Cl} (h : Seen w a n l) (hk : Keeps None w w') : Seen w' a n l := h.kept hk (fun _ _ _ _ f => f)
theorem Seen.of_row {w : World} {base : Nat} {a : Option Addr} {n c : Nat} {l : List Cl} (hl : n = l.length) (h : w.ownsRow base 45 7 (.slice a n c) n (clVals l)) : Seen w a n l := by
  refine ⟨hl, fun h0 => ?_⟩
  rcases h.2 with ⟨_, h1⟩ | ⟨g, cap, cur, hv, hbg, hg, hnc, hcm, hcs, htake⟩
  · omega
  · injection hv with e1 e2 e3
    subst e1
    have hlt := (Array.getElem?_eq_some_iff.1 hg).1
    refine ⟨g, 0, rfl, hlt, fun k x hx => ?_⟩
    have hcell : ∀ j u, x.vals[j]? = some u → w.cell? ⟨g, 0 + k * 7 + j, none⟩ = some u := by
      intro j u hu
      have := clVals_at l k x hx j u hu
      rw [blk_cell hg]
      rw [← htake, List.getElem?_take] at this
      split at this
      · simpa using this
      · cases this
    exact ⟨hcell 0 _ rfl, hcell 1 _ rfl, hcell 2 _ rfl, hcell 3 _ rfl, hcell 4 _ rfl, hcell 5 _ rfl, hcell 6 _ rfl⟩

theorem Try.infoCall : (Try.prog.info? 45).map (fun i => (i.zero, i.size, i.bytes)) = some (some (.agg #[.int .i64 0, .int .i64 0, .int .i64 0, .int .i64 0, .int .i64 0, .int .i64 0, .int .i64 0]), 7, 56) := by kernel_rfl

/-- 'append(s, c)' of a call. -/
theorem call_more (base : Nat) (s : Value) (l : List Cl) (x : Cl) (n ty : Nat) (w : World) (hn : n = l.length) (h : w.ownsRow base 45 7 s n (clVals l)) (hb : base ≤ w.heap.size) (hlen : (n + 1) * 56 ≤ 140737488355328) :
    ∃ g cap w', (Builtin.append_ #[28, 28] ty #[s, .slice (some ⟨w.heap.size, 0, none⟩) 1 1]).run Try.prog (w.alloc (.cells #[.int .i64 x.who, .int .i64 x.kind, .int .i64 x.arg, .int .i64 x.beg, .int .i64 x.fin, .int .i64 x.code, .int .i64 x.v] 45)) = .ok (.slice (some ⟨g, 0, none⟩) (n + 1) cap) w' ∧
      w'.ownsRow base 45 7 (.slice (some ⟨g, 0, none⟩) (n + 1) cap) (n + 1) (clVals (l ++ [x])) ∧ Keeps (fun k => s.ownBlock = some k) w w' ∧ (s.ownBlock = some g ∨ w.heap.size ≤ g) := by
  obtain ⟨i0, hi, hz0, hz1, hz2⟩ := info_parts Try.infoCall
  obtain ⟨v', w1, hr, ho, hgr, hm, -⟩ := run_append_moved (P := Try.prog) (w.alloc (.cells #[.int .i64 x.who, .int .i64 x.kind, .int .i64 x.arg, .int .i64 x.beg, .int .i64 x.fin, .int .i64 x.code, .int .i64 x.v] 45)) base 28 ty 45 i0 _ 7 56 Try.underlying28 hi hz0 hz1 hz2 rfl (by decide) s n _ (h.alloc _)
    ⟨w.heap.size, 0, none⟩ 1 1 x.vals rfl (by
      intro j u hu
      rw [show (⟨w.heap.size, 0, none⟩ : Addr).add j = ⟨w.heap.size, j, none⟩ by unfold Addr.add; split <;> simp_all, blk_cell (blk_new w _ _ rfl)]
      simpa [Cl.vals] using hu) (by
      intro u hu
      simp [Cl.vals] at hu
      rcases hu with rfl | rfl | rfl | rfl | rfl | rfl | rfl <;> rfl) (by unfold maxLen; omega) hlen (by simp; omega)
  obtain ⟨g, cap, rfl⟩ : ∃ g cap, v' = .slice (some ⟨g, 0, none⟩) (n + 1) cap := by
    rcases ho.2 with ⟨_, h0⟩ | ⟨b, cap, cur, rfl, _⟩
    · omega
    · exact ⟨b, cap, rfl⟩
  refine ⟨g, cap, w1, hr, by rw [clVals_append, clVals_one]; exact ho, ((Keeps.refl _ w).andAlloc _).andGrown hgr (fun k e => .inl e), ?_⟩
  rcases hm with hm | ⟨g', e, hg⟩
  · exact .inl (hm.symm.trans rfl)
  · simp [Value.ownBlock] at e; simp at hg; exact .inr (by omega)

theorem row_set {w : World} {base : Nat} {e : TypeId} {size g n cap : Nat} {xs : List Value} (h : w.ownsRow base e size (.slice (some ⟨g, 0, none⟩) n cap) n xs) (k : Nat) (v : Value) :
    (w.setCell ⟨g, k, none⟩ v).ownsRow base e size (.slice (some ⟨g, 0, none⟩) n cap) n (xs.set k v) := by
  rcases h.2 with ⟨h0, _⟩ | ⟨g', cap', cur, he, hb, hg, hn, hm, hcs, ht⟩
  · cases h0
  · injection he with e1 e2 e3
    injection e1 with e1
    injection e1 with e1
    subst e1 e3
    refine ⟨by simpa using h.1, .inr ⟨g, cap, cur.setIfInBounds k v, rfl, hb, blk_set hg v, hn, hm, by simpa using hcs, ?_⟩⟩
    rw [Array.toList_setIfInBounds, List.take_set, ht]
/-- Seven stores: one call of the list is another one. -/
def set7 (w : World) (g o : Nat) (x : Cl) : World :=
  ((((((w.setCell ⟨g, o, none⟩ (.int .i64 x.who)).setCell ⟨g, o + 1, none⟩ (.int .i64 x.kind)).setCell ⟨g, o + 2, none⟩ (.int .i64 x.arg)).setCell ⟨g, o + 3, none⟩ (.int .i64 x.beg)).setCell ⟨g, o + 4, none⟩ (.int .i64 x.fin)).setCell ⟨g, o + 5, none⟩ (.int .i64 x.code)).setCell ⟨g, o + 6, none⟩ (.int .i64 x.v)
theorem clVals_set (l : List Cl) (k : Nat) (x : Cl) (hk : k < l.length) : (((((((clVals l).set (k * 7) (.int .i64 x.who)).set (k * 7 + 1) (.int .i64 x.kind)).set (k * 7 + 2) (.int .i64 x.arg)).set (k * 7 + 3) (.int .i64 x.beg)).set (k * 7 + 4) (.int .i64 x.fin)).set (k * 7 + 5) (.int .i64 x.code)).set (k * 7 + 6) (.int .i64 x.v) = clVals (l.set k x) := by
  induction l generalizing k with
  | nil => simp at hk
  | cons y l ih =>
    have e : clVals (y :: l) = y.vals ++ clVals l := rfl
    cases k with
    | zero => rfl
    | succ k =>
      have h1 := ih k (by simpa using hk)
      have e2 : clVals ((y :: l).set (k + 1) x) = y.vals ++ clVals (l.set k x) := rfl
      rw [e, e2, ← h1]
      have hs : ∀ (xs : List Value) (j : Nat) (u : Value), (y.vals ++ xs).set ((k + 1) * 7 + j) u = y.vals ++ xs.set (k * 7 + j) u := by
        intro xs j u
        rw [List.set_append_right _ _ (by rw [Cl.vals_length]; omega), Cl.vals_length, show (k + 1) * 7 + j - 7 = k * 7 + j by omega]
      have h0 := hs (clVals l) 0 (.int .i64 x.who)
      simp only [Nat.add_zero] at h0
      rw [h0, hs, hs, hs, hs, hs, hs]
theorem row_set7 {w : World} {base : Nat} {g n cap : Nat} {l : List Cl} (h : w.ownsRow base 45 7 (.slice (some ⟨g, 0, none⟩) n cap) n (clVals l)) (k : Nat) (hk : k < l.length) (x : Cl) :
    (set7 w g (k * 7) x).ownsRow base 45 7 (.slice (some ⟨g, 0, none⟩) n cap) n (clVals (l.set k x)) := by
  rw [← clVals_set l k x hk]
  exact row_set (row_set (row_set (row_set (row_set (row_set (row_set h _ _) _ _) _ _) _ _) _ _) _ _) _ _
theorem keeps_one {w0 w : World} {g o : Nat} (h : Keeps (· = g) w0 w) (v : Value) : Keeps (· = g) w0 (w.setCell ⟨g, o, none⟩ v) := h.andSet (x := ⟨g, o, none⟩) (.inl rfl) v
theorem keeps_set7 (w : World) (g o : Nat) (x : Cl) : Keeps (· = g) w (set7 w g o x) :=
  keeps_one (keeps_one (keeps_one (keeps_one (keeps_one (keeps_one (keeps_one (Keeps.refl _ w) _) _) _) _) _) _) _
/-- An element of a row lies so, and may be written. -/
theorem row_elem {w : World} {base : Nat} {a : Option Addr} {n c : Nat} {l : List Cl} {k : Nat} {x : Cl} (h : w.ownsRow base 45 7 (.slice a n c) n (clVals l)) (hx : l[k]? = some x) :
    ∃ g, a = some ⟨g, 0, none⟩ ∧ base ≤ g ∧ g < w.heap.size ∧ n ≤ c ∧ C7 w g (k * 7) x ∧ ∀ i, w.frozen? ⟨g, i, none⟩ = false := by
  have hlen : l.length * 7 = n * 7 := by have := h.1; rw [clVals_length] at this; exact this
  have hk := (List.getElem?_eq_some_iff.1 hx).1
  rcases h.2 with ⟨_, h1⟩ | ⟨g, cap, cur, hv, hbg, hg, hnc, hcm, hcs, htake⟩
  · omega
  · injection hv with e1 e2 e3
    subst e1 e3
    have hcell : ∀ j u, x.vals[j]? = some u → w.cell? ⟨g, k * 7 + j, none⟩ = some u := by
      intro j u hu
      have := clVals_at l k x hx j u hu
      rw [blk_cell hg]
      rw [← htake, List.getElem?_take] at this
      split at this
      · simpa using this
      · cases this
    exact ⟨g, rfl, hbg, (Array.getElem?_eq_some_iff.1 hg).1, hnc, ⟨hcell 0 _ rfl, hcell 1 _ rfl, hcell 2 _ rfl, hcell 3 _ rfl, hcell 4 _ rfl, hcell 5 _ rfl, hcell 6 _ rfl⟩, fun i => blk_free hg i⟩
end Go.Proofs.Ytaeooljfilkaeaa
/-! What is cut of a list of calls: the program's and the document's. -/
namespace Go.Proofs.Ytaeooljfilkaeaa
open Go.RowKit Go.HeapKit

def Cl.shut (p : Int) (c : Cl) : Cl := if c.fin ≥ p then { c with fin := -1, code := 0, v := 0 } else c
def cutL (p : Int) : List Cl → List Cl
  | [] => []
  | c :: r => if c.beg ≥ p then cutL p r else c.shut p :: cutL p r
theorem cutL_append (p : Int) (a b : List Cl) : cutL p (a ++ b) = cutL p a ++ cutL p b := by
  induction a with
  | nil => rfl
  | cons c r ih => simp only [List.cons_append, cutL, ih]; split <;> simp
theorem cutL_length (p : Int) (l : List Cl) : (cutL p l).length ≤ l.length := by
  induction l with
  | nil => simp [cutL]
  | cons c r ih => simp only [cutL]; split <;> simp <;> omega
theorem take_more {α : Type} {l : List α} {k : Nat} {x : α} (h : l[k]? = some x) : l.take (k + 1) = l.take k ++ [x] := by
  rw [List.take_add_one, h]; rfl
theorem cutL_skip {p : Int} {l : List Cl} {k : Nat} {x : Cl} (h : l[k]? = some x) (hp : x.beg ≥ p) : cutL p (l.take (k + 1)) = cutL p (l.take k) := by
  rw [take_more h, cutL_append]; simp [cutL, hp]
theorem cutL_more {p : Int} {l : List Cl} {k : Nat} {x : Cl} (h : l[k]? = some x) (hp : ¬ x.beg ≥ p) : cutL p (l.take (k + 1)) = cutL p (l.take k) ++ [x.shut p] := by
  rw [take_more h, cutL_append]; simp [cutL, hp]

/-- What was cut is new memory; nothing else is touched. -/
def CutPost (w : World) (p : Int) (l : List Cl) (e : Ending) (w' : World) : Prop := ∃ v', e = .returned v' ∧ w'.ownsRow w.heap.size 45 7 v' (cutL p l).length (clVals (cutL p l)) ∧ Keeps None w w'

set_option maxHeartbeats 1600000 in
theorem cut_ok (a : Option Addr) (n c : Nat) (l : List Cl) (p : Int) (w : World) (hS : Seen w a n l) (hn : (n + 1) * 56 ≤ 140737488355328) :
    Calls Try.prog 13 #[.slice a n c, .int .i64 p] w (CutPost w p l) := by
  have HH : Hid (Seen w a n l) := hS
  clear hS
  go_enter Try.func13, Try.ntmps13
  go_wp2_with fail
  go_loopw [5, 7, 10] (fun s _ i wr => ∃ k : Nat, k ≤ n ∧ i = .int .i64 k ∧ wr.ownsRow w.heap.size 45 7 s (cutL p (l.take k)).length (clVals (cutL p (l.take k))) ∧ Keeps None w wr) (fun _ _ i _ => n - (intOf i).toNat)
  case atStart => exact ⟨0, Nat.zero_le _, rfl, row_nil _ _ _ _, Keeps.refl _ _⟩
  case round =>
    obtain ⟨k, hk, rfl, hrow, hkp⟩ := hrel
    obtain ⟨sa, cs, rfl⟩ := row_shape hrow
    by_cases hkn : k < n
    · have hS := HH.out.more hkp
      obtain ⟨b, off, rfl, hb, hc⟩ := hS.ex (by omega)
      obtain ⟨x, hx⟩ : ∃ x, l[k]? = some x := ⟨l[k]'(by have := HH.out.len; omega), by simp⟩
      obtain ⟨y0, y1, y2, y3, y4, y5, y6⟩ := hc k x hx
      have i1 : (k : Int) < (n : Int) := by omega
      have hle : (cutL p (l.take k)).length ≤ k := Nat.le_trans (cutL_length _ _) (by simp; omega)
      clear hc hS
      by_cases hp : x.beg ≥ p
      · have HN : Hid ((wr.alloc (.cells #[.int .i64 x.who, .int .i64 x.kind, .int .i64 x.arg, .int .i64 x.beg, .int .i64 x.fin, .int .i64 x.code, .int .i64 x.v] 45)).ownsRow w.heap.size 45 7 (.slice sa (cutL p (l.take k)).length cs) (cutL p (l.take (k + 1))).length (clVals (cutL p (l.take (k + 1)))) ∧ Keeps None w (wr.alloc (.cells #[.int .i64 x.who, .int .i64 x.kind, .int .i64 x.arg, .int .i64 x.beg, .int .i64 x.fin, .int .i64 x.code, .int .i64 x.v] 45))) := by
          rw [cutL_skip hx hp]
          exact ⟨hrow.alloc _, hkp.andAlloc _⟩
        clear hrow hkp
        generalize (cutL p (l.take k)).length = m at *
        go_wp2
        go_roundw
        case rel => exact ⟨k + 1, by omega, by go_num, HN.out⟩
        case measure => simp [intOf]; omega
      · by_cases hq : x.fin ≥ p
        ·
          obtain ⟨g, cp, w2, hr, ho, hk2, hm⟩ := call_more w.heap.size (.slice sa (cutL p (l.take k)).length cs) (cutL p (l.take k)) (x.shut p) (cutL p (l.take k)).length 28 (wr.alloc (.cells #[.int .i64 x.who, .int .i64 x.kind, .int .i64 x.arg, .int .i64 x.beg, .int .i64 (-1), .int .i64 0, .int .i64 0] 45)) rfl (hrow.alloc _) (by have := hkp.size; simp; omega) (by omega)
          have HN : Hid (w2.ownsRow w.heap.size 45 7 (.slice (some ⟨g, 0, none⟩) ((cutL p (l.take k)).length + 1) cp) (cutL p (l.take (k + 1))).length (clVals (cutL p (l.take (k + 1)))) ∧ Keeps None w w2) := by
            rw [cutL_more hx hp, List.length_append]
            exact ⟨ho, (hkp.andAlloc _).trans hk2 (fun i e hi => by have := row_low hrow e; omega)⟩
          rw [show x.shut p = ⟨x.who, x.kind, x.arg, x.beg, (-1), 0, 0⟩ by unfold Cl.shut; rw [if_pos hq]] at hr
          simp only [World.size_alloc] at hr
          clear hrow hkp ho hk2 hm
          generalize (cutL p (l.take k)).length = m at *
          go_wp2_with (at_builtin; refine wpList_append_run rfl (.tmp 25) (.tmp 27) 28 28 rfl rfl rfl hr ?_)
          exact ⟨⟨k + 1, by omega, by go_num, HN.out⟩, by simp [intOf]; omega⟩
        ·
          obtain ⟨g, cp, w2, hr, ho, hk2, hm⟩ := call_more w.heap.size (.slice sa (cutL p (l.take k)).length cs) (cutL p (l.take k)) (x.shut p) (cutL p (l.take k)).length 28 (wr.alloc (.cells #[.int .i64 x.who, .int .i64 x.kind, .int .i64 x.arg, .int .i64 x.beg, .int .i64 x.fin, .int .i64 x.code, .int .i64 x.v] 45)) rfl (hrow.alloc _) (by have := hkp.size; simp; omega) (by omega)
          have HN : Hid (w2.ownsRow w.heap.size 45 7 (.slice (some ⟨g, 0, none⟩) ((cutL p (l.take k)).length + 1) cp) (cutL p (l.take (k + 1))).length (clVals (cutL p (l.take (k + 1)))) ∧ Keeps None w w2) := by
            rw [cutL_more hx hp, List.length_append]
            exact ⟨ho, (hkp.andAlloc _).trans hk2 (fun i e hi => by have := row_low hrow e; omega)⟩
          rw [show x.shut p = ⟨x.who, x.kind, x.arg, x.beg, x.fin, x.code, x.v⟩ by unfold Cl.shut; rw [if_neg hq]] at hr
          simp only [World.size_alloc] at hr
          clear hrow hkp ho hk2 hm
          generalize (cutL p (l.take k)).length = m at *
          go_wp2_with (at_builtin; refine wpList_append_run rfl (.tmp 25) (.tmp 27) 28 28 rfl rfl rfl hr ?_)
          exact ⟨⟨k + 1, by omega, by go_num, HN.out⟩, by simp [intOf]; omega⟩
    · have hkn2 : k = n := by omega
      subst hkn2
      have HN : Hid (wr.ownsRow w.heap.size 45 7 (.slice sa (cutL p (l.take k)).length cs) (cutL p l).length (clVals (cutL p l)) ∧ Keeps None w wr) := by
        rw [List.take_of_length_le (by have := HH.out.len; omega)] at hrow ⊢
        exact ⟨hrow, hkp⟩
      clear hrow hkp
      generalize (cutL p (l.take k)).length = m at *
      go_wp2
      go_ret
      exact ⟨_, rfl, HN.out⟩
end Go.Proofs.Ytaeooljfilkaeaa
/-! A list with other numbers and a mark behind it; the calls written back into it; two lists that hold the same. -/
namespace Go.Proofs.Ytaeooljfilkaeaa
open Go.RowKit Go.HeapKit

def markC : Cl := ⟨-77, 0, 0, 0, 0, 0, 0⟩
/-- A list of the law's own, with a mark in the room behind it. -/
structure Room (w : World) (base g n cap : Nat) (l : List Cl) : Prop where
  len : n = l.length
  row : w.ownsRow base 45 7 (.slice (some ⟨g, 0, none⟩) (n + 1) cap) (n + 1) (clVals (l ++ [markC]))
section
variable {w w' : World} {base g n cap : Nat} {l : List Cl}
theorem Room.lt (h : Room w base g n cap l) : g < w.heap.size := own_lt h.row rfl
theorem Room.low (h : Room w base g n cap l) : base ≤ g := row_low h.row rfl
theorem Room.kept {S : Nat → Prop} (h : Room w base g n cap l) (hk : Keeps S w w') (hS : ¬ S g) : Room w' base g n cap l :=
  ⟨h.len, row_kept h.row hk (fun k e => by simp [Value.ownBlock] at e; subst e; exact hS)⟩
theorem Room.seen (h : Room w base g n cap l) : Seen w (some ⟨g, 0, none⟩) n l := by
  refine ⟨h.len, fun h0 => ⟨g, 0, rfl, h.lt, fun k x hx => ?_⟩⟩
  obtain ⟨b, off, e, hb, hc⟩ := (Seen.of_row (by simp [h.len]) h.row).ex (by omega)
  injection e with e
  injection e with e1 e2
  subst e1 e2
  exact hc k x (by rw [List.getElem?_append_left (List.getElem?_eq_some_iff.1 hx).1]; exact hx)
theorem Room.fits (h : Room w base g n cap l) : n + 1 ≤ cap := by
  rcases h.row.2 with ⟨e, _⟩ | ⟨g', cap', cur, e, _, _, hn, _⟩
  · cases e
  · injection e with _ _ e; subst e; exact hn
theorem Room.mark (h : Room w base g n cap l) : C7 w g (n * 7) markC := by
  obtain ⟨g', e, _, _, _, hc, _⟩ := row_elem (k := n) (x := markC) h.row (by rw [h.len]; simp)
  injection e with e
  injection e with e
  subst e
  exact hc
theorem Room.put (h : Room w base g n cap l) {k : Nat} (hk : k < n) (x : Cl) : Room (set7 w g (k * 7) x) base g n cap (l.set k x) := by
  refine ⟨by simpa using h.len, ?_⟩
  have := row_set7 h.row k (by simp; have := h.len; omega) x
  rwa [List.set_append_left _ _ (by have := h.len; omega)] at this
theorem Room.free (h : Room w base g n cap l) (i : Nat) : w.frozen? ⟨g, i, none⟩ = false := by
  obtain ⟨cur, hc⟩ := own_block h.row rfl
  exact blk_free hc i
end

theorem take_set {l l2 : List Cl} {k : Nat} {x : Cl} (hx : l[k]? = some x) (hl : l2.length = l.length) : (l.take k ++ l2.drop k).set k x = l.take (k + 1) ++ l2.drop (k + 1) := by
  have hk := (List.getElem?_eq_some_iff.1 hx).1
  rw [take_more hx, List.set_append_right _ _ (by simp; omega), List.append_assoc]
  congr 1
  rw [show k - (l.take k).length = 0 by simp; omega]
  rw [List.drop_eq_getElem_cons (show k < l2.length by omega)]
  rfl

theorem same_ok (aa ab : Option Addr) (n ca cb : Nat) (l : List Cl) (w : World) (ha : Seen w aa n l) (hb : Seen w ab n l) (hz : (n + 1) * 56 ≤ 140737488355328 + 5600) :
    Calls Try.prog 12 #[.slice aa n ca, .slice ab n cb] w fun e w' => e = .returned (.bool true) ∧ ∃ m, w' = w.drewN m := by
  have HH : Hid (Seen w aa n l ∧ Seen w ab n l) := ⟨ha, hb⟩
  clear ha hb
  go_enter Try.func12, Try.ntmps12
  go_wp2_with fail
  go_loopw [5] (fun i wr => ∃ k : Nat, k ≤ n ∧ i = .int .i64 k ∧ ∃ m, wr = w.drewN m) (fun i _ => n - (intOf i).toNat)
  case atStart => exact ⟨0, Nat.zero_le _, rfl, 0, rfl⟩
  case round =>
    obtain ⟨k, hk, rfl, m, rfl⟩ := hrel
    by_cases hkn : k < n
    · obtain ⟨ga, oa, rfl, -, hca⟩ := HH.out.1.ex (by omega)
      obtain ⟨gb, ob, rfl, -, hcb⟩ := HH.out.2.ex (by omega)
      obtain ⟨x, hx⟩ : ∃ x, l[k]? = some x := ⟨l[k]'(by have := HH.out.1.len; omega), by simp⟩
      obtain ⟨y0, y1, y2, y3, y4, y5, y6⟩ := hca k x hx
      obtain ⟨z0, z1, z2, z3, z4, z5, z6⟩ := hcb k x hx
      have i1 : (k : Int) < (n : Int) := by omega
      clear hx hca hcb HH
      obtain ⟨x0, x1, x2, x3, x4, x5, x6⟩ := x
      go_wp2
      go_quiet (fail)
      go_wp2
      go_roundw
      case rel => exact ⟨k + 1, by omega, by go_num, _, rfl⟩
      case measure => simp [intOf]; omega
    · clear HH
      go_wp2
      go_ret
      exact ⟨rfl, _, rfl⟩

end Go.Proofs.Ytaeooljfilkaeaa
