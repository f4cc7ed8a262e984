import Derived.Test.YtbdpdojeaahpjaaGreatDoorPkBS
import Derived.Deep.CutBlock
/-! DagOf: the walk, whole. -/
namespace Go.Proofs.YtbdpdojeaahpjaaGreatDoor
set_option linter.unusedVariables false
set_option maxRecDepth 20000
set_option linter.unusedSimpArgs false
open Go.RowKit Go.HeapKit Go.PlainOps

theorem Al.grow {W wr w' : World} {Q : Nat} {l : List Fn} {qv : Value} {tq : List At} {bv bv' : Value} {k k' : Nat} {ys ys' : List Int} (h : Al W wr Q l qv tq bv k ys) (hk : Keeps (fun j => bv.ownBlock = some j) wr w') (hrow : w'.ownsRow 0 2 1 bv' k' (ints ys')) (hlow : ∀ g, bv'.ownBlock = some g → W.heap.size ≤ g) : Al W w' Q l qv tq bv' k' ys' := by
  refine ⟨h.keep.trans hk (fun i e hi => by have := h.blow i e; omega), h.qlow, blk_kept h.qb hk (fun e => absurd (own_type h.brow e h.qb) (by decide)), h.cp.kept hk (fun g' e q => own_apart h.cp.row h.brow (by decide) e q) (fun i t g' ht e q => ?_), hrow, hlow⟩
  obtain ⟨f, hf⟩ : ∃ f, l[i]? = some f := ⟨l[i]'(by have := (List.getElem?_eq_some_iff.1 ht).1; have := h.cp.len; omega), by simp⟩
  have hc := h.cp.code i f t hf ht
  exact own_apart hc h.brow (by decide) (by rw [← e]; exact At.blk_slice _ _ _ _) q
/-- One more number behind the arguments' copy. -/
theorem Al.app {W wr : World} {Q : Nat} {l : List Fn} {qv : Value} {tq : List At} {bv : Value} {k : Nat} {ys : List Int} (h : Al W wr Q l qv tq bv k ys) (hk : k = ys.length) (hl : k * 8 ≤ 140737488351232) (y : Int) :
    ∃ g cap w', (Builtin.append_ #[25, 25] 25 #[bv, .slice (some ⟨wr.heap.size, 0, none⟩) 1 1]).run Tryz.prog (wr.alloc (.cells #[.int .i64 y] 2)) = .ok (.slice (some ⟨g, 0, none⟩) (k + 1) cap) w' ∧ Al W w' Q l qv tq (.slice (some ⟨g, 0, none⟩) (k + 1) cap) (k + 1) (ys ++ [y]) := by
  have hal := Keeps.alloc None wr (.cells #[.int .i64 y] 2)
  have h1 := h.more hal
  obtain ⟨g, cap, w', hr, ho, hke, hme⟩ := row_app (wr.alloc (.cells #[.int .i64 y] 2)) 0 25 25 2 1 8 _ Tryz.underlying25 Tryz.infoI64 rfl (by decide) bv _ _ h1.brow wr.heap.size _ (heap_alloc_new wr _) rfl (fun u hu => by simp at hu; subst hu; rfl) (Nat.zero_le _) (by omega) (by unfold maxLen; omega)
  refine ⟨g, cap, w', hr, h1.grow hke ?_ (fun g' e => ?_)⟩
  · rw [show ints (ys ++ [y]) = ints ys ++ [.int .i64 y] by simp [ints]]
    exact ho
  · simp [Value.ownBlock] at e
    subst e
    rcases hme with e | e
    · exact h1.blow g e
    · have := h1.keep.size
      omega
def bumpL (zs : List Int) : List Int := zs.map (fun x => wrap64 (x + 1))
theorem bumpL_ok (zs : List Int) : ∀ x ∈ bumpL zs, okI x := fun x hx => by
  unfold bumpL at hx
  obtain ⟨y, _, rfl⟩ := List.mem_map.1 hx
  exact wrap_ok _
theorem bumpL_len (zs : List Int) : (bumpL zs).length = zs.length := by simp [bumpL]
set_option maxHeartbeats 8000000 in
set_option maxRecDepth 1000000 in
theorem dagOf_walk (a : Option Addr) (n c : Nat) (l : List Fn) (aa : Option Addr) (an ac : Nat) (zs : List Int) (fuel : Int) (w : World) (hT : Tabs w) (hS : SeenF w a n l) (hok : ∀ f ∈ l, f.Ok) (hr : n * 48 ≤ 140737488351232 ∧ ∀ f ∈ l, f.code.length * 40 ≤ 140737488351232) (hZ : SeenA w aa an zs) (hrz : an * 8 ≤ 140737488351232) (hfu : okI fuel) :
    Calls Tryz.prog 3 #[.agg #[.slice a n c], .slice aa an ac, .int .i64 fuel] w fun e w' => e = .returned (.bool true) ∧ Keeps None w w' := by
  have b1 := heap_alloc_new w (.cells #[.slice a n c] 24)
  have hk1 := Keeps.alloc None w (.cells #[.slice a n c] 24)
  obtain ⟨W, hW⟩ : ∃ W, W = w.alloc (.cells #[.slice a n c] 24) := ⟨_, rfl⟩
  obtain ⟨B, hB⟩ : ∃ B, B = w.heap.size := ⟨_, rfl⟩
  rw [← hW, ← hB] at b1
  rw [← hW] at hk1
  have d0 : W.cell? ⟨B, 0, none⟩ = some (.slice a n c) := (blk_cell b1 0).trans rfl
  have han : (an : Int) ≤ 4611686018427387904 := by omega
  have hnb : (n : Int) ≤ 4611686018427387904 := by have := hr.1; omega
  have HD : Hid (W.cell? ⟨B, 0, none⟩ = some (.slice a n c)) := d0
  have HC : Hid (Tabs W ∧ SeenF W a n l ∧ (∀ f ∈ l, f.Ok) ∧ (n * 48 ≤ 140737488351232 ∧ ∀ f ∈ l, f.code.length * 40 ≤ 140737488351232) ∧ SeenA W aa an zs ∧ Keeps None w W ∧ okI fuel ∧ an * 8 ≤ 140737488351232) := ⟨hT.more hk1, hS.more hk1, hok, hr, hZ.more hk1, hk1, hfu, hrz⟩
  have hcp := twin_own a n c l W (hS.more hk1) hr.1 hr.2
  have HCP : Hid (Calls Tryz.prog 4 #[.agg #[.slice a n c]] W (CopiedOwn W l n)) := hcp
  clear hT hS hok hr hZ hrz hfu hk1 b1 hcp
  go_enter Tryz.func3, Tryz.ntmps3
  go_upto_region 1 with fail
  rw [← hW, ← hB]
  clear hW hB
  go_upto_region 2 with (go_at_call 4; refine Calls.mono HCP.out ?_; rintro _ w2 ⟨qa, qc, tq, rfl, hq2, hk2⟩)
  have hal := Keeps.alloc None w2 (.cells #[.slice qa n qc] 24)
  have b2 := heap_alloc_new w2 (.cells #[.slice qa n qc] 24)
  obtain ⟨V, hV⟩ : ∃ V, V = w2.alloc (.cells #[.slice qa n qc] 24) := ⟨_, rfl⟩
  obtain ⟨Q, hQ⟩ : ∃ Q, Q = w2.heap.size := ⟨_, rfl⟩
  rw [← hV] at hal b2
  rw [← hQ] at b2
  rw [← hV, ← hQ]
  have HA0 : Hid (Al W V Q l (.slice qa n qc) tq (.slice none 0 0) 0 []) := ⟨hk2.trans hal (fun _ f _ => f), by rw [hQ]; exact hk2.size, b2, hq2.more hal, ⟨rfl, .inl ⟨rfl, rfl⟩⟩, fun g e => by simp [Value.ownBlock] at e⟩
  clear hal b2 hV hQ hk2 hq2 d0
  go_wp2_with fail
  go_loopw [8, 9] (fun s8 s9 wr => ∃ (k : Nat) (bv : Value), k ≤ an ∧ s8 = bv ∧ s9 = .int .i64 k ∧ Al W wr Q l (.slice qa n qc) tq bv k (bumpL (zs.take k))) (fun _ i _ => an - (intOf i).toNat)
  case atStart => exact ⟨0, _, Nat.zero_le _, rfl, rfl, HA0.out⟩
  case round =>
    obtain ⟨k, bv, hk, h8, rfl, hA⟩ := hrel
    have h8' := h8.symm
    subst h8'
    have hzl := HC.out.2.2.2.2.1.len
    have h8n := HC.out.2.2.2.2.2.2.2
    by_cases hka : k < an
    · as_aux_lemma =>
        obtain ⟨x, hx⟩ : ∃ x, zs[k]? = some x := ⟨zs[k]'(by omega), by simp⟩
        obtain ⟨b, off, rfl, _, hcc⟩ := (HC.out.2.2.2.2.1.more hA.keep).ex (by omega)
        have c1 := hcc k x hx
        obtain ⟨g, cap, w7, hr7, hA7⟩ := hA.app (by rw [bumpL_len, List.length_take]; omega) (by omega) (wrap64 (x + 1))
        have eu : bumpL (zs.take k) ++ [wrap64 (x + 1)] = bumpL (zs.take (k + 1)) := by
          unfold bumpL
          rw [List.take_add_one, hx]
          simp
        rw [eu] at hA7
        have i1 : (k : Int) < (an : Int) := by omega
        have HX : Hid _ := hA7
        clear hA hx hcc eu hA7 hzl h8n
        go_wp2_with (at_builtin; refine wpList_append_run rfl (.tmp 31) (.tmp 37) 25 25 rfl rfl rfl hr7 ?_)
        exact ⟨⟨k + 1, _, by omega, rfl, by go_num, HX.out⟩, by simp [intOf]; omega⟩
    · have hkn : an = k := by omega
      subst hkn
      have i1 : ¬ (an : Int) < (an : Int) := by omega
      rw [List.take_of_length_le (by omega)] at hA
      obtain ⟨g, cap, w7, hr7, hA7⟩ := hA.app (by rw [bumpL_len]; omega) h8n (-77)
      obtain ⟨gb, hgb, hsb, hmk, hcap⟩ := mark_seen hA7.brow (by rw [bumpL_len]; omega) (by omega) (bumpL_ok zs)
      obtain rfl : g = gb := by injection hgb with e; injection e
      have i2 : (an : Int) ≤ (cap : Int) := by omega
      have hof := of_any qa n qc l (some ⟨g, 0, none⟩) an cap (bumpL zs) fuel w7 (HC.out.1.more hA7.keep) (hA7.seenQ HC.out.2.1.len) HC.out.2.2.1 hsb (bumpL_ok zs) (by omega) HC.out.2.2.2.2.2.2.1
      have HOF : Hid (Calls Tryz.prog 5 #[.agg #[.slice qa n qc], .slice (some ⟨g, 0, none⟩) an cap, .int .i64 fuel] w7 (fun e w' => (∃ v, e = .returned v) ∧ Keeps None w7 w')) := Calls.mono hof (fun e w' h => by obtain ⟨ea, ec, he, _, hk⟩ := of_one h; exact ⟨⟨_, he⟩, hk⟩)
      have q7 : w7.cell? ⟨Q, 0, none⟩ = some (.slice qa n qc) := (blk_cell hA7.qb 0).trans rfl
      have HX : Hid (Al W w7 Q l (.slice qa n qc) tq (.slice (some ⟨g, 0, none⟩) (an + 1) cap) (an + 1) (bumpL zs ++ [-77]) ∧ (bumpL zs).length = an) := ⟨hA7, by rw [bumpL_len]; omega⟩
      clear hA hA7 hsb hmk hof hgb hzl h8n
      go_upto_region 9 with (at_builtin; refine wpList_append_run rfl (.tmp 39) (.tmp 40) 25 25 rfl rfl rfl hr7 ?_)
      go_cut [49] (fun s49 wx => Keeps None w7 wx)
      case first =>
        go_wp2_with (go_at_call 5; refine Calls.mono HOF.out ?_; rintro _ w9 ⟨⟨v, rfl⟩, hk9⟩)
        go_meet
        exact hk9
      case rest =>
        rename_i hK
        apply hK
        exact of_B a n c l aa an ac zs fuel w W wc B Q qa (some ⟨g, 0, none⟩) qc cap tq HC HD han hnb (bumpL zs) ⟨HX.out.1.more hcut, HX.out.2⟩
end Go.Proofs.YtbdpdojeaahpjaaGreatDoor
