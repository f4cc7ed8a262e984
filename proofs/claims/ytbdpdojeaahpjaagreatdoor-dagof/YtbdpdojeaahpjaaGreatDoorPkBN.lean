import Derived.Test.YtbdpdojeaahpjaaGreatDoorPkBM
import Derived.Test.YtbdpdojeaahpjaaGreatDoorPkBH
import Derived.Test.YtbdpdojeaahpjaaGreatDoorPkAQ
/-! dag's trace: add. -/
namespace Go.Proofs.YtbdpdojeaahpjaaGreatDoor
set_option linter.unusedVariables false
set_option maxRecDepth 20000
open Go.RowKit Go.HeapKit Go.PlainOps

theorem open_n (T : Trc) (m : Nat) (work : Int) : openT { T with n := m } work = { openT T work with n := m } := by unfold openT; split <;> rfl
theorem clear_n (T : Trc) (m num : Nat) (i : Ins) : clearT { T with n := m } num i = { clearT T num i with n := m } := by unfold clearT; split <;> rfl
theorem froms_n (T : Trc) (m num : Nat) (work : Int) (par : Option Nat) (i : Ins) : fromsV { T with n := m } num work par i = fromsV T num work par i := rfl
theorem froms_len (T : Trc) (num : Nat) (work : Int) (par : Option Nat) (i : Ins) (h : ∀ e ∈ T.ends, e.length ≤ 10000) : (fromsV T num work par i).length ≤ 10001 := by
  rw [froms_fr]
  have h1 := froW_one T num work par
  split
  · unfold sortN
    simp only [List.length_mergeSort, List.length_append]
    have : (T.ends.getD num []).length ≤ 10000 := by
      rw [List.getD_eq_getElem?_getD]
      cases he : T.ends[num]? with
      | none => simp
      | some e => exact h e (List.mem_of_getElem? he)
    omega
  · omega
theorem edV_snoc (l : List (Nat × Nat)) (x : Nat × Nat) : edV (l ++ [x]) = edV l ++ [.int .i64 (x.1 : Int), .int .i64 (x.2 : Int)] := by simp [edV, edC]
set_option maxHeartbeats 4000000 in
theorem add_any (lo R X num : Nat) (work : Int) (par : Option Nat) (i : Ins) (T : Trc) (w : World) (hT : Tr lo w R T) (hs : Sh w X num work par) (hlo : lo ≤ w.heap.size) (hw : 0 ≤ work) (hn : num < (openT T work).lasts.length) (h2 : T.lasts.length = T.ends.length) (hp : ∀ p, par = some p → p < T.lasts.length) (hb : T.lasts.length ≤ 10000) (hbe : ∀ e ∈ T.ends, e.length ≤ 10000) (hn1 : T.n ≤ 10000) (hes : T.es.length ≤ 100000) :
    Calls Tryz.prog 19 #[.pointer (some ⟨R, 0, none⟩), .pointer (some ⟨X, 0, none⟩), .agg #[.int .i64 i.kind, .int .i64 i.a, .int .i64 i.b, .int .i64 i.c, .int .i64 i.k]] w fun e w' => e = .returned (.tuple #[]) ∧ Tr lo w' R (addV T num work par i) ∧ Keeps (TyS lo w) w w' := by
  obtain ⟨J, hJ⟩ : ∃ J, J = w.heap.size := ⟨_, rfl⟩
  have hal := Keeps.alloc None w (.cells #[.int .i64 i.kind, .int .i64 i.a, .int .i64 i.b, .int .i64 i.c, .int .i64 i.k] 37)
  have bJ := heap_alloc_new w (.cells #[.int .i64 i.kind, .int .i64 i.a, .int .i64 i.b, .int .i64 i.c, .int .i64 i.k] 37)
  obtain ⟨W, hW⟩ : ∃ W, W = w.alloc (.cells #[.int .i64 i.kind, .int .i64 i.a, .int .i64 i.b, .int .i64 i.c, .int .i64 i.k] 37) := ⟨_, rfl⟩
  rw [← hW] at hal bJ
  rw [← hJ] at bJ
  obtain ⟨ev, lv, xv, vs, hT⟩ := hT
  have hTW := hT.more hal
  have r0 : W.cell? ⟨R, 0, none⟩ = some (.int .i64 (T.n : Int)) := (blk_cell hTW.blk 0).trans rfl
  have z0 := blk_free hTW.blk 0
  have kS : Keeps (· = R) W (W.setCell ⟨R, 0, none⟩ (.int .i64 ((T.n : Int) + 1))) := Keeps.setCell (S := (· = R)) W (a := ⟨R, 0, none⟩) rfl _
  obtain ⟨hT1, hk1⟩ := hTW.setR kS (n := T.n + 1) (by rw [blk_set hTW.blk]; rfl)
  have hk1w : Keeps (TyS lo w) w (W.setCell ⟨R, 0, none⟩ (.int .i64 ((T.n : Int) + 1))) := TyS.trans (TyS.new hal) hk1
  have hs1 := hs.kept hk1w
  have bJ1 := blk_kept bJ hk1 (TyS.other bJ (by unfold trT; decide))
  obtain ⟨W1, hW1⟩ : ∃ W1, W1 = W.setCell ⟨R, 0, none⟩ (.int .i64 ((T.n : Int) + 1)) := ⟨_, rfl⟩
  rw [← hW1] at hT1 hk1 hk1w hs1 bJ1
  have hon : num < (openT { T with n := T.n + 1 } work).lasts.length := by rw [open_n]; exact hn
  have hfr := froms_any lo R X num work par i { T with n := T.n + 1 } W1 ⟨_, _, _, _, hT1⟩ hs1 (by have := hk1w.size; omega) hw hon h2 hp hb hbe
  rw [open_n, clear_n, froms_n] at hfr
  have hbe1 : ∀ e ∈ (openT T work).ends, e.length ≤ 10000 := by
    unfold openT
    split
    · intro e he
      simp at he
      rcases he with he | rfl
      · exact hbe e he
      · simp
    · exact hbe
  have hfl := froms_len (openT T work) num work par i hbe1
  obtain ⟨T1, eT1⟩ : ∃ T1, T1 = clearT (openT T work) num i := ⟨_, rfl⟩
  obtain ⟨fr, efr⟩ : ∃ fr, fr = fromsV (openT T work) num work par i := ⟨_, rfl⟩
  rw [← eT1, ← efr] at hfr
  rw [← efr] at hfl
  have hlT : num < T1.lasts.length ∧ T1.lasts.length = T1.ends.length ∧ (∀ p, par = some p → p < T1.ends.length) ∧ T1.es = T.es ∧ T1.n = T.n ∧ (∀ e ∈ T1.ends, e.length ≤ 10000) := by
    rw [eT1]
    unfold clearT
    unfold openT at hn hbe1 ⊢
    split
    · split
      · rename_i h6 h0
        rw [if_pos h0] at hn hbe1
        exact ⟨hn, by simp; exact h2, fun p hp' => by have := hp p hp'; simp; omega, rfl, rfl, fun e he => by
          rcases List.mem_or_eq_of_mem_set he with h | h
          · exact hbe1 e h
          · rw [h]; simp⟩
      · rename_i h6 h0
        rw [if_neg h0] at hn hbe1
        exact ⟨hn, by simp; exact h2, fun p hp' => by have := hp p hp'; simp; omega, rfl, rfl, fun e he => by
          rcases List.mem_or_eq_of_mem_set he with h | h
          · exact hbe1 e h
          · rw [h]; simp⟩
    · split
      · rename_i h6 h0
        rw [if_pos h0] at hn hbe1
        exact ⟨hn, by simp; exact h2, fun p hp' => by have := hp p hp'; simp; omega, rfl, rfl, hbe1⟩
      · rename_i h6 h0
        rw [if_neg h0] at hn hbe1
        exact ⟨hn, h2, fun p hp' => by have := hp p hp'; omega, rfl, rfl, hbe1⟩
  have HC : Hid (Keeps (TyS lo w) w W1 ∧ Sh W1 X num work par ∧ W1.heap[J]? = some (.cells #[.int .i64 i.kind, .int .i64 i.a, .int .i64 i.b, .int .i64 i.c, .int .i64 i.k] 37 (0, 0)) ∧ num < T1.lasts.length ∧ T1.lasts.length = T1.ends.length ∧ (∀ p, par = some p → p < T1.ends.length) ∧ T1.es = T.es ∧ T1.n = T.n ∧ (∀ e ∈ T1.ends, e.length ≤ 10000) ∧ T.es.length ≤ 100000 ∧ lo ≤ W1.heap.size ∧ addV T num work par i = markT T1 num par i fr) := ⟨hk1w, hs1, bJ1, hlT.1, hlT.2.1, hlT.2.2.1, hlT.2.2.2.1, hlT.2.2.2.2.1, hlT.2.2.2.2.2, hes, by have := hk1w.size; omega, by rw [eT1, efr]; rfl⟩
  have j1 : W1.cell? ⟨J, 0, none⟩ = some (.int .i64 i.kind) := (blk_cell bJ1 0).trans rfl
  have j11 : W1.cell? ⟨J, 1, none⟩ = some (.int .i64 i.a) := (blk_cell bJ1 1).trans rfl
  have j12 : W1.cell? ⟨J, 2, none⟩ = some (.int .i64 i.b) := (blk_cell bJ1 2).trans rfl
  have j13 : W1.cell? ⟨J, 3, none⟩ = some (.int .i64 i.c) := (blk_cell bJ1 3).trans rfl
  have j14 : W1.cell? ⟨J, 4, none⟩ = some (.int .i64 i.k) := (blk_cell bJ1 4).trans rfl
  have i9 : (T.n : Int) ≤ 10000 := by omega
  obtain ⟨m, hm⟩ : ∃ m, m = T.n := ⟨_, rfl⟩
  rw [← hm] at hW1 r0 i9 hfr
  have HM : Hid _ := hm
  clear hT hs hal bJ hTW kS hT1 hk1 hk1w hs1 bJ1 hon hlT hbe1 hn h2 hp hb hbe hn1 hes hlo hm
  clear eT1 efr
  go_enter Tryz.func19, Tryz.ntmps19
  go_upto_region 1 with fail
  rw [← hW, ← hJ]
  clear hW hJ
  go_upto_region 3 with fail
  rw [← hW1]
  clear hW1 r0 z0
  go_wp2_with fail
  refine hfr.mono ?_
  rintro _ w2 ⟨v, rfl, hT2, ho2, hk2⟩
  clear hfr j1 j11 j12 j13 j14
  obtain ⟨a2, c2, ev2⟩ : ∃ a c, v = .slice a fr.length c := by
    rcases ho2.2 with ⟨e, h0⟩ | ⟨g, cap, cur, e, _⟩
    · exact ⟨none, 0, by rw [e, h0]⟩
    · exact ⟨_, cap, e⟩
  subst ev2
  obtain ⟨M, hM⟩ : ∃ M, M = fr.length := ⟨_, rfl⟩
  rw [← hM] at ho2 hfl ⊢
  have H2 : Hid (Tr lo w2 R { T1 with n := m + 1 } ∧ w2.ownsRow lo 3 1 (.slice a2 M c2) M (natV fr) ∧ Keeps (TyS lo W1) W1 w2 ∧ M = fr.length) := ⟨hT2, ho2, hk2, hM⟩
  have i8 : (M : Int) ≤ 10001 := by omega
  clear hT2 ho2 hk2 hM
  go_wp2_with fail
  go_loopw [28] (fun s28 wr => ∃ k : Nat, k ≤ M ∧ s28 = .int .i64 k ∧ Tr lo wr R { T1 with n := m + 1, es := T1.es ++ (fr.take k).map (fun f => (f, m)) } ∧ wr.ownsRow lo 3 1 (.slice a2 M c2) M (natV fr) ∧ Keeps (TyS lo w2) w2 wr) (fun i _ => M - (intOf i).toNat)
  case atStart => exact ⟨0, Nat.zero_le _, rfl, by simpa using H2.out.1, H2.out.2.1, Keeps.refl _ _⟩
  case round =>
    obtain ⟨k, hk, rfl, ⟨ev, lv, xv, vs, hT⟩, ho, hkr⟩ := hrel
    by_cases hkM : k < M
    · have i1 : (k : Int) < (M : Int) := by omega
      have i2 : (0 : Int) ≤ (k : Int) := by omega
      obtain ⟨x, hx⟩ : ∃ x, fr[k]? = some x := ⟨fr[k]'(by have := H2.out.2.2.2; omega), by simp⟩
      obtain ⟨g2, c2', e2⟩ := own_some ho (by omega)
      injection e2 with e21 e22 e23
      subst e21
      have cx := (own_cell1 ho (natV_at hx)).1
      have r1 : wr.cell? ⟨R, 1, none⟩ = some ev := (blk_cell hT.blk 1).trans rfl
      have hal := Keeps.alloc None wr (.cells #[.int .i64 (x : Int), .int .i64 (m : Int)] 39)
      have el : (T1.es ++ (fr.take k).map (fun f => (f, m))).length ≤ 110002 := by
        have h1 := HC.out.2.2.2.2.2.2.1
        have h2 := HC.out.2.2.2.2.2.2.2.2.2.1
        have h3 := H2.out.2.2.2
        rw [h1]
        simp
        omega
      have hes := (hT.more hal).es
      simp only at hes
      obtain ⟨ge, ce, w5, hr, hoe, hke, hme⟩ := row_app (wr.alloc (.cells #[.int .i64 (x : Int), .int .i64 (m : Int)] 39)) lo 27 27 39 2 16 _ Tryz.underlying27 Tryz.twEdge rfl (by decide) ev _ _ hes wr.heap.size _ (heap_alloc_new wr _) rfl (fun u hu => by simp at hu; rcases hu with rfl | rfl <;> rfl) (by have := hal.size; have := hkr.size; have := HC.out.2.2.2.2.2.2.2.2.2.2.1; have := H2.out.2.2.1.size; omega) (by omega) (by unfold maxLen; omega)
      have hoe' : w5.ownsRow lo 39 2 (.slice (some ⟨ge, 0, none⟩) ((T1.es ++ (fr.take k).map (fun f => (f, m))).length + 1) ce) ((T1.es ++ (fr.take k).map (fun f => (f, m))).length + 1) (edV ((T1.es ++ (fr.take k).map (fun f => (f, m))) ++ [(x, m)])) := by rw [edV_snoc]; exact hoe
      obtain ⟨s1, s2, hT5, hk5⟩ := hT.edged hal (x := (x, m)) hoe' hke
      have h2r : (wr.alloc (.cells #[.int .i64 (x : Int), .int .i64 (m : Int)] 39)).ownsRow lo 3 1 (.slice (some ⟨g2, 0, none⟩) M c2) M (natV fr) := hal.own ho (fun _ _ f => f)
      have ho5 := hke.own h2r (fun q e e2 => own_not2 hes h2r (by decide) e2 e)
      have bR5 := blk_kept (blk_kept hT.blk hal (fun f => f)) hke (own_not hes (blk_kept hT.blk hal (fun f => f)) (by decide))
      have kR : Keeps (· = R) w5 (w5.setCell ⟨R, 1, none⟩ (.slice (some ⟨ge, 0, none⟩) ((T1.es ++ (fr.take k).map (fun f => (f, m))).length + 1) ce)) := Keeps.setCell (S := (· = R)) w5 (a := ⟨R, 1, none⟩) rfl _
      have ho6 := row_R ho5 (by decide) bR5 kR
      obtain ⟨n5, hn5⟩ : ∃ n5, n5 = (T1.es ++ (fr.take k).map (fun f => (f, m))).length := ⟨_, rfl⟩
      rw [← hn5] at hr hT5 hk5 ho6
      have ek : T1.es ++ (fr.take (k + 1)).map (fun f => (f, m)) = (T1.es ++ (fr.take k).map (fun f => (f, m))) ++ [(x, m)] := by rw [List.take_add_one, hx]; simp
      have HQ : Hid (Tr lo (w5.setCell ⟨R, 1, none⟩ (.slice (some ⟨ge, 0, none⟩) (n5 + 1) ce)) R { T1 with n := m + 1, es := T1.es ++ (fr.take (k + 1)).map (fun f => (f, m)) } ∧ (w5.setCell ⟨R, 1, none⟩ (.slice (some ⟨ge, 0, none⟩) (n5 + 1) ce)).ownsRow lo 3 1 (.slice (some ⟨g2, 0, none⟩) M c2) M (natV fr) ∧ Keeps (TyS lo w2) w2 (w5.setCell ⟨R, 1, none⟩ (.slice (some ⟨ge, 0, none⟩) (n5 + 1) ce))) := ⟨by rw [ek]; exact ⟨_, _, _, _, hT5⟩, ho6, TyS.trans hkr hk5⟩
      have HR : Hid _ := hr
      clear hT ho hkr hx hal el hes hr hoe hke hme hoe' hT5 hk5 h2r ho5 bR5 kR ho6 hn5 ek e22 e23
      go_wp2_with (at_builtin; refine wpList_append_run rfl (.tmp 37) (.tmp 41) 27 27 rfl rfl rfl HR.out ?_)
      exact ⟨⟨k + 1, by omega, by simp, HQ.out⟩, by simp [intOf]; omega⟩
    · have i1 : ¬ (k : Int) < (M : Int) := by omega
      obtain rfl : k = M := by omega
      rw [List.take_of_length_le (by have := H2.out.2.2.2; omega)] at hT
      obtain ⟨n1, n2, n3, n4, n5, n6, n7, n8, n9, n10, n11, n12⟩ := HC.out
      have k1r : Keeps (TyS lo W1) W1 wr := TyS.trans H2.out.2.2.1 hkr
      have hsr := n2.kept k1r
      have bJr := blk_kept n3 k1r (TyS.other n3 (by unfold trT; decide))
      obtain ⟨T3, eT3⟩ : ∃ T3 : Trc, T3 = { T1 with n := m + 1, es := T1.es ++ fr.map (fun f => (f, m)) } := ⟨_, rfl⟩
      rw [← eT3] at hT
      have eL : T3.lasts = T1.lasts := by rw [eT3]
      have eE : T3.ends = T1.ends := by rw [eT3]
      obtain ⟨gl, cl, el2⟩ := own_some hT.las (by rw [eL]; omega)
      subst el2
      have r2 : wr.cell? ⟨R, 2, none⟩ = some (.slice (some ⟨gl, 0, none⟩) T3.lasts.length cl) := (blk_cell hT.blk 2).trans rfl
      have cn := hsr.num
      obtain ⟨x9, hx9⟩ : ∃ x, T3.lasts[num]? = some x := ⟨T3.lasts[num]'(by rw [eL]; exact n4), by simp⟩
      obtain ⟨cu, cfr, cg, cur, hgl⟩ := own_cell1 hT.las (k := num) (natV_at hx9)
      have cf := cfr num
      obtain ⟨hTl, hkl⟩ := hT.lasted (num := num) (node := m) (by rw [eL]; exact n4)
      have i5 : (num : Int) < (T3.lasts.length : Int) := by rw [eL]; omega
      have i6 : (0 : Int) ≤ (num : Int) := by omega
      have HQ : Hid (IsTr lo (wr.setCell ⟨gl, num, none⟩ (.int .i64 (m : Int))) R { T3 with lasts := T3.lasts.set num m } ev (.slice (some ⟨gl, 0, none⟩) T3.lasts.length cl) xv vs ∧ Keeps (TyS lo wr) wr (wr.setCell ⟨gl, num, none⟩ (.int .i64 (m : Int)))) := ⟨hTl, hkl⟩
      have HZ : Hid (Keeps (TyS lo w) w wr ∧ Sh wr X num work par ∧ wr.heap[J]? = some (.cells #[.int .i64 i.kind, .int .i64 i.a, .int .i64 i.b, .int .i64 i.c, .int .i64 i.k] 37 (0, 0)) ∧ T3 = { T1 with n := m + 1, es := T1.es ++ fr.map (fun f => (f, m)) } ∧ lo ≤ wr.heap.size) := ⟨TyS.trans n1 k1r, hsr, bJr, eT3, by have := k1r.size; omega⟩
      clear hT ho hkr k1r hsr bJr eT3 eL eE hx9 cfr cg hgl hTl hkl n1 n2 n3 n4 n5 n6 n7 n8 n9 n10 n11 n12
      go_upto_region 8 with fail
      go_cut [] (fun wx => IsTr lo wx R { T3 with lasts := T3.lasts.set num m } ev (.slice (some ⟨gl, 0, none⟩) T3.lasts.length cl) xv vs ∧ Keeps (TyS lo wr) wr wx)
      case first =>
        go_region
        all_goals (go_wp2_with fail; go_meet)
        all_goals
          have hd := fun wx => Keeps.drew None wx
          first
          | exact ⟨HQ.out.1.more (hd _), HQ.out.2.andDrew⟩
          | exact HQ.out
      case rest =>
      obtain ⟨hT4, hk4⟩ := hcut
      obtain ⟨W4, hW4⟩ : ∃ W4, W4 = wc := ⟨_, rfl⟩
      rw [← hW4] at hT4 hk4 ⊢
      clear hW4 r2 cn cu cf i5 i6
      obtain ⟨n1, n2, n3, n4, n5, n6, n7, n8, n9, n10, n11, n12⟩ := HC.out
      obtain ⟨z1, z2, z3, z4, z5⟩ := HZ.out
      have hs4 := z2.kept hk4
      have bJ4 := blk_kept z3 hk4 (TyS.other z3 (by unfold trT; decide))
      have j4 : W4.cell? ⟨J, 0, none⟩ = some (.int .i64 i.kind) := (blk_cell bJ4 0).trans rfl
      have em : m = T1.n := HM.out.trans n8.symm
      obtain ⟨T4, eT4⟩ : ∃ T4 : Trc, T4 = { T3 with lasts := T3.lasts.set num m } := ⟨_, rfl⟩
      rw [← eT4] at hT4
      have eT4' : T4 = { T1 with n := T1.n + 1, es := T1.es ++ fr.map (fun f => (f, T1.n)), lasts := T1.lasts.set num T1.n } := by rw [eT4, z4, em]
      have hkw4 : Keeps (TyS lo w) w W4 := TyS.trans z1 hk4
      by_cases h9 : i.kind = 9
      · have t9 : (i.kind == 9) = true := by simp [h9]
        cases hpar : par with
        | none =>
          have c28 := hs4.non hpar
          have HF : Hid (IsTr lo W4 R T4 ev (.slice (some ⟨gl, 0, none⟩) T3.lasts.length cl) xv vs ∧ Keeps (TyS lo w) w W4 ∧ addV T num work none i = T4) := ⟨hT4, hkw4, by rw [← hpar, n12, eT4', hpar]; rfl⟩
          clear hT4 hk4 n1 n2 n3 n4 n5 n6 n7 n8 n9 n10 n11 n12 z1 z2 z3 z4 z5 hs4 bJ4 em eT4 eT4' hkw4 h9
          subst hpar
          go_wp2_with fail
          go_end0
          exact ⟨rfl, by rw [HF.out.2.2]; exact ⟨_, _, _, _, HF.out.1⟩, HF.out.2.1⟩
        | some p =>
          obtain ⟨P, c28, cP, csP, bP⟩ := hs4.som p hpar
          have hpl : p < T4.ends.length := by rw [eT4']; exact n6 p hpar
          obtain ⟨gx, cx, ex⟩ := own_some hT4.out (by omega)
          subst ex
          obtain ⟨e0, he0⟩ : ∃ e, T4.ends[p]? = some e := ⟨T4.ends[p]'hpl, by simp⟩
          obtain ⟨u, hu⟩ : ∃ u, vs[p]? = some u := ⟨vs[p]'(by have := hT4.len; omega), by simp⟩
          have hel : e0.length ≤ 10000 := n9 e0 (List.mem_of_getElem? (by rw [eT4'] at he0; exact he0))
          have r3 : W4.cell? ⟨R, 3, none⟩ = some (.slice (some ⟨gx, 0, none⟩) T4.ends.length cx) := (blk_cell hT4.blk 3).trans rfl
          obtain ⟨cu, cfr, cg, cur, hgx⟩ := own_cell1 hT4.out hu
          have kA : Keeps None W4 (W4.drew.alloc (.cells #[.int .i64 (m : Int)] 3)) := (Keeps.drew None W4).andAlloc _
          have hin := (hT4.more kA).inn p e0 u he0 hu
          obtain ⟨ge, ce, w7, hr, ho, hk7, hm7⟩ := row_app (W4.drew.alloc (.cells #[.int .i64 (m : Int)] 3)) lo 70 70 3 1 8 _ Tryz.underlying70 Tryz.twInt rfl (by decide) u _ _ hin W4.heap.size _ (heap_alloc_new W4.drew _) rfl (fun u hu => by simp at hu; subst hu; rfl) (by have := kA.size; have := hk4.size; omega) (by omega) (by unfold maxLen; omega)
          obtain ⟨s1, s2, hT8, hk8⟩ := hT4.ended kA he0 hu (v' := .slice (some ⟨ge, 0, none⟩) (e0.length + 1) ce) (node := m) (by simpa [natV] using ho) hk7 (by rcases hm7 with h | h; exact .inl h.symm; exact .inr (fun b hb => by simp [Value.ownBlock] at hb; omega))
          have eF : addV T num work (some p) i = { T4 with ends := T4.ends.set p (e0 ++ [m]) } := by
            rw [← hpar, n12, hpar]
            have : T1.ends.getD p [] = e0 := by rw [List.getD_eq_getElem?_getD]; rw [eT4'] at he0; simp only at he0; rw [he0]; rfl
            unfold markT
            simp only
            rw [if_pos h9, this, em, eT4']
          have cuA := kA.cell cu (fun f => f)
          have cu0 := (Keeps.alloc None W4 (.cells #[.int .i64 (m : Int)] 3)).cell cu (fun f => f)
          have bRA := blk_kept hT4.blk kA (fun f => f)
          have bR7 := blk_kept bRA hk7 (own_not hin bRA (by decide))
          obtain ⟨csX, bX⟩ := hs4.blk
          have bXA := blk_kept bX kA (fun f => f)
          have bX7 := blk_kept bXA hk7 (own_not hin bXA (by decide))
          have bPA := blk_kept bP kA (fun f => f)
          have bP7 := blk_kept bPA hk7 (own_not hin bPA (by decide))
          have kS : Keeps (· = gx) w7 (w7.setCell ⟨gx, p, none⟩ (.slice (some ⟨ge, 0, none⟩) (e0.length + 1) ce)) := Keeps.setCell (S := (· = gx)) w7 (a := ⟨gx, p, none⟩) rfl _
          have S0 : W4.drew.cell? ⟨R, 3, none⟩ = some (.slice (some ⟨gx, 0, none⟩) T4.ends.length cx) ∧ W4.drew.cell? ⟨X, 28, none⟩ = some (.pointer (some ⟨P, 0, none⟩)) ∧ W4.drew.cell? ⟨P, 30, none⟩ = some (.int .i64 (p : Int)) := ⟨r3, c28, cP⟩
          have SA : (W4.drew.alloc (.cells #[.int .i64 (m : Int)] 3)).cell? ⟨R, 3, none⟩ = some (.slice (some ⟨gx, 0, none⟩) T4.ends.length cx) ∧ (W4.drew.alloc (.cells #[.int .i64 (m : Int)] 3)).cell? ⟨X, 28, none⟩ = some (.pointer (some ⟨P, 0, none⟩)) ∧ (W4.drew.alloc (.cells #[.int .i64 (m : Int)] 3)).cell? ⟨P, 30, none⟩ = some (.int .i64 (p : Int)) := ⟨kA.cell r3 (fun f => f), kA.cell c28 (fun f => f), kA.cell cP (fun f => f)⟩
          have S7 : w7.cell? ⟨R, 3, none⟩ = some (.slice (some ⟨gx, 0, none⟩) T4.ends.length cx) ∧ w7.cell? ⟨X, 28, none⟩ = some (.pointer (some ⟨P, 0, none⟩)) ∧ w7.cell? ⟨P, 30, none⟩ = some (.int .i64 (p : Int)) := ⟨hk7.cell SA.1 (own_not hin bRA (by decide)), hk7.cell SA.2.1 (own_not hin bXA (by decide)), hk7.cell SA.2.2 (own_not hin bPA (by decide))⟩
          have S8 : (w7.setCell ⟨gx, p, none⟩ (.slice (some ⟨ge, 0, none⟩) (e0.length + 1) ce)).cell? ⟨R, 3, none⟩ = some (.slice (some ⟨gx, 0, none⟩) T4.ends.length cx) ∧ (w7.setCell ⟨gx, p, none⟩ (.slice (some ⟨ge, 0, none⟩) (e0.length + 1) ce)).cell? ⟨X, 28, none⟩ = some (.pointer (some ⟨P, 0, none⟩)) ∧ (w7.setCell ⟨gx, p, none⟩ (.slice (some ⟨ge, 0, none⟩) (e0.length + 1) ce)).cell? ⟨P, 30, none⟩ = some (.int .i64 (p : Int)) := by
            have hne : ∀ {b : Nat} {cs : Array Value} {U : TypeId}, W4.heap[b]? = some (.cells cs U (0, 0)) → U ≠ 70 → ¬ b = gx := fun hb hU e => by
              subst e
              rw [hgx] at hb
              injection hb with hb
              injection hb with _ t
              exact hU t.symm
            exact ⟨kS.cell S7.1 (hne hT4.blk (by decide)), kS.cell S7.2.1 (hne bX (by decide)), kS.cell S7.2.2 (hne bP (by decide))⟩
          have HS : Hid (_ ∧ _ ∧ _ ∧ _) := And.intro S0 (And.intro SA (And.intro S7 S8))
          have HF : Hid (IsTr lo (w7.setCell ⟨gx, p, none⟩ (.slice (some ⟨ge, 0, none⟩) (e0.length + 1) ce)) R { T4 with ends := T4.ends.set p (e0 ++ [m]) } ev (.slice (some ⟨gl, 0, none⟩) T3.lasts.length cl) (.slice (some ⟨gx, 0, none⟩) T4.ends.length cx) (vs.set p (.slice (some ⟨ge, 0, none⟩) (e0.length + 1) ce)) ∧ Keeps (TyS lo w) w (w7.setCell ⟨gx, p, none⟩ (.slice (some ⟨ge, 0, none⟩) (e0.length + 1) ce)) ∧ addV T num work (some p) i = { T4 with ends := T4.ends.set p (e0 ++ [m]) }) := ⟨hT8, TyS.trans hkw4 hk8, eF⟩
          have i5 : (p : Int) < (T4.ends.length : Int) := by omega
          have i6 : (0 : Int) ≤ (p : Int) := by omega
          have HR : Hid _ := hr
          clear hT4 hk4 n1 n2 n3 n4 n5 n6 n7 n8 n9 n10 n11 n12 z1 z2 z3 z4 z5 hs4 bJ4 em eT4 eT4' hkw4 h9 bP hpl he0 hu hel cfr cg hgx kA hin hr ho hk7 hm7 hT8 hk8 eF bRA bR7 bX bXA bX7 bPA bP7 kS S0 SA S7 S8
          subst hpar
          go_wp2_with fail
          refine wp_region_held_drew (S := (fun w' => w'.cell? ⟨R, 3, none⟩ = some (.slice (some ⟨gx, 0, none⟩) T4.ends.length cx) ∧ w'.cell? ⟨X, 28, none⟩ = some (.pointer (some ⟨P, 0, none⟩)) ∧ w'.cell? ⟨P, 30, none⟩ = some (.int .i64 (p : Int)))) (by kernel_rfl) ?_ (fun hHeld => ?_)
          · (try dsimp only); first | exact HS.out.1 | exact HS.out.2.1 | exact HS.out.2.2.1 | exact HS.out.2.2.2
          refine wpAnyH_take (i := 0) (oi := { dst := some 67, op := Op.move (Operand.tmp 0), type := 69, pos := "run.go:33", after := #[], guard := none }) (v := ?_) rfl (by kernel_rfl) (by kernel_rfl) (by kernel_rfl) (fun _ _ _ h => h) (Or.inl ⟨by rfl, ?_⟩) (by assumption) ?_
          rotate_left
          · (intro wz hSw; (try dsimp only at hSw); go_simp; try with_reducible rfl)
          simp only [Act.put, List.setIfInBounds_toArray, List.set_cons_zero, List.set_cons_succ]
          refine wpAnyH_take (i := 1) (oi := { dst := some 68, op := Op.nilCheck (Operand.tmp 67), type := 0, pos := "run.go:33", after := #[{ on := 0, ground := Ground.data }], guard := none }) (v := ?_) rfl (by kernel_rfl) (by kernel_rfl) (by kernel_rfl) (fun _ _ _ h => h) (Or.inl ⟨by rfl, ?_⟩) (by assumption) ?_
          rotate_left
          · (intro wz hSw; (try dsimp only at hSw); go_simp; try with_reducible rfl)
          simp only [Act.put, List.setIfInBounds_toArray, List.set_cons_zero, List.set_cons_succ]
          refine wpAnyH_take (i := 2) (oi := { dst := some 69, op := Op.fieldAddr 73 (Operand.tmp 68) 2, type := 0, pos := "run.go:33", after := #[{ on := 1, ground := Ground.data }], guard := none }) (v := ?_) rfl (by kernel_rfl) (by kernel_rfl) (by kernel_rfl) (fun _ _ _ h => h) (Or.inl ⟨by rfl, ?_⟩) (by assumption) ?_
          rotate_left
          · (intro wz hSw; (try dsimp only at hSw); go_simp; try with_reducible rfl)
          simp only [Act.put, List.setIfInBounds_toArray, List.set_cons_zero, List.set_cons_succ]
          refine wpAnyH_take (i := 3) (oi := { dst := some 70, op := Op.load 71 (Operand.tmp 69), type := 71, pos := "run.go:33", after := #[{ on := 2, ground := Ground.data }], guard := none }) (v := ?_) rfl (by kernel_rfl) (by kernel_rfl) (by kernel_rfl) (fun _ _ _ h => h) (Or.inl ⟨by rfl, ?_⟩) (by assumption) ?_
          rotate_left
          · (intro wz hSw; (try dsimp only at hSw); go_simp; try with_reducible rfl)
          simp only [Act.put, List.setIfInBounds_toArray, List.set_cons_zero, List.set_cons_succ]
          refine wpAnyH_take (i := 4) (oi := { dst := some 71, op := Op.move (Operand.tmp 1), type := 95, pos := "run.go:33", after := #[], guard := none }) (v := ?_) rfl (by kernel_rfl) (by kernel_rfl) (by kernel_rfl) (fun _ _ _ h => h) (Or.inl ⟨by rfl, ?_⟩) (by assumption) ?_
          rotate_left
          · (intro wz hSw; (try dsimp only at hSw); go_simp; try with_reducible rfl)
          simp only [Act.put, List.setIfInBounds_toArray, List.set_cons_zero, List.set_cons_succ]
          refine wpAnyH_take (i := 5) (oi := { dst := some 72, op := Op.nilCheck (Operand.tmp 71), type := 0, pos := "run.go:33", after := #[{ on := 4, ground := Ground.data }], guard := none }) (v := ?_) rfl (by kernel_rfl) (by kernel_rfl) (by kernel_rfl) (fun _ _ _ h => h) (Or.inl ⟨by rfl, ?_⟩) (by assumption) ?_
          rotate_left
          · (intro wz hSw; (try dsimp only at hSw); go_simp; try with_reducible rfl)
          simp only [Act.put, List.setIfInBounds_toArray, List.set_cons_zero, List.set_cons_succ]
          refine wpAnyH_take (i := 6) (oi := { dst := some 73, op := Op.fieldAddr 97 (Operand.tmp 72) 2, type := 0, pos := "run.go:33", after := #[{ on := 5, ground := Ground.data }], guard := none }) (v := ?_) rfl (by kernel_rfl) (by kernel_rfl) (by kernel_rfl) (fun _ _ _ h => h) (Or.inl ⟨by rfl, ?_⟩) (by assumption) ?_
          rotate_left
          · (intro wz hSw; (try dsimp only at hSw); go_simp; try with_reducible rfl)
          simp only [Act.put, List.setIfInBounds_toArray, List.set_cons_zero, List.set_cons_succ]
          refine wpAnyH_take (i := 7) (oi := { dst := some 74, op := Op.load 95 (Operand.tmp 73), type := 95, pos := "run.go:33", after := #[{ on := 6, ground := Ground.data }], guard := none }) (v := ?_) rfl (by kernel_rfl) (by kernel_rfl) (by kernel_rfl) (fun _ _ _ h => h) (Or.inl ⟨by rfl, ?_⟩) (by assumption) ?_
          rotate_left
          · (intro wz hSw; (try dsimp only at hSw); go_simp; try with_reducible rfl)
          simp only [Act.put, List.setIfInBounds_toArray, List.set_cons_zero, List.set_cons_succ]
          refine wpAnyH_take (i := 8) (oi := { dst := some 75, op := Op.nilCheck (Operand.tmp 74), type := 0, pos := "run.go:33", after := #[{ on := 7, ground := Ground.data }], guard := none }) (v := ?_) rfl (by kernel_rfl) (by kernel_rfl) (by kernel_rfl) (fun _ _ _ h => h) (Or.inl ⟨by rfl, ?_⟩) (by assumption) ?_
          rotate_left
          · (intro wz hSw; (try dsimp only at hSw); go_simp; try with_reducible rfl)
          simp only [Act.put, List.setIfInBounds_toArray, List.set_cons_zero, List.set_cons_succ]
          refine wpAnyH_take (i := 9) (oi := { dst := some 76, op := Op.fieldAddr 97 (Operand.tmp 75) 4, type := 0, pos := "run.go:33", after := #[{ on := 8, ground := Ground.data }], guard := none }) (v := ?_) rfl (by kernel_rfl) (by kernel_rfl) (by kernel_rfl) (fun _ _ _ h => h) (Or.inl ⟨by rfl, ?_⟩) (by assumption) ?_
          rotate_left
          · (intro wz hSw; (try dsimp only at hSw); go_simp; try with_reducible rfl)
          simp only [Act.put, List.setIfInBounds_toArray, List.set_cons_zero, List.set_cons_succ]
          refine wpAnyH_take (i := 10) (oi := { dst := some 77, op := Op.load 3 (Operand.tmp 76), type := 3, pos := "run.go:33", after := #[{ on := 9, ground := Ground.data }], guard := none }) (v := ?_) rfl (by kernel_rfl) (by kernel_rfl) (by kernel_rfl) (fun _ _ _ h => h) (Or.inl ⟨by rfl, ?_⟩) (by assumption) ?_
          rotate_left
          · (intro wz hSw; (try dsimp only at hSw); go_simp; try with_reducible rfl)
          simp only [Act.put, List.setIfInBounds_toArray, List.set_cons_zero, List.set_cons_succ]
          refine wpAnyH_take (i := 11) (oi := { dst := some 78, op := Op.move (Operand.tmp 0), type := 69, pos := "run.go:33", after := #[], guard := none }) (v := ?_) rfl (by kernel_rfl) (by kernel_rfl) (by kernel_rfl) (fun _ _ _ h => h) (Or.inl ⟨by rfl, ?_⟩) (by assumption) ?_
          rotate_left
          · (intro wz hSw; (try dsimp only at hSw); go_simp; try with_reducible rfl)
          simp only [Act.put, List.setIfInBounds_toArray, List.set_cons_zero, List.set_cons_succ]
          refine wpAnyH_take (i := 12) (oi := { dst := some 79, op := Op.nilCheck (Operand.tmp 78), type := 0, pos := "run.go:33", after := #[{ on := 11, ground := Ground.data }], guard := none }) (v := ?_) rfl (by kernel_rfl) (by kernel_rfl) (by kernel_rfl) (fun _ _ _ h => h) (Or.inl ⟨by rfl, ?_⟩) (by assumption) ?_
          rotate_left
          · (intro wz hSw; (try dsimp only at hSw); go_simp; try with_reducible rfl)
          simp only [Act.put, List.setIfInBounds_toArray, List.set_cons_zero, List.set_cons_succ]
          refine wpAnyH_take (i := 13) (oi := { dst := some 80, op := Op.fieldAddr 73 (Operand.tmp 79) 2, type := 0, pos := "run.go:33", after := #[{ on := 12, ground := Ground.data }], guard := none }) (v := ?_) rfl (by kernel_rfl) (by kernel_rfl) (by kernel_rfl) (fun _ _ _ h => h) (Or.inl ⟨by rfl, ?_⟩) (by assumption) ?_
          rotate_left
          · (intro wz hSw; (try dsimp only at hSw); go_simp; try with_reducible rfl)
          simp only [Act.put, List.setIfInBounds_toArray, List.set_cons_zero, List.set_cons_succ]
          refine wpAnyH_take (i := 14) (oi := { dst := some 81, op := Op.load 71 (Operand.tmp 80), type := 71, pos := "run.go:33", after := #[{ on := 13, ground := Ground.data }], guard := none }) (v := ?_) rfl (by kernel_rfl) (by kernel_rfl) (by kernel_rfl) (fun _ _ _ h => h) (Or.inl ⟨by rfl, ?_⟩) (by assumption) ?_
          rotate_left
          · (intro wz hSw; (try dsimp only at hSw); go_simp; try with_reducible rfl)
          simp only [Act.put, List.setIfInBounds_toArray, List.set_cons_zero, List.set_cons_succ]
          refine wpAnyH_take (i := 15) (oi := { dst := some 82, op := Op.move (Operand.tmp 1), type := 95, pos := "run.go:33", after := #[], guard := none }) (v := ?_) rfl (by kernel_rfl) (by kernel_rfl) (by kernel_rfl) (fun _ _ _ h => h) (Or.inl ⟨by rfl, ?_⟩) (by assumption) ?_
          rotate_left
          · (intro wz hSw; (try dsimp only at hSw); go_simp; try with_reducible rfl)
          simp only [Act.put, List.setIfInBounds_toArray, List.set_cons_zero, List.set_cons_succ]
          refine wpAnyH_take (i := 16) (oi := { dst := some 83, op := Op.nilCheck (Operand.tmp 82), type := 0, pos := "run.go:33", after := #[{ on := 15, ground := Ground.data }], guard := none }) (v := ?_) rfl (by kernel_rfl) (by kernel_rfl) (by kernel_rfl) (fun _ _ _ h => h) (Or.inl ⟨by rfl, ?_⟩) (by assumption) ?_
          rotate_left
          · (intro wz hSw; (try dsimp only at hSw); go_simp; try with_reducible rfl)
          simp only [Act.put, List.setIfInBounds_toArray, List.set_cons_zero, List.set_cons_succ]
          refine wpAnyH_take (i := 17) (oi := { dst := some 84, op := Op.fieldAddr 97 (Operand.tmp 83) 2, type := 0, pos := "run.go:33", after := #[{ on := 16, ground := Ground.data }], guard := none }) (v := ?_) rfl (by kernel_rfl) (by kernel_rfl) (by kernel_rfl) (fun _ _ _ h => h) (Or.inl ⟨by rfl, ?_⟩) (by assumption) ?_
          rotate_left
          · (intro wz hSw; (try dsimp only at hSw); go_simp; try with_reducible rfl)
          simp only [Act.put, List.setIfInBounds_toArray, List.set_cons_zero, List.set_cons_succ]
          refine wpAnyH_take (i := 18) (oi := { dst := some 85, op := Op.load 95 (Operand.tmp 84), type := 95, pos := "run.go:33", after := #[{ on := 17, ground := Ground.data }], guard := none }) (v := ?_) rfl (by kernel_rfl) (by kernel_rfl) (by kernel_rfl) (fun _ _ _ h => h) (Or.inl ⟨by rfl, ?_⟩) (by assumption) ?_
          rotate_left
          · (intro wz hSw; (try dsimp only at hSw); go_simp; try with_reducible rfl)
          simp only [Act.put, List.setIfInBounds_toArray, List.set_cons_zero, List.set_cons_succ]
          refine wpAnyH_take (i := 19) (oi := { dst := some 86, op := Op.nilCheck (Operand.tmp 85), type := 0, pos := "run.go:33", after := #[{ on := 18, ground := Ground.data }], guard := none }) (v := ?_) rfl (by kernel_rfl) (by kernel_rfl) (by kernel_rfl) (fun _ _ _ h => h) (Or.inl ⟨by rfl, ?_⟩) (by assumption) ?_
          rotate_left
          · (intro wz hSw; (try dsimp only at hSw); go_simp; try with_reducible rfl)
          simp only [Act.put, List.setIfInBounds_toArray, List.set_cons_zero, List.set_cons_succ]
          refine wpAnyH_take (i := 20) (oi := { dst := some 87, op := Op.fieldAddr 97 (Operand.tmp 86) 4, type := 0, pos := "run.go:33", after := #[{ on := 19, ground := Ground.data }], guard := none }) (v := ?_) rfl (by kernel_rfl) (by kernel_rfl) (by kernel_rfl) (fun _ _ _ h => h) (Or.inl ⟨by rfl, ?_⟩) (by assumption) ?_
          rotate_left
          · (intro wz hSw; (try dsimp only at hSw); go_simp; try with_reducible rfl)
          simp only [Act.put, List.setIfInBounds_toArray, List.set_cons_zero, List.set_cons_succ]
          refine wpAnyH_take (i := 21) (oi := { dst := some 88, op := Op.load 3 (Operand.tmp 87), type := 3, pos := "run.go:33", after := #[{ on := 20, ground := Ground.data }], guard := none }) (v := ?_) rfl (by kernel_rfl) (by kernel_rfl) (by kernel_rfl) (fun _ _ _ h => h) (Or.inl ⟨by rfl, ?_⟩) (by assumption) ?_
          rotate_left
          · (intro wz hSw; (try dsimp only at hSw); go_simp; try with_reducible rfl)
          simp only [Act.put, List.setIfInBounds_toArray, List.set_cons_zero, List.set_cons_succ]
          refine wpAnyH_take (i := 22) (oi := { dst := some 89, op := Op.indexAddr 71 (Operand.tmp 81) (Operand.tmp 88), type := 0, pos := "run.go:33", after := #[{ on := 14, ground := Ground.data }, { on := 21, ground := Ground.data }], guard := none }) (v := ?_) rfl (by kernel_rfl) (by kernel_rfl) (by kernel_rfl) (fun _ _ _ h => h) (Or.inl ⟨by rfl, ?_⟩) (by assumption) ?_
          rotate_left
          · (intro wz hSw; (try dsimp only at hSw); go_simp; try with_reducible rfl)
          simp only [Act.put, List.setIfInBounds_toArray, List.set_cons_zero, List.set_cons_succ]
          refine wpAnyH_take (i := 24) (oi := { dst := some 91, op := Op.move (Operand.tmp 6), type := 3, pos := "run.go:33", after := #[], guard := none }) (v := ?_) rfl (by kernel_rfl) (by kernel_rfl) (by kernel_rfl) (fun _ _ _ h => h) (Or.inl ⟨by rfl, ?_⟩) (by assumption) ?_
          rotate_left
          · (intro wz hSw; (try dsimp only at hSw); go_simp; try with_reducible rfl)
          simp only [Act.put, List.setIfInBounds_toArray, List.set_cons_zero, List.set_cons_succ]
          refine wpAnyH_ready (rs := [23, 25]) (by kernel_rfl) (by simp) ?_
          refine AllReadyH.cons (o := { dst := some 90, op := Op.load 70 (Operand.tmp 89), type := 70, pos := "run.go:33", after := #[{ on := 22, ground := Ground.data }], guard := none }) rfl (fun K hK => ?_) ?_
          · go_simp
            refine hK.out _ _ ?_ (fun hHeld2 => ?_)
            · (try dsimp only); first | exact HS.out.1 | exact HS.out.2.1 | exact HS.out.2.2.1 | exact HS.out.2.2.2
            clear hK K
            try simp only [Act.put, List.setIfInBounds_toArray, List.set_cons_zero, List.set_cons_succ]
            refine wpAnyH_ready (rs := [25]) (by kernel_rfl) (by simp) ?_
            refine AllReadyH.cons (o := { dst := some 92, op := Op.buildSlice 70 1 #[(0, Operand.tmp 91)], type := 70, pos := "run.go:33", after := #[{ on := 24, ground := Ground.data }], guard := none }) rfl (fun K hK => ?_) ?_
            · go_simp
              refine hK.out _ _ ?_ (fun hHeld2 => ?_)
              · (try dsimp only); first | exact HS.out.1 | exact HS.out.2.1 | exact HS.out.2.2.1 | exact HS.out.2.2.2
              clear hK K
              try simp only [Act.put, List.setIfInBounds_toArray, List.set_cons_zero, List.set_cons_succ]
              refine wpAnyH_ready (rs := [26]) (by kernel_rfl) (by simp) ?_
              refine AllReadyH.cons (o := { dst := some 93, op := Op.call { callee := Callee.builtin Builtin.append, args := #[Operand.tmp 90, Operand.tmp 92], argTypes := #[70, 70] }, type := 70, pos := "run.go:33", after := #[{ on := 23, ground := Ground.data }, { on := 25, ground := Ground.data }], guard := none }) rfl (fun K hK => ?_) ?_
              · refine step_append_run rfl (.tmp 90) (.tmp 92) 70 70 rfl rfl rfl HR.out ?_
                refine hK.out _ _ ?_ (fun hHeld2 => ?_)
                · (try dsimp only); first | exact HS.out.1 | exact HS.out.2.1 | exact HS.out.2.2.1 | exact HS.out.2.2.2
                clear hK K
                try simp only [Act.put, List.setIfInBounds_toArray, List.set_cons_zero, List.set_cons_succ]
                refine wpAnyH_take (i := 27) (oi := { dst := some 94, op := Op.indexAddr 71 (Operand.tmp 70) (Operand.tmp 77), type := 0, pos := "run.go:33", after := #[{ on := 3, ground := Ground.data }, { on := 10, ground := Ground.data }, { on := 0, ground := Ground.phase }, { on := 1, ground := Ground.phase }, { on := 2, ground := Ground.phase }, { on := 3, ground := Ground.phase }, { on := 4, ground := Ground.phase }, { on := 5, ground := Ground.phase }, { on := 6, ground := Ground.phase }, { on := 7, ground := Ground.phase }, { on := 8, ground := Ground.phase }, { on := 9, ground := Ground.phase }, { on := 10, ground := Ground.phase }, { on := 11, ground := Ground.phase }, { on := 12, ground := Ground.phase }, { on := 13, ground := Ground.phase }, { on := 14, ground := Ground.phase }, { on := 15, ground := Ground.phase }, { on := 16, ground := Ground.phase }, { on := 17, ground := Ground.phase }, { on := 18, ground := Ground.phase }, { on := 19, ground := Ground.phase }, { on := 20, ground := Ground.phase }, { on := 21, ground := Ground.phase }, { on := 22, ground := Ground.phase }, { on := 23, ground := Ground.phase }, { on := 24, ground := Ground.phase }, { on := 25, ground := Ground.phase }, { on := 26, ground := Ground.phase }], guard := none }) (v := ?_) rfl (by kernel_rfl) (by kernel_rfl) (by kernel_rfl) (fun _ _ _ h => h) (Or.inl ⟨by rfl, ?_⟩) (by assumption) ?_
                rotate_left
                · (intro wz hSw; (try dsimp only at hSw); go_simp; try with_reducible rfl)
                simp only [Act.put, List.setIfInBounds_toArray, List.set_cons_zero, List.set_cons_succ]
                refine wpAnyH_ready (rs := [28]) (by kernel_rfl) (by simp) ?_
                refine AllReadyH.cons (o := { dst := none, op := Op.store 70 (Operand.tmp 94) (Operand.tmp 93), type := 0, pos := "run.go:33", after := #[{ on := 27, ground := Ground.data }, { on := 26, ground := Ground.data }, { on := 26, ground := Ground.chain }, { on := 0, ground := Ground.phase }, { on := 1, ground := Ground.phase }, { on := 2, ground := Ground.phase }, { on := 3, ground := Ground.phase }, { on := 4, ground := Ground.phase }, { on := 5, ground := Ground.phase }, { on := 6, ground := Ground.phase }, { on := 7, ground := Ground.phase }, { on := 8, ground := Ground.phase }, { on := 9, ground := Ground.phase }, { on := 10, ground := Ground.phase }, { on := 11, ground := Ground.phase }, { on := 12, ground := Ground.phase }, { on := 13, ground := Ground.phase }, { on := 14, ground := Ground.phase }, { on := 15, ground := Ground.phase }, { on := 16, ground := Ground.phase }, { on := 17, ground := Ground.phase }, { on := 18, ground := Ground.phase }, { on := 19, ground := Ground.phase }, { on := 20, ground := Ground.phase }, { on := 21, ground := Ground.phase }, { on := 22, ground := Ground.phase }, { on := 23, ground := Ground.phase }, { on := 24, ground := Ground.phase }, { on := 25, ground := Ground.phase }, { on := 26, ground := Ground.phase }], guard := none }) rfl (fun K hK => ?_) ?_
                · go_simp
                  refine hK.out _ _ ?_ (fun hHeld2 => ?_)
                  · (try dsimp only); first | exact HS.out.1 | exact HS.out.2.1 | exact HS.out.2.2.1 | exact HS.out.2.2.2
                  clear hK K
                  try simp only [Act.put, List.setIfInBounds_toArray, List.set_cons_zero, List.set_cons_succ]
                  refine wpAnyH_done (by kernel_rfl) ?_ _
                  go_wp2_with fail
                  go_end0
                  exact ⟨rfl, by rw [HF.out.2.2]; exact ⟨_, _, _, _, HF.out.1⟩, HF.out.2.1⟩
                exact AllReadyH.nil
              exact AllReadyH.nil
            exact AllReadyH.nil
          refine AllReadyH.cons (o := { dst := some 92, op := Op.buildSlice 70 1 #[(0, Operand.tmp 91)], type := 70, pos := "run.go:33", after := #[{ on := 24, ground := Ground.data }], guard := none }) rfl (fun K hK => ?_) ?_
          · go_simp
            refine hK.out _ _ ?_ (fun hHeld2 => ?_)
            · (try dsimp only); first | exact HS.out.1 | exact HS.out.2.1 | exact HS.out.2.2.1 | exact HS.out.2.2.2
            clear hK K
            try simp only [Act.put, List.setIfInBounds_toArray, List.set_cons_zero, List.set_cons_succ]
            refine wpAnyH_ready (rs := [23]) (by kernel_rfl) (by simp) ?_
            refine AllReadyH.cons (o := { dst := some 90, op := Op.load 70 (Operand.tmp 89), type := 70, pos := "run.go:33", after := #[{ on := 22, ground := Ground.data }], guard := none }) rfl (fun K hK => ?_) ?_
            · go_simp
              refine hK.out _ _ ?_ (fun hHeld2 => ?_)
              · (try dsimp only); first | exact HS.out.1 | exact HS.out.2.1 | exact HS.out.2.2.1 | exact HS.out.2.2.2
              clear hK K
              try simp only [Act.put, List.setIfInBounds_toArray, List.set_cons_zero, List.set_cons_succ]
              refine wpAnyH_ready (rs := [26]) (by kernel_rfl) (by simp) ?_
              refine AllReadyH.cons (o := { dst := some 93, op := Op.call { callee := Callee.builtin Builtin.append, args := #[Operand.tmp 90, Operand.tmp 92], argTypes := #[70, 70] }, type := 70, pos := "run.go:33", after := #[{ on := 23, ground := Ground.data }, { on := 25, ground := Ground.data }], guard := none }) rfl (fun K hK => ?_) ?_
              · refine step_append_run rfl (.tmp 90) (.tmp 92) 70 70 rfl rfl rfl HR.out ?_
                refine hK.out _ _ ?_ (fun hHeld2 => ?_)
                · (try dsimp only); first | exact HS.out.1 | exact HS.out.2.1 | exact HS.out.2.2.1 | exact HS.out.2.2.2
                clear hK K
                try simp only [Act.put, List.setIfInBounds_toArray, List.set_cons_zero, List.set_cons_succ]
                refine wpAnyH_take (i := 27) (oi := { dst := some 94, op := Op.indexAddr 71 (Operand.tmp 70) (Operand.tmp 77), type := 0, pos := "run.go:33", after := #[{ on := 3, ground := Ground.data }, { on := 10, ground := Ground.data }, { on := 0, ground := Ground.phase }, { on := 1, ground := Ground.phase }, { on := 2, ground := Ground.phase }, { on := 3, ground := Ground.phase }, { on := 4, ground := Ground.phase }, { on := 5, ground := Ground.phase }, { on := 6, ground := Ground.phase }, { on := 7, ground := Ground.phase }, { on := 8, ground := Ground.phase }, { on := 9, ground := Ground.phase }, { on := 10, ground := Ground.phase }, { on := 11, ground := Ground.phase }, { on := 12, ground := Ground.phase }, { on := 13, ground := Ground.phase }, { on := 14, ground := Ground.phase }, { on := 15, ground := Ground.phase }, { on := 16, ground := Ground.phase }, { on := 17, ground := Ground.phase }, { on := 18, ground := Ground.phase }, { on := 19, ground := Ground.phase }, { on := 20, ground := Ground.phase }, { on := 21, ground := Ground.phase }, { on := 22, ground := Ground.phase }, { on := 23, ground := Ground.phase }, { on := 24, ground := Ground.phase }, { on := 25, ground := Ground.phase }, { on := 26, ground := Ground.phase }], guard := none }) (v := ?_) rfl (by kernel_rfl) (by kernel_rfl) (by kernel_rfl) (fun _ _ _ h => h) (Or.inl ⟨by rfl, ?_⟩) (by assumption) ?_
                rotate_left
                · (intro wz hSw; (try dsimp only at hSw); go_simp; try with_reducible rfl)
                simp only [Act.put, List.setIfInBounds_toArray, List.set_cons_zero, List.set_cons_succ]
                refine wpAnyH_ready (rs := [28]) (by kernel_rfl) (by simp) ?_
                refine AllReadyH.cons (o := { dst := none, op := Op.store 70 (Operand.tmp 94) (Operand.tmp 93), type := 0, pos := "run.go:33", after := #[{ on := 27, ground := Ground.data }, { on := 26, ground := Ground.data }, { on := 26, ground := Ground.chain }, { on := 0, ground := Ground.phase }, { on := 1, ground := Ground.phase }, { on := 2, ground := Ground.phase }, { on := 3, ground := Ground.phase }, { on := 4, ground := Ground.phase }, { on := 5, ground := Ground.phase }, { on := 6, ground := Ground.phase }, { on := 7, ground := Ground.phase }, { on := 8, ground := Ground.phase }, { on := 9, ground := Ground.phase }, { on := 10, ground := Ground.phase }, { on := 11, ground := Ground.phase }, { on := 12, ground := Ground.phase }, { on := 13, ground := Ground.phase }, { on := 14, ground := Ground.phase }, { on := 15, ground := Ground.phase }, { on := 16, ground := Ground.phase }, { on := 17, ground := Ground.phase }, { on := 18, ground := Ground.phase }, { on := 19, ground := Ground.phase }, { on := 20, ground := Ground.phase }, { on := 21, ground := Ground.phase }, { on := 22, ground := Ground.phase }, { on := 23, ground := Ground.phase }, { on := 24, ground := Ground.phase }, { on := 25, ground := Ground.phase }, { on := 26, ground := Ground.phase }], guard := none }) rfl (fun K hK => ?_) ?_
                · go_simp
                  refine hK.out _ _ ?_ (fun hHeld2 => ?_)
                  · (try dsimp only); first | exact HS.out.1 | exact HS.out.2.1 | exact HS.out.2.2.1 | exact HS.out.2.2.2
                  clear hK K
                  try simp only [Act.put, List.setIfInBounds_toArray, List.set_cons_zero, List.set_cons_succ]
                  refine wpAnyH_done (by kernel_rfl) ?_ _
                  go_wp2_with fail
                  go_end0
                  exact ⟨rfl, by rw [HF.out.2.2]; exact ⟨_, _, _, _, HF.out.1⟩, HF.out.2.1⟩
                exact AllReadyH.nil
              exact AllReadyH.nil
            exact AllReadyH.nil
          exact AllReadyH.nil
      · have t9 : (i.kind == 9) = false := by simp [h9]
        have HF : Hid (IsTr lo W4 R T4 ev (.slice (some ⟨gl, 0, none⟩) T3.lasts.length cl) xv vs ∧ Keeps (TyS lo w) w W4 ∧ addV T num work par i = T4) := ⟨hT4, hkw4, by rw [n12, eT4']; unfold markT; cases par with | none => rfl | some p => simp only; rw [if_neg h9]⟩
        clear hT4 hk4 n1 n2 n3 n4 n5 n6 n7 n8 n9 n10 n11 n12 z1 z2 z3 z4 z5 hs4 bJ4 em eT4 eT4' hkw4 h9
        go_wp2_with fail
        go_end0
        exact ⟨rfl, by rw [HF.out.2.2]; exact ⟨_, _, _, _, HF.out.1⟩, HF.out.2.1⟩
end Go.Proofs.YtbdpdojeaahpjaaGreatDoor
/-! Of a run that is shown: it grows; no list of ends is longer than there are nodes. -/
namespace Go.Proofs.YtbdpdojeaahpjaaGreatDoor
set_option linter.unusedVariables false
set_option maxRecDepth 20000
open Go.RowKit Go.PlainOps

def EndsOk (T : Trc) : Prop := ∀ e ∈ T.ends, e.length ≤ T.n
theorem ends_open {T : Trc} (h : EndsOk T) (work : Int) : EndsOk (openT T work) := by
  unfold openT
  split
  · intro e he
    simp at he
    rcases he with he | rfl
    · exact h e he
    · simp
  · exact h
theorem ends_clear {T : Trc} (h : EndsOk T) (num : Nat) (i : Ins) : EndsOk (clearT T num i) := by
  unfold clearT
  split
  · intro e he
    rcases List.mem_or_eq_of_mem_set he with h1 | h1
    · exact h e h1
    · rw [h1]; simp
  · exact h
theorem ends_mark {T : Trc} (h : EndsOk T) (num : Nat) (par : Option Nat) (i : Ins) (fr : List Nat) : EndsOk (markT T num par i fr) := by
  have h1 : ∀ e ∈ T.ends, e.length ≤ T.n + 1 := fun e he => by have := h e he; omega
  unfold markT
  cases par with
  | none => exact h1
  | some p =>
    simp only
    split
    · intro e he
      rcases List.mem_or_eq_of_mem_set he with h2 | h2
      · exact h1 e h2
      · rw [h2, List.length_append]
        have : (T.ends.getD p []).length ≤ T.n := by
          rw [List.getD_eq_getElem?_getD]
          cases hp : T.ends[p]? with
          | none => simp
          | some x => exact h x (List.mem_of_getElem? hp)
        simp only [List.length_cons, List.length_nil]
        show _ ≤ T.n + 1
        omega
    · exact h1
theorem ends_add {T : Trc} (h : EndsOk T) (num : Nat) (work : Int) (par : Option Nat) (i : Ins) : EndsOk (addV T num work par i) := ends_mark (ends_clear (ends_open h work) num i) num par i _
theorem es_add (T : Trc) (num : Nat) (work : Int) (par : Option Nat) (i : Ins) : T.es.length ≤ (addV T num work par i).es.length := by
  unfold addV markT clearT openT
  cases par <;> simp only <;> (repeat' split) <;> simp
theorem walk_mono {fs : List Fn} : ∀ (g k : Nat) (T : Trc) (t : Tk) (par : Option Nat) (at_ : Nat) (v : Int) (k2 : Nat) (T2 : Trc), walkV fs g k T t par at_ = some (v, k2, T2) → T.n < T2.n ∧ T.es.length ≤ T2.es.length ∧ (EndsOk T → EndsOk T2)
  | 0, k, T, t, par, at_, v, k2, T2, h => by simp [walkV] at h
  | g + 1, k, T, t, par, at_, v, k2, T2, h => by
    unfold walkV at h
    cases hc : (codeOf fs t.node.func)[at_]? with
    | none => rw [hc] at h; cases h
    | some i =>
      rw [hc] at h
      simp only at h
      have hn := (add_len T t.number.toNat t.node.work par i).2.2
      have he := es_add T t.number.toNat t.node.work par i
      have ho : EndsOk T → EndsOk (addV T t.number.toNat t.node.work par i) := fun q => ends_add q _ _ _ _
      have hgo : ∀ t' at', walkV fs g k (addV T t.number.toNat t.node.work par i) t' par at' = some (v, k2, T2) → T.n < T2.n ∧ T.es.length ≤ T2.es.length ∧ (EndsOk T → EndsOk T2) := fun t' at' h' => by
        obtain ⟨q1, q2, q3⟩ := walk_mono g k _ t' par at' v k2 T2 h'
        exact ⟨by omega, by omega, fun q => q3 (ho q)⟩
      by_cases k3 : i.kind = 3
      · rw [if_pos k3] at h; exact hgo _ _ h
      · rw [if_neg k3] at h
        by_cases k4 : i.kind = 4
        · rw [if_pos k4] at h; exact hgo _ _ h
        · rw [if_neg k4] at h
          by_cases k5 : i.kind = 5
          · rw [if_pos k5] at h
            cases hr : walkV fs g (k + 1) (addV T t.number.toNat t.node.work par i) (enterT ⟨0, k, 0, []⟩ (childV fs (payT t) i)) (some t.number.toNat) 0 with
            | none => rw [hr] at h; cases h
            | some x =>
              obtain ⟨v1, k1, T1⟩ := x
              rw [hr] at h
              simp only at h
              obtain ⟨q1, q2, q3⟩ := walk_mono g (k + 1) _ _ _ 0 v1 k1 T1 hr
              obtain ⟨r1, r2, r3⟩ := walk_mono g k1 T1 _ par _ v k2 T2 h
              exact ⟨by omega, by omega, fun q => r3 (q3 (ho q))⟩
          · rw [if_neg k5] at h
            by_cases k9 : i.kind = 9
            · rw [if_pos k9] at h
              injection h with h
              injection h with e1 e2
              injection e2 with e2 e3
              subst e2 e3
              exact ⟨by omega, he, ho⟩
            · rw [if_neg k9] at h; exact hgo _ _ h
end Go.Proofs.YtbdpdojeaahpjaaGreatDoor
/-! A task of tasks.Walk in memory. -/
namespace Go.Proofs.YtbdpdojeaahpjaaGreatDoor
set_option linter.unusedVariables false
set_option maxRecDepth 20000
open Go.RowKit Go.HeapKit Go.PlainOps

def rst (t : Tk) (pv : Value) (sl : Int) : List Value := ints t.slots ++ [pv, .int .i64 sl, .int .i64 t.number, .int .i64 t.node.work]
theorem ints8 {l : List Int} (h : l.length = 8) : (ints l).length = 8 := by rw [ints_len]; exact h
theorem rst_num (t : Tk) (pv : Value) (sl : Int) (h : t.slots.length = 8) (k : Int) : (rst t pv sl).set 10 (.int .i64 k) = rst { t with number := k } pv sl := by
  unfold rst
  rw [List.set_append_right _ _ (by rw [ints8 h]; omega), ints8 h]
  rfl
theorem rst_work (t : Tk) (pv : Value) (sl : Int) (h : t.slots.length = 8) (k : Int) : (rst t pv sl).set 11 (.int .i64 k) = rst { t with node := { t.node with work := k } } pv sl := by
  unfold rst
  rw [List.set_append_right _ _ (by rw [ints8 h]; omega), ints8 h]
  rfl
theorem rst_slot (t : Tk) (pv : Value) (sl : Int) (h : t.slots.length = 8) (a : Nat) (ha : a < 8) (v : Int) : (rst t pv sl).set a (.int .i64 v) = rst { t with slots := t.slots.set a v } pv sl := by
  unfold rst
  rw [List.set_append_left _ _ (by rw [ints8 h]; omega)]
  simp [ints, List.map_set]
theorem rst_at (t : Tk) (pv : Value) (sl : Int) (h : t.slots.length = 8) : (rst t pv sl)[8]? = some pv ∧ (rst t pv sl)[10]? = some (.int .i64 t.number) ∧ (rst t pv sl)[11]? = some (.int .i64 t.node.work) ∧ ∀ a, a < 8 → (rst t pv sl)[a]? = some (.int .i64 (t.slots.getD a 0)) := by
  unfold rst
  refine ⟨?_, ?_, ?_, fun a ha => ?_⟩
  · rw [List.getElem?_append_right (by rw [ints8 h]; omega), ints8 h]; rfl
  · rw [List.getElem?_append_right (by rw [ints8 h]; omega), ints8 h]; rfl
  · rw [List.getElem?_append_right (by rw [ints8 h]; omega), ints8 h]; rfl
  · rw [List.getElem?_append_left (by rw [ints8 h]; omega)]
    rw [List.getD_eq_getElem?_getD]
    have hl : t.slots[a]? = some (t.slots[a]'(by omega)) := by simp
    rw [hl]
    exact ints_at _ _ _ hl
/-- The parent's pointer. -/
def Par (w : World) (par : Option Nat) (pv : Value) : Prop := (par = none → pv = .pointer none) ∧ ∀ p, par = some p → ∃ P, pv = .pointer (some ⟨P, 0, none⟩) ∧ w.cell? ⟨P, 30, none⟩ = some (.int .i64 (p : Int)) ∧ ∃ cs, w.heap[P]? = some (.cells cs 97 (0, 0))
theorem IsTsk.shown {w : World} {X num : Nat} {k : Tsk} {t : Tk} {pv : Value} {sl : Int} {par : Option Nat} (h : IsTsk w X 97 k (rst t pv sl)) (hs : t.slots.length = 8) (hn : t.number = (num : Int)) (hp : Par w par pv) : Sh w X num t.node.work par := by
  obtain ⟨r1, r2, r3, _⟩ := rst_at t pv sl hs
  have c28 : w.cell? ⟨X, 28, none⟩ = some pv := h.beh (j := 8) r1
  refine ⟨by rw [← hn]; exact h.beh (j := 10) r2, h.beh (j := 11) r3, ⟨_, h.blk⟩, fun e => ?_, fun p e => ?_⟩
  · rw [hp.1 e] at c28; exact c28
  · obtain ⟨P, e1, e2, e3⟩ := hp.2 p e
    rw [e1] at c28
    exact ⟨P, c28, e2, e3⟩
/-- What a task's run changes: the trace, and the count of tasks. -/
def TQ (lo Q : Nat) (w : World) (g : Nat) : Prop := TyS lo w g ∨ g = Q
theorem TQ.trans {lo Q : Nat} {w w1 w2 : World} (h1 : Keeps (TQ lo Q w) w w1) (h2 : Keeps (TQ lo Q w1) w1 w2) : Keeps (TQ lo Q w) w w2 := h1.trans h2 (fun i e hi => by
  by_cases h : TQ lo Q w i
  · exact h
  · have hb := h1.block i hi h
    rcases e with ⟨hl, cs, T, fr, hc, hT⟩ | e
    · exact .inl ⟨hl, cs, T, fr, hb.symm.trans hc, hT⟩
    · exact .inr e)
theorem TQ.ty {lo Q : Nat} {w w1 : World} (h : Keeps (TyS lo w) w w1) : Keeps (TQ lo Q w) w w1 := h.mono (fun _ e _ => .inl e)
theorem TQ.turn {lo Q X : Nat} {w : World} {cs cq : Array Value} (hX : w.heap[X]? = some (.cells cs 97 (0, 0))) (hQ : w.heap[Q]? = some (.cells cq 93 (0, 0))) : ¬ TQ lo Q w X := by
  rintro (h | rfl)
  · exact TyS.other hX turn_no h
  · rw [hX] at hQ
    injection hQ with hQ
    injection hQ with _ e
    exact absurd e (by decide)
theorem Par.kept {w w' : World} {lo Q : Nat} {par : Option Nat} {pv : Value} {cq : Array Value} (h : Par w par pv) (hQ : w.heap[Q]? = some (.cells cq 93 (0, 0))) (hk : Keeps (TQ lo Q w) w w') : Par w' par pv := by
  refine ⟨h.1, fun p e => ?_⟩
  obtain ⟨P, e1, e2, cs, e3⟩ := h.2 p e
  have hP := TQ.turn (lo := lo) e3 hQ
  exact ⟨P, e1, hk.cell e2 hP, cs, blk_kept e3 hk hP⟩
theorem Par.more {w w' : World} {par : Option Nat} {pv : Value} (h : Par w par pv) (hk : Keeps None w w') : Par w' par pv := by
  refine ⟨h.1, fun p e => ?_⟩
  obtain ⟨P, e1, e2, cs, e3⟩ := h.2 p e
  exact ⟨P, e1, hk.cell e2 (fun f => f), cs, blk_kept e3 hk (fun f => f)⟩
theorem built_turn_lit (f a r0 r1 r2 r3 r4 r5 r6 r7 r8 r9 r10 r11 r12 r13 r14 r15 p s y : Int) (P : Nat) : Tryz.prog.built 97 [(0, .agg #[.int .i64 f, .int .i64 a, .int .i64 r0, .int .i64 r1, .int .i64 r2, .int .i64 r3, .int .i64 r4, .int .i64 r5, .int .i64 r6, .int .i64 r7, .int .i64 r8, .int .i64 r9, .int .i64 r10, .int .i64 r11, .int .i64 r12, .int .i64 r13, .int .i64 r14, .int .i64 r15, .int .i64 p, .int .i64 s]), (2, .pointer (some ⟨P, 0, none⟩)), (3, .int .i64 y)]
    = some (ints [f, a, r0, r1, r2, r3, r4, r5, r6, r7, r8, r9, r10, r11, r12, r13, r14, r15, p, s, 0, 0, 0, 0, 0, 0, 0, 0] ++ [Value.pointer (some ⟨P, 0, none⟩), Value.int .i64 y, Value.int .i64 0, Value.int .i64 0]).toArray := by kernel_rfl
theorem built_root_lit (f a r0 r1 r2 r3 r4 r5 r6 r7 r8 r9 r10 r11 r12 r13 r14 r15 p s : Int) : Tryz.prog.built 97 [(0, .agg #[.int .i64 f, .int .i64 a, .int .i64 r0, .int .i64 r1, .int .i64 r2, .int .i64 r3, .int .i64 r4, .int .i64 r5, .int .i64 r6, .int .i64 r7, .int .i64 r8, .int .i64 r9, .int .i64 r10, .int .i64 r11, .int .i64 r12, .int .i64 r13, .int .i64 r14, .int .i64 r15, .int .i64 p, .int .i64 s])]
    = some (ints [f, a, r0, r1, r2, r3, r4, r5, r6, r7, r8, r9, r10, r11, r12, r13, r14, r15, p, s, 0, 0, 0, 0, 0, 0, 0, 0] ++ [Value.pointer none, Value.int .i64 0, Value.int .i64 0, Value.int .i64 0]).toArray := by kernel_rfl
theorem built_turn (k : Tsk) (h : k.regs.length = 16) (P : Nat) (y : Int) : Tryz.prog.built 97 [(0, .agg (ints k.l).toArray), (2, .pointer (some ⟨P, 0, none⟩)), (3, .int .i64 y)] = some (ints k.l ++ (ints (List.replicate 8 0) ++ [Value.pointer (some ⟨P, 0, none⟩), Value.int .i64 y, Value.int .i64 0, Value.int .i64 0])).toArray := by
  obtain ⟨f, a, l, p, s⟩ := k
  obtain ⟨r0, r1, r2, r3, r4, r5, r6, r7, r8, r9, r10, r11, r12, r13, r14, r15, rfl⟩ := sixteen h
  exact built_turn_lit f a r0 r1 r2 r3 r4 r5 r6 r7 r8 r9 r10 r11 r12 r13 r14 r15 p s y P
theorem built_root (k : Tsk) (h : k.regs.length = 16) : Tryz.prog.built 97 [(0, .agg (ints k.l).toArray)] = some (ints k.l ++ (ints (List.replicate 8 0) ++ [Value.pointer none, Value.int .i64 0, Value.int .i64 0, Value.int .i64 0])).toArray := by
  obtain ⟨f, a, l, p, s⟩ := k
  obtain ⟨r0, r1, r2, r3, r4, r5, r6, r7, r8, r9, r10, r11, r12, r13, r14, r15, rfl⟩ := sixteen h
  exact built_root_lit f a r0 r1 r2 r3 r4 r5 r6 r7 r8 r9 r10 r11 r12 r13 r14 r15 p s
set_option maxHeartbeats 1000000 in
/-- Do of a sync does nothing. -/
theorem do_six (X ty : Nat) (t : Tsk) (rest : List Value) (a b c k : Int) (w : World) (ht : IsTsk w X ty t rest) :
    Calls Tryz.prog 31 #[.pointer (some ⟨X, 0, none⟩), .agg #[.int .i64 6, .int .i64 a, .int .i64 b, .int .i64 c, .int .i64 k]] w fun e w' => e = .returned (.tuple #[]) ∧ IsTsk w' X ty t rest ∧ Keeps (· = X) w w' := by
  have hal := Keeps.alloc None w (.cells #[.int .i64 6, .int .i64 a, .int .i64 b, .int .i64 c, .int .i64 k] 37)
  have bJ := heap_alloc_new w (.cells #[.int .i64 6, .int .i64 a, .int .i64 b, .int .i64 c, .int .i64 k] 37)
  have c0 : (w.alloc (.cells #[.int .i64 6, .int .i64 a, .int .i64 b, .int .i64 c, .int .i64 k] 37)).cell? ⟨w.heap.size, 0, none⟩ = some (.int .i64 6) := (blk_cell bJ 0).trans rfl
  have HH : Hid _ := And.intro (ht.kept hal (fun f => f)) (hal.mono (T := (· = X)) (fun _ f _ => f.elim))
  clear ht hal bJ
  go_enter Tryz.func31, Tryz.ntmps31
  go_wp2_with fail
  go_end0
  exact ⟨rfl, HH.out⟩
end Go.Proofs.YtbdpdojeaahpjaaGreatDoor
