import Derived.Test.YtdiabpoafennlaaPkAU
import Derived.Test.YtdiabpoafennlaaPkAT
import Derived.Laws.EntriesVeiled
import Derived.WalkKit
import Derived.ProofKit
import Derived.OpenShut
import Derived.Deep.Slices
/-! hyper.Fold. -/
namespace Go.Proofs.Ytdiabpoafennlaa.Nm
set_option linter.unusedVariables false
set_option maxRecDepth 20000
set_option linter.unusedSimpArgs false
open Go.RowKit Go.HeapKit Go.PlainOps

theorem load_kind (w : World) (g : Nat) (t : TypeId) (v0 v1 v2 v3 : Value) (hb : w.heap[g]? = some (.cells #[v0, v1, v2, v3] t (0, 0))) : (loadVar 74 ⟨g, 0, none⟩).run Try.prog w = .ok (.agg #[v0, v1, v2, v3]) w :=
  run_loadVar_row _ g t 74 _ _ _ hb Try.underlying74 rfl (by kernel_rfl)
def kindV (K0 : NP) : Value := .agg #[.func (.func 48) #[] #[.pointer (some ⟨K0.pu, 0, none⟩)], .func (.func 46) #[] #[.pointer (some ⟨K0.pa, 0, none⟩)], .func (.func 46) #[] #[.pointer (some ⟨K0.pa, 0, none⟩)], .func (.func 49) #[] #[]]
theorem numbers_ok (op u : Int) (w : World) : Calls Try.prog 30 #[.int .i64 op, .int .i64 u] w fun e w' => ∃ K0 : NP, K0.op = op ∧ e = .returned (kindV K0) ∧ w'.cell? ⟨K0.pa, 0, none⟩ = some (.int .i64 op) ∧ w'.cell? ⟨K0.pu, 0, none⟩ = some (.int .i64 u) ∧ Keeps None w w' := by
  go_enter Try.func30, Try.ntmps30
  go_wp2_with fail
  refine bodyPost_ret (results_one (q := 4) (ty := 74) rfl rfl (load_kind _ _ 74 _ _ _ _ (blk_new _ _ _ (by simp)))) rfl ?_
  have hb1 := blk_new w (.cells #[.int .i64 op] 3) w.heap.size rfl
  have hb2 := blk_new (w.alloc (.cells #[.int .i64 op] 3)) (.cells #[.int .i64 u] 2) (w.heap.size + 1) (by simp)
  have k1 := Keeps.alloc None w (.cells #[.int .i64 op] 3)
  have k2 := fun o => Keeps.alloc None (w.alloc (.cells #[.int .i64 op] 3)) o
  have k3 := fun o => Keeps.alloc None ((w.alloc (.cells #[.int .i64 op] 3)).alloc (.cells #[.int .i64 u] 2)) o
  exact ⟨⟨op, w.heap.size, w.heap.size + 1⟩, rfl, rfl, (k3 _).cell ((k2 _).cell (blk_cell hb1 0) (fun f => f)) (fun f => f), (k3 _).cell (blk_cell hb2 0) (fun f => f), (k1.trans (k2 _) (fun _ f _ => f)).trans (k3 _) (fun _ f _ => f)⟩
theorem play_raw (K0 : NP) (a : Option Addr) (n c : Nat) (l : List Dd) (sa : Option Addr) (m sc : Nat) (st : List Bool) (pa : Option Addr) (k pc : Nat) (pk : List Int) (w : World) (hS : Seen w a n l) (hT : SeenV w sa m (bv' st)) (hP : SeenV w pa k (iv pk)) (hpc : k ≤ pc) (hE : refE l st pk = 0) (hu : hasU K0.op = true) (hf : Fits (putsD l)) (hb1 : w.cell? ⟨K0.pa, 0, none⟩ = some (.int .i64 K0.op)) (hb2 : w.cell? ⟨K0.pu, 0, none⟩ = some (.int .i64 (unitV K0.op))) :
    Calls Try.prog 29 #[kindV K0, .slice a n c, .slice sa m sc, .slice pa k pc] w fun e w' =>
      ∃ pb vb vc, e = .returned (.pointer (some ⟨pb, 0, none⟩)) ∧ w'.cell? ⟨pb, 6, none⟩ = some (.slice (some ⟨vb, 0, none⟩) (finPS l st pk).vs.length vc) ∧ w'.cell? ⟨vb, 0, none⟩ = some (.int .i64 (foldV K0.op (putsD l))) ∧ Keeps None w w' := by
  obtain ⟨h1, h2, -, hc⟩ := refE_ok hE
  have hm := hT.len
  have hk := hP.len
  rw [bv_len] at hm
  rw [iv_len] at hk
  subst hm hk
  refine (play_ok K0 a n c l sa sc st pa pc pk w hS hT hP hpc (by have := hS.len; omega) h2 hc hu (by rw [putsD_eq]; exact hf) hb1 hb2).mono ?_
  rintro e w' ⟨pb, X, R, he, hM, hkp⟩
  have hpos : 0 < (finPS l st pk).vs.length := fin_pos l st pk (kinds_of hc)
  have hM2 : PM w' w.heap.size pb st X K0 R R (finPS l st pk) := hM
  obtain ⟨vb, hva, -, hcell, -, -⟩ := hM2.viewAt hpos
  have q6 := hM2.c0.2.2.2.2.2.2.1
  rw [hva] at q6
  rw [fin_puts] at hcell
  exact ⟨pb, vb, _, he, q6, hcell, hkp⟩
def nmE (op : Int) (l : List Dd) (st : List Bool) (pk : List Int) : Int := if foldErr op ((0 : Nat) : Int) = 0 then refE l st pk else foldErr op ((0 : Nat) : Int)
def nmV (op : Int) (l : List Dd) (st : List Bool) (pk : List Int) : Int := if nmE op l st pk = 0 then foldV op (putsD l) else 0
theorem seg_nil (w : World) : Seg w none 0 [] := ⟨Nat.le_refl _, by unfold maxLen; omega, .inl rfl⟩
set_option maxHeartbeats 1600000 in
theorem Fold_ok (op : Int) (a : Option Addr) (n c : Nat) (l : List Dd) (sa : Option Addr) (m sc : Nat) (st : List Bool) (pa : Option Addr) (k pc : Nat) (pk : List Int) (w : World) (hS : Seen w a n l) (hT : SeenV w sa m (bv' st)) (hP : SeenV w pa k (iv pk)) (hpc : k ≤ pc) (hf : Fits (putsD l)) :
    Calls Try.prog 21 #[.int .i64 op, .slice a n c, .slice sa m sc, .slice pa k pc] w fun e w' => e = .returned (.tuple #[.int .i64 (nmV op l st pk), .int .i64 (nmE op l st pk)]) ∧ Keeps None w w' := by
  have HS : Hid (Seen w a n l ∧ SeenV w sa m (bv' st) ∧ SeenV w pa k (iv pk) ∧ k ≤ pc ∧ Fits (putsD l)) := ⟨hS, hT, hP, hpc, hf⟩
  have HL : Hid (m = st.length ∧ k = pk.length) := ⟨by have := hT.len; rwa [bv_len] at this, by have := hP.len; rwa [iv_len] at this⟩
  clear hS hT hP hpc hf
  obtain ⟨E0, hE0⟩ : ∃ E, E = foldErr op ((0 : Nat) : Int) := ⟨_, rfl⟩
  by_cases h0 : foldErr op ((0 : Nat) : Int) = 0
  · have hu := (foldErr_ok h0).1
    obtain ⟨E, hE⟩ : ∃ E, E = refE l st pk := ⟨_, rfl⟩
    obtain ⟨V0, hV0⟩ : ∃ V, V = nmV op l st pk := ⟨_, rfl⟩
    have e1 : nmE op l st pk = E := by unfold nmE; rw [if_pos h0, hE]
    have HF : Hid (foldErr op ((0 : Nat) : Int) = 0 ∧ hasU op = true ∧ E = refE l st pk ∧ V0 = if E = 0 then foldV op (putsD l) else 0) := ⟨h0, hu, hE, by rw [hV0]; unfold nmV; rw [e1]⟩
    rw [e1, ← hV0]
    clear h0 hu hE e1 hE0 hV0
    go_enter Try.func21, Try.ntmps21
    go_wp2_with fail
    refine (fold_ok op none 0 0 [] w HF.out.1 rfl (seg_nil w)).mono ?_
    rintro e w1 ⟨rfl, rfl⟩
    have hun : foldV op [] = unitV op := rfl
    rw [hun]
    clear hun
    go_wp2_with fail
    refine (refused_ok a n c l sa m sc st pa k pc pk w1 HS.out.1 HL.out.1 HL.out.2).mono ?_
    rintro e w2 ⟨rfl, hk2⟩
    rw [← HF.out.2.2.1]
    have HK2 : Hid (Keeps None w1 w2) := hk2
    clear hk2
    by_cases hE : E = 0
    · have HV : Hid (V0 = foldV op (putsD l)) := by have h := HF.out.2.2.2; rw [if_pos hE] at h; exact h
      have HE0 : Hid (refE l st pk = 0) := by rw [← HF.out.2.2.1]; exact hE
      subst hE
      go_wp2_with fail
      refine (numbers_ok op (unitV op) w2).mono ?_
      rintro e w3 ⟨K0, hop, rfl, hb1, hb2, hk3⟩
      have HK3 : Hid (Keeps None w1 w3) := HK2.out.trans hk3 (fun _ f _ => f)
      have HB : Hid (hasU K0.op = true ∧ w3.cell? ⟨K0.pa, 0, none⟩ = some (.int .i64 K0.op) ∧ w3.cell? ⟨K0.pu, 0, none⟩ = some (.int .i64 (unitV K0.op)) ∧ K0.op = op) := ⟨by rw [hop]; exact HF.out.2.1, by rw [hop]; exact hb1, by rw [hop]; exact hb2, hop⟩
      clear hop hb1 hb2 hk3
      obtain ⟨KV, hKV⟩ : ∃ V, V = kindV K0 := ⟨_, rfl⟩
      rw [← hKV]
      have HKV : Hid (KV = kindV K0) := hKV
      clear hKV
      go_wp2_with fail
      rw [HKV.out]
      refine (play_raw K0 a n c l sa m sc st pa k pc pk w3 (HS.out.1.more HK3.out) (HS.out.2.1.more HK3.out) (HS.out.2.2.1.more HK3.out) HS.out.2.2.2.1 HE0.out HB.out.1 HS.out.2.2.2.2 HB.out.2.1 HB.out.2.2.1).mono ?_
      rintro e w4 ⟨pb, vb, vc, rfl, q6, q0, hk4⟩
      rw [HB.out.2.2.2] at q0
      have hpos : 0 < (finPS l st pk).vs.length := fin_pos l st pk (kinds_of (refE_ok HE0.out).2.2.2)
      obtain ⟨VL, hVL⟩ : ∃ VL, VL = (finPS l st pk).vs.length := ⟨_, rfl⟩
      rw [← hVL] at q6 hpos
      rw [← HV.out] at q0
      have i1 : (0 : Int) < (VL : Int) := by omega
      have HK4 : Hid (Keeps None w1 w4) := HK3.out.trans hk4 (fun _ f _ => f)
      clear hVL hk4
      go_wp2
      go_ret2
      exact ⟨rfl, HK4.out⟩
    · have HV : Hid (V0 = 0) := by have h := HF.out.2.2.2; rw [if_neg hE] at h; exact h
      have hE2 : (E != 0) = true := by simp [hE]
      go_wp2
      go_ret2
      exact ⟨by rw [HV.out]; rfl, HK2.out⟩
  · have e1 : nmE op l st pk = E0 := by unfold nmE; rw [if_neg h0, hE0]
    have hE : E0 ≠ 0 := by rw [hE0]; exact h0
    have e2 : nmV op l st pk = 0 := by unfold nmV; rw [e1, if_neg hE]
    have HF : Hid (foldErr op ((0 : Nat) : Int) ≠ 0 ∧ E0 = foldErr op ((0 : Nat) : Int)) := ⟨h0, hE0⟩
    rw [e1, e2]
    have hE2 : (E0 != 0) = true := by simp [hE]
    clear h0 hE0 e1 e2
    go_enter Try.func21, Try.ntmps21
    go_wp2_with fail
    refine (fold_err op none 0 0 w HF.out.1).mono ?_
    rintro e w1 ⟨rfl, rfl⟩
    rw [← HF.out.2]
    go_wp2
    go_ret2
    exact ⟨rfl, Keeps.refl _ _⟩
end Go.Proofs.Ytdiabpoafennlaa.Nm
/-! Looks, plainly: each is a stretch of what was put that ends there, and all of it where no stolen continuation is out. -/
namespace Go.Proofs.Ytdiabpoafennlaa
set_option linter.unusedVariables false
set_option maxRecDepth 20000
set_option linter.unusedSimpArgs false

/-- Whether no open task has a stolen continuation begun since its last sync; the tasks above the nearest first. -/
def cmB (st : List Bool) : List (Int × Int) → List Nat → Nat → List Nat → Nat → Bool
  | [], out, o, _, _ => (o :: out).all (fun x => x == 0)
  | d :: ds, out, o, wh, sp =>
    if d.1 = 0 then cmB st ds (o :: out) 0 (sp :: wh) (sp + 1)
    else if d.1 = 2 then cmB st ds out 0 wh sp
    else if d.1 = 1 then (match out, wh with
      | o' :: out, t :: wh => cmB st ds out (o' + if st.getD t false = true then 1 else 0) wh sp
      | _, _ => false)
    else cmB st ds out o wh sp
theorem lk_rows : ∀ {row : List Nat} {ini : List (Nat × List Nat)}, Lk row ini → ∀ t ∈ ini, t.2 ≠ []
  | row, [], h, t, ht => by simp at ht
  | row, u :: ini, h, t, ht => by
    rcases List.mem_cons.1 ht with rfl | ht
    · exact h.2.2.ne
    · exact lk_rows h.2.2 t ht
/-- Every open row has one view. -/
def OneEach (s : HS (List Int)) : Prop := s.m.row.length = 1 ∧ ∀ t ∈ s.ini, t.2.length = 1
def restL (ini : List (Nat × List Nat)) : List Nat := ini.map (fun t => t.2.length - 1)
theorem len_pos {row : List Nat} (h : row ≠ []) : 1 ≤ row.length := List.length_pos_iff.2 h
theorem calm_run (st : List Bool) : ∀ (ds : List (Int × Int)) (n : Nat) (P : List Int) (s : HS (List Int)), KindsOk ds → HInv P s → cmB st ds (restL s.ini) (s.m.row.length - 1) (opsL s.sp s.ini) s.spn = true → OneEach (s.run listK st ds n) := by
  intro ds
  induction ds with
  | nil =>
    intro n P s _ h hc
    have h1 := len_pos h.lk.ne
    have h2 := lk_rows h.lk
    unfold cmB at hc
    rw [List.all_eq_true] at hc
    refine ⟨?_, fun t ht => ?_⟩
    · have := hc _ (List.mem_cons_self ..)
      simp at this
      show s.m.row.length = 1
      omega
    · have h3 := hc (t.2.length - 1) (List.mem_cons_of_mem _ (List.mem_map.2 ⟨t, ht, rfl⟩))
      have := len_pos (h2 t ht)
      simp at h3
      omega
  | cons d ds ih =>
    intro n P s hkd h hc
    have hh := hinv_deed st n d.1 d.2 h
    have h0 := len_pos h.lk.ne
    refine ih (n + 1) _ _ (fun x hx => hkd x (List.mem_cons_of_mem _ hx)) hh ?_
    have hall : (s.m.all listK n).row.length = 1 := by
      obtain ⟨v, hv, -⟩ := s.m.all_head listK n h0
      rw [hv]; rfl
    unfold cmB at hc
    unfold HS.deed
    by_cases e4 : d.1 = 4
    · rw [if_pos e4]
      rw [if_neg (by omega), if_neg (by omega), if_neg (by omega)] at hc
      exact hc
    rw [if_neg e4]
    by_cases e3 : d.1 = 3
    · rw [if_pos e3]
      rw [if_neg (by omega), if_neg (by omega), if_neg (by omega)] at hc
      exact hc
    rw [if_neg e3]
    by_cases e0 : d.1 = 0
    · rw [if_pos e0]
      rw [if_pos e0] at hc
      exact hc
    rw [if_neg e0]
    rw [if_neg e0] at hc
    by_cases e2 : d.1 = 2
    · rw [if_pos e2]
      rw [if_pos e2] at hc
      show cmB st ds (restL s.ini) ((s.m.all listK n).row.length - 1) (opsL s.sp s.ini) s.spn = true
      rw [hall]
      exact hc
    rw [if_neg e2]
    rw [if_neg e2] at hc
    unfold HS.back
    by_cases e1 : d.1 = 1
    · rw [if_pos e1] at hc
      cases hi : s.ini with
      | nil => rw [hi] at hc; exact (Bool.false_ne_true hc).elim
      | cons t ini =>
        rw [hi] at hc
        have hne := len_pos (lk_rows h.lk t (by rw [hi]; exact List.mem_cons_self ..))
        have hc2 : cmB st ds (restL ini) (t.2.length - 1 + if st.getD s.sp false = true then 1 else 0) (opsL t.1 ini) s.spn = true := hc
        by_cases ht : st.getD s.sp false = true
        · simp only [if_pos ht] at hc2 ⊢
          show cmB st ds (restL ini) ((t.2 ++ [(s.m.all listK n).vs.length]).length - 1) (opsL t.1 ini) s.spn = true
          rw [List.length_append, List.length_singleton]
          rw [show t.2.length + 1 - 1 = t.2.length - 1 + 1 by omega]
          exact hc2
        · simp only [if_neg ht] at hc2 ⊢
          exact hc2
    · have := hkd d (List.mem_cons_self ..)
      omega
theorem pre_one : ∀ {ini : List (Nat × List Nat)}, (∀ t ∈ ini, t.2.length = 1) → preL ini = []
  | [], _ => rfl
  | t :: ini, h => by
    rw [preL, pre_one (fun u hu => h u (List.mem_cons_of_mem _ hu))]
    have := h t (List.mem_cons_self ..)
    match t, this with
    | (_, [_]), _ => rfl
def lookS (s : HS (List Int)) : List Int := s.m.vs.getD s.hand []
/-- What the hand's view holds ends what was put; where every row has one view it is all. -/
theorem look_end {P : List Int} {s : HS (List Int)} (h : HInv P s) : (∃ A, P = A ++ lookS s) ∧ (OneEach s → P = lookS s) := by
  have hne := h.lk.ne
  have hs := hand_split hne
  have hc := h.line.cat
  have e : preL s.ini ++ s.m.row = (preL s.ini ++ s.m.row.dropLast) ++ [s.hand] := by
    rw [List.append_assoc]
    conv => lhs; rw [hs]
    rfl
  have hl : catL s.m.vs [s.hand] = lookS s := by simp [catL, lookS]
  rw [e, catL_app, hl] at hc
  refine ⟨⟨_, hc.symm⟩, fun ho => ?_⟩
  rw [pre_one ho.2] at hc
  have : s.m.row.dropLast = [] := List.eq_nil_of_length_eq_zero (by rw [List.length_dropLast]; have := ho.1; omega)
  rw [this] at hc
  exact hc.symm
def rdsL (ds : List (Int × Int)) : Nat := (ds.filter (fun d => d.1 == 3)).length
theorem rdsL_cons (d : Int × Int) (ds : List (Int × Int)) : rdsL (d :: ds) = (if d.1 = 3 then 1 else 0) + rdsL ds := by
  unfold rdsL
  by_cases h : d.1 = 3 <;> simp [h]; omega
theorem deed_lk (st : List Bool) (n : Nat) (d : Int × Int) (s : HS (List Int)) : (s.deed listK st n d.1 d.2).lk = s.lk ++ if d.1 = 3 then [lookS s] else [] := by
  unfold HS.deed
  by_cases h4 : d.1 = 4
  · rw [if_pos h4, if_neg (by omega)]; simp
  rw [if_neg h4]
  by_cases h3 : d.1 = 3
  · rw [if_pos h3, if_pos h3]; rfl
  rw [if_neg h3, if_neg h3, List.append_nil]
  split
  · rfl
  · split
    · rfl
    · unfold HS.back
      split
      · rfl
      · split <;> rfl
theorem run_lk (st : List Bool) : ∀ (ds : List (Int × Int)) (n : Nat) (s : HS (List Int)), ∃ r, (s.run listK st ds n).lk = s.lk ++ r ∧ r.length = rdsL ds := by
  intro ds
  induction ds with
  | nil => intro n s; exact ⟨[], by simp [HS.run], rfl⟩
  | cons d ds ih =>
    intro n s
    obtain ⟨r, h1, h2⟩ := ih (n + 1) (s.deed listK st n d.1 d.2)
    rw [deed_lk, List.append_assoc] at h1
    refine ⟨_, h1, ?_⟩
    rw [rdsL_cons, List.length_append, h2]
    split <;> rfl
theorem run_app (st : List Bool) : ∀ (a b : List (Int × Int)) (n : Nat) (s : HS (List Int)), s.run listK st (a ++ b) n = (s.run listK st a n).run listK st b (n + a.length) := by
  intro a
  induction a with
  | nil => intro b n s; rfl
  | cons d a ih =>
    intro b n s
    show (s.deed listK st n d.1 d.2).run listK st (a ++ b) (n + 1) = _
    rw [ih]
    show _ = ((s.deed listK st n d.1 d.2).run listK st a (n + 1)).run listK st b (n + (a.length + 1))
    rw [show n + 1 + a.length = n + (a.length + 1) by omega]
def rdD (l : List Dd) : Nat := (l.filter (fun d => d.k == 3)).length
theorem rdD_eq (l : List Dd) : rdsL (l.map dp) = rdD l := by
  unfold rdsL rdD
  rw [List.filter_map, List.length_map]
  rfl
theorem rdD_more {l : List Dd} {k : Nat} {x : Dd} (hx : l[k]? = some x) : rdD (l.take (k + 1)) = rdD (l.take k) + if x.k = 3 then 1 else 0 := by
  rw [takeD hx]
  unfold rdD
  by_cases h : x.k = 3 <;> simp [h]
theorem fin_lk_len (l : List Dd) (st : List Bool) (pk : List Int) : (finPS l st pk).lk.length = rdD l := by
  obtain ⟨r, h1, h2⟩ := run_lk st (l.map dp) 0 (HS.start listK pk)
  show ((HS.start listK pk).run listK st (l.map dp) 0).lk.length = _
  rw [h1, List.length_append, h2, rdD_eq]
  exact Nat.zero_add _
theorem look_at {l : List Dd} (h : chkL l 0 0 = none) (st : List Bool) (pk : List Int) {i : Nat} {x : Dd} (hx : l[i]? = some x) (h3 : x.k = 3) :
    ∃ z A, (finPS l st pk).lk[rdD (l.take i)]? = some z ∧ putsD (l.take i) = A ++ z ∧ (cmB st ((l.take i).map dp) [] 0 [] 0 = true → A = []) := by
  obtain ⟨hi, hx2⟩ := List.getElem?_eq_some_iff.1 hx
  have e : l.map dp = (l.take i).map dp ++ (dp x :: (l.drop (i + 1)).map dp) := by
    conv => lhs; rw [← List.take_append_drop i l, List.map_append]
    rw [List.drop_eq_getElem_cons hi, hx2]
    rfl
  have hinv := hinv_run st ((l.take i).map dp) 0 [] _ (hinv_start pk)
  rw [List.nil_append, putsD_eq] at hinv
  have hkd : KindsOk ((l.take i).map dp) := fun d hd => kinds_of h d (by rw [e]; exact List.mem_append_left _ hd)
  have hcalm := calm_run st ((l.take i).map dp) 0 [] _ hkd (hinv_start pk)
  obtain ⟨r0, a1, a2⟩ := run_lk st ((l.take i).map dp) 0 (HS.start listK pk)
  generalize hs : (HS.start listK pk).run listK st ((l.take i).map dp) 0 = s at hinv hcalm a1
  obtain ⟨⟨A, hA⟩, hO⟩ := look_end hinv
  refine ⟨lookS s, A, ?_, hA, fun hc => ?_⟩
  · show ((HS.start listK pk).run listK st (l.map dp) 0).lk[_]? = _
    rw [e, run_app, hs]
    obtain ⟨r, b1, -⟩ := run_lk st ((l.drop (i + 1)).map dp) (0 + ((l.take i).map dp).length + 1) (s.deed listK st (0 + ((l.take i).map dp).length) (dp x).1 (dp x).2)
    show (((s.deed listK st (0 + ((l.take i).map dp).length) (dp x).1 (dp x).2)).run listK st ((l.drop (i + 1)).map dp) (0 + ((l.take i).map dp).length + 1)).lk[_]? = _
    rw [b1, deed_lk, if_pos (show (dp x).1 = 3 from h3), a1]
    have a3 : r0.length = rdD (l.take i) := by rw [a2, rdD_eq]
    show ((([] : List (List Int)) ++ r0 ++ [lookS s]) ++ r)[_]? = _
    rw [List.nil_append, List.append_assoc, List.getElem?_append_right (by omega), a3, Nat.sub_self]
    rfl
  · have := hO (hcalm hc)
    rw [this] at hA
    have hl := congrArg List.length hA
    rw [List.length_append] at hl
    exact List.eq_nil_of_length_eq_zero (by omega)
/-- Where nothing is stolen there is one view and no merge. -/
theorem made_none : ∀ (ds : List (Int × Int)) (n : Nat) (op : List Nat), madeL [] ds n op = 0 := by
  intro ds
  induction ds with
  | nil => intro n op; rfl
  | cons d ds ih =>
    intro n op
    rw [madeL_cons]
    split
    · exact ih _ _
    · split
      · cases op with
        | nil => exact ih _ _
        | cons k op => simp [ih]
      · exact ih _ _
theorem none_one {l : List Dd} (h : chkL l 0 0 = none) (pk : List Int) : (finPS l [] pk).vs.length = 1 ∧ (finPS l [] pk).mg = [] := by
  have h1 : (finPS l [] pk).vs.length = 1 := by
    show (endMS listK [] (l.map dp) pk).vs.length = 1
    rw [made_all _ _ _ _ (kinds_of h), made_none]
  have h2 : (finPS l [] pk).mg.length + [0].length = (finPS l [] pk).vs.length := (counts_all [] (l.map dp) pk (kinds_of h)).cnt
  rw [h1] at h2
  refine ⟨h1, List.eq_nil_of_length_eq_zero ?_⟩
  have h3 : [0].length = 1 := rfl
  omega
theorem refE_none {l : List Dd} {st : List Bool} {pk : List Int} (h : refE l st pk = 0) : refE l [] pk = 0 := by
  unfold refE at *
  split at h
  · omega
  · rename_i hn
    rw [if_neg (by simp; omega)]; exact h
end Go.Proofs.Ytdiabpoafennlaa
/-! Two stacks of numbers of the law's own; is a deed's time calm? -/
namespace Go.Proofs.Ytdiabpoafennlaa
set_option linter.unusedVariables false
set_option maxRecDepth 20000
set_option linter.unusedSimpArgs false
open Go.RowKit Go.HeapKit

structure Cst (w : World) (B : Nat) (a5 : Option Addr) (M c5 : Nat) (a6 : Option Addr) (N c6 : Nat) (mo mw : List Nat) : Prop where
  r5 : w.ownsRow B 3 1 (.slice a5 M c5) M (nv mo)
  r6 : w.ownsRow B 3 1 (.slice a6 N c6) N (nv mw)
  ap : ∀ g, a5 = some ⟨g, 0, none⟩ → a6 ≠ some ⟨g, 0, none⟩
variable {w w' : World} {B : Nat} {a5 a6 : Option Addr} {M c5 N c6 : Nat} {mo mw : List Nat}
theorem Cst.len5 (h : Cst w B a5 M c5 a6 N c6 mo mw) : M = mo.length := by have := h.r5.1; rw [nv_len] at this; omega
theorem Cst.len6 (h : Cst w B a5 M c5 a6 N c6 mo mw) : N = mw.length := by have := h.r6.1; rw [nv_len] at this; omega
theorem own_slice {a : Option Addr} {n c g : Nat} (h : a = some ⟨g, 0, none⟩) : (Value.slice a n c).ownBlock = some g := by subst h; rfl
theorem Cst.more (h : Cst w B a5 M c5 a6 N c6 mo mw) (hk : Keeps None w w') : Cst w' B a5 M c5 a6 N c6 mo mw :=
  ⟨row_kept h.r5 hk (fun _ _ f => f), row_kept h.r6 hk (fun _ _ f => f), h.ap⟩
theorem Cst.push5 (h : Cst w B a5 M c5 a6 N c6 mo mw) (hB : B ≤ w.heap.size) (x : Nat) (hM : M ≤ 100000) (ty : TypeId) :
    ∃ g cap w', (Builtin.append_ #[24, 24] ty #[.slice a5 M c5, .slice (some ⟨w.heap.size, 0, none⟩) 1 1]).run Try.prog (w.alloc (.cells #[.int .i64 x] 3)) = .ok (.slice (some ⟨g, 0, none⟩) (M + 1) cap) w' ∧
      Cst w' B (some ⟨g, 0, none⟩) (M + 1) cap a6 N c6 (mo ++ [x]) mw ∧ Keeps (fun i => B ≤ i) w w' := by
  have hl := h.len5
  have hka := Keeps.alloc None w (.cells #[.int .i64 x] 3)
  have h5 := row_kept h.r5 hka (fun _ _ f => f)
  have h6 := row_kept h.r6 hka (fun _ _ f => f)
  have hap := h.ap
  subst hl
  obtain ⟨g, cp, w2, hr, ho, hk3, hm3⟩ := row1_more B (.slice a5 mo.length c5) mo x ty w.heap.size (w.alloc (.cells #[.int .i64 x] 3)) h5 (by simp; omega) (by omega) (blk_new _ _ _ rfl)
  refine ⟨g, cp, w2, hr, ⟨?_, row_kept h6 hk3 (fun g6 e6 e5 => hap g6 (own_a h5 e5) (own_a h6 e6)), ?_⟩, (hka.mono (T := fun i => B ≤ i) (fun _ f _ => f.elim)).trans hk3 (fun i e _ => row_low h5 e)⟩
  · rw [List.length_append, List.length_singleton] at ho; exact ho
  · intro g' e e6
    injection e with e
    injection e with e
    subst e
    rcases hm3 with hm | hm
    · exact hap g (own_a h5 hm) e6
    · have := own_lt h.r6 (own_slice e6)
      simp at hm
      omega
theorem Cst.push6 (h : Cst w B a5 M c5 a6 N c6 mo mw) (hB : B ≤ w.heap.size) (x : Nat) (hN : N ≤ 100000) (ty : TypeId) :
    ∃ g cap w', (Builtin.append_ #[24, 24] ty #[.slice a6 N c6, .slice (some ⟨w.heap.size, 0, none⟩) 1 1]).run Try.prog (w.alloc (.cells #[.int .i64 x] 3)) = .ok (.slice (some ⟨g, 0, none⟩) (N + 1) cap) w' ∧
      Cst w' B a5 M c5 (some ⟨g, 0, none⟩) (N + 1) cap mo (mw ++ [x]) ∧ Keeps (fun i => B ≤ i) w w' := by
  have hl := h.len6
  have hka := Keeps.alloc None w (.cells #[.int .i64 x] 3)
  have h5 := row_kept h.r5 hka (fun _ _ f => f)
  have h6 := row_kept h.r6 hka (fun _ _ f => f)
  have hap := h.ap
  subst hl
  obtain ⟨g, cp, w2, hr, ho, hk3, hm3⟩ := row1_more B (.slice a6 mw.length c6) mw x ty w.heap.size (w.alloc (.cells #[.int .i64 x] 3)) h6 (by simp; omega) (by omega) (blk_new _ _ _ rfl)
  refine ⟨g, cp, w2, hr, ⟨row_kept h5 hk3 (fun g5 e5 e6 => hap g5 (own_a h5 e5) (own_a h6 e6)), ?_, ?_⟩, (hka.mono (T := fun i => B ≤ i) (fun _ f _ => f.elim)).trans hk3 (fun i e _ => row_low h6 e)⟩
  · rw [List.length_append, List.length_singleton] at ho; exact ho
  · intro g' e e6
    injection e6 with e6
    injection e6 with e6
    subst e6
    rcases hm3 with hm | hm
    · exact hap g e (own_a h6 hm)
    · have := own_lt h.r5 (own_slice e)
      simp at hm
      omega
theorem nv_put (l : List Nat) (k x : Nat) : (nv l).set k (.int .i64 x) = nv (l.set k x) := by simp [nv, iv, nI]
theorem Cst.set5 {g : Nat} (h : Cst w B (some ⟨g, 0, none⟩) M c5 a6 N c6 mo mw) (k x : Nat) : Cst (w.setCell ⟨g, k, none⟩ (.int .i64 x)) B (some ⟨g, 0, none⟩) M c5 a6 N c6 (mo.set k x) mw := by
  refine ⟨?_, row_kept h.r6 (keeps_one (Keeps.refl _ w) _) (fun g6 e6 e => h.ap g rfl (by have := own_a h.r6 e6; rw [this]; have e2 : g6 = g := e; rw [e2])), h.ap⟩
  rw [← nv_put]
  exact row_set h.r5 k _
theorem Cst.pop5 {x : Nat} (h : Cst w B a5 (M + 1) c5 a6 N c6 (mo ++ [x]) mw) : Cst w B a5 M c5 a6 N c6 mo mw := by
  have h5 := h.r5
  rw [nv_snoc] at h5
  exact ⟨row_shrink h5, h.r6, h.ap⟩
theorem Cst.pop6 {x : Nat} (h : Cst w B a5 M c5 a6 (N + 1) c6 mo (mw ++ [x])) : Cst w B a5 M c5 a6 N c6 mo mw := by
  have h6 := h.r6
  rw [nv_snoc] at h6
  exact ⟨h.r5, row_shrink h6, h.ap⟩
theorem Cst.at5 (h : Cst w B a5 M c5 a6 N c6 mo mw) {k x : Nat} (hx : mo[k]? = some x) : ∃ g, a5 = some ⟨g, 0, none⟩ ∧ B ≤ g ∧ g < w.heap.size ∧ M ≤ c5 ∧ w.cell? ⟨g, k, none⟩ = some (.int .i64 x) ∧ ∀ i, w.frozen? ⟨g, i, none⟩ = false :=
  own_cellS h.r5 (nv_at hx)
theorem Cst.at6 (h : Cst w B a5 M c5 a6 N c6 mo mw) {k x : Nat} (hx : mw[k]? = some x) : ∃ g, a6 = some ⟨g, 0, none⟩ ∧ B ≤ g ∧ g < w.heap.size ∧ N ≤ c6 ∧ w.cell? ⟨g, k, none⟩ = some (.int .i64 x) ∧ ∀ i, w.frozen? ⟨g, i, none⟩ = false :=
  own_cellS h.r6 (nv_at hx)
end Go.Proofs.Ytdiabpoafennlaa
/-! The walk of calm. -/
namespace Go.Proofs.Ytdiabpoafennlaa
set_option linter.unusedVariables false
set_option maxRecDepth 20000
set_option linter.unusedSimpArgs false
open Go.RowKit Go.HeapKit

theorem cm_cons (st : List Bool) (d : Int × Int) (ds : List (Int × Int)) (out : List Nat) (o : Nat) (wh : List Nat) (sp : Nat) : cmB st (d :: ds) out o wh sp = if d.1 = 0 then cmB st ds (o :: out) 0 (sp :: wh) (sp + 1)
    else if d.1 = 2 then cmB st ds out 0 wh sp
    else if d.1 = 1 then (match out, wh with
      | o' :: out, t :: wh => cmB st ds out (o' + if st.getD t false = true then 1 else 0) wh sp
      | _, _ => false)
    else cmB st ds out o wh sp := rfl
theorem cm_0 (st : List Bool) (x : Dd) (ds : List (Int × Int)) (out : List Nat) (o : Nat) (wh : List Nat) (sp : Nat) (h : x.k = 0) : cmB st (dp x :: ds) out o wh sp = cmB st ds (o :: out) 0 (sp :: wh) (sp + 1) := by
  rw [cm_cons, if_pos (show (dp x).1 = 0 from h)]
theorem cm_2 (st : List Bool) (x : Dd) (ds : List (Int × Int)) (out : List Nat) (o : Nat) (wh : List Nat) (sp : Nat) (h : x.k = 2) : cmB st (dp x :: ds) out o wh sp = cmB st ds out 0 wh sp := by
  rw [cm_cons, if_neg (show ¬ (dp x).1 = 0 by show ¬ x.k = 0; omega), if_pos (show (dp x).1 = 2 from h)]
theorem cm_1n (st : List Bool) (x : Dd) (ds : List (Int × Int)) (o : Nat) (wh : List Nat) (sp : Nat) (h : x.k = 1) : cmB st (dp x :: ds) [] o wh sp = false := by
  rw [cm_cons, if_neg (show ¬ (dp x).1 = 0 by show ¬ x.k = 0; omega), if_neg (show ¬ (dp x).1 = 2 by show ¬ x.k = 2; omega), if_pos (show (dp x).1 = 1 from h)]
theorem cm_1 (st : List Bool) (x : Dd) (ds : List (Int × Int)) (o' : Nat) (out : List Nat) (o t : Nat) (wh : List Nat) (sp : Nat) (h : x.k = 1) : cmB st (dp x :: ds) (o' :: out) o (t :: wh) sp = cmB st ds out (o' + if st.getD t false = true then 1 else 0) wh sp := by
  rw [cm_cons, if_neg (show ¬ (dp x).1 = 0 by show ¬ x.k = 0; omega), if_neg (show ¬ (dp x).1 = 2 by show ¬ x.k = 2; omega), if_pos (show (dp x).1 = 1 from h)]
theorem cm_o (st : List Bool) (x : Dd) (ds : List (Int × Int)) (out : List Nat) (o : Nat) (wh : List Nat) (sp : Nat) (h0 : ¬ x.k = 0) (h2 : ¬ x.k = 2) (h1 : ¬ x.k = 1) : cmB st (dp x :: ds) out o wh sp = cmB st ds out o wh sp := by
  rw [cm_cons, if_neg (show ¬ (dp x).1 = 0 from h0), if_neg (show ¬ (dp x).1 = 2 from h2), if_neg (show ¬ (dp x).1 = 1 from h1)]
theorem cm_end (st : List Bool) (out : List Nat) (o : Nat) (wh : List Nat) (sp : Nat) : cmB st [] out o wh sp = (out.reverse ++ [o]).all (fun x => x == 0) := by
  rw [cmB]
  simp [Bool.and_comm]
def mo' (out : List Nat) (o : Nat) : List Nat := out.reverse ++ [o]
theorem mo_last (out : List Nat) (o : Nat) : (mo' out o)[out.length]? = some o := by unfold mo'; rw [List.getElem?_append_right (by simp)]; simp
theorem mo_put (out : List Nat) (o x : Nat) : (mo' out o).set out.length x = mo' out x := by unfold mo'; rw [List.set_append_right _ _ (by simp)]; simp
theorem mo_cons (o' : Nat) (out : List Nat) (o : Nat) : mo' (o' :: out) o = mo' out o' ++ [o] := by unfold mo'; rw [List.reverse_cons]
theorem mo_len (out : List Nat) (o : Nat) : (mo' out o).length = out.length + 1 := by simp [mo']
theorem rev_last (t : Nat) (wh : List Nat) : (t :: wh).reverse[wh.length]? = some t := by rw [List.reverse_cons, List.getElem?_append_right (by simp)]; simp
set_option maxHeartbeats 6400000 in
theorem calm_ok (a0 a1 a2 : Option Addr) (n0 c0 n1 c1 n2 c2 q : Nat) (l : List Dd) (st : List Bool) (w : World) (h0 : Seen w a0 n0 l) (h1 : SeenV w a1 n1 (bv' st)) (hn : n0 ≤ 4096) (hq : q ≤ n0) (B : Bool) (hB : cmB st ((l.take q).map dp) [] 0 [] 0 = B) :
    Calls Try.prog 20 #[.agg #[.slice a0 n0 c0, .slice a1 n1 c1, .slice a2 n2 c2], .int .i64 q] w fun e w' => e = .returned (.bool B) ∧ Keeps None w w' := by
  have HL : Hid (n0 = l.length) := h0.len
  obtain ⟨p0, hp0⟩ : ∃ p0, p0 = w.heap.size := ⟨_, rfl⟩
  have hb0 := blk_new w (.cells #[.slice a0 n0 c0, .slice a1 n1 c1, .slice a2 n2 c2] 26) p0 hp0.symm
  have hkb := (Keeps.alloc None w (.cells #[.slice a0 n0 c0, .slice a1 n1 c1, .slice a2 n2 c2] 26))
  go_enter Try.func20, Try.ntmps20
  go_upto_region 1 with fail
  rw [← hp0]
  clear hp0
  generalize w.alloc (.cells #[.slice a0 n0 c0, .slice a1 n1 c1, .slice a2 n2 c2] 26) = wb at *
  have HB : Hid (∀ wx, Keeps None wb wx → (wx.cell? ⟨p0, 0, none⟩ = some (.slice a0 n0 c0) ∧ wx.cell? ⟨p0, 1, none⟩ = some (.slice a1 n1 c1) ∧ wx.cell? ⟨p0, 2, none⟩ = some (.slice a2 n2 c2)) ∧ Seen wx a0 n0 l ∧ SeenV wx a1 n1 (bv' st)) := fun wx hx => ⟨⟨blk_cell (blk_kept hb0 hx (fun f => f)) 0, blk_cell (blk_kept hb0 hx (fun f => f)) 1, blk_cell (blk_kept hb0 hx (fun f => f)) 2⟩, (h0.more hkb).more hx, (h1.more hkb).more hx⟩
  have HK : Hid (Keeps None w wb) := hkb
  have H0 : Hid (Cst (wb.alloc (.cells #[.int .i64 0] 3)) wb.heap.size (some ⟨wb.heap.size, 0, none⟩) 1 1 none 0 0 (mo' [] 0) ([] : List Nat).reverse ∧ Keeps None wb (wb.alloc (.cells #[.int .i64 0] 3))) := by
    refine ⟨⟨⟨by simp [nv, iv, nI, mo'], .inr ⟨wb.heap.size, 1, #[.int .i64 0], rfl, Nat.le_refl _, heap_alloc_new _ _, Nat.le_refl _, by unfold maxLen; omega, by simp, by simp [nv, iv, nI, mo']⟩⟩, row_nil _ _ _ _, fun g _ e => by cases e⟩, Keeps.alloc None wb _⟩
  obtain ⟨W, hW⟩ : ∃ W, W = wb.heap.size := ⟨_, rfl⟩
  have HW : Hid (W = wb.heap.size) := hW
  rw [← hW] at H0
  clear h0 h1 hb0 hkb
  go_wp2_with fail
  rw [← hW]
  clear hW
  generalize wb.alloc (.cells #[.int .i64 0] 3) = wc at *
  go_loopw [5, 6, 7, 8, 9] (fun ov wv s i nn wr => ∃ (k sp o M c5 N c6 : Nat) (out wh : List Nat) (a5 a6 : Option Addr), k ≤ q ∧ i = .int .i64 k ∧ s = .int .i64 sp ∧ ov = .slice a5 M c5 ∧ wv = .slice a6 N c6 ∧ Cst wr W a5 M c5 a6 N c6 (mo' out o) wh.reverse ∧ Keeps None wb wr ∧ cmB st (((l.take q).drop k).map dp) out o wh sp = B ∧ wh.length = out.length ∧ sp ≤ k ∧ out.length ≤ k ∧ (∀ x ∈ mo' out o, x ≤ k)) (fun _ _ _ i _ _ => q - (intOf i).toNat)
  case atStart => exact ⟨0, 0, 0, 1, 1, 0, 0, [], [], _, _, Nat.zero_le _, rfl, rfl, rfl, rfl, H0.out.1, H0.out.2, hB, rfl, Nat.le_refl _, Nat.le_refl _, by simp [mo']⟩
  case round =>
    obtain ⟨k, sp, o, M, c5, N, c6, out, wh, a5, a6, hk, rfl, rfl, rfl, rfl, hC, hkp, hcm, hwl, hsp, hop, hle⟩ := hrel
    have hM := hC.len5
    have hN := hC.len6
    rw [mo_len] at hM
    rw [List.length_reverse] at hN
    obtain ⟨⟨y0, y1, y2⟩, hS, hT⟩ := HB.out wr hkp
    by_cases hkn : k < q
    · obtain ⟨b, off, x, rfl, hb, hx, u0, u1⟩ := hS.elem (show k < n0 by omega)
      have i3 : (k : Int) < (q : Int) := by omega
      have i4 : (k : Int) < (n0 : Int) := by omega
      have hmd2 : ((l.take q).drop k).map dp = dp x :: ((l.take q).drop (k + 1)).map dp := by
        have hx2 : (l.take q)[k]? = some x := by rw [List.getElem?_take, if_pos hkn]; exact hx
        obtain ⟨h1, h2⟩ := List.getElem?_eq_some_iff.1 hx2
        rw [List.drop_eq_getElem_cons h1, h2]
        rfl
      rw [hmd2] at hcm
      obtain ⟨xk, xl⟩ := x
      have HKP : Hid (Keeps None wb wr ∧ W ≤ wr.heap.size) := ⟨hkp, by rw [HW.out]; exact hkp.size⟩
      simp only at u0
      have hw1 : wrap64 ((M : Int) - 1) = (out.length : Int) := by unfold wrap64; omega
      by_cases e0 : xk = 0
      · subst e0
        rw [cm_0 _ _ _ _ _ _ _ rfl] at hcm
        obtain ⟨g5, cp5, w2, hr5, hC2, hk2⟩ := hC.push5 HKP.out.2 0 (by omega) 24
        have hs2 : W ≤ w2.heap.size := Nat.le_trans HKP.out.2 hk2.size
        obtain ⟨g6, cp6, w3, hr6, hC3, hk3⟩ := hC2.push6 hs2 sp (by omega) 24
        have hkw3 : Keeps None wb w3 := (hkp.trans hk2 (fun i e hi => by have := HW.out; omega)).trans hk3 (fun i e hi => by have := HW.out; omega)
        have HN : Hid (Cst w3 W (some ⟨g5, 0, none⟩) (M + 1) cp5 (some ⟨g6, 0, none⟩) (N + 1) cp6 (mo' (o :: out) 0) (sp :: wh).reverse ∧ Keeps None wb w3 ∧ cmB st (((l.take q).drop (k + 1)).map dp) (o :: out) 0 (sp :: wh) (sp + 1) = B ∧ (∀ x ∈ mo' (o :: out) 0, x ≤ k + 1)) := by
          refine ⟨?_, hkw3, hcm, ?_⟩
          · rw [mo_cons, List.reverse_cons]; exact hC3
          · intro x hx
            rw [mo_cons] at hx
            rcases List.mem_append.1 hx with hx | hx
            · have := hle x hx; omega
            · simp at hx; omega
        have HL2 : Hid (wh.length = out.length ∧ sp ≤ k ∧ out.length ≤ k) := ⟨hwl, hsp, hop⟩
        obtain ⟨⟨z0, z1, z2⟩, -⟩ := HB.out w3 hkw3
        have hsp5 : sp ≤ 5000 := by omega
        clear hC hC2 hC3 hkp hx hcm hmd2 hk2 hk3 hS hT hkw3 hle hM hN hs2 hwl hsp hop
        go_wp2_with (at_builtin; first | refine wpList_append_run rfl (.tmp 35) (.tmp 36) 24 24 rfl rfl rfl hr5 ?_ | refine wpList_append_run rfl (.tmp 38) (.tmp 40) 24 24 rfl rfl rfl hr6 ?_)
        go_roundw
        case rel => exact ⟨k + 1, sp + 1, 0, M + 1, cp5, N + 1, cp6, o :: out, sp :: wh, _, _, by omega, by go_num, by go_num, rfl, rfl, HN.out.1, HN.out.2.1, HN.out.2.2.1, by simp [HL2.out.1], by have := HL2.out.2.1; omega, by have := HL2.out.2.2; simp; omega, HN.out.2.2.2⟩
        case measure => simp [intOf]; omega
      · by_cases e2 : xk = 2
        · subst e2
          rw [cm_2 _ _ _ _ _ _ _ rfl] at hcm
          obtain ⟨g5, rfl, hg1, hg2, hg3, hc5, hf5⟩ := hC.at5 (mo_last out o)
          have hf5 := hf5 out.length
          have hkw2 : Keeps None wb (wr.setCell ⟨g5, out.length, none⟩ (.int .i64 0)) := hkp.andSet (x := ⟨g5, _, none⟩) (.inr (by have := HW.out; show wb.heap.size ≤ g5; omega)) _
          have HN : Hid (Cst (wr.setCell ⟨g5, out.length, none⟩ (.int .i64 0)) W (some ⟨g5, 0, none⟩) M c5 a6 N c6 (mo' out 0) wh.reverse ∧ Keeps None wb (wr.setCell ⟨g5, out.length, none⟩ (.int .i64 0)) ∧ cmB st (((l.take q).drop (k + 1)).map dp) out 0 wh sp = B ∧ (∀ x ∈ mo' out 0, x ≤ k + 1) ∧ wh.length = out.length ∧ sp ≤ k ∧ out.length ≤ k) := by
            have hC2 := hC.set5 out.length 0
            rw [mo_put] at hC2
            refine ⟨hC2, hkw2, hcm, ?_, hwl, hsp, hop⟩
            intro x hx
            rcases List.mem_append.1 hx with hx | hx
            · have := hle x (List.mem_append_left _ hx); omega
            · simp at hx; omega
          have i5 : (out.length : Int) < (M : Int) := by omega
          have i6 : (0 : Int) ≤ (out.length : Int) := by omega
          clear hC hkp hx hcm hmd2 hS hT hkw2 hle hM hN hwl hsp hop
          go_wp2
          go_roundw
          case rel => exact ⟨k + 1, sp, 0, M, c5, N, c6, out, wh, _, _, by omega, by go_num, rfl, rfl, rfl, HN.out.1, HN.out.2.1, HN.out.2.2.1, HN.out.2.2.2.2.1, by have := HN.out.2.2.2.2.2.1; omega, by have := HN.out.2.2.2.2.2.2; omega, HN.out.2.2.2.1⟩
          case measure => simp [intOf]; omega
        · by_cases e1 : xk = 1
          · subst e1
            cases out with
            | nil =>
              rw [cm_1n _ _ _ _ _ _ rfl] at hcm
              have hw0 : wrap64 ((M : Int) - 1) = 0 := by simp at hM; unfold wrap64; omega
              have HE : Hid (B = false ∧ Keeps None w wr) := ⟨hcm.symm, HK.out.trans hkp (fun _ f _ => f)⟩
              clear hw1 hC hkp hx hcm hmd2 hS hT hle hM hN hwl hsp hop
              go_wp2
              go_ret
              exact ⟨by rw [HE.out.1]; rfl, HE.out.2⟩
            | cons o' out =>
              cases wh with
              | nil => simp at hwl
              | cons t wh =>
                rw [cm_1 _ _ _ _ _ _ _ _ _ rfl] at hcm
                simp only [List.length_cons] at hM hN hwl hop hw1
                obtain ⟨J, hJ⟩ : ∃ J, J = out.length := ⟨_, rfl⟩
                obtain ⟨T, hT1⟩ : ∃ T, T = J + 1 := ⟨_, rfl⟩
                have hwJ : wh.length = J := by omega
                have hCa : Cst wr W a5 T c5 a6 N c6 (mo' out o') (t :: wh).reverse := by
                  have h := hC
                  rw [mo_cons, show M = T + 1 by omega] at h
                  exact h.pop5
                obtain ⟨g6, rfl, -, -, hg6, hc6, -⟩ := hCa.at6 (rev_last t wh)
                have hCb : Cst wr W a5 T c5 (some ⟨g6, 0, none⟩) J c6 (mo' out o') wh.reverse := by
                  have h := hCa
                  rw [List.reverse_cons, show N = J + 1 by omega] at h
                  exact h.pop6
                obtain ⟨g5, rfl, hg1, -, hg5, hc5, hf5⟩ := hCb.at5 (mo_last out o')
                have hf5 := hf5 J
                rw [hwJ] at hc6
                rw [← hJ] at hc5
                rw [← hJ, ← hT1] at hw1
                obtain ⟨v, hv⟩ : ∃ v, v = st.getD t false := ⟨_, rfl⟩
                rw [← hv] at hcm
                have HV : Hid (v = st.getD t false ∧ ∀ wx, Keeps None wr wx → SeenV wx a1 n1 (bv' st)) := ⟨hv, fun wx hx => hT.more hx⟩
                have ho' : o' ≤ k := hle o' (by rw [mo_cons]; exact List.mem_append_left _ (by simp [mo']))
                have HN : Hid (Cst wr W (some ⟨g5, 0, none⟩) T c5 (some ⟨g6, 0, none⟩) J c6 (mo' out o') wh.reverse ∧ cmB st (((l.take q).drop (k + 1)).map dp) out (o' + if v = true then 1 else 0) wh sp = B ∧ (∀ x ∈ out.reverse, x ≤ k) ∧ wh.length = out.length ∧ sp ≤ k ∧ out.length ≤ k ∧ J = out.length ∧ W ≤ g5) :=
                  ⟨hCb, hcm, fun x hx => hle x (by rw [mo_cons]; exact List.mem_append_left _ (List.mem_append_left _ hx)), by omega, hsp, by omega, hJ, hg1⟩
                have hw2 : wrap64 ((T : Int) - 1) = (J : Int) := by unfold wrap64; omega
                have hw3 : IntKind.i64.wrap ((T : Int) - 1) = (J : Int) := by rw [IntKind.wrap_i64]; omega
                obtain ⟨O1, hO1⟩ : ∃ O1, O1 = o' + 1 := ⟨_, rfl⟩
                have hw4 : wrap64 ((o' : Int) + 1) = (O1 : Int) := by unfold wrap64; omega
                have HO : Hid (O1 = o' + 1 ∧ o' ≤ k) := ⟨hO1, ho'⟩
                have i5 : (J : Int) < (T : Int) := by omega
                have i6 : (0 : Int) ≤ (J : Int) := by omega
                have i7 : (J : Int) < (N : Int) := by omega
                have i8 : (J : Int) ≤ (c6 : Int) := by omega
                have i9 : (T : Int) ≤ (c5 : Int) := by omega
                have i10 : (0 : Int) ≤ (T : Int) := by omega
                have i11 : ¬ (T : Int) = 0 := by omega
                clear hC hCa hCb hkp hx hcm hmd2 hS hT hle hM hN hwl hsp hop hJ hT1 hwJ hv hO1 ho' hg1 hg5 hg6
                go_upto_region 19 with fail
                have hkc : Keeps None wr wr.drew := Keeps.drew None wr
                have hs : wr.drew.cell? ⟨p0, 0, none⟩ = some (.slice (some ⟨b, off, none⟩) n0 c0) ∧ wr.drew.cell? ⟨p0, 1, none⟩ = some (.slice a1 n1 c1) ∧ wr.drew.cell? ⟨p0, 2, none⟩ = some (.slice a2 n2 c2) ∧ wr.drew.cell? ⟨g6, J, none⟩ = some (.int .i64 t) := ⟨y0, y1, y2, hc6⟩
                go_region_held3 (fun wx => wx.cell? ⟨p0, 0, none⟩ = some (.slice (some ⟨b, off, none⟩) n0 c0) ∧ wx.cell? ⟨p0, 1, none⟩ = some (.slice a1 n1 c1) ∧ wx.cell? ⟨p0, 2, none⟩ = some (.slice a2 n2 c2) ∧ wx.cell? ⟨g6, J, none⟩ = some (.int .i64 t)) (first | exact hs | go_keep) (first
                  | (go_at_call 28; refine Calls.mono (stole_ok (some ⟨b, off, none⟩) a1 a2 n0 c0 n1 c1 n2 c2 t st _ (HV.out.2 _ hkc)) ?_; rintro _ wn ⟨rfl, hkn⟩; replace hkc := hkc.trans hkn (fun _ f _ => f); replace hs : wn.cell? ⟨p0, 0, none⟩ = some (.slice (some ⟨b, off, none⟩) n0 c0) ∧ wn.cell? ⟨p0, 1, none⟩ = some (.slice a1 n1 c1) ∧ wn.cell? ⟨p0, 2, none⟩ = some (.slice a2 n2 c2) ∧ wn.cell? ⟨g6, J, none⟩ = some (.int .i64 t) := ⟨hkc.cell y0 (fun f => f), hkc.cell y1 (fun f => f), hkc.cell y2 (fun f => f), hkc.cell hc6 (fun f => f)⟩; rw [← HV.out.1]; clear hkn))
                all_goals
                  have hCn := HN.out.1.more hkc
                  have hkw : Keeps None wb wn := HKP.out.1.trans hkc (fun _ f _ => f)
                  obtain ⟨g5', e5, -, -, -, hc5n, hf5n⟩ := hCn.at5 (mo_last out o')
                  injection e5 with e5
                  injection e5 with e5
                  subst e5
                  rw [← HN.out.2.2.2.2.2.2.1] at hc5n
                  have hf5n := hf5n J
                  cases v with
                  | true =>
                    have hkw2 : Keeps None wb (wn.setCell ⟨g5, J, none⟩ (.int .i64 O1)) := hkw.andSet (x := ⟨g5, _, none⟩) (.inr (by have := HW.out; have := HN.out.2.2.2.2.2.2.2; show wb.heap.size ≤ g5; omega)) _
                    have HN2 : Hid (Cst (wn.setCell ⟨g5, J, none⟩ (.int .i64 O1)) W (some ⟨g5, 0, none⟩) T c5 (some ⟨g6, 0, none⟩) J c6 (mo' out O1) wh.reverse ∧ Keeps None wb (wn.setCell ⟨g5, J, none⟩ (.int .i64 O1)) ∧ cmB st (((l.take q).drop (k + 1)).map dp) out O1 wh sp = B ∧ (∀ x ∈ mo' out O1, x ≤ k + 1)) := by
                      have hC2 := hCn.set5 J O1
                      rw [show (mo' out o').set J O1 = mo' out O1 by rw [HN.out.2.2.2.2.2.2.1]; exact mo_put _ _ _] at hC2
                      refine ⟨hC2, hkw2, ?_, ?_⟩
                      · have h := HN.out.2.1
                        rw [if_pos rfl, ← HO.out.1] at h
                        exact h
                      · intro x hx
                        rcases List.mem_append.1 hx with hx | hx
                        · have := HN.out.2.2.1 x hx; omega
                        · simp at hx; have := HO.out; omega
                    clear hkc hCn hkw hkw2 hc5 hf5 hc6
                    go_wp2_with fail
                    exact ⟨⟨k + 1, sp, O1, T, c5, J, c6, out, wh, _, _, by omega, by go_num, rfl, rfl, rfl, HN2.out.1, HN2.out.2.1, HN2.out.2.2.1, HN.out.2.2.2.1, by have := HN.out.2.2.2.2.1; omega, by have := HN.out.2.2.2.2.2.1; omega, HN2.out.2.2.2⟩, by simp [intOf]; omega⟩
                  | false =>
                    have HN2 : Hid (Cst wn W (some ⟨g5, 0, none⟩) T c5 (some ⟨g6, 0, none⟩) J c6 (mo' out o') wh.reverse ∧ Keeps None wb wn ∧ cmB st (((l.take q).drop (k + 1)).map dp) out o' wh sp = B ∧ (∀ x ∈ mo' out o', x ≤ k + 1)) := by
                      refine ⟨hCn, hkw, ?_, ?_⟩
                      · have h := HN.out.2.1
                        rw [if_neg (by simp)] at h
                        exact h
                      · intro x hx
                        rcases List.mem_append.1 hx with hx | hx
                        · have := HN.out.2.2.1 x hx; omega
                        · simp at hx; have := HO.out; omega
                    clear hkc hCn hkw hc5 hf5 hc6
                    go_wp2_with fail
                    exact ⟨⟨k + 1, sp, o', T, c5, J, c6, out, wh, _, _, by omega, by go_num, rfl, rfl, rfl, HN2.out.1, HN2.out.2.1, HN2.out.2.2.1, HN.out.2.2.2.1, by have := HN.out.2.2.2.2.1; omega, by have := HN.out.2.2.2.2.2.1; omega, HN2.out.2.2.2⟩, by simp [intOf]; omega⟩
          · rw [cm_o _ _ _ _ _ _ _ e0 e2 e1] at hcm
            have HN : Hid (Cst wr W a5 M c5 a6 N c6 (mo' out o) wh.reverse ∧ cmB st (((l.take q).drop (k + 1)).map dp) out o wh sp = B ∧ (∀ x ∈ mo' out o, x ≤ k + 1) ∧ wh.length = out.length ∧ sp ≤ k ∧ out.length ≤ k) :=
              ⟨hC, hcm, fun x hx => Nat.le_succ_of_le (hle x hx), hwl, hsp, hop⟩
            clear hC hkp hx hcm hmd2 hS hT hle hM hN hwl hsp hop
            go_wp2
            go_roundw
            case rel => exact ⟨k + 1, sp, o, M, c5, N, c6, out, wh, _, _, by omega, by go_num, rfl, rfl, rfl, HN.out.1, HKP.out.1, HN.out.2.1, HN.out.2.2.2.1, by have := HN.out.2.2.2.2.1; omega, by have := HN.out.2.2.2.2.2; omega, HN.out.2.2.1⟩
            case measure => simp [intOf]; omega
    · have hkn2 : k = q := by omega
      have i3 : ¬ (k : Int) < (q : Int) := by omega
      rw [List.drop_eq_nil_of_le (by simp; omega)] at hcm
      have hcm2 : (mo' out o).all (fun x => x == 0) = B := (cm_end st out o wh sp).symm.trans hcm
      obtain ⟨mo, hmo⟩ : ∃ mo, mo = mo' out o := ⟨_, rfl⟩
      rw [← hmo] at hC hcm2
      have HC : Hid (Cst wr W a5 M c5 a6 N c6 mo wh.reverse ∧ mo.all (fun x => x == 0) = B ∧ Keeps None w wr ∧ M ≤ 5000) := ⟨hC, hcm2, HK.out.trans hkp (fun _ f _ => f), by omega⟩
      clear hC hcm2 hmo hkp hcm hS hT hle hM hN hwl hsp hop
      go_wp2_with fail
      go_loopw [10] (fun j wq => ∃ i : Nat, j = .int .i64 i ∧ i ≤ M ∧ wq = wr ∧ ∀ m x, m < i → mo[m]? = some x → x = 0) (fun j _ => M - (intOf j).toNat)
      case atStart => exact ⟨0, rfl, Nat.zero_le _, rfl, fun _ _ h => absurd h (Nat.not_lt_zero _)⟩
      case round =>
        obtain ⟨i, rfl, hi, rfl, hz⟩ := hrel
        have hM := HC.out.1.len5
        by_cases him : i < M
        · obtain ⟨x, hx⟩ : ∃ x, mo[i]? = some x := ⟨mo[i]'(by omega), by simp⟩
          obtain ⟨g5, rfl, -, -, -, hc5, -⟩ := HC.out.1.at5 hx
          have i5 : (i : Int) < (M : Int) := by omega
          have i6 : (0 : Int) ≤ (i : Int) := by omega
          have hM5 : M ≤ 5000 := HC.out.2.2.2
          by_cases hx0 : x = 0
          · have i7 : ¬ (0 : Int) < (x : Int) := by omega
            have HN : Hid (∀ m x, m < i + 1 → mo[m]? = some x → x = 0) := by
              intro m y hm hy
              rcases Nat.lt_succ_iff_lt_or_eq.1 hm with hm | rfl
              · exact hz m y hm hy
              · rw [hx] at hy
                obtain rfl := Option.some.inj hy
                exact hx0
            clear hz hx hM hx0
            go_wp2
            go_roundw
            case rel => exact ⟨i + 1, by go_num, by omega, trivial, HN.out⟩
            case measure => simp [intOf]; omega
          · have i7 : (0 : Int) < (x : Int) := by omega
            have HE : Hid (B = false ∧ Keeps None w wr) := by
              refine ⟨?_, HC.out.2.2.1⟩
              rw [← HC.out.2.1, List.all_eq_false]
              exact ⟨x, List.mem_of_getElem? hx, by simp [hx0]⟩
            clear hz hx hM hx0
            go_wp2
            go_ret
            exact ⟨by rw [HE.out.1]; rfl, HE.out.2⟩
        · have i5 : ¬ (i : Int) < (M : Int) := by omega
          have HE : Hid (B = true ∧ Keeps None w wr) := by
            refine ⟨?_, HC.out.2.2.1⟩
            rw [← HC.out.2.1, List.all_eq_true]
            intro x hx
            obtain ⟨m, hm, rfl⟩ := List.mem_iff_getElem.1 hx
            have := hz m mo[m] (by omega) (by simp)
            simp [this]
          clear hz hM
          go_wp2
          go_ret
          exact ⟨by rw [HE.out.1]; rfl, HE.out.2⟩
end Go.Proofs.Ytdiabpoafennlaa
/-! What was put, with the room behind it. -/
namespace Go.Proofs.Ytdiabpoafennlaa
set_option linter.unusedVariables false
set_option maxRecDepth 20000
set_option linter.unusedSimpArgs false
open Go.RowKit Go.HeapKit

theorem own_cut {w : World} {B e P Z A uc : Nat} {ua : Option Addr} {x y : List Int} (h : w.ownsRow B e 1 (.slice ua P uc) P (iv (x ++ y))) (hA : x.length = A) (hZ : y.length = Z) :
    SeenV w (if uc = A then ua else ua.map (·.add (A * 1))) Z (iv y) := by
  have hl := h.1
  rw [iv_len, List.length_append] at hl
  refine ⟨by rw [iv_len, hZ], fun h0 => ?_⟩
  rcases h.2 with ⟨_, h1⟩ | ⟨g, cap, cur, hv, hbg, hg, hnc, hcm, hcs, htake⟩
  · omega
  · injection hv with e1 e2 e3
    subst e1 e3
    rw [if_neg (by omega)]
    refine ⟨g, A, by simp [Addr.add]; omega, (blk_lt hg), fun k v hk => ?_⟩
    obtain ⟨g', e1, -, -, -, hc, -⟩ := own_cell1 h (k := A + k) (x := v) (by rw [iv, List.map_append, List.getElem?_append_right (by rw [List.length_map]; omega), List.length_map, hA, Nat.add_sub_cancel_left]; exact hk)
    injection e1 with e1
    injection e1 with e1
    rw [e1]
    exact hc
set_option maxHeartbeats 1600000 in
theorem puts_own (a : Option Addr) (n c q : Nat) (l : List Dd) (w : World) (hS : Seen w a n l) (hn : n ≤ 4096) (hq : q ≤ n) :
    Calls Try.prog 18 #[.slice a n c, .int .i64 q] w fun e w' => ∃ a1 c1, e = .returned (.slice a1 (putsD (l.take q)).length c1) ∧ w'.ownsRow w.heap.size 2 1 (.slice a1 (putsD (l.take q)).length c1) (putsD (l.take q)).length (iv (putsD (l.take q))) ∧ Keeps None w w' := by
  have HS : Hid (Seen w a n l) := hS
  have HLen : Hid (n = l.length) := hS.len
  clear hS
  go_enter Try.func18, Try.ntmps18
  go_wp2_with fail
  go_loopw [5, 6] (fun s i wr => ∃ k : Nat, k ≤ q ∧ i = .int .i64 k ∧ wr.ownsRow w.heap.size 2 1 s (putsD (l.take k)).length (iv (putsD (l.take k))) ∧ Keeps None w wr) (fun _ i _ => q - (intOf i).toNat)
  case atStart => exact ⟨0, Nat.zero_le _, rfl, row_nil _ _ _ _, Keeps.refl _ _⟩
  case round =>
    obtain ⟨k, hk, rfl, hrow, hkp⟩ := hrel
    have hlen := HLen.out
    obtain ⟨sa, cs, rfl⟩ := row_shape hrow
    by_cases hkn : k < q
    · obtain ⟨b, off, x, rfl, hb, hx, u0, u1⟩ := (HS.out.more hkp).elem (show k < n by omega)
      have i2 : (k : Int) < (n : Int) := by omega
      have i3 : (k : Int) < (q : Int) := by omega
      have hm := putsD_more hx
      obtain ⟨xk, xl⟩ := x
      by_cases e4 : xk = 4
      · subst e4
        have hbn : (wr.alloc (.cells #[.int .i64 xl] 2)).heap[wr.heap.size]? = some (.cells #[.int .i64 xl] 2 (0, 0)) := blk_new _ _ _ rfl
        have hpl := putsD_len (l.take k)
        have hpl2 : (l.take k).length ≤ 4096 := by rw [List.length_take]; omega
        obtain ⟨g, cp, w2, hr, ho, hk3, hm3⟩ := i64_more w.heap.size (.slice sa _ cs) (putsD (l.take k)) xl 28 _ _ (hrow.alloc _) (by have := hkp.size; simp; omega) (by omega) hbn
        have HN : Hid (w2.ownsRow w.heap.size 2 1 (.slice (some ⟨g, 0, none⟩) ((putsD (l.take k)).length + 1) cp) (putsD (l.take (k + 1))).length (iv (putsD (l.take (k + 1)))) ∧ Keeps None w w2) := by
          rw [hm]
          simp only [if_true]
          exact ⟨by rw [List.length_append]; exact ho, (hkp.andAlloc _).trans hk3 (fun i e hi => by have := row_low hrow e; omega)⟩
        clear hrow hkp hx hlen hm ho hk3 hm3 hbn
        go_wp2_with (at_builtin; refine wpList_append_run rfl (.tmp 24) (.tmp 30) 28 28 rfl rfl rfl hr ?_)
        go_roundw
        case rel => exact ⟨k + 1, by omega, by go_num, HN.out⟩
        case measure => simp [intOf]; omega
      · have HN : Hid (wr.ownsRow w.heap.size 2 1 (.slice sa (putsD (l.take k)).length cs) (putsD (l.take (k + 1))).length (iv (putsD (l.take (k + 1)))) ∧ Keeps None w wr) := by
          rw [hm, if_neg e4, List.append_nil]
          exact ⟨hrow, hkp⟩
        clear hrow hkp hx hlen hm
        go_wp2
        go_roundw
        case rel => exact ⟨k + 1, by omega, by go_num, HN.out⟩
        case measure => simp [intOf]; omega
    · have hkn2 : k = q := by omega
      subst hkn2
      have i3 : ¬ (k : Int) < (k : Int) := by omega
      have HN : Hid (wr.ownsRow w.heap.size 2 1 (.slice sa (putsD (l.take k)).length cs) (putsD (l.take k)).length (iv (putsD (l.take k))) ∧ Keeps None w wr) := ⟨hrow, hkp⟩
      clear hrow hkp hlen
      go_wp2
      go_ret
      first
        | exact ⟨_, _, rfl, HN.out.1, HN.out.2⟩
        | exact ⟨_, _, ⟨rfl, rfl⟩, HN.out.1, HN.out.2⟩
end Go.Proofs.Ytdiabpoafennlaa
/-! Structs of 64-bit numbers among the arguments, and slices of them. Whatever the program. -/
namespace Go.HeapKit
open Go.ChangeShapes Go.WideShapes Go.ChangeAt Go.RowKit Go.Deep

section
variable {H : Type} {enc : TypeId × Value → H} {P : Program} {w : World} {base : Nat} {spare : Nat → Bool} {held : Bool}

/-- All fields are 64-bit numbers, one cell each, in order. -/
def allInts (P : Program) (fs : List Field) : Bool :=
  (List.range fs.length).all fun i => match fs[i]? with
    | some f => f.offset == i && (match P.underlying f.type with | some (.int .i64) => true | _ => false) && P.cellsOf f.type == 1
    | none => false
theorem allInts_at {fs : List Field} (h : allInts P fs = true) {i : Nat} {f : Field} (hf : fs[i]? = some f) : f.offset = i ∧ P.underlying f.type = some (.int .i64) ∧ P.cellsOf f.type = 1 := by
  have hi : i < fs.length := (List.getElem?_eq_some_iff.1 hf).1
  have := List.all_eq_true.1 h i (List.mem_range.2 hi)
  rw [hf] at this
  simp only [Bool.and_eq_true, beq_iff_eq] at this
  obtain ⟨⟨h1, h2⟩, h3⟩ := this
  refine ⟨h1, ?_, h3⟩
  split at h2
  · assumption
  · cases h2

theorem struct_ints {t : TypeId} {fs : Array Field} {fuel : Nat} {cs : List Value} {x : DataW H × List MemPlace} (ht : P.underlying t = some (.struct fs)) (ha : allInts P fs.toList = true) (hc : P.cellsOf t = fs.size)
    (h : DataW.trod enc P w base spare held fuel t cs = some x) : ∃ ns : List Int, ns.length = fs.size ∧ cs = ns.map (Value.int .i64) ∧ ∀ n ∈ ns, (Lit.int .i64 n).wf = true := by
  obtain ⟨xs, n, _, rfl, hl, hlen, hf⟩ := DataW.trod_struct ht h
  rw [hc] at hl
  have hat : ∀ i, i < fs.size → ∃ m : Int, cs[i]? = some (.int .i64 m) ∧ (Lit.int .i64 m).wf = true := by
    intro i hi
    have hfi : fs[i]? = some fs[i] := by simp [hi]
    obtain ⟨h1, h2, h3⟩ := allInts_at ha (i := i) (f := fs[i]) (by simp)
    have hq := hf i fs[i] hfi
    rw [h1, h3, show xs[i]? = some xs[i] by simp] at hq
    obtain ⟨m, hm, _, hw⟩ := DataW.trod_int h2 hq
    refine ⟨m, ?_, hw⟩
    have : (List.take 1 (List.drop i cs))[0]? = some (.int .i64 m) := by rw [hm]; rfl
    simpa [List.getElem?_take, List.getElem?_drop] using this
  have hall : ∀ v ∈ cs, ∃ m : Int, v = .int .i64 m ∧ (Lit.int .i64 m).wf = true := by
    intro v hv
    obtain ⟨i, hi, rfl⟩ := List.mem_iff_getElem.1 hv
    obtain ⟨m, hm, hw⟩ := hat i (by omega)
    exact ⟨m, by simpa [hi] using hm, hw⟩
  have hex : ∀ cs : List Value, (∀ v ∈ cs, ∃ m : Int, v = .int .i64 m ∧ (Lit.int .i64 m).wf = true) → ∃ ns : List Int, cs = ns.map (Value.int .i64) ∧ ∀ n ∈ ns, (Lit.int .i64 n).wf = true := by
    intro cs
    induction cs with
    | nil => exact fun _ => ⟨[], rfl, fun _ h => by cases h⟩
    | cons v cs ih =>
      intro hv
      obtain ⟨ns, rfl, hw⟩ := ih (fun u hu => hv u (List.mem_cons_of_mem _ hu))
      obtain ⟨m, rfl, hm⟩ := hv v (List.mem_cons_self ..)
      refine ⟨m :: ns, rfl, ?_⟩
      intro n hn
      rcases List.mem_cons.1 hn with rfl | hn
      · exact hm
      · exact hw n hn
  obtain ⟨ns, rfl, hw⟩ := hex cs hall
  exact ⟨ns, by simpa using hl, rfl, hw⟩

theorem open_struct_ints {r : Reach} {b0 : Nat} {t : TypeId} {fs : Array Field} {v : Value} {d : DataW H} {ps : List MemPlace} (ht : P.underlying t = some (.struct fs)) (ha : allInts P fs.toList = true) (hc : P.cellsOf t = fs.size)
    (hval : Value.okWide P w r b0 t v) (hd : DataW.Trod enc P w base spare held t v d ps) : ∃ ns : List Int, ns.length = fs.size ∧ v = .agg (ns.map (Value.int .i64)).toArray ∧ ∀ n ∈ ns, (Lit.int .i64 n).wf = true := by
  obtain ⟨cs, rfl, hs⟩ := okWide_struct ht hval
  obtain ⟨fuel, hf⟩ := hd
  obtain ⟨ns, hl, he, hw⟩ := struct_ints ht ha hc hf
  refine ⟨ns, hl, ?_, hw⟩
  have : cs.toList = ns.map (Value.int .i64) := by simpa [Value.cells] using he
  rw [← this]

/-- A slice of structs of numbers that came in: nil; or a grid of 'cap' rows, 'size' cells each. -/
def IsGrid (size : Nat) (w : World) (a : Option Addr) (len cap : Nat) (rows : List (List Int)) : Prop :=
  (a = none ∧ len = 0 ∧ cap = 0 ∧ rows = []) ∨
  ∃ x : Addr, a = some x ∧ len ≤ cap ∧ cap ≤ maxLen ∧ rows.length = cap ∧ (∀ i, i < cap → ∃ ns : List Int, rows[i]? = some ns ∧ ns.length = size ∧ (∀ n ∈ ns, (Lit.int .i64 n).wf = true) ∧ ∀ j m, ns[j]? = some m → w.cell? ((x.add (i * size)).add j) = some (.int .i64 m))

theorem grid_slice {t e : TypeId} {x : Addr} {len cap : Nat} {d : DataW H} {ps : List MemPlace} (ht : P.underlying t = some (.slice e)) (hd : DataW.Trod enc P w base spare held t (.slice (some x) len cap) d ps) : ∃ elems sp, d = .slice elems sp := by
  obtain ⟨fuel, hf⟩ := hd
  rcases open_slice ht hf with ⟨h0, _⟩ | ⟨x, l, c, m, n, D, Pl, hcs, _, _, _, _, hx, _⟩
  · simp [Value.cells] at h0
  · simp only [Prod.mk.injEq] at hx
    exact ⟨_, _, hx.1⟩
theorem open_grid {t e : TypeId} {fs : Array Field} {a : Option Addr} {len cap : Nat} {d : DataW H} {ps : List MemPlace} (ht : P.underlying t = some (.slice e)) (he : P.underlying e = some (.struct fs)) (ha : allInts P fs.toList = true) (hc : P.cellsOf e = fs.size)
    (hd : DataW.Trod enc P w base (fun _ => true) held t (.slice a len cap) d ps) : (∃ rows, IsGrid fs.size w a len cap rows) ∧ ∀ elems sp, d = .slice elems sp → elems.length + sp.length = cap := by
  obtain ⟨fuel, hf⟩ := hd
  rcases open_slice ht hf with ⟨h0, hx⟩ | ⟨x, l, c, m, n, D, Pl, hcs, _, hl, hm, hmm, hx, hall⟩
  · simp [Value.cells] at h0
    obtain ⟨rfl, rfl, rfl⟩ := h0
    simp only [Prod.mk.injEq] at hx
    exact ⟨⟨[], .inl ⟨rfl, rfl, rfl, rfl⟩⟩, fun elems sp e => by rw [hx.1] at e; cases e⟩
  · simp [Value.cells] at hcs
    obtain ⟨rfl, rfl, rfl⟩ := hcs
    have hmc : m = cap := by simpa using hmm
    subst hmc
    simp only [Prod.mk.injEq] at hx
    refine ⟨?_, fun elems sp e => by rw [hx.1] at e; injection e with e1 e2; rw [← e1, ← e2]; simp; omega⟩
    have hrow : ∀ i, i < m → ∃ ns : List Int, ns.length = fs.size ∧ (∀ n ∈ ns, (Lit.int .i64 n).wf = true) ∧ ∀ j m, ns[j]? = some m → w.cell? ((x.add (i * fs.size)).add j) = some (.int .i64 m) := by
      intro i hi
      obtain ⟨cs', h1, h2⟩ := hall i hi
      rw [hc] at h1
      obtain ⟨ns, hl, rfl, hw⟩ := struct_ints he ha hc h2
      refine ⟨ns, hl, hw, ?_⟩
      intro j m hj
      obtain ⟨_, hlen, hcell⟩ := World.cells?_some h1
      rw [hcell j (by have := (List.getElem?_eq_some_iff.1 hj).1; omega)]
      simp [hj]
    have hex : ∀ k, k ≤ m → ∃ rows : List (List Int), rows.length = k ∧ ∀ i, i < k → ∃ ns : List Int, rows[i]? = some ns ∧ ns.length = fs.size ∧ (∀ n ∈ ns, (Lit.int .i64 n).wf = true) ∧ ∀ j m, ns[j]? = some m → w.cell? ((x.add (i * fs.size)).add j) = some (.int .i64 m) := by
      intro k
      induction k with
      | zero => exact fun _ => ⟨[], rfl, fun _ h => by omega⟩
      | succ k ih =>
        intro hk
        obtain ⟨rows, hrl, hr⟩ := ih (by omega)
        obtain ⟨ns, h1, h2, h3⟩ := hrow k (by omega)
        refine ⟨rows ++ [ns], by simp [hrl], ?_⟩
        intro i hi
        by_cases hik : i < k
        · obtain ⟨ns', e, r⟩ := hr i hik
          exact ⟨ns', by rw [List.getElem?_append_left (by omega)]; exact e, r⟩
        · obtain rfl : i = k := by omega
          exact ⟨ns, by rw [List.getElem?_append_right (by omega), hrl]; simp, h1, h2, h3⟩
    obtain ⟨rows, hrl, hr⟩ := hex m (Nat.le_refl _)
    exact ⟨rows, .inr ⟨x, rfl, hl, hm, hrl, hr⟩⟩
end
end Go.HeapKit
