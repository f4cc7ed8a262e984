import Derived.Test.YtdiabpoafennlabPkAH
import Derived.Test.YtdiabpoafennlabPkAK
import Derived.Test.YtdiabpoafennlabPkAD
import Derived.WalkMore
import Derived.Deep.RegionHeld3
/-! A reducer's play, plainly: the order in which views are merged is not seen. -/
namespace Go.Proofs.Ytdiabpoafennlab
set_option linter.unusedVariables false
set_option maxRecDepth 20000
set_option linter.unusedSimpArgs false

theorem getD_set_ne {V : Type} {vs : List V} {a u : Nat} (x d : V) (h : a ≠ u) : (vs.set a x).getD u d = vs.getD u d := by simp [List.getD, List.getElem?_set_ne h]
/-- What a row's merging leaves: its head's view holds all that the row held; what is not of the row stays. -/
theorem all_cat (n : Nat) (s : MS (List Int)) (h0 : 0 < s.row.length) (hnd : s.row.Nodup) (hlow : ∀ v ∈ s.row, v < s.vs.length) : catL (s.all listK n).vs (s.all listK n).row = catL s.vs s.row ∧ ∀ u, u ∉ s.row → (s.all listK n).vs.getD u [] = s.vs.getD u [] := by
  have h := (MS.all_ind listK n (fun m => (∀ v ∈ m.row, v ∈ s.row) ∧ m.row.Nodup ∧ m.vs.length = s.vs.length ∧ catL m.vs m.row = catL s.vs s.row ∧ ∀ u, u ∉ s.row → m.vs.getD u [] = s.vs.getD u []) (fun m hm hp => by
    obtain ⟨p1, p2, p3, p4, p5⟩ := hp
    obtain ⟨A, a, b, B, e1, e2, e3, -, -⟩ := m.one_row listK n hm
    rw [e1] at p1 p2 p4
    have hs : List.Sublist (A ++ a :: B) (A ++ a :: b :: B) := (List.Sublist.refl A).append ((List.sublist_cons_self b B).cons_cons a)
    have n1 : a ∉ A := fun hm => (List.nodup_append.1 p2).2.2 a hm a (by simp) rfl
    have n2 : a ∉ b :: B := (List.nodup_cons.1 (List.nodup_append.1 p2).2.1).1
    have hal : a < m.vs.length := by rw [p3]; exact hlow a (p1 a (by simp))
    refine ⟨by rw [e2]; exact fun v hv => p1 v (hs.subset hv), by rw [e2]; exact p2.sublist hs, by rw [e3, List.length_set]; exact p3, ?_, fun u hu => ?_⟩
    · rw [e2, e3, ← p4, catL_app, catL_cons, catL_set _ n1, catL_set _ (fun hm => n2 (by simp [hm])), getD_set _ _ hal, catL_app, catL_cons, catL_cons]
      show _ ++ ((_ ++ _) ++ _) = _
      simp [listK]
    · rw [e3, getD_set_ne _ _ (by intro e; subst e; exact hu (p1 _ (by simp)))]
      exact p5 u hu) s h0 ⟨fun v hv => hv, hnd, rfl, rfl, fun _ _ => rfl⟩).1
  exact ⟨h.2.2.2.1, h.2.2.2.2⟩
/-- Two plays that differ in their picks. -/
structure Sim (s t : HS (List Int)) : Prop where
  row : t.m.row = s.m.row
  ini : t.ini = s.ini
  sp : t.sp = s.sp
  spn : t.spn = s.spn
  lk : t.lk = s.lk
  len : t.m.vs.length = s.m.vs.length
  vs : ∀ v ∈ preL s.ini ++ s.m.row, t.m.vs.getD v [] = s.m.vs.getD v []
theorem Sim.hand {s t : HS (List Int)} (h : Sim s t) : t.hand = s.hand := by unfold HS.hand; rw [h.row]
theorem cat_of {vs vs' : List (List Int)} {l : List Nat} (h : ∀ v ∈ l, vs'.getD v [] = vs.getD v []) : catL vs' l = catL vs l := by
  unfold catL
  congr 1
  exact List.map_congr_left h
theorem hand_in {s : HS (List Int)} (h : s.m.row ≠ []) : s.hand ∈ s.m.row := by
  have hs := hand_split h
  rw [hs]
  exact List.mem_append_right _ (List.mem_singleton.2 rfl)
/-- Both rows merged. -/
theorem Sim.all {P P' : List Int} {s t : HS (List Int)} {n : Nat} (h : Sim s t) (hs : HInv P s) (ht : HInv P' t) : (t.m.all listK n).row = (s.m.all listK n).row ∧ (t.m.all listK n).vs.length = (s.m.all listK n).vs.length ∧ ∀ v ∈ preL s.ini ++ (s.m.all listK n).row, (t.m.all listK n).vs.getD v [] = (s.m.all listK n).vs.getD v [] := by
  have h0 : 0 < s.m.row.length := List.length_pos_iff.2 hs.lk.ne
  have h0' : 0 < t.m.row.length := List.length_pos_iff.2 ht.lk.ne
  obtain ⟨v, hv, hh⟩ := s.m.all_head listK n h0
  obtain ⟨v', hv', hh'⟩ := t.m.all_head listK n h0'
  rw [h.row, hh] at hh'
  injection hh' with hh'
  subst hh'
  have hnd := asc_nodup hs.line.asc
  have hnd2 := (List.nodup_append.1 hnd).2.1
  obtain ⟨c1, c2⟩ := all_cat n s.m h0 hnd2 (fun u hu => hs.line.low u (by simp [hu]))
  obtain ⟨d1, d2⟩ := all_cat n t.m h0' (by rw [h.row]; exact hnd2) (fun u hu => ht.line.low u (by simp [hu]))
  refine ⟨by rw [hv, hv'], by rw [vs_all, vs_all, h.len], fun u hu => ?_⟩
  rw [hv, List.mem_append] at hu
  rcases hu with hu | hu
  · have hnr : u ∉ s.m.row := fun hm => (List.nodup_append.1 hnd).2.2 u hu u hm rfl
    rw [c2 u hnr, d2 u (by rw [h.row]; exact hnr)]
    exact h.vs u (by simp [hu])
  · simp at hu
    subst hu
    rw [hv] at c1
    rw [hv'] at d1
    have hc : catL t.m.vs t.m.row = catL s.m.vs s.m.row := by rw [h.row]; exact cat_of (fun x hx => h.vs x (by simp [hx]))
    rw [hc] at d1
    have := d1.trans c1.symm
    simpa [catL] using this
theorem Sim.deed {P P' : List Int} {s t : HS (List Int)} {n : Nat} (h : Sim s t) (hs : HInv P s) (ht : HInv P' t) (st : List Bool) (k loc : Int) : Sim (s.deed listK st n k loc) (t.deed listK st n k loc) := by
  have hne := hs.lk.ne
  have hin : s.hand ∈ preL s.ini ++ s.m.row := List.mem_append_right _ (hand_in hne)
  have hh := h.hand
  have hal : s.hand < s.m.vs.length := hs.line.low _ hin
  obtain ⟨a1, a2, a3⟩ := h.all (n := n) hs ht
  unfold HS.deed
  split
  · refine ⟨h.row, h.ini, h.sp, h.spn, h.lk, by simp [h.len], fun v hv => ?_⟩
    show (t.m.vs.set t.hand _).getD v [] = (s.m.vs.set s.hand _).getD v []
    rw [hh]
    have e : t.m.vs.getD s.hand listK.fresh = s.m.vs.getD s.hand listK.fresh := h.vs _ hin
    rw [e]
    by_cases hv2 : s.hand = v
    · subst hv2
      rw [getD_set _ _ (by rw [h.len]; exact hal), getD_set _ _ hal]
    · rw [getD_set_ne _ _ hv2, getD_set_ne _ _ hv2]
      exact h.vs v hv
  · split
    · refine ⟨h.row, h.ini, h.sp, h.spn, ?_, h.len, h.vs⟩
      show t.lk ++ [t.m.vs.getD t.hand listK.fresh] = s.lk ++ [s.m.vs.getD s.hand listK.fresh]
      rw [hh, h.lk]
      have e : t.m.vs.getD s.hand listK.fresh = s.m.vs.getD s.hand listK.fresh := h.vs _ hin
      rw [e]
    · split
      · refine ⟨?_, ?_, h.spn, ?_, h.lk, h.len, ?_⟩
        · show [t.hand] = [s.hand]; rw [hh]
        · show (t.sp, t.m.row) :: t.ini = (s.sp, s.m.row) :: s.ini; rw [h.sp, h.row, h.ini]
        · show t.spn + 1 = s.spn + 1; rw [h.spn]
        · intro v hv
          refine h.vs v ?_
          have e : preL ((s.sp, s.m.row) :: s.ini) ++ [s.hand] = preL s.ini ++ s.m.row := by
            rw [preL, List.append_assoc]
            conv => rhs; rw [hand_split hne]
            rfl
          rw [← e]
          exact hv
      · split
        · exact ⟨a1, h.ini, h.sp, h.spn, h.lk, a2, a3⟩
        · unfold HS.back
          rw [h.ini]
          have hlk := hs.lk
          have h0 : 0 < s.m.row.length := List.length_pos_iff.2 hne
          obtain ⟨u, hu, huh⟩ := s.m.all_head listK n h0
          cases hi : s.ini with
          | nil =>
            rw [hi] at a3
            exact ⟨a1, rfl, h.sp, h.spn, h.lk, a2, a3⟩
          | cons p ini =>
            simp only
            rw [hi] at hlk a3
            have e : preL (p :: ini) ++ (s.m.all listK n).row = preL ini ++ p.2 := by
              rw [hu, preL, List.append_assoc, ← last_some (hlk.2.1.trans huh)]
            rw [e] at a3
            rw [h.sp]
            by_cases hst : st.getD s.sp false = true
            · rw [if_pos hst, if_pos hst]
              refine ⟨by show p.2 ++ [(t.m.all listK n).vs.length] = p.2 ++ [(s.m.all listK n).vs.length]; rw [a2], rfl, rfl, h.spn, h.lk, by simp [a2], fun v hv => ?_⟩
              show ((t.m.all listK n).vs ++ [listK.fresh]).getD v [] = ((s.m.all listK n).vs ++ [listK.fresh]).getD v []
              have hv2 : v ∈ (preL ini ++ p.2) ++ [(s.m.all listK n).vs.length] := by rw [List.append_assoc]; exact hv
              rw [List.mem_append] at hv2
              rcases hv2 with hv2 | hv2
              · have hlow : v < s.m.vs.length := by
                  have := (hs.line.all n h0).low v
                  rw [hi, e, vs_all] at this
                  exact this hv2
                rw [List.getD_eq_getElem?_getD, List.getD_eq_getElem?_getD, List.getElem?_append_left (by rw [a2, vs_all]; exact hlow), List.getElem?_append_left (by rw [vs_all]; exact hlow), ← List.getD_eq_getElem?_getD, ← List.getD_eq_getElem?_getD]
                exact a3 v hv2
              · simp at hv2
                subst hv2
                simp [List.getD_eq_getElem?_getD, ← a2]
            · rw [if_neg hst, if_neg hst]
              exact ⟨rfl, rfl, rfl, h.spn, h.lk, a2, a3⟩
theorem sim_run (st : List Bool) : ∀ (ds : List (Int × Int)) (n : Nat) (P : List Int) (s t : HS (List Int)), HInv P s → HInv P t → Sim s t → Sim (s.run listK st ds n) (t.run listK st ds n) := by
  intro ds
  induction ds with
  | nil => intro n P s t _ _ h; exact h
  | cons d ds ih =>
    intro n P s t hs ht h
    exact ih (n + 1) _ _ _ (hinv_deed st n d.1 d.2 hs) (hinv_deed st n d.1 d.2 ht) (h.deed hs ht st d.1 d.2)
/-- 23.11: looks do not hang on the picks. -/
theorem looks_same (st : List Bool) (ds : List (Int × Int)) (pk pk' : List Int) : (endHS listK st ds pk').lk = (endHS listK st ds pk).lk :=
  (sim_run st ds 0 [] _ _ (hinv_start pk) (hinv_start pk') ⟨rfl, rfl, rfl, rfl, rfl, rfl, fun _ _ => rfl⟩).lk
end Go.Proofs.Ytdiabpoafennlab
/-! Looks compared. -/
namespace Go.Proofs.Ytdiabpoafennlab
set_option linter.unusedVariables false
set_option maxRecDepth 20000
set_option linter.unusedSimpArgs false
open Go.RowKit Go.HeapKit

/-- A list of lists that can be read. -/
structure SeenL (w : World) (a : Option Addr) (n : Nat) (l : List (List Int)) : Prop where
  len : n = l.length
  ex : ∀ k x, l[k]? = some x → ∃ b off y c, a = some ⟨b, off, none⟩ ∧ w.cell? ⟨b, off + k, none⟩ = some (.slice y x.length c) ∧ SeenV w y x.length (iv x)
theorem SeenL.more {w w' : World} {a : Option Addr} {n : Nat} {l : List (List Int)} (h : SeenL w a n l) (hk : Keeps None w w') : SeenL w' a n l :=
  ⟨h.len, fun k x hx => by
    obtain ⟨b, off, y, c, e, h1, h2⟩ := h.ex k x hx
    exact ⟨b, off, y, c, e, hk.cell h1 (fun f => f), h2.more hk⟩⟩
theorem Fin.looks {w : World} {B : Nat} {X : PX} {K : Ky → Value} {s : PS} (h : Fin w B X K s) : SeenL w X.la s.lk.length s.lk := by
  refine ⟨rfl, fun k x hx => ?_⟩
  have hk := (List.getElem?_eq_some_iff.1 hx).1
  obtain ⟨g, e, _, _, _, hc, _⟩ := own_cellS h.vw.looks (k := k) (range_get _ hk)
  have hr := h.vw.rows (.inr k)
  have e2 : Lf s.vs s.lk (.inr k) = x := by simp [Lf, hx]
  rw [e2] at hr
  obtain ⟨y, c, h3⟩ := row_shape hr
  rw [h3] at hr hc
  exact ⟨g, 0, y, c, e, by rw [Nat.zero_add]; exact hc, own_seen1 hr⟩
set_option maxHeartbeats 1600000 in
theorem sameLooks_ok (a b : Option Addr) (n c d : Nat) (l : List (List Int)) (w : World) (ha : SeenL w a n l) (hb : SeenL w b n l) (hn : n ≤ 5000) (hz : ∀ x ∈ l, x.length ≤ 5000) :
    Calls Try.prog 22 #[.slice a n c, .slice b n d] w fun e w' => e = .returned (.bool true) ∧ Keeps None w w' := by
  have HH : Hid (SeenL w a n l ∧ SeenL w b n l ∧ ∀ x ∈ l, x.length ≤ 5000) := ⟨ha, hb, hz⟩
  have HLen : Hid (n = l.length) := ha.len
  clear ha hb hz
  go_enter Try.func22, Try.ntmps22
  go_wp2_with fail
  go_loopw [5] (fun i wr => ∃ k : Nat, k ≤ n ∧ i = .int .i64 k ∧ Keeps None w wr) (fun i _ => n - (intOf i).toNat)
  case atStart => exact ⟨0, Nat.zero_le _, rfl, Keeps.refl _ _⟩
  case round =>
    obtain ⟨k, hk, rfl, hkp⟩ := hrel
    by_cases hkn : k < n
    · obtain ⟨x, hx⟩ : ∃ x, l[k]? = some x := ⟨l[k]'(by have := HLen.out; omega), by simp⟩
      obtain ⟨ga, oa, ya, ca, rfl, u0, sa⟩ := (HH.out.1.more hkp).ex k x hx
      obtain ⟨gb, ob, yb, cb, rfl, u1, sb⟩ := (HH.out.2.1.more hkp).ex k x hx
      have hxl := HH.out.2.2 x (List.mem_of_getElem? hx)
      have i1 : (k : Int) < (n : Int) := by omega
      obtain ⟨N, hN⟩ : ∃ N, N = x.length := ⟨_, rfl⟩
      rw [← hN] at u0 u1
      have HS : Hid (∀ wx, Keeps None wr wx → SeenV wx ya N (iv x) ∧ SeenV wx yb N (iv x) ∧ N ≤ 5000 ∧ N = x.length) := fun wx hk => by
        rw [hN]
        exact ⟨sa.more hk, sb.more hk, hxl, rfl⟩
      have HK : Hid (Keeps None w wr) := hkp
      have v0 : wr.drew.cell? ⟨ga, oa + k, none⟩ = some (.slice ya N ca) := u0
      have v1 : wr.drew.cell? ⟨gb, ob + k, none⟩ = some (.slice yb N cb) := u1
      clear hx sa sb HH hkp hxl hN
      go_upto_region 6 with fail
      go_region_held3 (fun w' => w'.cell? ⟨ga, oa + k, none⟩ = some (.slice ya N ca) ∧ w'.cell? ⟨gb, ob + k, none⟩ = some (.slice yb N cb)) (first | with_reducible exact hs2 | exact ⟨v0, v1⟩ | go_keep) (first
        | (go_at_call 20; refine Calls.mono (sameInts_ok ya yb N ca cb x _ (HS.out _ (Keeps.drew None _)).1 (HS.out _ (Keeps.drew None _)).2.1 (by have := (HS.out _ (Keeps.drew None wr)).2.2.1; omega)) ?_; rintro _ w4 ⟨rfl, hk4⟩; have hkd := (Keeps.drew None wr).trans hk4 (fun _ f _ => f); have hs2 := (⟨hkd.cell u0 (fun f => f), hkd.cell u1 (fun f => f)⟩ : w4.cell? ⟨ga, oa + k, none⟩ = some (.slice ya N ca) ∧ w4.cell? ⟨gb, ob + k, none⟩ = some (.slice yb N cb))))
      all_goals (go_wp2_with fail; exact ⟨⟨k + 1, by omega, by go_num, HK.out.trans hkd (fun _ f _ => f)⟩, by simp [intOf]; omega⟩)
    · have HK : Hid (Keeps None w wr) := hkp
      have i1 : ¬ (k : Int) < (n : Int) := by omega
      clear HH hkp
      go_wp2
      go_ret
      exact ⟨rfl, HK.out⟩
end Go.Proofs.Ytdiabpoafennlab
/-! What Play tells, refused or not. -/
namespace Go.Proofs.Ytdiabpoafennlab
set_option linter.unusedVariables false
set_option maxRecDepth 20000
set_option linter.unusedSimpArgs false
open Go.RowKit Go.HeapKit

def finT (l : List Dd) (st : List Bool) (pk : List Int) : List Int := if refE l st pk = 0 then putsD l else []
def madeT (l : List Dd) (st : List Bool) (pk : List Int) : Nat := if refE l st pk = 0 then (finPS l st pk).vs.length else 0
def mgT (l : List Dd) (st : List Bool) (pk : List Int) : List (Nat × Nat × Nat) := if refE l st pk = 0 then (finPS l st pk).mg else []
def lkT (l : List Dd) (st : List Bool) (pk : List Int) : List (List Int) := if refE l st pk = 0 then (finPS l st pk).lk else []
/-- Merges that can be read. -/
def SeenM (w : World) (a : Option Addr) (mg : List (Nat × Nat × Nat)) : Prop := ∀ k x, mg[k]? = some x → ∃ g, a = some ⟨g, 0, none⟩ ∧ w.cell? ⟨g, k * 3, none⟩ = some (.int .i64 x.1) ∧ w.cell? ⟨g, k * 3 + 1, none⟩ = some (.int .i64 x.2.1) ∧ w.cell? ⟨g, k * 3 + 2, none⟩ = some (.int .i64 x.2.2)
theorem SeenM.more {w w' : World} {a : Option Addr} {mg : List (Nat × Nat × Nat)} (h : SeenM w a mg) (hk : Keeps None w w') : SeenM w' a mg := fun k x hx => by
  obtain ⟨g, e, h0, h1, h2⟩ := h k x hx
  exact ⟨g, e, hk.cell h0 (fun f => f), hk.cell h1 (fun f => f), hk.cell h2 (fun f => f)⟩
theorem mgV_at (mg : List (Nat × Nat × Nat)) (k : Nat) (x : Nat × Nat × Nat) (h : mg[k]? = some x) : (mgV mg)[k * 3]? = some (.int .i64 x.1) ∧ (mgV mg)[k * 3 + 1]? = some (.int .i64 x.2.1) ∧ (mgV mg)[k * 3 + 2]? = some (.int .i64 x.2.2) := by
  induction mg generalizing k with
  | nil => simp at h
  | cons y l ih =>
    have e : mgV (y :: l) = [.int .i64 y.1, .int .i64 y.2.1, .int .i64 y.2.2] ++ mgV l := rfl
    rw [e]
    cases k with
    | zero => simp at h; subst h; exact ⟨rfl, rfl, rfl⟩
    | succ k =>
      have := ih k (by simpa using h)
      rw [List.getElem?_append_right (by simp; omega), List.getElem?_append_right (by simp; omega), List.getElem?_append_right (by simp; omega)]
      refine ⟨?_, ?_, ?_⟩
      · rw [← this.1]; congr 1; simp; omega
      · rw [← this.2.1]; congr 1; simp; omega
      · rw [← this.2.2]; congr 1; simp; omega
theorem Fin.merges {w : World} {B : Nat} {X : PX} {K : Ky → Value} {s : PS} (h : Fin w B X K s) : SeenM w X.ma s.mg := fun k x hx => by
  obtain ⟨h0, h1, h2⟩ := mgV_at s.mg k x hx
  obtain ⟨g, e, _, _, _, c0, _⟩ := own_cellS h.mg h0
  obtain ⟨g1, e1, _, _, _, c1, _⟩ := own_cellS h.mg h1
  obtain ⟨g2, e2, _, _, _, c2, _⟩ := own_cellS h.mg h2
  rw [e] at e1 e2
  injection e1 with e1
  injection e1 with e1
  injection e2 with e2
  injection e2 with e2
  subst e1 e2
  exact ⟨_, e, c0, c1, c2⟩
theorem Play_told (a : Option Addr) (n c : Nat) (l : List Dd) (sa : Option Addr) (m sc : Nat) (st : List Bool) (pa : Option Addr) (k pc : Nat) (pk : List Int) (w : World) (hS : Seen w a n l) (hT : SeenV w sa m (bv' st)) (hP : SeenV w pa k (iv pk)) (hpc : k ≤ pc) :
    Calls Try.prog 7 #[.slice a n c, .slice sa m sc, .slice pa k pc] w fun e w' =>
      ∃ fa fc ma mc la lc, e = .returned (.tuple #[.agg #[.slice fa (finT l st pk).length fc, .int .i64 (madeT l st pk), .slice ma (mgT l st pk).length mc, .slice la (lkT l st pk).length lc], .int .i64 (refE l st pk)]) ∧
        SeenV w' fa (finT l st pk).length (iv (finT l st pk)) ∧ SeenL w' la (lkT l st pk).length (lkT l st pk) ∧ SeenM w' ma (mgT l st pk) ∧ Keeps None w w' := by
  refine (Play_ok a n c l sa m sc st pa k pc pk w hS hT hP hpc).mono ?_
  rintro e w' ⟨hbad, hgood, hk⟩
  unfold finT madeT mgT lkT
  by_cases hE : refE l st pk = 0
  · obtain ⟨B, X, K, h1, -, h2⟩ := hgood hE
    obtain ⟨fa, fc, h3, h4⟩ := h2.final
    rw [if_pos hE, if_pos hE, if_pos hE, if_pos hE, hE]
    rw [h3] at h1
    exact ⟨fa, fc, X.ma, X.mc, X.la, X.lc, h1, h4, h2.looks, h2.merges, hk⟩
  · rw [if_neg hE, if_neg hE, if_neg hE, if_neg hE]
    exact ⟨none, 0, none, 0, none, 0, hbad hE, SeenV.nil _ _, ⟨rfl, fun k x hx => by simp at hx⟩, fun k x hx => by simp at hx, hk⟩
end Go.Proofs.Ytdiabpoafennlab
/-! The plain laws of the operations that have a unit. -/
namespace Go.PlainOps
open Go.RowKit

def sevenV (i : Int) : Int :=
  if i = 0 then 0 else if i = 1 then 2 else if i = 2 then 5 else if i = 3 then 6 else if i = 4 then 7 else if i = 5 then 10 else 11
theorem sevenV_cases (i : Int) : sevenV i = 0 ∨ sevenV i = 2 ∨ sevenV i = 5 ∨ sevenV i = 6 ∨ sevenV i = 7 ∨ sevenV i = 10 ∨ sevenV i = 11 := by
  unfold sevenV; repeat' split
  all_goals simp
theorem hasU_cases {op : Int} (h : hasU op = true) : op = 0 ∨ op = 2 ∨ op = 5 ∨ op = 6 ∨ op = 7 ∨ op = 10 ∨ op = 11 := by
  simp only [hasU, Bool.or_eq_true, beq_iff_eq] at h
  omega
theorem hasU_seven (i : Int) : hasU (sevenV i) = true := by
  rcases sevenV_cases i with h | h | h | h | h | h | h <;> rw [h] <;> rfl
theorem isOp_hasU {op : Int} (h : hasU op = true) : isOpV op = true := by
  rcases hasU_cases h with h | h | h | h | h | h | h <;> rw [h] <;> rfl

theorem workV_fits (op a b : Int) (h : hasU op = true) (ha : -9223372036854775808 ≤ a ∧ a ≤ 9223372036854775807) (hb : -9223372036854775808 ≤ b ∧ b ≤ 9223372036854775807) :
    -9223372036854775808 ≤ workV op a b ∧ workV op a b ≤ 9223372036854775807 := by
  rcases hasU_cases h with rfl | rfl | rfl | rfl | rfl | rfl | rfl
  · show _ ≤ wrap64 (a + b) ∧ wrap64 (a + b) ≤ _; unfold wrap64; omega
  · show _ ≤ wrap64 (a * b) ∧ wrap64 (a * b) ≤ _; unfold wrap64; omega
  · show _ ≤ bits .and .i64 a b ∧ bits .and .i64 a b ≤ _; rw [bits_and]; exact bv_bounds _
  · show _ ≤ bits .or .i64 a b ∧ bits .or .i64 a b ≤ _; rw [bits_or]; exact bv_bounds _
  · show _ ≤ bits .xor .i64 a b ∧ bits .xor .i64 a b ≤ _; rw [bits_xor]; exact bv_bounds _
  · show _ ≤ minV a b ∧ minV a b ≤ _; unfold minV; split <;> omega
  · show _ ≤ maxV a b ∧ maxV a b ≤ _; unfold maxV; split <;> omega
theorem workV_comm (op a b : Int) (h : hasU op = true) : workV op a b = workV op b a := by
  rcases hasU_cases h with rfl | rfl | rfl | rfl | rfl | rfl | rfl
  · show wrap64 (a + b) = wrap64 (b + a); rw [Int.add_comm]
  · show wrap64 (a * b) = wrap64 (b * a); rw [Int.mul_comm]
  · show bits .and .i64 a b = bits .and .i64 b a; rw [bits_and, bits_and, BitVec.and_comm]
  · show bits .or .i64 a b = bits .or .i64 b a; rw [bits_or, bits_or, BitVec.or_comm]
  · show bits .xor .i64 a b = bits .xor .i64 b a; rw [bits_xor, bits_xor, BitVec.xor_comm]
  · show minV a b = minV b a; unfold minV; split <;> split <;> omega
  · show maxV a b = maxV b a; unfold maxV; split <;> split <;> omega
theorem workV_assoc (op a b c : Int) (h : hasU op = true) : workV op (workV op a b) c = workV op a (workV op b c) := by
  rcases hasU_cases h with rfl | rfl | rfl | rfl | rfl | rfl | rfl
  · show wrap64 (wrap64 (a + b) + c) = wrap64 (a + wrap64 (b + c)); unfold wrap64; omega
  · show wrap64 (wrap64 (a * b) * c) = wrap64 (a * wrap64 (b * c))
    simp only [wrap64_bv, bv_mul, bv_toInt, BitVec.mul_assoc]
  · show bits .and .i64 (bits .and .i64 a b) c = bits .and .i64 a (bits .and .i64 b c)
    simp only [bits_and, bv_toInt, BitVec.and_assoc]
  · show bits .or .i64 (bits .or .i64 a b) c = bits .or .i64 a (bits .or .i64 b c)
    simp only [bits_or, bv_toInt, BitVec.or_assoc]
  · show bits .xor .i64 (bits .xor .i64 a b) c = bits .xor .i64 a (bits .xor .i64 b c)
    simp only [bits_xor, bv_toInt, BitVec.xor_assoc]
  · show minV (minV a b) c = minV a (minV b c)
    unfold minV; repeat' split
    all_goals omega
  · show maxV (maxV a b) c = maxV a (maxV b c)
    unfold maxV; repeat' split
    all_goals omega
theorem workV_unit (op a : Int) (h : hasU op = true) (h0 : -9223372036854775808 ≤ a) (h1 : a ≤ 9223372036854775807) : workV op (unitV op) a = a := by
  rcases hasU_cases h with rfl | rfl | rfl | rfl | rfl | rfl | rfl
  · show wrap64 (0 + a) = a; unfold wrap64; omega
  · show wrap64 (1 * a) = a; unfold wrap64; omega
  · show bits .and .i64 (-1) a = a
    rw [bits_and]
    have e : bv (-1) = BitVec.allOnes 64 := by decide
    rw [e, BitVec.allOnes_and, toInt_bv h0 h1]
  · show bits .or .i64 0 a = a
    rw [bits_or]
    have e : bv 0 = 0#64 := by decide
    rw [e, BitVec.zero_or, toInt_bv h0 h1]
  · show bits .xor .i64 0 a = a
    rw [bits_xor]
    have e : bv 0 = 0#64 := by decide
    rw [e, BitVec.zero_xor, toInt_bv h0 h1]
  · show minV 9223372036854775807 a = a; unfold minV; split <;> omega
  · show maxV (-9223372036854775808) a = a; unfold maxV; split <;> omega
theorem workV_unit' (op a : Int) (h : hasU op = true) (h0 : -9223372036854775808 ≤ a) (h1 : a ≤ 9223372036854775807) : workV op a (unitV op) = a := by
  rw [workV_comm op _ _ h]; exact workV_unit op a h h0 h1
theorem unitV_fits (op : Int) : -9223372036854775808 ≤ unitV op ∧ unitV op ≤ 9223372036854775807 := by
  unfold unitV; repeat' split
  all_goals omega
end Go.PlainOps
/-! Folds, as plain functions. -/
namespace Go.PlainOps
open Go.RowKit

/-- The error of a fold of n elements, or 0. -/
def foldErr (op n : Int) : Int := if isOpV op = false then 10 else if hasU op = false then 11 else if 65536 < n then 2 else 0
def foldK (op : Int) (zs : List Int) (k : Nat) : Int := (zs.take k).foldl (workV op) (unitV op)
def foldV (op : Int) (zs : List Int) : Int := zs.foldl (workV op) (unitV op)
theorem foldK_zero (op : Int) (zs : List Int) : foldK op zs 0 = unitV op := by simp [foldK]
theorem foldK_succ (op : Int) (zs : List Int) (k : Nat) (hk : k < zs.length) : workV op (foldK op zs k) (zs.getD k 0) = foldK op zs (k + 1) := by
  unfold foldK
  rw [List.take_succ_eq_append_getElem hk, List.foldl_append]
  simp [List.getD, List.getElem?_eq_getElem hk]
theorem foldK_end (op : Int) (zs : List Int) (k : Nat) (hk : zs.length ≤ k) : foldK op zs k = foldV op zs := by
  unfold foldK foldV; rw [List.take_of_length_le hk]
/-- The fold by halves, with fuel. -/
def treeN (op : Int) : Nat → List Int → Int
  | 0, _ => 0
  | _, [x] => x
  | f + 1, zs => workV op (treeN op f (zs.take (zs.length / 2))) (treeN op f (zs.drop (zs.length / 2)))
def treeV (op : Int) (zs : List Int) : Int := treeN op zs.length zs
theorem treeN_one (op x : Int) (f : Nat) : treeN op (f + 1) [x] = x := by simp [treeN]
theorem treeN_more (op : Int) (f : Nat) (zs : List Int) (h : 2 ≤ zs.length) : treeN op (f + 1) zs = workV op (treeN op f (zs.take (zs.length / 2))) (treeN op f (zs.drop (zs.length / 2))) := by
  match zs, h with
  | _ :: _ :: _, _ => rw [treeN]; simp
theorem treeN_fuel (op : Int) : ∀ (n : Nat) (zs : List Int), zs.length = n → 1 ≤ n → ∀ f, n ≤ f → treeN op f zs = treeN op n zs := by
  intro n
  induction n using Nat.strongRecOn with
  | ind n ih =>
    intro zs hz h1 f hf
    match n, f, h1, hf with
    | n + 1, f + 1, _, hf =>
      by_cases h2 : zs.length = 1
      · match zs, h2 with
        | [x], _ => rw [treeN_one, treeN_one]
      · rw [treeN_more op f zs (by omega), treeN_more op n zs (by omega)]
        have l1 : (zs.take (zs.length / 2)).length = zs.length / 2 := by rw [List.length_take]; omega
        have l2 : (zs.drop (zs.length / 2)).length = zs.length - zs.length / 2 := by rw [List.length_drop]
        rw [ih _ (by omega) _ l1 (by omega) f (by omega), ih _ (by omega) _ l1 (by omega) n (by omega), ih _ (by omega) _ l2 (by omega) f (by omega), ih _ (by omega) _ l2 (by omega) n (by omega)]
theorem treeV_one (op x : Int) : treeV op [x] = x := by unfold treeV; exact treeN_one op x 0
theorem treeV_more (op : Int) (zs : List Int) (h : 2 ≤ zs.length) : treeV op zs = workV op (treeV op (zs.take (zs.length / 2))) (treeV op (zs.drop (zs.length / 2))) := by
  unfold treeV
  obtain ⟨n, hn⟩ : ∃ n, zs.length = n + 1 := ⟨zs.length - 1, by omega⟩
  have l1 : (zs.take (zs.length / 2)).length = zs.length / 2 := by rw [List.length_take]; omega
  have l2 : (zs.drop (zs.length / 2)).length = zs.length - zs.length / 2 := by rw [List.length_drop]
  conv => lhs; rw [hn]
  rw [treeN_more op n zs h]
  rw [treeN_fuel op _ _ l1 (by omega) n (by omega), treeN_fuel op _ _ l2 (by omega) n (by omega)]
  rw [l1, l2]

/-! Where the operation has a unit, a list may be cut anywhere. -/
def Fits (zs : List Int) : Prop := ∀ x ∈ zs, -9223372036854775808 ≤ x ∧ x ≤ 9223372036854775807
theorem foldl_fits (op : Int) (h : hasU op = true) : ∀ (zs : List Int) (u : Int), Fits zs → (-9223372036854775808 ≤ u ∧ u ≤ 9223372036854775807) → -9223372036854775808 ≤ zs.foldl (workV op) u ∧ zs.foldl (workV op) u ≤ 9223372036854775807
  | [], _, _, hu => hu
  | x :: r, u, hz, hu => foldl_fits op h r _ (fun y hy => hz y (List.mem_cons_of_mem _ hy)) (workV_fits op u x h hu (hz x (List.mem_cons_self ..)))
theorem foldV_fits (op : Int) (h : hasU op = true) (zs : List Int) (hz : Fits zs) : -9223372036854775808 ≤ foldV op zs ∧ foldV op zs ≤ 9223372036854775807 := foldl_fits op h zs _ hz (unitV_fits op)
theorem foldl_out (op : Int) (h : hasU op = true) : ∀ (zs : List Int) (u : Int), Fits zs → (-9223372036854775808 ≤ u ∧ u ≤ 9223372036854775807) → zs.foldl (workV op) u = workV op u (foldV op zs)
  | [], u, _, hu => by rw [List.foldl_nil]; exact (workV_unit' op u h hu.1 hu.2).symm
  | x :: r, u, hz, hu => by
    have hx := hz x (List.mem_cons_self ..)
    have hr : Fits r := fun y hy => hz y (List.mem_cons_of_mem _ hy)
    rw [List.foldl_cons, foldl_out op h r _ hr (workV_fits op u x h hu hx), workV_assoc op u x _ h]
    congr 1
    unfold foldV
    rw [List.foldl_cons, workV_unit op x h hx.1 hx.2]
    exact (foldl_out op h r x hr hx).symm
theorem foldV_append (op : Int) (h : hasU op = true) (xs ys : List Int) (hx : Fits xs) (hy : Fits ys) : foldV op (xs ++ ys) = workV op (foldV op xs) (foldV op ys) := by
  have e : foldV op (xs ++ ys) = ys.foldl (workV op) (foldV op xs) := by unfold foldV; rw [List.foldl_append]
  rw [e]
  exact foldl_out op h ys _ hy (foldV_fits op h xs hx)
theorem Fits.take {zs : List Int} (h : Fits zs) (k : Nat) : Fits (zs.take k) := fun x hx => h x (List.mem_of_mem_take hx)
theorem Fits.drop {zs : List Int} (h : Fits zs) (k : Nat) : Fits (zs.drop k) := fun x hx => h x (List.mem_of_mem_drop hx)
theorem foldV_cut (op : Int) (h : hasU op = true) (zs : List Int) (hz : Fits zs) (k : Nat) : workV op (foldV op (zs.take k)) (foldV op (zs.drop k)) = foldV op zs := by
  rw [← foldV_append op h _ _ (hz.take k) (hz.drop k), List.take_append_drop]
theorem treeV_foldV (op : Int) (h : hasU op = true) : ∀ (n : Nat) (zs : List Int), zs.length = n → 1 ≤ n → Fits zs → treeV op zs = foldV op zs := by
  intro n
  induction n using Nat.strongRecOn with
  | ind n ih =>
    intro zs hz h1 hf
    by_cases h2 : zs.length = 1
    · match zs, h2 with
      | [x], _ =>
        have hx := hf x (List.mem_cons_self ..)
        rw [treeV_one]; unfold foldV
        rw [List.foldl_cons, List.foldl_nil, workV_unit op x h hx.1 hx.2]
    · have l1 : (zs.take (zs.length / 2)).length = zs.length / 2 := by rw [List.length_take]; omega
      have l2 : (zs.drop (zs.length / 2)).length = zs.length - zs.length / 2 := by rw [List.length_drop]
      rw [treeV_more op zs (by omega), ih _ (by omega) _ l1 (by omega) (hf.take _), ih _ (by omega) _ l2 (by omega) (hf.drop _)]
      exact foldV_cut op h zs hf _
end Go.PlainOps
/-! The document's play on its way, in memory: its views hold lists and, beside each, a number; lists and rows are copied anew, so that nothing is written where one lies. -/
namespace Go.Proofs.Ytdiabpoafennlab.Rn
set_option linter.unusedVariables false
set_option maxRecDepth 20000
set_option linter.unusedSimpArgs false
open Go.RowKit Go.HeapKit Go.PlainOps

/-- What does not change in a play: the operation or -1, its unit, the picks. -/
structure RP where
  op : Int
  unit : Int
  pk : List Int
  pa : Option Addr
  pc : Nat
structure RX where
  va : Option Addr
  vc : Nat
  ta : Option Addr
  tc : Nat
  ma : Option Addr
  mc : Nat
  la : Option Addr
  lc : Nat
/-- The number beside a list. -/
def gV (K : RP) (l : List Int) : Int := if K.op < 0 then 0 else foldV K.op l
def cells (K : RP) (X : RX) (nx : Nat) (s : PS) : Array Value := #[.int .i64 K.op, .int .i64 K.unit, .slice X.va s.vs.length X.vc, .slice X.ta s.tk.length X.tc, .slice K.pa K.pk.length K.pc, .int .i64 nx, .int .i64 s.spn,
  .slice none 0 0, .int .i64 0, .slice X.ma s.mg.length X.mc, .slice X.la s.lk.length X.lc]
def vF (K : RP) (vs : List (List Int)) (L : Nat → Value) (k : Nat) : Value := if k % 2 = 0 then L (k / 2) else .int .i64 (gV K (vs.getD (k / 2) []))
/-- The cells of the tasks: spawn (the root's is -1), row. -/
def sF (tk : List (Nat × List Nat)) (R : Nat → Value) (k : Nat) : Value := if k % 2 = 0 then .int .i64 (if k = 0 then -1 else ((tk.getD (k / 2) (0, [])).1 : Int)) else R (k / 2)
structure Vw (w : World) (base : Nat) (K : RP) (va : Option Addr) (vc : Nat) (la : Option Addr) (lc : Nat) (L M : Nat → Value) (vs lk : List (List Int)) : Prop where
  views : w.ownsRow base 83 2 (.slice va vs.length vc) vs.length ((List.range (vs.length * 2)).map (vF K vs L))
  rows : ∀ i, i < vs.length → w.ownsRow base 2 1 (L i) (vs.getD i []).length (iv (vs.getD i []))
  looks : w.ownsRow base 28 1 (.slice la lk.length lc) lk.length ((List.range lk.length).map M)
  told : ∀ i, i < lk.length → w.ownsRow base 2 1 (M i) (lk.getD i []).length (iv (lk.getD i []))
structure Tk (w : World) (base : Nat) (ta : Option Addr) (tc : Nat) (R : Nat → Value) (tk : List (Nat × List Nat)) : Prop where
  tks : w.ownsRow base 93 2 (.slice ta tk.length tc) tk.length ((List.range (tk.length * 2)).map (sF tk R))
  rows : ∀ i, i < tk.length → w.ownsRow base 3 1 (R i) (rowOf tk i).length (nv (rowOf tk i))
structure Ar (w : World) (base : Nat) (K : RP) (nx : Nat) (pk : List Int) : Prop where
  seen : SeenV w K.pa K.pk.length (iv K.pk)
  low : ∀ b, blockOf K.pa = some b → 0 < K.pk.length → b < base
  rest : pk = K.pk.drop nx
  le : nx ≤ K.pk.length
structure PM (w : World) (base pb : Nat) (K : RP) (X : RX) (L M R : Nat → Value) (nx : Nat) (s : PS) : Prop where
  blk : w.heap[pb]? = some (.cells (cells K X nx s) 65 (0, 0))
  lo : base ≤ pb
  vw : Vw w base K X.va X.vc X.la X.lc L M s.vs s.lk
  tk : Tk w base X.ta X.tc R s.tk
  ar : Ar w base K nx s.pk
  mg : w.ownsRow base 96 3 (.slice X.ma s.mg.length X.mc) s.mg.length (mgV s.mg)
section
variable {w w' : World} {base pb nx : Nat} {K : RP} {X : RX} {L M R : Nat → Value} {s : PS} {S : Nat → Prop} {t : TypeId}
theorem Vw.other {va la : Option Addr} {vc lc : Nat} {vs lk : List (List Int)} (h : Vw w base K va vc la lc L M vs lk) (hk : Keeps S w w') (hS : OnlyT S w t) (h1 : t ≠ 2) (h2 : t ≠ 28) (h3 : t ≠ 83) : Vw w' base K va vc la lc L M vs lk :=
  ⟨row_other h.views hk hS h3, fun i hi => row_other (h.rows i hi) hk hS h1, row_other h.looks hk hS h2, fun i hi => row_other (h.told i hi) hk hS h1⟩
theorem Tk.other {ta : Option Addr} {tc : Nat} {tk : List (Nat × List Nat)} (h : Tk w base ta tc R tk) (hk : Keeps S w w') (hS : OnlyT S w t) (h1 : t ≠ 93) (h2 : t ≠ 3) : Tk w' base ta tc R tk :=
  ⟨row_other h.tks hk hS h1, fun i hi => row_other (h.rows i hi) hk hS h2⟩
theorem Ar.other {pk : List Int} (h : Ar w base K nx pk) (hk : Keeps S w w') (hS : ∀ i, S i → base ≤ i) : Ar w' base K nx pk :=
  ⟨h.seen.kept hk (fun h0 b hb hlt hs => by have := hS b hs; have := h.low b hb h0; omega), h.low, h.rest, h.le⟩
theorem PM.more (h : PM w base pb K X L M R nx s) (hk : Keeps None w w') : PM w' base pb K X L M R nx s :=
  ⟨blk_kept h.blk hk (fun f => f), h.lo, h.vw.other (t := 0) hk (fun _ f => f.elim) (by decide) (by decide) (by decide), h.tk.other (t := 0) hk (fun _ f => f.elim) (by decide) (by decide), h.ar.other hk (fun _ f => f.elim), row_kept h.mg hk (fun _ _ f => f)⟩
theorem PM.cell (h : PM w base pb K X L M R nx s) (i : Nat) : w.cell? ⟨pb, i, none⟩ = (cells K X nx s)[i]? := blk_cell h.blk i
theorem PM.free (h : PM w base pb K X L M R nx s) (i : Nat) : w.frozen? ⟨pb, i, none⟩ = false := blk_free h.blk i
/-- One of the run's cells is stored: what stands besides. -/
theorem PM.put {c : Array Value} (hb : w.heap[pb]? = some (.cells c 65 (0, 0))) (hl : base ≤ pb) {i : Nat} {v : Value} (hc : c.setIfInBounds i v = cells K X nx s) (h1 : Vw w base K X.va X.vc X.la X.lc L M s.vs s.lk) (h2 : Tk w base X.ta X.tc R s.tk) (h3 : Ar w base K nx s.pk)
    (h4 : w.ownsRow base 96 3 (.slice X.ma s.mg.length X.mc) s.mg.length (mgV s.mg)) : PM (w.setCell ⟨pb, i, none⟩ v) base pb K X L M R nx s := by
  have hk : Keeps (· = pb) w (w.setCell ⟨pb, i, none⟩ v) := keeps_one (Keeps.refl _ _) _
  have ho : OnlyT (· = pb) w 65 := onlyT_one hb
  refine ⟨?_, hl, h1.other hk ho (by decide) (by decide) (by decide), h2.other hk ho (by decide) (by decide), h3.other hk (fun i e => by omega), row_other h4 hk ho (by decide)⟩
  rw [← hc]
  exact blk_set hb v
theorem PM.c0 (h : PM w base pb K X L M R nx s) : w.cell? ⟨pb, 0, none⟩ = some (.int .i64 K.op) ∧ w.cell? ⟨pb, 1, none⟩ = some (.int .i64 K.unit) ∧ w.cell? ⟨pb, 2, none⟩ = some (.slice X.va s.vs.length X.vc) ∧ w.cell? ⟨pb, 3, none⟩ = some (.slice X.ta s.tk.length X.tc) ∧ w.cell? ⟨pb, 4, none⟩ = some (.slice K.pa K.pk.length K.pc) ∧ w.cell? ⟨pb, 5, none⟩ = some (.int .i64 nx) ∧ w.cell? ⟨pb, 6, none⟩ = some (.int .i64 s.spn) ∧
    w.cell? ⟨pb, 9, none⟩ = some (.slice X.ma s.mg.length X.mc) ∧ w.cell? ⟨pb, 10, none⟩ = some (.slice X.la s.lk.length X.lc) :=
  ⟨h.cell 0, h.cell 1, h.cell 2, h.cell 3, h.cell 4, h.cell 5, h.cell 6, h.cell 9, h.cell 10⟩
theorem PM.spawned (h : PM w base pb K X L M R nx s) : PM (w.setCell ⟨pb, 6, none⟩ (.int .i64 ((s.spn + 1 : Nat) : Int))) base pb K X L M R nx { s with spn := s.spn + 1 } :=
  PM.put (c := cells K X nx s) h.blk h.lo (by simp [cells]) h.vw h.tk h.ar h.mg
/-- The next pick is taken. -/
theorem PM.nextPick (h : PM w base pb K X L M R nx s) {x : Int} {pk : List Int} (hp : s.pk = x :: pk) : K.pk[nx]? = some x ∧ PM (w.setCell ⟨pb, 5, none⟩ (.int .i64 ((nx + 1 : Nat) : Int))) base pb K X L M R (nx + 1) { s with pk := pk } := by
  have h1 := h.ar.rest
  rw [hp] at h1
  have hlt : nx < K.pk.length := by
    rcases Nat.lt_or_ge nx K.pk.length with h2 | h2
    · exact h2
    · rw [List.drop_eq_nil_of_le h2] at h1; cases h1
  rw [List.drop_eq_getElem_cons hlt] at h1
  injection h1 with e1 e2
  refine ⟨by rw [List.getElem?_eq_getElem hlt, e1], PM.put (c := cells K X nx s) h.blk h.lo (by simp [cells]) h.vw h.tk ⟨h.ar.seen, h.ar.low, e2, hlt⟩ h.mg⟩
/-- A merge is told. -/
theorem PM.newMerge (h : PM w base pb K X L M R nx s) {w1 : World} {x : Nat × Nat × Nat} {g cap : Nat} (ho : w1.ownsRow base 96 3 (.slice (some ⟨g, 0, none⟩) (s.mg.length + 1) cap) (s.mg.length + 1) (mgV (s.mg ++ [x]))) (hk : Keeps (fun k => (Value.slice X.ma s.mg.length X.mc).ownBlock = some k) w w1) :
    PM (w1.setCell ⟨pb, 9, none⟩ (.slice (some ⟨g, 0, none⟩) (s.mg.length + 1) cap)) base pb K { X with ma := some ⟨g, 0, none⟩, mc := cap } L M R nx { s with mg := s.mg ++ [x] } := by
  have hT := onlyT_own h.mg
  refine PM.put (c := cells K X nx s) (blk_other h.blk hk hT (by decide)) h.lo (by simp [cells]) (h.vw.other hk hT (by decide) (by decide) (by decide)) (h.tk.other hk hT (by decide) (by decide)) (h.ar.other hk (fun i e => row_low h.mg e)) ?_
  show w1.ownsRow base 96 3 (.slice (some ⟨g, 0, none⟩) (s.mg ++ [x]).length cap) (s.mg ++ [x]).length _
  rw [List.length_append, List.length_singleton]
  exact ho
end
end Go.Proofs.Ytdiabpoafennlab.Rn
/-! What becomes of the document's run in memory: views, looks, tasks. -/
namespace Go.Proofs.Ytdiabpoafennlab.Rn
set_option linter.unusedVariables false
set_option maxRecDepth 20000
set_option linter.unusedSimpArgs false
open Go.RowKit Go.HeapKit Go.PlainOps

theorem v_more (K : RP) (vs : List (List Int)) (L : Nat → Value) (l : List Int) (V : Value) : (List.range ((vs ++ [l]).length * 2)).map (vF K (vs ++ [l]) (upd L vs.length V)) = (List.range (vs.length * 2)).map (vF K vs L) ++ [V, .int .i64 (gV K l)] := by
  have e : (vs ++ [l]).length * 2 = vs.length * 2 + 1 + 1 := by simp; omega
  rw [e, List.range_succ, List.range_succ, List.map_append, List.map_append, List.append_assoc]
  congr 1
  · refine range_cong (fun k hk => ?_)
    unfold vF
    rw [upd_ne (by omega), List.getD_eq_getElem?_getD, List.getElem?_append_left (by omega), ← List.getD_eq_getElem?_getD]
  · simp [vF, show (vs.length * 2 + 1) % 2 = 1 by omega, show (vs.length * 2 + 1) / 2 = vs.length by omega, upd_eq]
theorem v_set (K : RP) (vs : List (List Int)) (L : Nat → Value) (l : List Int) (V : Value) (h : Nat) (hh : h < vs.length) : (((List.range (vs.length * 2)).map (vF K vs L)).set (h * 2) V).set (h * 2 + 1) (.int .i64 (gV K l)) = (List.range (vs.length * 2)).map (vF K (vs.set h l) (upd L h V)) := by
  rw [range_setF, range_setF]
  refine range_cong (fun k hk => ?_)
  have hg : ∀ i, i ≠ h → (vs.set h l).getD i [] = vs.getD i [] := fun i hi => by rw [List.getD_eq_getElem?_getD, List.getElem?_set_ne (fun e => hi e.symm), ← List.getD_eq_getElem?_getD]
  by_cases e1 : k = h * 2 + 1
  · subst e1
    rw [upd_eq]
    simp [vF, show (h * 2 + 1) % 2 = 1 by omega, show (h * 2 + 1) / 2 = h by omega, hh]
  · rw [upd_ne e1]
    by_cases e2 : k = h * 2
    · subst e2
      rw [upd_eq]
      simp [vF, upd_eq]
    · rw [upd_ne e2]
      unfold vF
      by_cases h2 : k % 2 = 0
      · rw [if_pos h2, if_pos h2, upd_ne (by omega)]
      · rw [if_neg h2, if_neg h2, hg _ (by omega)]
theorem s_cong {tk tk' : List (Nat × List Nat)} {R R' : Nat → Value} {n : Nat} (h1 : ∀ i, i < n → (tk.getD i (0, [])).1 = (tk'.getD i (0, [])).1) (h2 : ∀ i, i < n → R i = R' i) : (List.range (n * 2)).map (sF tk R) = (List.range (n * 2)).map (sF tk' R') := by
  refine range_cong (fun k hk => ?_)
  unfold sF
  rw [h1 _ (by omega), h2 _ (by omega)]
theorem s_more {tk : List (Nat × List Nat)} (h0 : tk ≠ []) (R : Nat → Value) (x : Nat × List Nat) (V : Value) : (List.range ((tk ++ [x]).length * 2)).map (sF (tk ++ [x]) (upd R tk.length V)) = (List.range (tk.length * 2)).map (sF tk R) ++ [.int .i64 x.1, V] := by
  have hp : 0 < tk.length := List.length_pos_iff.2 h0
  have e : (tk ++ [x]).length * 2 = tk.length * 2 + 1 + 1 := by simp; omega
  rw [e, List.range_succ, List.range_succ, List.map_append, List.map_append, List.append_assoc]
  congr 1
  · refine s_cong (fun i hi => ?_) (fun i hi => upd_ne (by omega))
    rw [List.getD_eq_getElem?_getD, List.getElem?_append_left hi, ← List.getD_eq_getElem?_getD]
  · simp [sF, show (tk.length * 2 + 1) % 2 = 1 by omega, show (tk.length * 2 + 1) / 2 = tk.length by omega, upd_eq, h0]
    omega
theorem s_row (tk : List (Nat × List Nat)) (R : Nat → Value) (n i : Nat) (V : Value) : ((List.range (n * 2)).map (sF tk R)).set (i * 2 + 1) V = (List.range (n * 2)).map (sF tk (upd R i V)) := by
  rw [range_setF]
  refine range_cong (fun k hk => ?_)
  by_cases e : k = i * 2 + 1
  · subst e
    rw [upd_eq]
    simp [sF, show (i * 2 + 1) % 2 = 1 by omega, show (i * 2 + 1) / 2 = i by omega, upd_eq]
  · rw [upd_ne e]
    unfold sF
    by_cases h2 : k % 2 = 0
    · rw [if_pos h2, if_pos h2]
    · rw [if_neg h2, if_neg h2, upd_ne (by omega)]
section
variable {w w1 : World} {base pb nx : Nat} {K : RP} {X : RX} {L M R : Nat → Value} {s : PS}
/-- A new view. -/
theorem PM.newView (h : PM w base pb K X L M R nx s) (hu : K.unit = gV K []) {g cap : Nat} (ho : w1.ownsRow base 83 2 (.slice (some ⟨g, 0, none⟩) (s.vs.length + 1) cap) (s.vs.length + 1) ((List.range (s.vs.length * 2)).map (vF K s.vs L) ++ [.slice none 0 0, .int .i64 K.unit])) (hk : Keeps (fun k => (Value.slice X.va s.vs.length X.vc).ownBlock = some k) w w1) :
    PM (w1.setCell ⟨pb, 2, none⟩ (.slice (some ⟨g, 0, none⟩) (s.vs.length + 1) cap)) base pb K { X with va := some ⟨g, 0, none⟩, vc := cap } (upd L s.vs.length (.slice none 0 0)) M R nx { s with vs := s.vs ++ [[]] } := by
  have hT := onlyT_own h.vw.views
  refine PM.put (c := cells K X nx s) (blk_other h.blk hk hT (by decide)) h.lo (by simp [cells]) ⟨?_, fun i hi => ?_, row_other h.vw.looks hk hT (by decide), fun i hi => row_other (h.vw.told i hi) hk hT (by decide)⟩ (h.tk.other hk hT (by decide) (by decide)) (h.ar.other hk (fun i e => row_low h.vw.views e)) (row_other h.mg hk hT (by decide))
  · show w1.ownsRow base 83 2 (.slice (some ⟨g, 0, none⟩) (s.vs ++ [[]]).length cap) (s.vs ++ [[]]).length ((List.range ((s.vs ++ [[]]).length * 2)).map _)
    rw [v_more, List.length_append, List.length_singleton, ← hu]
    exact ho
  · show w1.ownsRow base 2 1 (upd L s.vs.length (.slice none 0 0) i) ((s.vs ++ [[]]).getD i []).length (iv ((s.vs ++ [[]]).getD i []))
    by_cases e : i = s.vs.length
    · subst e
      have e2 : (s.vs ++ [([] : List Int)]).getD s.vs.length [] = [] := by simp
      rw [upd_eq, e2]
      exact row_nil _ _ _ _
    · have hi2 : i < s.vs.length := by have : i < (s.vs ++ [[]]).length := hi; simp at this; omega
      rw [upd_ne e, List.getD_eq_getElem?_getD, List.getElem?_append_left hi2, ← List.getD_eq_getElem?_getD]
      exact row_other (h.vw.rows i hi2) hk hT (by decide)
/-- A view holds another list. -/
theorem PM.putView (h : PM w base pb K X L M R nx s) {v vb : Nat} {V : Value} {l : List Int} (hv : v < s.vs.length) (hva : X.va = some ⟨vb, 0, none⟩) (ho : w.ownsRow base 2 1 V l.length (iv l)) :
    PM ((w.setCell ⟨vb, v * 2, none⟩ V).setCell ⟨vb, v * 2 + 1, none⟩ (.int .i64 (gV K l))) base pb K X (upd L v V) M R nx { s with vs := s.vs.set v l } := by
  have hT : OnlyT (· = vb) w 83 := by
    obtain ⟨cur, hc⟩ := own_block h.vw.views (g := vb) (by rw [hva]; rfl)
    exact onlyT_one hc
  have hk : Keeps (· = vb) w ((w.setCell ⟨vb, v * 2, none⟩ V).setCell ⟨vb, v * 2 + 1, none⟩ (.int .i64 (gV K l))) := keeps_one (keeps_one (Keeps.refl _ _) _) _
  have hlo : base ≤ vb := row_low h.vw.views (by rw [hva]; rfl)
  refine ⟨?_, h.lo, ⟨?_, fun i hi => ?_, row_other h.vw.looks hk hT (by decide), fun i hi => row_other (h.vw.told i hi) hk hT (by decide)⟩, h.tk.other hk hT (by decide) (by decide), h.ar.other hk (fun i e => by omega), row_other h.mg hk hT (by decide)⟩
  · have := blk_other h.blk hk hT (by decide)
    rw [this]
    simp [cells]
  · show World.ownsRow _ base 83 2 (.slice X.va (s.vs.set v l).length X.vc) (s.vs.set v l).length ((List.range ((s.vs.set v l).length * 2)).map _)
    have hv2 := h.vw.views
    rw [List.length_set, ← v_set K s.vs L l V v hv]
    rw [hva] at hv2 ⊢
    exact row_set (row_set hv2 _ _) _ _
  · have hi2 : i < s.vs.length := by have : i < (s.vs.set v l).length := hi; simpa using this
    show World.ownsRow _ base 2 1 (upd L v V i) ((s.vs.set v l).getD i []).length (iv ((s.vs.set v l).getD i []))
    by_cases e : i = v
    · subst e
      rw [upd_eq, show (s.vs.set i l).getD i [] = l by simp [hi2]]
      exact row_other ho hk hT (by decide)
    · rw [upd_ne e, List.getD_eq_getElem?_getD, List.getElem?_set_ne (fun e2 => e e2.symm), ← List.getD_eq_getElem?_getD]
      exact row_other (h.vw.rows i hi2) hk hT (by decide)
/-- A look is told. -/
theorem PM.newLook (h : PM w base pb K X L M R nx s) {V : Value} {l : List Int} {g cap : Nat} (hv : w.ownsRow base 2 1 V l.length (iv l)) (ho : w1.ownsRow base 28 1 (.slice (some ⟨g, 0, none⟩) (s.lk.length + 1) cap) (s.lk.length + 1) ((List.range s.lk.length).map M ++ [V])) (hk : Keeps (fun k => (Value.slice X.la s.lk.length X.lc).ownBlock = some k) w w1) :
    PM (w1.setCell ⟨pb, 10, none⟩ (.slice (some ⟨g, 0, none⟩) (s.lk.length + 1) cap)) base pb K { X with la := some ⟨g, 0, none⟩, lc := cap } L (upd M s.lk.length V) R nx { s with lk := s.lk ++ [l] } := by
  have hT := onlyT_own h.vw.looks
  refine PM.put (c := cells K X nx s) (blk_other h.blk hk hT (by decide)) h.lo (by simp [cells]) ⟨row_other h.vw.views hk hT (by decide), fun i hi => row_other (h.vw.rows i hi) hk hT (by decide), ?_, fun i hi => ?_⟩ (h.tk.other hk hT (by decide) (by decide)) (h.ar.other hk (fun i e => row_low h.vw.looks e)) (row_other h.mg hk hT (by decide))
  · show w1.ownsRow base 28 1 (.slice (some ⟨g, 0, none⟩) (s.lk ++ [l]).length cap) (s.lk ++ [l]).length ((List.range (s.lk ++ [l]).length).map _)
    rw [List.length_append, List.length_singleton, List.range_succ, List.map_append, List.map_singleton, upd_eq, range_cong (G := M) (fun i hi => upd_ne (by omega))]
    exact ho
  · show w1.ownsRow base 2 1 (upd M s.lk.length V i) ((s.lk ++ [l]).getD i []).length (iv ((s.lk ++ [l]).getD i []))
    by_cases e : i = s.lk.length
    · subst e
      rw [upd_eq, show (s.lk ++ [l]).getD s.lk.length [] = l by simp]
      exact row_other hv hk hT (by decide)
    · have hi2 : i < s.lk.length := by have : i < (s.lk ++ [l]).length := hi; simp at this; omega
      rw [upd_ne e, List.getD_eq_getElem?_getD, List.getElem?_append_left hi2, ← List.getD_eq_getElem?_getD]
      exact row_other (h.vw.told i hi2) hk hT (by decide)
end
end Go.Proofs.Ytdiabpoafennlab.Rn
/-! What becomes of the document's run in memory: its tasks. -/
namespace Go.Proofs.Ytdiabpoafennlab.Rn
set_option linter.unusedVariables false
set_option maxRecDepth 20000
set_option linter.unusedSimpArgs false
open Go.RowKit Go.HeapKit Go.PlainOps

section
variable {w w1 : World} {base pb nx : Nat} {K : RP} {X : RX} {L M R : Nat → Value} {s : PS}
/-- A task begins. -/
theorem PM.spawn (h : PM w base pb K X L M R nx s) (h0 : s.tk ≠ []) {V : Value} {x : Nat × List Nat} {g cap : Nat} (hV : w.ownsRow base 3 1 V x.2.length (nv x.2)) (ho : w1.ownsRow base 93 2 (.slice (some ⟨g, 0, none⟩) (s.tk.length + 1) cap) (s.tk.length + 1) ((List.range (s.tk.length * 2)).map (sF s.tk R) ++ [.int .i64 x.1, V])) (hk : Keeps (fun k => (Value.slice X.ta s.tk.length X.tc).ownBlock = some k) w w1) :
    PM (w1.setCell ⟨pb, 3, none⟩ (.slice (some ⟨g, 0, none⟩) (s.tk.length + 1) cap)) base pb K { X with ta := some ⟨g, 0, none⟩, tc := cap } L M (upd R s.tk.length V) nx { s with tk := s.tk ++ [x] } := by
  have hT := onlyT_own h.tk.tks
  refine PM.put (c := cells K X nx s) (blk_other h.blk hk hT (by decide)) h.lo (by simp [cells]) (h.vw.other hk hT (by decide) (by decide) (by decide)) ⟨?_, fun i hi => ?_⟩ (h.ar.other hk (fun i e => row_low h.tk.tks e)) (row_other h.mg hk hT (by decide))
  · show w1.ownsRow base 93 2 (.slice (some ⟨g, 0, none⟩) (s.tk ++ [x]).length cap) (s.tk ++ [x]).length ((List.range ((s.tk ++ [x]).length * 2)).map _)
    rw [s_more h0, List.length_append, List.length_singleton]
    exact ho
  · show w1.ownsRow base 3 1 (upd R s.tk.length V i) (rowOf (s.tk ++ [x]) i).length (nv (rowOf (s.tk ++ [x]) i))
    rw [rowOf_more s.tk x i hi]
    by_cases e : i = s.tk.length
    · subst e
      rw [upd_eq, if_pos rfl]
      exact row_other hV hk hT (by decide)
    · have hi2 : i < s.tk.length := by have : i < (s.tk ++ [x]).length := hi; simp at this; omega
      rw [upd_ne e, if_neg e]
      exact row_other (h.tk.rows i hi2) hk hT (by decide)
/-- What the tasks are without the last one. -/
theorem s_init {tk : List (Nat × List Nat)} {x : Nat × List Nat} {R : Nat → Value} : (List.range (tk.length * 2)).map (sF (tk ++ [x]) R) = (List.range (tk.length * 2)).map (sF tk R) :=
  s_cong (fun i hi => by rw [List.getD_eq_getElem?_getD, List.getElem?_append_left hi, ← List.getD_eq_getElem?_getD]) (fun _ _ => rfl)
/-- The last task is gone: the others are copied. -/
theorem PM.endTask (h : PM w base pb K X L M R nx s) {tk : List (Nat × List Nat)} {x : Nat × List Nat} (hx : s.tk = tk ++ [x]) {a : Option Addr} {cap : Nat} (ho : w1.ownsRow base 93 2 (.slice a tk.length cap) tk.length ((List.range (tk.length * 2)).map (sF tk R))) (hk : Keeps None w w1) :
    PM (w1.setCell ⟨pb, 3, none⟩ (.slice a tk.length cap)) base pb K { X with ta := a, tc := cap } L M R nx { s with tk := tk } := by
  have h1 := h.more hk
  refine PM.put (c := cells K X nx s) h1.blk h.lo (by simp [cells]) h1.vw ⟨ho, fun i hi => ?_⟩ h1.ar h1.mg
  have hi2 : i < tk.length := hi
  have h2 := h1.tk.rows i (by rw [hx]; simp; omega)
  rw [hx, rowOf_more tk x i (by simp; omega), if_neg (by omega)] at h2
  exact h2
/-- The current task's row becomes another list. -/
theorem PM.putRow (h : PM w base pb K X L M R nx s) {tk : List (Nat × List Nat)} {sp tb : Nat} {r r' : List Nat} {V : Value} (hx : s.tk = tk ++ [(sp, r)]) (hta : X.ta = some ⟨tb, 0, none⟩) (hV : w.ownsRow base 3 1 V r'.length (nv r')) :
    PM (w.setCell ⟨tb, tk.length * 2 + 1, none⟩ V) base pb K X L M (upd R tk.length V) nx { s with tk := tk ++ [(sp, r')] } := by
  have hlen : s.tk.length = tk.length + 1 := by rw [hx]; simp
  have hlen2 : (tk ++ [(sp, r')]).length = s.tk.length := by rw [hx]; simp
  have hT : OnlyT (· = tb) w 93 := by
    obtain ⟨cur, hc⟩ := own_block h.tk.tks (g := tb) (by rw [hta]; rfl)
    exact onlyT_one hc
  have hk : Keeps (· = tb) w (w.setCell ⟨tb, tk.length * 2 + 1, none⟩ V) := keeps_one (Keeps.refl _ _) _
  have hlo : base ≤ tb := row_low h.tk.tks (by rw [hta]; rfl)
  refine ⟨?_, h.lo, h.vw.other hk hT (by decide) (by decide) (by decide), ⟨?_, fun i hi => ?_⟩, h.ar.other hk (fun i e => by omega), row_other h.mg hk hT (by decide)⟩
  · have := blk_other h.blk hk hT (by decide)
    rw [this]
    simp [cells, hx]
  · show World.ownsRow _ base 93 2 (.slice X.ta (tk ++ [(sp, r')]).length X.tc) (tk ++ [(sp, r')]).length ((List.range ((tk ++ [(sp, r')]).length * 2)).map (sF (tk ++ [(sp, r')]) (upd R tk.length V)))
    have ho := h.tk.tks
    rw [hlen2]
    have e : (List.range (s.tk.length * 2)).map (sF (tk ++ [(sp, r')]) (upd R tk.length V)) = (List.range (s.tk.length * 2)).map (sF s.tk (upd R tk.length V)) := by
      refine s_cong (fun i hi => ?_) (fun _ _ => rfl)
      rw [hx, List.getD_eq_getElem?_getD, List.getD_eq_getElem?_getD]
      by_cases e : i < tk.length
      · rw [List.getElem?_append_left e, List.getElem?_append_left e]
      · rw [List.getElem?_append_right (by omega), List.getElem?_append_right (by omega), show i - tk.length = 0 by omega]
        rfl
    rw [e, ← s_row]
    rw [hta] at ho ⊢
    exact row_set ho _ V
  · have hi2 : i < tk.length + 1 := by have : i < (tk ++ [(sp, r')]).length := hi; simpa using this
    show World.ownsRow _ base 3 1 (upd R tk.length V i) (rowOf (tk ++ [(sp, r')]) i).length (nv (rowOf (tk ++ [(sp, r')]) i))
    rw [rowOf_more tk (sp, r') i hi]
    by_cases e : i = tk.length
    · subst e
      rw [upd_eq, if_pos rfl]
      exact row_other hV hk hT (by decide)
    · rw [upd_ne e, if_neg e]
      have h2 := h.tk.rows i (by omega)
      rw [hx, rowOf_more tk (sp, r) i (by simp; omega), if_neg e] at h2
      exact row_other h2 hk hT (by decide)
end
end Go.Proofs.Ytdiabpoafennlab.Rn
/-! The document's run: its small calls. -/
namespace Go.Proofs.Ytdiabpoafennlab.Rn
set_option linter.unusedVariables false
set_option maxRecDepth 20000
set_option linter.unusedSimpArgs false
open Go.RowKit Go.HeapKit Go.PlainOps

section
variable {w : World} {base pb nx : Nat} {K : RP} {X : RX} {L M R : Nat → Value} {s : PS}
/-- The current task's row in memory. -/
theorem PM.cur (h : PM w base pb K X L M R nx s) {tk : List (Nat × List Nat)} {sp : Nat} {r : List Nat} (hx : s.tk = tk ++ [(sp, r)]) : ∃ tb, X.ta = some ⟨tb, 0, none⟩ ∧ base ≤ tb ∧ tb < w.heap.size ∧ tk.length + 1 ≤ X.tc ∧ w.cell? ⟨tb, tk.length * 2 + 1, none⟩ = some (R tk.length) ∧ (∀ i, w.frozen? ⟨tb, i, none⟩ = false) ∧ w.ownsRow base 3 1 (R tk.length) r.length (nv r) := by
  have hl : s.tk.length = tk.length + 1 := by rw [hx]; simp
  obtain ⟨g, e, h1, h2, h3, h4, h5⟩ := own_cellS h.tk.tks (k := tk.length * 2 + 1) (range_get _ (by omega))
  have h6 := h.tk.rows tk.length (by omega)
  rw [hx, rowOf_more tk (sp, r) _ (by simp), if_pos rfl] at h6
  refine ⟨g, e, h1, h2, by omega, ?_, h5, h6⟩
  rw [h4]
  simp [sF, show (tk.length * 2 + 1) % 2 = 1 by omega, show (tk.length * 2 + 1) / 2 = tk.length by omega]
end
set_option maxHeartbeats 800000 in
theorem last_ok (base pb nx : Nat) (K : RP) (X : RX) (L M R : Nat → Value) (s : PS) (w : World) (tk : List (Nat × List Nat)) (x : Nat × List Nat) (h : PM w base pb K X L M R nx s) (hx : s.tk = tk ++ [x]) (hn : tk.length ≤ 100000) :
    Calls Try.prog 42 #[.pointer (some ⟨pb, 0, none⟩)] w fun e w' => e = .returned (.int .i64 tk.length) ∧ w' = w := by
  obtain ⟨-, -, -, q3, -, -, -, -, -⟩ := h.c0
  rw [hx, List.length_append, List.length_singleton] at q3
  have hw : wrap64 (((tk.length + 1 : Nat) : Int) - 1) = ((tk.length : Nat) : Int) := by unfold wrap64; omega
  clear h hx
  go_enter Try.func42, Try.ntmps42
  go_wp2
  go_ret
  exact ⟨rfl, rfl⟩
set_option maxHeartbeats 1600000 in
theorem hand_ok (base pb nx : Nat) (K : RP) (X : RX) (L M R : Nat → Value) (s : PS) (w : World) (tk : List (Nat × List Nat)) (sp : Nat) (r : List Nat) (h : PM w base pb K X L M R nx s) (hx : s.tk = tk ++ [(sp, r)]) (hr : r ≠ []) (hn : tk.length ≤ 100000) (hn2 : r.length ≤ 100000) :
    Calls Try.prog 60 #[.pointer (some ⟨pb, 0, none⟩)] w fun e w' => e = .returned (.int .i64 (r.getLastD 0 : Nat)) ∧ Keeps None w w' := by
  obtain ⟨tb, hta, -, -, -, t1, -, hrow⟩ := h.cur hx
  obtain ⟨ra, rc, he⟩ := row_shape hrow
  have hpos : 0 < r.length := List.length_pos_iff.2 hr
  rw [he] at hrow t1
  obtain ⟨g, rfl, -, -, hrc, hc, -⟩ := own_cellS hrow (k := r.length - 1) (nv_at (last_at hr))
  obtain ⟨V, hV⟩ : ∃ V, V = r.getLastD 0 := ⟨_, rfl⟩
  rw [← hV] at hc ⊢
  obtain ⟨-, -, -, q3, -, -, -, -, -⟩ := h.c0
  rw [hta, hx, List.length_append, List.length_singleton] at q3
  obtain ⟨T, hT⟩ : ∃ T, T = tk.length + 1 := ⟨_, rfl⟩
  obtain ⟨J, hJ⟩ : ∃ J, J = tk.length := ⟨_, rfl⟩
  rw [← hT] at q3
  rw [← hJ] at t1
  have HJ : Hid (J = tk.length) := hJ
  have HP : Hid (PM w base pb K X L M R nx s ∧ s.tk = tk ++ [(sp, r)]) := ⟨h, hx⟩
  have HC : Hid (∀ wx, Keeps None w wx → wx.cell? ⟨pb, 3, none⟩ = some (.slice (some ⟨tb, 0, none⟩) T X.tc) ∧ wx.cell? ⟨tb, J * 2 + 1, none⟩ = some (.slice (some ⟨g, 0, none⟩) r.length rc) ∧ wx.cell? ⟨g, r.length - 1, none⟩ = some (.int .i64 V)) := fun wx hk => ⟨hk.cell q3 (fun f => f), hk.cell t1 (fun f => f), hk.cell hc (fun f => f)⟩
  have hw : wrap64 ((r.length : Int) - 1) = ((r.length - 1 : Nat) : Int) := by unfold wrap64; omega
  have hw2 : ((r.length - 1 : Nat) : Int) < (r.length : Int) := by omega
  have hw3 : (J : Int) < (T : Int) := by omega
  have hw4 : (0 : Int) ≤ (J : Int) := by omega
  have hw5 : J < T := by omega
  clear h hx t1 hc hrow he hr hV q3 hta hT hJ
  go_enter Try.func60, Try.ntmps60
  go_upto_region 1 with fail
  have hkc : Keeps None w w.drew := Keeps.drew None w
  have hs := HC.out _ hkc
  go_region_held3 (fun wx => wx.cell? ⟨pb, 3, none⟩ = some (.slice (some ⟨tb, 0, none⟩) T X.tc) ∧ wx.cell? ⟨tb, J * 2 + 1, none⟩ = some (.slice (some ⟨g, 0, none⟩) r.length rc) ∧ wx.cell? ⟨g, r.length - 1, none⟩ = some (.int .i64 V)) (first | exact hs | go_keep) (first
    | (go_at_call 42; refine Calls.mono (last_ok base pb nx K X L M R s _ tk (sp, r) (HP.out.1.more hkc) HP.out.2 hn) ?_; rintro _ wn ⟨rfl, rfl⟩; rw [← HJ.out]))
  all_goals
    obtain ⟨z1, z2, z3⟩ := hs
    go_wp2
    go_ret
    exact ⟨rfl, hkc⟩
end Go.Proofs.Ytdiabpoafennlab.Rn
