import Derived.Test.YtdiabpoafennlabPkAQ
import Derived.Test.YtdiabpoafennlabPkAJ
import Derived.WalkKit
import Derived.ProofKit
import Derived.OpenShut
import Derived.Deep.Slices
import Derived.Test.YtdiabpoafennlabPkAA
import Derived.SizedLaws
/-! The document's answer: what is refused, Play, Fold. -/
namespace Go.Proofs.Ytdiabpoafennlab.Rn
set_option linter.unusedVariables false
set_option maxRecDepth 20000
set_option linter.unusedSimpArgs false
open Go.RowKit Go.HeapKit Go.PlainOps

set_option maxHeartbeats 1600000 in
theorem rrefused_ok (a : Option Addr) (n c : Nat) (l : List Dd) (sa : Option Addr) (m sc : Nat) (st : List Bool) (pa : Option Addr) (k pc : Nat) (pk : List Int) (w : World) (hS : Seen w a n l) (hm : m = st.length) (hk : k = pk.length) :
    Calls Try.prog 18 #[.slice a n c, .slice sa m sc, .slice pa k pc] w fun e w' => e = .returned (.int .i64 (refE l st pk)) ∧ Keeps None w w' := by
  have HS : Hid (Seen w a n l ∧ n = l.length) := ⟨hS, hS.len⟩
  have hn := hS.len
  clear hS
  by_cases h1 : 4096 < n
  · have h2 : (4096 : Int) < (n : Int) := by omega
    have hE : refE l st pk = 2 := by unfold refE; rw [if_pos (by omega)]
    have HE : Hid (refE l st pk = 2) := hE
    clear hE hn hm hk h1
    go_enter Try.func18, Try.ntmps18
    go_wp2
    all_goals (go_ret; exact ⟨by rw [HE.out]; rfl, Keeps.refl _ _⟩)
  · have h2 : ¬ (4096 : Int) < (n : Int) := by omega
    by_cases h3 : 4096 < m
    · have h4 : (4096 : Int) < (m : Int) := by omega
      have hE : refE l st pk = 2 := by unfold refE; rw [if_pos (by omega)]
      have HE : Hid (refE l st pk = 2) := hE
      clear hE hn hm hk h1 h3
      go_enter Try.func18, Try.ntmps18
      go_wp2
      all_goals (go_ret; exact ⟨by rw [HE.out]; rfl, Keeps.refl _ _⟩)
    · have h4 : ¬ (4096 : Int) < (m : Int) := by omega
      by_cases h5 : 1048576 < k
      · have h6 : (1048576 : Int) < (k : Int) := by omega
        have hE : refE l st pk = 2 := by unfold refE; rw [if_pos (by omega)]
        have HE : Hid (refE l st pk = 2) := hE
        clear hE hn hm hk h1 h3 h5
        go_enter Try.func18, Try.ntmps18
        go_wp2
        all_goals (go_ret; exact ⟨by rw [HE.out]; rfl, Keeps.refl _ _⟩)
      · have h6 : ¬ (1048576 : Int) < (k : Int) := by omega
        have hE : refE l st pk = chkE l := by unfold refE; rw [if_neg (by omega)]
        have HE : Hid (refE l st pk = chkE l) := hE
        clear hE hn hm hk h1 h3 h5
        go_enter Try.func18, Try.ntmps18
        go_wp2_with fail
        all_goals
          refine (rcheck_two a n c l w HS.out.1).mono ?_
          rintro e w1 ⟨rfl, hk1⟩
          obtain ⟨E, hE⟩ : ∃ E, E = chkE l := ⟨_, rfl⟩
          obtain ⟨A1, hA⟩ : ∃ A1, A1 = chkA l := ⟨_, rfl⟩
          rw [← hE, ← hA]
          have HEE : Hid (E = chkE l) := hE
          have b2 := heap_alloc_new w1 (.cells #[.int .i64 E, .int .i64 A1] 85)
          have HK : Hid (Keeps None w (w1.alloc (.cells #[.int .i64 E, .int .i64 A1] 85))) := hk1.andAlloc (.cells #[.int .i64 E, .int .i64 A1] 85)
          have g0 : (w1.alloc (.cells #[.int .i64 E, .int .i64 A1] 85)).cell? ⟨w1.heap.size, 0, none⟩ = some (.int .i64 E) := (blk_cell b2 0).trans rfl
          clear hk1 b2 hE hA
          go_wp2
          go_ret
          exact ⟨by rw [HE.out, ← HEE.out]; rfl, HK.out⟩
/-- What is written elsewhere leaves what was told as it was. -/
structure RTold (w : World) (base : Nat) (K : RP) (X : RX) (L M : Nat → Value) (s : PS) : Prop where
  vw : Vw w base K X.va X.vc X.la X.lc L M s.vs s.lk
  mg : w.ownsRow base 96 3 (.slice X.ma s.mg.length X.mc) s.mg.length (mgV s.mg)
theorem RTold.kept {S : Nat → Prop} {w w' : World} {base : Nat} {K : RP} {X : RX} {L M : Nat → Value} {s : PS} (h : RTold w base K X L M s) (hk : Keeps S w w') (hS : ∀ i, base ≤ i → ¬ S i) : RTold w' base K X L M s :=
  ⟨⟨row_kept h.vw.views hk (fun b e => hS b (row_low h.vw.views e)), fun i hi => row_kept (h.vw.rows i hi) hk (fun b e => hS b (row_low (h.vw.rows i hi) e)), row_kept h.vw.looks hk (fun b e => hS b (row_low h.vw.looks e)), fun i hi => row_kept (h.vw.told i hi) hk (fun b e => hS b (row_low (h.vw.told i hi) e))⟩, row_kept h.mg hk (fun b e => hS b (row_low h.mg e))⟩
theorem RFin.told {w : World} {base pb : Nat} {K : RP} {X : RX} {L M : Nat → Value} {s : PS} (h : RFin w base pb K X L M s) : RTold w base K X L M s := ⟨h.vw, h.mg⟩
theorem RTold.looks {w : World} {base : Nat} {K : RP} {X : RX} {L M : Nat → Value} {s : PS} (h : RTold w base K X L M s) : SeenL w X.la s.lk.length s.lk := by
  refine ⟨rfl, fun k x hx => ?_⟩
  have hk := (List.getElem?_eq_some_iff.1 hx).1
  obtain ⟨g, e, _, _, _, hc, _⟩ := own_cellS h.vw.looks (k := k) (range_get _ hk)
  have hr := h.vw.told k hk
  have e2 : s.lk.getD k [] = x := by simp [hx]
  rw [e2] at hr
  obtain ⟨y, c, h3⟩ := row_shape hr
  rw [h3] at hr hc
  exact ⟨g, 0, y, c, e, by rw [Nat.zero_add]; exact hc, own_seen1 hr⟩
theorem RTold.merges {w : World} {base : Nat} {K : RP} {X : RX} {L M : Nat → Value} {s : PS} (h : RTold w base K X L M s) : SeenM w X.ma s.mg := fun k x hx => by
  obtain ⟨h0, h1, h2⟩ := mgV_at s.mg k x hx
  obtain ⟨g, e, _, _, _, c0, _⟩ := own_cellS h.mg h0
  obtain ⟨g1, e1, _, _, _, c1, _⟩ := own_cellS h.mg h1
  obtain ⟨g2, e2, _, _, _, c2, _⟩ := own_cellS h.mg h2
  rw [e] at e1 e2
  injection e1 with e1
  injection e1 with e1
  injection e2 with e2
  injection e2 with e2
  subst e1 e2
  exact ⟨_, e, c0, c1, c2⟩
theorem RTold.final {w : World} {base : Nat} {K : RP} {X : RX} {L M : Nat → Value} {l : List Dd} {st : List Bool} {pk : List Int} (h : RTold w base K X L M (finPS l st pk)) (hc : chkL l 0 0 = none) : ∃ fa fc, L 0 = .slice fa (putsD l).length fc ∧ SeenV w fa (putsD l).length (iv (putsD l)) := by
  have hr := h.vw.rows 0 (finPS_len l st pk hc)
  rw [fin_puts] at hr
  obtain ⟨fa, fc, e⟩ := row_shape hr
  rw [e] at hr
  exact ⟨fa, fc, e, own_seen1 hr⟩
theorem RFin.more {w w' : World} {base pb : Nat} {K : RP} {X : RX} {L M : Nat → Value} {s : PS} (h : RFin w base pb K X L M s) (hk : Keeps None w w') : RFin w' base pb K X L M s :=
  ⟨h.vw.other (t := 0) hk (fun _ f => f.elim) (by decide) (by decide) (by decide), row_kept h.mg hk (fun _ _ f => f), hk.cell h.c2 (fun f => f), hk.cell h.c7 (fun f => f), hk.cell h.c8 (fun f => f), hk.cell h.c9 (fun f => f), hk.cell h.c10 (fun f => f)⟩
theorem whole_play (a : Option Addr) (n c : Nat) (l : List Dd) (sa : Option Addr) (m sc : Nat) (st : List Bool) (pa : Option Addr) (k pc : Nat) (pk : List Int) (w : World) (hS : Seen w a n l) (hT : SeenV w sa m (bv' st)) (hP : SeenV w pa k (iv pk)) (hE : refE l st pk = 0) (hf : Fits (l.map Dd.loc)) :
    Calls Try.prog 19 #[.int .i64 (-1), .int .i64 0, .slice a n c, .slice sa m sc, .slice pa k pc] w fun e w' =>
      ∃ pb X L M, e = .returned (.pointer (some ⟨pb, 0, none⟩)) ∧ RFin w' w.heap.size pb ⟨-1, 0, pk, pa, pc⟩ X L M (finPS l st pk) ∧ Keeps None w w' := by
  obtain ⟨h1, h2, h3, hc⟩ := refE_ok hE
  exact whole_ok ⟨-1, 0, pk, pa, pc⟩ a n c l sa m sc st k w hS hT hP (.inl ⟨by show (-1 : Int) < 0; decide, rfl⟩) (by have := hS.len; omega) h2 h3 hc hf
end Go.Proofs.Ytdiabpoafennlab.Rn
/-! How many views are made, as the law counts them. -/
namespace Go.Proofs.Ytdiabpoafennlab
set_option linter.unusedVariables false
set_option maxRecDepth 20000
set_option linter.unusedSimpArgs false
open Go.RowKit Go.HeapKit

end Go.Proofs.Ytdiabpoafennlab
/-! The walk of HyperPicks. -/
namespace Go.Proofs.Ytdiabpoafennlab
set_option linter.unusedVariables false
set_option maxRecDepth 20000
set_option linter.unusedSimpArgs false
open Go.RowKit Go.HeapKit

/-- Looks are no longer than what is put. -/
theorem look_le (st : List Bool) : ∀ (ds : List (Int × Int)) (n : Nat) (P : List Int) (s : HS (List Int)) (N : Nat), HInv P s → (P ++ putsL ds).length ≤ N → (∀ x ∈ s.lk, x.length ≤ N) → ∀ x ∈ (s.run listK st ds n).lk, x.length ≤ N := by
  intro ds
  induction ds with
  | nil => intro n P s N _ _ h; exact h
  | cons d ds ih =>
    intro n P s N hs hN h
    rw [putsL_cons, ← List.append_assoc] at hN
    refine ih (n + 1) _ _ N (hinv_deed st n d.1 d.2 hs) hN ?_
    have hne := hs.lk.ne
    have hin : s.hand ∈ preL s.ini ++ s.m.row := List.mem_append_right _ (hand_in hne)
    obtain ⟨A, B, hAB⟩ := List.append_of_mem hin
    have hc := hs.line.cat
    rw [hAB, catL_app, catL_cons] at hc
    have hl := congrArg List.length hc
    simp only [List.length_append] at hl hN
    unfold HS.deed
    split
    · exact h
    · split
      · intro x hx
        have hx2 : x ∈ s.lk ++ [s.m.vs.getD s.hand []] := hx
        rcases List.mem_append.1 hx2 with hx2 | hx2
        · exact h x hx2
        · simp only [List.mem_singleton] at hx2
          subst hx2
          omega
      · split
        · exact h
        · split
          · exact h
          · unfold HS.back
            split
            · exact h
            · split <;> exact h
theorem fin_look_le {l : List Dd} (hl : l.length ≤ 4096) (st : List Bool) (pk : List Int) : ∀ x ∈ (finPS l st pk).lk, x.length ≤ 5000 := by
  refine look_le st (l.map dp) 0 [] _ 5000 (hinv_start pk) ?_ (by intro x hx; simp [HS.start] at hx)
  rw [List.nil_append, putsD_eq]
  have := putsD_len l
  omega
theorem fin_look_n {l : List Dd} (h : chkL l 0 0 = none) (hl : l.length ≤ 4096) (st : List Bool) (pk : List Int) : (finPS l st pk).lk.length ≤ 5000 := by
  have : ∀ (ds : List (Int × Int)) (n : Nat) (s : HS (List Int)), (s.run listK st ds n).lk.length ≤ s.lk.length + ds.length := by
    intro ds
    induction ds with
    | nil => intro n s; exact Nat.le_refl _
    | cons d ds ih =>
      intro n s
      refine Nat.le_trans (ih (n + 1) _) ?_
      have hd : (s.deed listK st n d.1 d.2).lk.length ≤ s.lk.length + 1 := by
        unfold HS.deed
        split
        · exact Nat.le_succ _
        · split
          · show (s.lk ++ [_]).length ≤ _; simp
          · split
            · exact Nat.le_succ _
            · split
              · exact Nat.le_succ _
              · unfold HS.back
                split
                · exact Nat.le_succ _
                · split <;> exact Nat.le_succ _
      simp only [List.length_cons]
      omega
  have h2 := this (l.map dp) 0 (HS.start listK pk)
  have h3 : (finPS l st pk).lk.length ≤ 0 + (l.map dp).length := h2
  rw [List.length_map] at h3
  omega
end Go.Proofs.Ytdiabpoafennlab
/-! The walk of HyperCounts. -/
namespace Go.Proofs.Ytdiabpoafennlab
set_option linter.unusedVariables false
set_option maxRecDepth 20000
set_option linter.unusedSimpArgs false
open Go.RowKit Go.HeapKit

theorem fin_counts {l : List Dd} {st : List Bool} {pk : List Int} (h : chkL l 0 0 = none) : MgOk (okAt (l.map dp)) [0] (finPS l st pk).vs.length (l.map dp).length (finPS l st pk).mg ∧ (finPS l st pk).vs.length = 1 + madeL st (l.map dp) 0 [] :=
  ⟨counts_all st (l.map dp) pk (kinds_of h), made_all listK st (l.map dp) pk (kinds_of h)⟩
theorem made_le {l : List Dd} (h : l.length ≤ 4096) (st : List Bool) : madeL st (l.map dp) 0 [] ≤ 4096 := by
  have : ∀ (ds : List (Int × Int)) (n : Nat) (op : List Nat), madeL st ds n op ≤ ds.length := by
    intro ds
    induction ds with
    | nil => intro n op; exact Nat.le_refl _
    | cons d ds ih =>
      intro n op
      rw [madeL_cons, List.length_cons]
      split
      · exact Nat.le_succ_of_le (ih _ _)
      · split
        · split
          · exact Nat.le_succ_of_le (ih _ _)
          · have := ih n (by assumption)
            split <;> omega
        · exact Nat.le_succ_of_le (ih _ _)
  have := this (l.map dp) 0 []
  rw [List.length_map] at this
  omega
theorem cell_lt {w : World} {b o : Nat} {v : Value} (h : w.cell? ⟨b, o, none⟩ = some v) : b < w.heap.size := by
  cases hb : w.heap[b]? with
  | none => simp [World.cell?, hb] at h
  | some o => exact (Array.getElem?_eq_some_iff.1 hb).1
end Go.Proofs.Ytdiabpoafennlab
/-! Two answers compared. -/
namespace Go.Proofs.Ytdiabpoafennlab.Rn
set_option linter.unusedVariables false
set_option maxRecDepth 20000
set_option linter.unusedSimpArgs false
open Go.RowKit Go.HeapKit Go.PlainOps

set_option maxHeartbeats 800000 in
theorem sameMerges_ok (a b : Option Addr) (n c d : Nat) (mg : List (Nat × Nat × Nat)) (w : World) (ha : SeenM w a mg) (hb : SeenM w b mg) (hl : n = mg.length) (hz : n ≤ 5000) :
    Calls Try.prog 21 #[.slice a n c, .slice b n d] w fun e w' => e = .returned (.bool true) ∧ Keeps None w w' := by
  have HH : Hid (SeenM w a mg ∧ SeenM w b mg ∧ n = mg.length) := ⟨ha, hb, hl⟩
  clear ha hb hl
  go_enter Try.func21, Try.ntmps21
  go_wp2_with fail
  go_loopw [5] (fun i wr => ∃ k : Nat, k ≤ n ∧ i = .int .i64 k ∧ Keeps None w wr) (fun i _ => n - (intOf i).toNat)
  case atStart => exact ⟨0, Nat.zero_le _, rfl, Keeps.refl _ _⟩
  case round =>
    obtain ⟨k, hk, rfl, hkp⟩ := hrel
    by_cases hkn : k < n
    · obtain ⟨x, hx⟩ : ∃ x, mg[k]? = some x := ⟨mg[k]'(by have := HH.out.2.2; omega), by simp⟩
      obtain ⟨ga, rfl, u0, u1, u2⟩ := (HH.out.1.more hkp) k x hx
      obtain ⟨gb, rfl, v0, v1, v2⟩ := (HH.out.2.1.more hkp) k x hx
      have i1 : (k : Int) < (n : Int) := by omega
      have HK : Hid (Keeps None w wr) := hkp
      clear hx HH hkp
      obtain ⟨x0, x1, x2⟩ := x
      simp only at u0 u1 u2 v0 v1 v2
      go_wp2
      go_quiet (fail)
      go_wp2
      go_roundw
      case rel => exact ⟨k + 1, by omega, by go_num, keeps_tr HK.out (keeps_drewN _ _)⟩
      case measure => simp [intOf]; omega
    · have HK : Hid (Keeps None w wr) := hkp
      clear HH hkp
      go_wp2
      go_ret
      exact ⟨rfl, HK.out⟩
theorem mgT_len (l : List Dd) (st : List Bool) (pk : List Int) : (mgT l st pk).length ≤ 5000 := by
  unfold mgT
  split
  · rename_i h
    obtain ⟨h1, h2, h3, hc⟩ := refE_ok h
    obtain ⟨h4, h5⟩ := fin_counts (st := st) (pk := pk) hc
    have h6 := h4.cnt
    have h7 := made_le h1 st
    simp at h6
    omega
  · simp
theorem lkT_len (l : List Dd) (st : List Bool) (pk : List Int) : (lkT l st pk).length ≤ 5000 ∧ ∀ x ∈ lkT l st pk, x.length ≤ 5000 := by
  unfold lkT
  split
  · rename_i h
    obtain ⟨h1, h2, h3, hc⟩ := refE_ok h
    exact ⟨fin_look_n hc h1 st pk, fin_look_le h1 st pk⟩
  · exact ⟨by simp, fun x hx => by simp at hx⟩
theorem finT_len (l : List Dd) (st : List Bool) (pk : List Int) : (finT l st pk).length ≤ 5000 := by
  unfold finT
  split
  · rename_i h
    have := (refE_ok h).1
    have := putsD_len l
    omega
  · simp
/-- One answer. -/
structure Ans (w : World) (f : List Int) (m : Nat) (mg : List (Nat × Nat × Nat)) (lk : List (List Int)) (fa ma la : Option Addr) : Prop where
  fin : SeenV w fa f.length (iv f)
  lk : SeenL w la lk.length lk
  mg : SeenM w ma mg
theorem Ans.more {w w' : World} {f : List Int} {m : Nat} {mg : List (Nat × Nat × Nat)} {lk : List (List Int)} {fa ma la : Option Addr} (h : Ans w f m mg lk fa ma la) (hk : Keeps None w w') : Ans w' f m mg lk fa ma la := ⟨h.fin.more hk, h.lk.more hk, h.mg.more hk⟩
set_option maxHeartbeats 1600000 in
theorem sameViews_ok (f : List Int) (m : Nat) (mg : List (Nat × Nat × Nat)) (lk : List (List Int)) (fa ma la fb mb lb : Option Addr) (nf ng nl c0 c1 c2 d0 d1 d2 : Nat) (w : World) (ha : Ans w f m mg lk fa ma la) (hb : Ans w f m mg lk fb mb lb) (h1 : nf = f.length) (h2 : ng = mg.length) (h3 : nl = lk.length) (z1 : nf ≤ 5000) (z2 : ng ≤ 5000) (z3 : nl ≤ 5000) (z4 : ∀ x ∈ lk, x.length ≤ 5000) :
    Calls Try.prog 9 #[.agg #[.slice fa nf c0, .int .i64 m, .slice ma ng c1, .slice la nl c2], .agg #[.slice fb nf d0, .int .i64 m, .slice mb ng d1, .slice lb nl d2]] w fun e w' => e = .returned (.bool true) ∧ Keeps None w w' := by
  have HA : Hid (Ans w f m mg lk fa ma la ∧ Ans w f m mg lk fb mb lb ∧ nf = f.length ∧ ng = mg.length ∧ nl = lk.length ∧ ∀ x ∈ lk, x.length ≤ 5000) := ⟨ha, hb, h1, h2, h3, z4⟩
  clear ha hb h1 h2 h3 z4
  obtain ⟨p0, hp0⟩ : ∃ p0, p0 = w.heap.size := ⟨_, rfl⟩
  have hb0 := (blk_kept (blk_new w (.cells #[.slice fa nf c0, .int .i64 m, .slice ma ng c1, .slice la nl c2] 32) p0 hp0.symm) (Keeps.alloc None _ (.cells #[.slice fb nf d0, .int .i64 m, .slice mb ng d1, .slice lb nl d2] 32)) (fun f => f))
  have hb1 := blk_new (w.alloc (.cells #[.slice fa nf c0, .int .i64 m, .slice ma ng c1, .slice la nl c2] 32)) (.cells #[.slice fb nf d0, .int .i64 m, .slice mb ng d1, .slice lb nl d2] 32) (p0 + 1) (by simp; omega)
  have hkb := (Keeps.alloc None w (.cells #[.slice fa nf c0, .int .i64 m, .slice ma ng c1, .slice la nl c2] 32)).andAlloc (.cells #[.slice fb nf d0, .int .i64 m, .slice mb ng d1, .slice lb nl d2] 32)
  go_enter Try.func9, Try.ntmps9
  go_upto_region 1 with fail
  rw [← hp0]
  clear hp0
  generalize (w.alloc (.cells #[.slice fa nf c0, .int .i64 m, .slice ma ng c1, .slice la nl c2] 32)).alloc (.cells #[.slice fb nf d0, .int .i64 m, .slice mb ng d1, .slice lb nl d2] 32) = wb at *
  have HC : Hid (∀ wx, Keeps None wb wx → (wx.cell? ⟨p0, 0, none⟩ = some (.slice fa nf c0) ∧ wx.cell? ⟨p0, 1, none⟩ = some (.int .i64 m) ∧ wx.cell? ⟨p0, 2, none⟩ = some (.slice ma ng c1) ∧ wx.cell? ⟨p0, 3, none⟩ = some (.slice la nl c2)) ∧ wx.cell? ⟨p0 + 1, 0, none⟩ = some (.slice fb nf d0) ∧ wx.cell? ⟨p0 + 1, 1, none⟩ = some (.int .i64 m) ∧ wx.cell? ⟨p0 + 1, 2, none⟩ = some (.slice mb ng d1) ∧ wx.cell? ⟨p0 + 1, 3, none⟩ = some (.slice lb nl d2)) := fun wx hx =>
    ⟨⟨(blk_cell (blk_kept hb0 hx (fun f => f)) 0).trans rfl, (blk_cell (blk_kept hb0 hx (fun f => f)) 1).trans rfl, (blk_cell (blk_kept hb0 hx (fun f => f)) 2).trans rfl, (blk_cell (blk_kept hb0 hx (fun f => f)) 3).trans rfl⟩, (blk_cell (blk_kept hb1 hx (fun f => f)) 0).trans rfl, (blk_cell (blk_kept hb1 hx (fun f => f)) 1).trans rfl, (blk_cell (blk_kept hb1 hx (fun f => f)) 2).trans rfl, (blk_cell (blk_kept hb1 hx (fun f => f)) 3).trans rfl⟩
  have HK : Hid (Keeps None w wb) := hkb
  clear hb0 hb1 hkb
  obtain ⟨⟨y0, y1, y2, y3⟩, x0, x1, x2, x3⟩ := HC.out wb (Keeps.refl _ _)
  go_wp2_with fail
  clear y0 y1 y2 y3 x0 x1 x2 x3
  refine (sameInts_ok fa fb nf c0 d0 f wb (by rw [HA.out.2.2.1]; exact HA.out.1.fin.more HK.out) (by rw [HA.out.2.2.1]; exact HA.out.2.1.fin.more HK.out) (by omega)).mono ?_
  rintro e w1 ⟨rfl, k1⟩
  have HK1 : Hid (Keeps None wb w1) := k1
  obtain ⟨⟨y0, y1, y2, y3⟩, x0, x1, x2, x3⟩ := HC.out w1 HK1.out
  clear k1
  go_wp2_with fail
  clear y0 y1 y2 y3 x0 x1 x2 x3
  refine (sameMerges_ok ma mb ng c1 d1 mg w1 ((HA.out.1.more HK.out).more HK1.out).mg ((HA.out.2.1.more HK.out).more HK1.out).mg HA.out.2.2.2.1 z2).mono ?_
  rintro e w2 ⟨rfl, k2⟩
  have HK2 : Hid (Keeps None wb w2) := HK1.out.trans k2 (fun _ f _ => f)
  obtain ⟨⟨y0, y1, y2, y3⟩, x0, x1, x2, x3⟩ := HC.out w2 HK2.out
  clear k2
  go_wp2_with fail
  clear y0 y1 y2 y3 x0 x1 x2 x3
  refine (sameLooks_ok la lb nl c2 d2 lk w2 (by rw [HA.out.2.2.2.2.1]; exact ((HA.out.1.more HK.out).more HK2.out).lk) (by rw [HA.out.2.2.2.2.1]; exact ((HA.out.2.1.more HK.out).more HK2.out).lk) z3 HA.out.2.2.2.2.2).mono ?_
  rintro e w3 ⟨rfl, k3⟩
  have HK3 : Hid (Keeps None w w3) := HK.out.trans (HK2.out.trans k3 (fun _ f _ => f)) (fun _ f _ => f)
  clear k3
  go_wp2
  go_ret
  exact ⟨rfl, HK3.out⟩
end Go.Proofs.Ytdiabpoafennlab.Rn
/-! What a play told, its lists written over and appended to: rows in blocks of their own. -/
namespace Go.Proofs.Ytdiabpoafennlab.Rn
set_option linter.unusedVariables false
set_option maxRecDepth 20000
set_option linter.unusedSimpArgs false
open Go.RowKit Go.HeapKit Go.PlainOps

/-- 'append(row, x)': in its place, or in new memory and nothing else touched. -/
theorem one_more (base : Nat) (w : World) (r : Value) (n : Nat) (y : List Int) (x : Int) (g0 : Nat) (h : w.ownsRow base 2 1 r n (iv y)) (hb : base ≤ w.heap.size) (hn : n ≤ 100000) (hg0 : w.heap[g0]? = some (.cells #[.int .i64 x] 2 (0, 0))) :
    ∃ g c w', (Builtin.append_ #[28, 28] 28 #[r, .slice (some ⟨g0, 0, none⟩) 1 1]).run Try.prog w = .ok (.slice (some ⟨g, 0, none⟩) (n + 1) c) w' ∧ w'.ownsRow base 2 1 (.slice (some ⟨g, 0, none⟩) (n + 1) c) (n + 1) (iv (y ++ [x])) ∧
      ((r = .slice (some ⟨g, 0, none⟩) n c ∧ Keeps (· = g) w w') ∨ (w.heap.size ≤ g ∧ Keeps None w w')) := by
  obtain ⟨i0, hi, hz0, hz1, hz2⟩ := info_parts Try.infoI64
  have hnews : ∀ j u, [Value.int .i64 x][j]? = some u → w.cell? ((⟨g0, 0, none⟩ : Addr).add j) = some u := by
    intro j u hu
    rw [addr_at, blk_cell hg0]
    simpa using hu
  have h1c : ∀ u ∈ [Value.int .i64 x], u.oneCell' = true := by
    intro u hu
    simp at hu
    subst hu; rfl
  obtain ⟨v', w1, hr, ho, hgr, hm, -⟩ := run_append_moved (P := Try.prog) w base 28 28 2 i0 _ 1 8 Try.underlying28 hi hz0 hz1 hz2 rfl (by decide) r n _ h
    ⟨g0, 0, none⟩ 1 1 [.int .i64 x] rfl hnews h1c (by unfold maxLen; omega) (by omega) hb
  have ho2 : w1.ownsRow base 2 1 v' (n + 1) (iv (y ++ [x])) := by rw [iv_app]; exact ho
  obtain ⟨g, c, rfl⟩ : ∃ g cap, v' = .slice (some ⟨g, 0, none⟩) (n + 1) cap := by
    rcases ho.2 with ⟨_, h0⟩ | ⟨b, cap, cur, rfl, _⟩
    · omega
    · exact ⟨b, cap, rfl⟩
  refine ⟨g, c, w1, hr, ho2, ?_⟩
  rcases h.2 with ⟨rfl, rfl⟩ | ⟨gr, cap, cur, rfl, hbg, hgg, hnc, hcm, hcs, htake⟩
  · right
    refine ⟨?_, (Keeps.refl None w).andGrown hgr (fun k e => by simp [Value.ownBlock] at e)⟩
    rcases hm with hm | ⟨g', e, hg⟩
    · simp [Value.ownBlock] at hm
    · simp [Value.ownBlock] at e; omega
  · by_cases hroom : n + 1 ≤ cap
    · left
      have hr2 := run_append_room (P := Try.prog) w 28 28 2 i0 Try.underlying28 hi gr n cap cur hgg ⟨g0, 0, none⟩ 1 1 [.int .i64 x] (by simp [hz1]) hnews h1c hroom (by simp [hz1, hcs]; omega)
      rw [hr] at hr2
      injection hr2 with e1 e2
      injection e1 with e3 e4 e5
      injection e3 with e3
      injection e3 with e3
      subst e3 e5
      exact ⟨rfl, (Keeps.refl _ w).andGrown hgr (fun k e => .inl (by simp [Value.ownBlock] at e; exact e.symm))⟩
    · right
      have holds : ∀ j u, (iv y)[j]? = some u → w.cell? ((⟨gr, 0, none⟩ : Addr).add j) = some u := h.cells (g := gr) rfl
      have hr2 := run_append_grow (P := Try.prog) w 28 28 2 i0 _ Try.underlying28 hi hz0 ⟨gr, 0, none⟩ n cap (iv y) (by rw [hz1]; exact h.1) holds ⟨g0, 0, none⟩ 1 1 [.int .i64 x] (by simp [hz1]) hnews (by omega) (by unfold maxLen at hcm; omega) (growslice_fits (by omega) (by rw [hz2]; omega))
      rw [hr] at hr2
      injection hr2 with e1 e2
      injection e1 with e3 e4 e5
      injection e3 with e3
      injection e3 with e3
      refine ⟨by rw [e3]; exact Nat.le_refl _, ?_⟩
      rw [e2]
      exact (Keeps.drew None w).andAlloc _
/-- The beginning of an own row is one. -/
theorem own_first {w : World} {B g n m c : Nat} {y z : List Int} (h : w.ownsRow B 2 1 (.slice (some ⟨g, 0, none⟩) m c) m (iv (y ++ z))) (hn : n = y.length) (hm : n ≤ m) : w.ownsRow B 2 1 (.slice (some ⟨g, 0, none⟩) n c) n (iv y) := by
  rcases h.2 with ⟨e1, -⟩ | ⟨g', cap, cur, e1, hb, hg, hnc, hcm, hcs, ht⟩
  · cases e1
  · injection e1 with e1 e2 e3
    injection e1 with e1
    injection e1 with e1
    subst e1 e3
    refine ⟨by rw [iv_len]; omega, .inr ⟨g, c, cur, rfl, hb, hg, by omega, hcm, hcs, ?_⟩⟩
    have e4 : cur.toList.take (n * 1) = (cur.toList.take (m * 1)).take (n * 1) := by
      rw [List.take_take]
      congr 1
      omega
    rw [e4, ht, iv_app, List.take_append_of_le_length (by rw [iv_len]; omega), List.take_of_length_le (by rw [iv_len]; omega)]
def VS (B S : Nat) (i : Nat) : Prop := B ≤ i ∧ i < S
/-- An answer's lists: row 0 is the final one, row k + 1 the look k. -/
structure VM (w : World) (B S : Nat) (fa : Option Addr) (fc : Nat) (la : Option Addr) (lc : Nat) (Q : Nat → Value) (Z : Nat → List Int) (nL : Nat) : Prop where
  rows : ∀ i, i < nL + 1 → w.ownsRow B 2 1 (Q i) (Z i).length (iv (Z i))
  apart : ∀ i j b, i < nL + 1 → j < nL + 1 → i ≠ j → (Q i).ownBlock = some b → (Q j).ownBlock ≠ some b
  hi : ∀ i b, i < nL + 1 → (Q i).ownBlock = some b → b < S
  fin : Q 0 = .slice fa (Z 0).length fc
  lks : w.ownsRow B 28 1 (.slice la nL lc) nL ((List.range nL).map (fun k => Q (k + 1)))
  lhi : ∀ b, (Value.slice la nL lc).ownBlock = some b → b < S
section
variable {w w' : World} {B S nL fc lc : Nat} {fa la : Option Addr} {Q : Nat → Value} {Z : Nat → List Int}
theorem VM.kept {T : Nat → Prop} (h : VM w B S fa fc la lc Q Z nL) (hk : Keeps T w w') (hT : ∀ i, T i → ¬ VS B S i) : VM w' B S fa fc la lc Q Z nL :=
  ⟨fun i hi => row_kept (h.rows i hi) hk (fun b e hs => hT b hs ⟨row_low (h.rows i hi) e, h.hi i b hi e⟩), h.apart, h.hi, h.fin, row_kept h.lks hk (fun b e hs => hT b hs ⟨row_low h.lks e, h.lhi b e⟩), h.lhi⟩
theorem VM.more (h : VM w B S fa fc la lc Q Z nL) (hk : Keeps None w w') : VM w' B S fa fc la lc Q Z nL := h.kept hk (fun _ f => f.elim)
/-- One number of one row is stored. -/
theorem VM.set (h : VM w B S fa fc la lc Q Z nL) {i p : Nat} (hi : i < nL + 1) (hp : p < (Z i).length) (x : Int) : ∃ g c, Q i = .slice (some ⟨g, 0, none⟩) (Z i).length c ∧ (∃ v, w.cell? ⟨g, p, none⟩ = some v) ∧ w.frozen? ⟨g, p, none⟩ = false ∧ VM (w.setCell ⟨g, p, none⟩ (.int .i64 x)) B S fa fc la lc Q (upd Z i ((Z i).set p x)) nL ∧ Keeps (VS B S) w (w.setCell ⟨g, p, none⟩ (.int .i64 x)) := by
  have hr := h.rows i hi
  obtain ⟨a, c, hQ⟩ := row_shape hr
  rw [hQ] at hr
  obtain ⟨v, hv⟩ : ∃ v, (iv (Z i))[p]? = some v := ⟨(iv (Z i))[p]'(by rw [iv_len]; exact hp), by simp⟩
  obtain ⟨g, rfl, hlo, hlt, -, hc, hf⟩ := own_cell1 hr hv
  have hbS : g < S := h.hi i g hi (by rw [hQ]; rfl)
  have hk : Keeps (· = g) w (w.setCell ⟨g, p, none⟩ (.int .i64 x)) := keeps_one (Keeps.refl _ _) _
  have hT : OnlyT (· = g) w 2 := by
    obtain ⟨cur, hcur⟩ := own_block hr (g := g) rfl
    exact onlyT_one hcur
  refine ⟨g, c, hQ, ⟨v, hc⟩, hf p, ⟨fun j hj => ?_, h.apart, h.hi, ?_, row_other h.lks hk hT (by decide), h.lhi⟩, hk.mono (fun b e _ => by subst e; exact ⟨hlo, hbS⟩)⟩
  · by_cases e : j = i
    · subst e
      rw [upd_eq, List.length_set, hQ, show iv ((Z j).set p x) = (iv (Z j)).set p (.int .i64 x) by simp [iv, List.map_set]]
      exact row_set hr _ _
    · rw [upd_ne e]
      exact row_kept (h.rows j hj) hk (fun b e1 e2 => by subst e2; exact h.apart j i b hj hi e e1 (by rw [hQ]; rfl))
  · by_cases e : 0 = i
    · subst e; rw [upd_eq, List.length_set]; exact h.fin
    · rw [upd_ne e]; exact h.fin
/-- A row that grows out of row i. -/
structure Gr (w : World) (B S8 : Nat) (Q : Nat → Value) (Z : Nat → List Int) (i : Nat) (r : Value) (n : Nat) : Prop where
  own : ∃ y, w.ownsRow B 2 1 r n (iv (Z i ++ y)) ∧ n = (Z i).length + y.length
  loc : (∃ g c, Q i = .slice (some ⟨g, 0, none⟩) (Z i).length c ∧ r = .slice (some ⟨g, 0, none⟩) n c) ∨ (∀ b, r.ownBlock = some b → S8 ≤ b)
theorem VM.gr (h : VM w B S fa fc la lc Q Z nL) {i : Nat} (hi : i < nL + 1) (S8 : Nat) : Gr w B S8 Q Z i (Q i) (Z i).length := by
  refine ⟨⟨[], by rw [List.append_nil]; exact h.rows i hi, by simp⟩, ?_⟩
  rcases (h.rows i hi).2 with ⟨e, -⟩ | ⟨g, cap, cur, e, -⟩
  · right; intro b hb; rw [e] at hb; simp [Value.ownBlock] at hb
  · left; exact ⟨g, cap, e, e⟩
theorem Gr.more {S8 i n : Nat} {r : Value} (h : Gr w B S8 Q Z i r n) (hk : Keeps None w w') : Gr w' B S8 Q Z i r n := by
  obtain ⟨y, h1, h2⟩ := h.own
  exact ⟨⟨y, row_kept h1 hk (fun _ _ f => f), h2⟩, h.loc⟩
/-- One number is appended to it. -/
theorem Gr.step {S8 i n g0 : Nat} {r : Value} (h : VM w B S fa fc la lc Q Z nL) (hg : Gr w B S8 Q Z i r n) (hi : i < nL + 1) (hS : S ≤ S8) (h8 : S8 ≤ w.heap.size) (hB : B ≤ S) (hn : n ≤ 100000) (x : Int) (hg0 : w.heap[g0]? = some (.cells #[.int .i64 x] 2 (0, 0))) :
    ∃ g c w', (Builtin.append_ #[28, 28] 28 #[r, .slice (some ⟨g0, 0, none⟩) 1 1]).run Try.prog w = .ok (.slice (some ⟨g, 0, none⟩) (n + 1) c) w' ∧ VM w' B S fa fc la lc Q Z nL ∧ Gr w' B S8 Q Z i (.slice (some ⟨g, 0, none⟩) (n + 1) c) (n + 1) ∧ Keeps (fun b => VS B S b ∨ S8 ≤ b) w w' := by
  obtain ⟨y, h1, h2⟩ := hg.own
  obtain ⟨g, c, w', hr, ho, hc⟩ := one_more B w r n (Z i ++ y) x g0 h1 (by omega) hn hg0
  rw [List.append_assoc] at ho
  refine ⟨g, c, w', hr, ?_, ⟨⟨y ++ [x], ho, by simp; omega⟩, ?_⟩, ?_⟩
  · rcases hc with ⟨hre, hk⟩ | ⟨-, hk⟩
    · rcases hg.loc with ⟨g1, c1, hQ, hr1⟩ | hloc
      · rw [hre] at hr1
        injection hr1 with e1 e2 e3
        injection e1 with e1
        injection e1 with e1
        subst e1 e3
        have hT : OnlyT (· = g) w 2 := by
          obtain ⟨cur, hcur⟩ := own_block h1 (g := g) (by rw [hre]; rfl)
          exact onlyT_one hcur
        refine ⟨fun j hj => ?_, h.apart, h.hi, h.fin, row_other h.lks hk hT (by decide), h.lhi⟩
        by_cases e : j = i
        · subst e
          rw [hQ]
          exact own_first ho rfl (by omega)
        · exact row_kept (h.rows j hj) hk (fun b e1 e2 => by subst e2; exact h.apart j i b hj hi e e1 (by rw [hQ]; rfl))
      · refine h.kept hk (fun b e hv => ?_)
        subst e
        have := hloc b (by rw [hre]; rfl)
        have := hv.2
        omega
    · exact h.more hk
  · rcases hc with ⟨hre, hk⟩ | ⟨hge, hk⟩
    · rcases hg.loc with ⟨g1, c1, hQ, hr1⟩ | hloc
      · rw [hre] at hr1
        injection hr1 with e1 e2 e3
        injection e1 with e1
        injection e1 with e1
        subst e1 e3
        exact .inl ⟨g, c, hQ, rfl⟩
      · right
        intro b hb
        simp [Value.ownBlock] at hb
        subst hb
        exact hloc g (by rw [hre]; rfl)
    · right
      intro b hb
      simp [Value.ownBlock] at hb
      omega
  · rcases hc with ⟨hre, hk⟩ | ⟨-, hk⟩
    · refine hk.mono (fun b e hb => ?_)
      subst e
      rcases hg.loc with ⟨g1, c1, hQ, hr1⟩ | hloc
      · left
        rw [hre] at hr1
        injection hr1 with e1 e2 e3
        injection e1 with e1
        injection e1 with e1
        subst e1
        exact ⟨row_low (h.rows i hi) (by rw [hQ]; rfl), h.hi i b hi (by rw [hQ]; rfl)⟩
      · right; exact hloc b (by rw [hre]; rfl)
    · exact hk.mono (fun _ f _ => f.elim)
end
end Go.Proofs.Ytdiabpoafennlab.Rn
/-! Structs of 64-bit numbers among the arguments, and slices of them. Whatever the program. -/
namespace Go.HeapKit
open Go.ChangeShapes Go.WideShapes Go.ChangeAt Go.RowKit Go.Deep

section
variable {H : Type} {enc : TypeId × Value → H} {P : Program} {w : World} {base : Nat} {spare : Nat → Bool} {held : Bool}

/-- All fields are 64-bit numbers, one cell each, in order. -/
def allInts (P : Program) (fs : List Field) : Bool :=
  (List.range fs.length).all fun i => match fs[i]? with
    | some f => f.offset == i && (match P.underlying f.type with | some (.int .i64) => true | _ => false) && P.cellsOf f.type == 1
    | none => false
theorem allInts_at {fs : List Field} (h : allInts P fs = true) {i : Nat} {f : Field} (hf : fs[i]? = some f) : f.offset = i ∧ P.underlying f.type = some (.int .i64) ∧ P.cellsOf f.type = 1 := by
  have hi : i < fs.length := (List.getElem?_eq_some_iff.1 hf).1
  have := List.all_eq_true.1 h i (List.mem_range.2 hi)
  rw [hf] at this
  simp only [Bool.and_eq_true, beq_iff_eq] at this
  obtain ⟨⟨h1, h2⟩, h3⟩ := this
  refine ⟨h1, ?_, h3⟩
  split at h2
  · assumption
  · cases h2

theorem struct_ints {t : TypeId} {fs : Array Field} {fuel : Nat} {cs : List Value} {x : DataW H × List MemPlace} (ht : P.underlying t = some (.struct fs)) (ha : allInts P fs.toList = true) (hc : P.cellsOf t = fs.size)
    (h : DataW.trod enc P w base spare held fuel t cs = some x) : ∃ ns : List Int, ns.length = fs.size ∧ cs = ns.map (Value.int .i64) ∧ ∀ n ∈ ns, (Lit.int .i64 n).wf = true := by
  obtain ⟨xs, n, _, rfl, hl, hlen, hf⟩ := DataW.trod_struct ht h
  rw [hc] at hl
  have hat : ∀ i, i < fs.size → ∃ m : Int, cs[i]? = some (.int .i64 m) ∧ (Lit.int .i64 m).wf = true := by
    intro i hi
    have hfi : fs[i]? = some fs[i] := by simp [hi]
    obtain ⟨h1, h2, h3⟩ := allInts_at ha (i := i) (f := fs[i]) (by simp)
    have hq := hf i fs[i] hfi
    rw [h1, h3, show xs[i]? = some xs[i] by simp] at hq
    obtain ⟨m, hm, _, hw⟩ := DataW.trod_int h2 hq
    refine ⟨m, ?_, hw⟩
    have : (List.take 1 (List.drop i cs))[0]? = some (.int .i64 m) := by rw [hm]; rfl
    simpa [List.getElem?_take, List.getElem?_drop] using this
  have hall : ∀ v ∈ cs, ∃ m : Int, v = .int .i64 m ∧ (Lit.int .i64 m).wf = true := by
    intro v hv
    obtain ⟨i, hi, rfl⟩ := List.mem_iff_getElem.1 hv
    obtain ⟨m, hm, hw⟩ := hat i (by omega)
    exact ⟨m, by simpa [hi] using hm, hw⟩
  have hex : ∀ cs : List Value, (∀ v ∈ cs, ∃ m : Int, v = .int .i64 m ∧ (Lit.int .i64 m).wf = true) → ∃ ns : List Int, cs = ns.map (Value.int .i64) ∧ ∀ n ∈ ns, (Lit.int .i64 n).wf = true := by
    intro cs
    induction cs with
    | nil => exact fun _ => ⟨[], rfl, fun _ h => by cases h⟩
    | cons v cs ih =>
      intro hv
      obtain ⟨ns, rfl, hw⟩ := ih (fun u hu => hv u (List.mem_cons_of_mem _ hu))
      obtain ⟨m, rfl, hm⟩ := hv v (List.mem_cons_self ..)
      refine ⟨m :: ns, rfl, ?_⟩
      intro n hn
      rcases List.mem_cons.1 hn with rfl | hn
      · exact hm
      · exact hw n hn
  obtain ⟨ns, rfl, hw⟩ := hex cs hall
  exact ⟨ns, by simpa using hl, rfl, hw⟩

end
end Go.HeapKit
/-! A game of a reducer among the arguments. -/
namespace Go.Proofs.Ytdiabpoafennlab
set_option linter.unusedVariables false
set_option maxRecDepth 20000
open Go.ChangeShapes Go.WideShapes Go.ChangeAt Go.RowKit Go.HeapKit Go.Deep

def okG (x : Int) : Prop := -9223372036854775808 ≤ x ∧ x ≤ 9223372036854775807
theorem okG_of_wf {x : Int} (h : (Lit.int .i64 x).wf = true) : okG x := by
  have h1 : IntKind.i64.min = -9223372036854775808 := by decide
  have h2 : IntKind.i64.max = 9223372036854775807 := by decide
  simp [Lit.wf, h1, h2] at h
  unfold okG
  omega
section
variable {H : Type} {enc : TypeId × Value → H} {w : World} {base : Nat} {held : Bool}
theorem g_spot_none {w : World} {x : Addr} {v : Value} (h : w.cell? x = some v) : x.spot = none := by
  unfold World.cell? at h
  split at h
  · split at h
    · cases h
    · rename_i hs; simpa using hs
  · cases h
theorem g_spot_first {w : World} {base n : Nat} {x : Addr} {cs : List Value} (h : w.cells? base (x.add (0 * n)) n = some cs) (hn : 0 < n) : x.spot = none := by
  obtain ⟨_, hl, hc⟩ := World.cells?_some h
  have h0 := hc 0 hn
  rw [Nat.zero_mul, show (x.add 0).add 0 = x by unfold Addr.add; simp, List.getElem?_eq_getElem (by omega)] at h0
  exact g_spot_none h0
theorem g_choose {α : Type} (p : Nat → α → Prop) (n : Nat) (h : ∀ i, i < n → ∃ x, p i x) : ∃ l : List α, l.length = n ∧ ∀ i x, l[i]? = some x → p i x := by
  induction n with
  | zero => exact ⟨[], rfl, fun i x hx => by simp at hx⟩
  | succ n ih =>
    obtain ⟨l, hl, hp⟩ := ih (fun i hi => h i (by omega))
    obtain ⟨x, hx⟩ := h n (by omega)
    refine ⟨l ++ [x], by simp [hl], fun i y hy => ?_⟩
    by_cases hi : i < n
    · rw [List.getElem?_append_left (by omega)] at hy
      exact hp i y hy
    · have hlt := (List.getElem?_eq_some_iff.1 hy).1
      simp [hl] at hlt
      obtain rfl : i = n := by omega
      rw [List.getElem?_append_right (by omega), hl] at hy
      simp at hy
      subst hy
      exact hx
theorem g_lt {w : World} {b o : Nat} {v : Value} (h : w.cell? ⟨b, o, none⟩ = some v) : b < w.heap.size := by
  cases hb : w.heap[b]? with
  | none => simp [World.cell?, hb] at h
  | some o => exact (Array.getElem?_eq_some_iff.1 hb).1
def okD (x : Dd) : Prop := okG x.k ∧ okG x.loc
/-- Deeds that came in. -/
theorem open_deeds {fuel : Nat} {cs : List Value} {x : DataW H × List MemPlace} (h : DataW.trod enc Try.prog w base (fun _ => true) held fuel 22 cs = some x) :
    ∃ ca n cc l, cs = [.slice ca n cc] ∧ Seen w ca n l ∧ (∀ i ∈ l, okD i) ∧ n ≤ cc ∧ (n = 0 ∨ ∃ elems sp, x.1 = .slice elems sp ∧ n ≤ elems.length + sp.length) := by
  rcases open_slice Try.underlying22 h with ⟨rfl, _⟩ | ⟨a, len, cap, m, n, D, Pl, rfl, _, hl, hm, hmm, hx, hall⟩
  · exact ⟨none, 0, 0, [], rfl, ⟨rfl, fun h => by omega⟩, (fun i hi => by cases hi), Nat.le_refl _, .inl rfl⟩
  · simp at hmm
    subst hmm
    have hc : Try.prog.cellsOf 44 = 2 := by kernel_rfl
    rw [hc] at hall
    have hex : ∀ i, i < len → ∃ x : Dd, okD x ∧ ∃ b off, a = ⟨b, off, none⟩ ∧ b < w.heap.size ∧ w.cell? ⟨b, off + i * 2, none⟩ = some (.int .i64 x.k) ∧ w.cell? ⟨b, off + i * 2 + 1, none⟩ = some (.int .i64 x.loc) := by
      intro i hi
      obtain ⟨cs', h1, h2⟩ := hall i (by omega)
      obtain ⟨ns, hl, rfl, hw⟩ := struct_ints Try.underlying44 (by kernel_rfl) (by kernel_rfl) h2
      obtain ⟨_, hlen, hcell⟩ := World.cells?_some h1
      have hl5 : ns.length = 2 := hl
      match ns, hl5 with
      | [n0, n1], _ =>
        obtain ⟨b, off, sp⟩ := a
        have hsp : sp = none := by
          obtain ⟨cs0, hz, _⟩ := hall 0 (by omega)
          exact g_spot_first hz (by omega)
        subst hsp
        have hh : ∀ j, j < 2 → w.cell? ⟨b, off + i * 2 + j, none⟩ = ([n0, n1].map (Value.int .i64))[j]? := by
          intro j hj
          have := hcell j hj
          rw [addr_at, addr_at] at this
          exact this
        exact ⟨⟨n0, n1⟩, ⟨okG_of_wf (hw _ (by simp)), okG_of_wf (hw _ (by simp))⟩, b, off, rfl, g_lt (hh 0 (by omega)), hh 0 (by omega), hh 1 (by omega)⟩
    obtain ⟨l, hll, hp⟩ := g_choose _ len hex
    refine ⟨some a, len, m, l, rfl, ⟨hll.symm, fun h0 => ?_⟩, fun i hi => ?_, hl, ?_⟩
    · obtain ⟨_, b, off, rfl, hb, _⟩ := hp 0 (l[0]'(by omega)) (by simp)
      refine ⟨b, off, rfl, hb, fun k i hi => ?_⟩
      obtain ⟨_, b', off', e, _, hat⟩ := hp k i hi
      injection e with e1 e2
      subst e1 e2
      exact ⟨hat.1, hat.2⟩
    · obtain ⟨k, hk, rfl⟩ := List.mem_iff_getElem.1 hi
      exact (hp k _ (by simp)).1
    · exact .inr ⟨_, _, congrArg Prod.fst hx, by simp⟩
/-- One-cell values that came in. -/
theorem open_ints1 {fuel : Nat} {cs : List Value} {x : DataW H × List MemPlace} (h : DataW.trod enc Try.prog w base (fun _ => true) held fuel 24 cs = some x) :
    ∃ ca n cc l, cs = [.slice ca n cc] ∧ SeenV w ca n (iv l) ∧ (∀ i ∈ l, okG i) ∧ n ≤ cc ∧ (n = 0 ∨ ∃ elems sp, x.1 = .slice elems sp ∧ n ≤ elems.length + sp.length) := by
  rcases open_ints Try.underlying24 Try.underlying3 (by kernel_rfl) h with ⟨hcs, _⟩ | ⟨a, l, c, zs, hcs, _, hl, hm, hz, hx, hcell, hwz⟩
  · exact ⟨none, 0, 0, [], hcs, ⟨rfl, fun h => by omega⟩, (fun i hi => by cases hi), Nat.le_refl _, .inl rfl⟩
  · have hz2 : zs.length = c := by simpa using hz
    refine ⟨some a, l, c, zs.take l, hcs, ⟨by rw [iv_len, List.length_take]; omega, fun h0 => ?_⟩, fun i hi => okG_of_wf (hwz i (List.mem_of_mem_take hi)), hl, .inr ⟨_, _, congrArg Prod.fst hx, by simp [lits]; omega⟩⟩
    obtain ⟨b, off, sp⟩ := a
    have hc0 := hcell 0 (by omega)
    have hsp : sp = none := by
      have := g_spot_none hc0
      unfold Addr.add at this
      split at this <;> simp_all
    subst hsp
    rw [addr_at] at hc0
    refine ⟨b, off, rfl, g_lt hc0, fun i v hi => ?_⟩
    have hil := (List.getElem?_eq_some_iff.1 hi).1
    rw [iv_len, List.length_take] at hil
    have := hcell i (by omega)
    rw [addr_at] at this
    rw [this, ← hi]
    simp [iv, show i < l by omega, show i < zs.length by omega]
theorem open_bools1 {fuel : Nat} {cs : List Value} {x : DataW H × List MemPlace} (h : DataW.trod enc Try.prog w base (fun _ => true) held fuel 23 cs = some x) :
    ∃ ca n cc l, cs = [.slice ca n cc] ∧ SeenV w ca n (bv' l) ∧ n ≤ cc ∧ (n = 0 ∨ ∃ elems sp, x.1 = .slice elems sp ∧ n ≤ elems.length + sp.length) := by
  rcases open_slice Try.underlying23 h with ⟨hcs, _⟩ | ⟨a', len, cap, m, n', D, Pl, hcs, _, hl, hm, hmm, hx, hall⟩
  · exact ⟨none, 0, 0, [], hcs, ⟨rfl, fun h => by omega⟩, Nat.le_refl _, .inl rfl⟩
  · simp at hmm
    subst hmm
    have hc : Try.prog.cellsOf 4 = 1 := by kernel_rfl
    rw [hc] at hall
    have hex : ∀ i, i < len → ∃ x : Bool, w.cell? (a'.add i) = some (.bool x) := by
      intro i hi
      obtain ⟨cs', h1, h2⟩ := hall i (by omega)
      obtain ⟨_, hlen, hcell⟩ := World.cells?_some h1
      obtain ⟨x, rfl, _⟩ := DataW.trod_bool Try.underlying4 h2
      have := hcell 0 (by omega)
      refine ⟨x, ?_⟩
      rw [Nat.mul_one] at this
      rw [show (a'.add i).add 0 = a'.add i by unfold Addr.add; split <;> simp_all] at this
      exact this
    obtain ⟨l, hll, hp⟩ := g_choose _ len hex
    refine ⟨some a', len, m, l, hcs, ⟨by rw [bv_len]; exact hll.symm, fun h0 => ?_⟩, hl, .inr ⟨_, _, congrArg Prod.fst hx, by simp⟩⟩
    obtain ⟨b, off, sp⟩ := a'
    have hsp : sp = none := by
      obtain ⟨x, hx⟩ := hex 0 h0
      have := g_spot_none hx
      unfold Addr.add at this
      split at this <;> simp_all
    subst hsp
    refine ⟨b, off, rfl, ?_, fun k v hv => ?_⟩
    · obtain ⟨x, hx⟩ := hex 0 h0
      rw [addr_at] at hx
      exact g_lt hx
    · rw [bv', List.getElem?_map] at hv
      cases hk : l[k]? with
      | none => rw [hk] at hv; cases hv
      | some x =>
        rw [hk] at hv
        obtain rfl := Option.some.inj hv
        have := hp k x hk
        rwa [addr_at] at this
theorem weights_at {P : Program} {ts : List TypeId} {ds : List (DataW H)} (h : (DataW.weightsEach P ts ds).all (· ≤ reachBytes) = true) {j : Nat} {t : TypeId} {d : DataW H} (ht : ts[j]? = some t) (hd : ds[j]? = some d) :
    (d.weights P t).all (· ≤ reachBytes) = true := by
  refine List.all_eq_true.2 fun n hn => ?_
  exact List.all_eq_true.1 h n (DataW.weights_mem_each ht hd n hn)
/-- A game: its three lists. -/
theorem open_hgame {r : Reach} {b0 : Nat} {v : Value} {d : DataW H} {ps : List MemPlace} (hval : Value.okWide Try.prog w r b0 26 v) (hd : DataW.Trod enc Try.prog w base (fun _ => true) held 26 v d ps) :
    ∃ a n c l b m e st p k f pk, v = .agg #[.slice a n c, .slice b m e, .slice p k f] ∧ Seen w a n l ∧ SeenV w b m (bv' st) ∧ SeenV w p k (iv pk) ∧ n ≤ c ∧ m ≤ e ∧ k ≤ f ∧ (∀ i ∈ l, okD i) ∧ (∀ i ∈ pk, okG i) ∧
      ((d.weights Try.prog 26).all (· ≤ reachBytes) = true → n * 16 ≤ reachBytes ∧ m ≤ reachBytes ∧ k * 8 ≤ reachBytes) := by
  obtain ⟨cs, rfl, hs⟩ := okWide_struct Try.underlying26 hval
  rw [show Try.prog.cellsOf 26 = 3 by kernel_rfl] at hs
  obtain ⟨fuel, hf⟩ := hd
  obtain ⟨xs, n, _, hxx, hl', hxl, hf⟩ := DataW.trod_struct Try.underlying26 hf
  have q0 : DataW.trod enc Try.prog w base (fun _ => true) held n 22 (List.take (Try.prog.cellsOf 22) (List.drop 0 (Value.agg cs).cells.toList)) = xs[0]? := hf 0 _ rfl
  have q1 : DataW.trod enc Try.prog w base (fun _ => true) held n 23 (List.take (Try.prog.cellsOf 23) (List.drop 1 (Value.agg cs).cells.toList)) = xs[1]? := hf 1 _ rfl
  have q2 : DataW.trod enc Try.prog w base (fun _ => true) held n 24 (List.take (Try.prog.cellsOf 24) (List.drop 2 (Value.agg cs).cells.toList)) = xs[2]? := hf 2 _ rfl
  have hx1 : xs.length = 3 := hxl
  rw [List.getElem?_eq_getElem (by omega)] at q0 q1 q2
  obtain ⟨cs⟩ := cs
  match cs, hs with
  | [v0, v1, v2], _ =>
    rw [show Try.prog.cellsOf 22 = 1 by kernel_rfl] at q0
    rw [show Try.prog.cellsOf 23 = 1 by kernel_rfl] at q1
    rw [show Try.prog.cellsOf 24 = 1 by kernel_rfl] at q2
    obtain ⟨a0, n0, c0, l0, e0, hS0, ok0, le0, hle0⟩ := open_deeds q0
    obtain ⟨a1, n1, c1, l1, e1, hS1, le1, hle1⟩ := open_bools1 q1
    obtain ⟨a2, n2, c2, l2, e2, hS2, ok2, le2, hle2⟩ := open_ints1 q2
    simp [Value.cells] at e0 e1 e2
    subst e0 e1 e2
    refine ⟨a0, n0, c0, l0, a1, n1, c1, l1, a2, n2, c2, l2, rfl, hS0, hS1, hS2, le0, le1, le2, ok0, ok2, fun hall => ?_⟩
    obtain ⟨x0, x1, x2, rfl⟩ : ∃ x0 x1 x2, xs = [x0, x1, x2] := by
      clear hle0 hle1 hle2 q0 q1 q2 hf hxx
      match xs, hx1 with
      | [x0, x1, x2], _ => exact ⟨_, _, _, rfl⟩
    simp only [List.getElem_cons_succ, List.getElem_cons_zero] at hle0 hle1 hle2
    simp only [Prod.mk.injEq, List.map_cons, List.map_nil] at hxx
    obtain ⟨rfl, _⟩ := hxx
    refine ⟨?_, ?_, ?_⟩
    · rcases hle0 with h0 | ⟨elems, sp, hx, hle⟩
      · subst h0; simp [reachBytes]
      · rw [hx] at hall
        have hm := List.all_eq_true.1 hall ((elems.length + sp.length) * Try.prog.bytesOf 44) (by
          simp [DataW.weights, Try.underlying26, DataW.weightsEach, Try.underlying22])
        rw [show Try.prog.bytesOf 44 = 16 by kernel_rfl] at hm
        simp at hm
        omega
    · rcases hle1 with h0 | ⟨elems, sp, hx, hle⟩
      · subst h0; simp [reachBytes]
      · rw [hx] at hall
        have hm := List.all_eq_true.1 hall ((elems.length + sp.length) * Try.prog.bytesOf 4) (by
          simp [DataW.weights, Try.underlying26, DataW.weightsEach, Try.underlying23])
        rw [show Try.prog.bytesOf 4 = 1 by kernel_rfl] at hm
        simp at hm
        omega
    · rcases hle2 with h0 | ⟨elems, sp, hx, hle⟩
      · subst h0; simp [reachBytes]
      · rw [hx] at hall
        have hm := List.all_eq_true.1 hall ((elems.length + sp.length) * Try.prog.bytesOf 3) (by
          simp [DataW.weights, Try.underlying26, DataW.weightsEach, Try.underlying24])
        rw [show Try.prog.bytesOf 3 = 8 by kernel_rfl] at hm
        simp at hm
        omega
end
end Go.Proofs.Ytdiabpoafennlab
/-! The walk of HyperPlay. -/
namespace Go.Proofs.Ytdiabpoafennlab.Rn
set_option linter.unusedVariables false
set_option maxRecDepth 20000
set_option linter.unusedSimpArgs false
open Go.RowKit Go.HeapKit Go.PlainOps

theorem fits_okD {l : List Dd} (h : ∀ i ∈ l, okD i) : Fits (l.map Dd.loc) := fun x hx => by
  obtain ⟨d, hd, rfl⟩ := List.mem_map.1 hx
  exact (h d hd).2
end Go.Proofs.Ytdiabpoafennlab.Rn
/-! What Play tells, with the memory that it lies in. -/
namespace Go.Proofs.Ytdiabpoafennlab.Rn
set_option linter.unusedVariables false
set_option maxRecDepth 20000
set_option linter.unusedSimpArgs false
open Go.RowKit Go.HeapKit Go.PlainOps

def zT (l : List Dd) (st : List Bool) (pk : List Int) (i : Nat) : List Int := if i = 0 then finT l st pk else (lkT l st pk).getD (i - 1) []
theorem vm_nil (w : World) : VM w w.heap.size w.heap.size none 0 none 0 (fun _ => .slice none 0 0) (fun _ => []) 0 :=
  ⟨fun i _ => row_nil _ _ _ _, fun i j b _ _ _ e => by simp [Value.ownBlock] at e, fun i b _ e => by simp [Value.ownBlock] at e, rfl, row_nil _ _ _ _, fun b e => by simp [Value.ownBlock] at e⟩
theorem fin_vm {w : World} {B : Nat} {X : PX} {K : Ky → Value} {s : PS} {f : List Int} {fa : Option Addr} {fc : Nat} (h : Fin w B X K s) (hf : s.vs.getD 0 [] = f) (hK : K (.inl 0) = .slice fa f.length fc) : VM w B w.heap.size fa fc X.la X.lc (fun i => if i = 0 then K (.inl 0) else K (.inr (i - 1))) (fun i => if i = 0 then f else s.lk.getD (i - 1) []) s.lk.length := by
  have key : ∀ i, (if i = 0 then K (.inl 0) else K (.inr (i - 1))) = K (if i = 0 then .inl 0 else .inr (i - 1)) := fun i => by split <;> rfl
  refine ⟨fun i hi => ?_, fun i j b hi hj hij => ?_, fun i b hi e => ?_, ?_, ?_, fun b e => own_lt h.vw.looks e⟩
  · by_cases e : i = 0
    · subst e
      have := h.vw.rows (.inl 0)
      simp only [Lf, hf] at this
      exact this
    · have := h.vw.rows (.inr (i - 1))
      simp only [if_neg e]
      exact this
  · simp only [key]
    refine h.vw.apart _ _ b (fun e => ?_)
    by_cases ei : i = 0
    · by_cases ej : j = 0
      · exact hij (ei.trans ej.symm)
      · rw [if_pos ei, if_neg ej] at e; cases e
    · by_cases ej : j = 0
      · rw [if_neg ei, if_pos ej] at e; cases e
      · rw [if_neg ei, if_neg ej] at e
        injection e with e
        exact hij (by omega)
  · simp only [key] at e
    exact own_lt (h.vw.rows _) e
  · simp only [if_true]
    exact hK
  · have e1 : (List.range s.lk.length).map (fun k => if k + 1 = 0 then K (.inl 0) else K (.inr (k + 1 - 1))) = (List.range s.lk.length).map (fun i => K (.inr i)) := range_cong (fun i _ => by rw [if_neg (by omega), Nat.add_sub_cancel])
    rw [e1]
    exact h.vw.looks
/-- An answer that stands as long as nothing is written at or above 'lo' that was there. -/
structure AnsK (w : World) (lo : Nat) (f : List Int) (m : Nat) (mg : List (Nat × Nat × Nat)) (lk : List (List Int)) (fa ma la : Option Addr) : Prop where
  out : ∀ (T : Nat → Prop) (w' : World), Keeps T w w' → (∀ i, T i → i < lo ∨ w.heap.size ≤ i) → Ans w' f m mg lk fa ma la
theorem AnsK.now {w : World} {lo : Nat} {f : List Int} {m : Nat} {mg : List (Nat × Nat × Nat)} {lk : List (List Int)} {fa ma la : Option Addr} (h : AnsK w lo f m mg lk fa ma la) : Ans w f m mg lk fa ma la := h.out None w (Keeps.refl _ _) (fun _ f => f.elim)
theorem ans_nil (w : World) (m : Nat) : Ans w [] m [] [] none none none := ⟨SeenV.nil _ _, ⟨rfl, fun k x hx => by simp at hx⟩, fun k x hx => by simp at hx⟩
theorem Play_fam (a : Option Addr) (n c : Nat) (l : List Dd) (sa : Option Addr) (m sc : Nat) (st : List Bool) (pa : Option Addr) (k pc : Nat) (pk : List Int) (w : World) (hS : Seen w a n l) (hT : SeenV w sa m (bv' st)) (hP : SeenV w pa k (iv pk)) (hpc : k ≤ pc) :
    Calls Try.prog 7 #[.slice a n c, .slice sa m sc, .slice pa k pc] w fun e w' =>
      ∃ fa fc ma mc la lc B Q, e = .returned (.tuple #[.agg #[.slice fa (finT l st pk).length fc, .int .i64 (madeT l st pk), .slice ma (mgT l st pk).length mc, .slice la (lkT l st pk).length lc], .int .i64 (refE l st pk)]) ∧
        AnsK w' w.heap.size (finT l st pk) (madeT l st pk) (mgT l st pk) (lkT l st pk) fa ma la ∧ VM w' B w'.heap.size fa fc la lc Q (zT l st pk) (lkT l st pk).length ∧ w.heap.size ≤ B ∧ B ≤ w'.heap.size ∧ Keeps None w w' := by
  refine (Play_ok a n c l sa m sc st pa k pc pk w hS hT hP hpc).mono ?_
  rintro e w' ⟨hbad, hgood, hk⟩
  by_cases hE : refE l st pk = 0
  · obtain ⟨B, X, K, h1, hB, h2⟩ := hgood hE
    obtain ⟨fa, fc, h3, h4⟩ := h2.final
    have eF : finT l st pk = putsD l := by unfold finT; rw [if_pos hE]
    have eM : madeT l st pk = (finPS l st pk).vs.length := by unfold madeT; rw [if_pos hE]
    have eG : mgT l st pk = (finPS l st pk).mg := by unfold mgT; rw [if_pos hE]
    have eL : lkT l st pk = (finPS l st pk).lk := by unfold lkT; rw [if_pos hE]
    have hv := fin_vm h2 (fin_puts l st pk) h3
    have eZ : (fun i => if i = 0 then putsD l else (finPS l st pk).lk.getD (i - 1) []) = zT l st pk := by
      funext i
      unfold zT
      rw [eF, eL]
    rw [eZ] at hv
    rw [h3] at h1
    refine ⟨fa, fc, X.ma, X.mc, X.la, X.lc, B, _, by rw [eF, eM, eG, eL, hE]; exact h1, ⟨fun T w2 hk2 hT2 => ?_⟩, by rw [eL]; exact hv, hB, ?_, hk⟩
    · have h5 := h2.kept hk2 (fun i hi hlt hs => by rcases hT2 i hs with h | h <;> omega)
      obtain ⟨fa2, fc2, h6, h7⟩ := h5.final
      rw [h3] at h6
      injection h6 with e1 e2 e3
      subst e1
      exact ⟨by rw [eF]; exact h7, by rw [eL]; exact h5.looks, by rw [eG]; exact h5.merges⟩
    obtain ⟨g, e2, hlo, hlt, _⟩ := own_cellS h2.vw.views (k := 0) (range_get _ (finPS_len l st pk (refE_ok hE).2.2.2))
    omega
  · have eF : finT l st pk = [] := by unfold finT; rw [if_neg hE]
    have eM : madeT l st pk = 0 := by unfold madeT; rw [if_neg hE]
    have eG : mgT l st pk = [] := by unfold mgT; rw [if_neg hE]
    have eL : lkT l st pk = [] := by unfold lkT; rw [if_neg hE]
    have eZ : zT l st pk = fun _ => [] := by
      funext i
      unfold zT
      rw [eF, eL]
      split <;> rfl
    rw [eF, eM, eG, eL, eZ]
    exact ⟨none, 0, none, 0, none, 0, w'.heap.size, _, hbad hE, ⟨fun T w2 _ _ => ans_nil w2 0⟩, vm_nil w', hk.size, Nat.le_refl _, hk⟩
theorem RTold.kept2 {S : Nat → Prop} {w w' : World} {base : Nat} {K : RP} {X : RX} {L M : Nat → Value} {s : PS} (h : RTold w base K X L M s) (hk : Keeps S w w') (hS : ∀ i, base ≤ i → i < w.heap.size → ¬ S i) : RTold w' base K X L M s :=
  ⟨⟨row_kept h.vw.views hk (fun b e => hS b (row_low h.vw.views e) (own_lt h.vw.views e)), fun i hi => row_kept (h.vw.rows i hi) hk (fun b e => hS b (row_low (h.vw.rows i hi) e) (own_lt (h.vw.rows i hi) e)), row_kept h.vw.looks hk (fun b e => hS b (row_low h.vw.looks e) (own_lt h.vw.looks e)), fun i hi => row_kept (h.vw.told i hi) hk (fun b e => hS b (row_low (h.vw.told i hi) e) (own_lt (h.vw.told i hi) e))⟩, row_kept h.mg hk (fun b e => hS b (row_low h.mg e) (own_lt h.mg e))⟩
theorem zT_len (l : List Dd) (st : List Bool) (pk : List Int) (i : Nat) : (zT l st pk i).length ≤ 5000 := by
  unfold zT
  split
  · exact finT_len l st pk
  · rw [List.getD_eq_getElem?_getD]
    cases h : (lkT l st pk)[i - 1]? with
    | none => simp
    | some x => exact (lkT_len l st pk).2 x (List.mem_of_getElem? h)
end Go.Proofs.Ytdiabpoafennlab.Rn
