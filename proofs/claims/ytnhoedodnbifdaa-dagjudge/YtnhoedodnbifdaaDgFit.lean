import Derived.Test.YtnhoedodnbifdaaDgOpen
import Derived.Test.YtnhoedodnbifdaaDgLaw
import Derived.Test.YtnhoedodnbifdaaDgLists
import Derived.Test.YtnhoedodnbifdaaPlain
import Derived.Deep.RegionHeld3
import Derived.Deep.DeepCutAuto
/-! Edges among the arguments; a dag made of them. -/
namespace Go.Proofs.Ytnhoedodnbifdaa
set_option linter.unusedVariables false
set_option maxRecDepth 20000
open Go.RowKit Go.HeapKit

theorem lt_of_cell {w : World} {b o : Nat} {v : Value} (h : w.cell? ⟨b, o, none⟩ = some v) : b < w.heap.size := by
  cases hb : w.heap[b]? with
  | none => simp [World.cell?, hb] at h
  | some o => exact (Array.getElem?_eq_some_iff.1 hb).1
def gEd (ns : List Int) : Ed := ⟨ns.getD 0 0, ns.getD 1 0⟩
theorem grid_edges {w : World} {ao : Option Addr} {len cap : Nat} {g : List (List Int)} (h : IsGrid 2 w ao len cap g) : len ≤ cap ∧ SeenE w ao len ((g.take len).map gEd) ∧ ∀ e ∈ (g.take len).map gEd, okI e.f ∧ okI e.t := by
  rcases h with ⟨rfl, rfl, rfl, rfl⟩ | ⟨x, rfl, hl, hm, hlen, hrow⟩
  · exact ⟨Nat.le_refl _, ⟨rfl, fun h => by omega⟩, fun e he => by simp at he⟩
  · refine ⟨hl, ⟨by simp; omega, fun hpos => ?_⟩, ?_⟩
    rotate_left
    · intro e he
      obtain ⟨ns, hns, rfl⟩ := List.mem_map.1 he
      obtain ⟨i, hi, rfl⟩ := List.mem_iff_getElem.1 hns
      rw [List.length_take] at hi
      obtain ⟨ns, h1, h2, h3, _⟩ := hrow i (by omega)
      rw [List.getElem_take]
      have e2 : g[i] = ns := by
        rw [List.getElem?_eq_getElem (by omega)] at h1
        injection h1
      rw [e2]
      match ns, h2, h3 with
      | [a0, a1], _, h3 => exact ⟨okI_of_wf (h3 a0 (by simp)), okI_of_wf (h3 a1 (by simp))⟩
    have hspot : x.spot = none := by
      obtain ⟨ns, h1, h2, h3, h4⟩ := hrow 0 (by omega)
      match ns, h2 with
      | m0 :: _, _ =>
        have := h4 0 m0 rfl
        rw [Nat.zero_mul] at this
        have e : (x.add 0).add 0 = x := by unfold Addr.add; simp
        rw [e] at this
        exact spot_none this
    obtain ⟨b0, off, sp⟩ := x
    simp only at hspot
    subst hspot
    have hat : ∀ i j, (((⟨b0, off, none⟩ : Addr).add (i * 2)).add j) = ⟨b0, off + i * 2 + j, none⟩ := by
      intro i j
      unfold Addr.add
      split <;> split <;> simp_all
    have hcell : ∀ i, i < len → ∀ j, j < 2 → w.cell? ⟨b0, off + i * 2 + j, none⟩ = some (.int .i64 ((g.getD i []).getD j 0)) := by
      intro i hi j hj
      obtain ⟨ns, h1, h2, h3, h4⟩ := hrow i (by omega)
      have hg : g.getD i [] = ns := by simp [List.getD, h1]
      rw [hg, ← hat i j]
      exact h4 j _ (by simp [List.getD, h2, hj])
    refine ⟨b0, off, rfl, lt_of_cell (hcell 0 hpos 0 (by decide)), fun k x hx => ?_⟩
    have hk : k < len := by have := (List.getElem?_eq_some_iff.1 hx).1; simp at this; omega
    have hx2 : x = gEd (g.getD k []) := by
      rw [List.getElem?_map, List.getElem?_take, if_pos hk] at hx
      obtain ⟨ns, h1, _⟩ := hrow k (by omega)
      rw [h1] at hx
      simp at hx
      rw [← hx]
      simp [List.getD, h1]
    subst hx2
    exact ⟨hcell k hk 0 (by decide), hcell k hk 1 (by decide)⟩

def modN (x : Int) (n : Nat) : Nat := (x % (n : Int)).toNat
theorem modN_lt (x : Int) {n : Nat} (h : 0 < n) : modN x n < n := by
  unfold modN
  have h1 := Int.emod_nonneg x (b := (n : Int)) (by omega)
  have h2 := Int.emod_lt_of_pos x (b := (n : Int)) (by omega)
  omega
theorem mod_any (x : Int) (n : Nat) (w : World) (hx : okI x) (h0 : 0 < n) (h1 : n ≤ 1099511627776) : Calls Try.prog 20 #[.int .i64 x, .int .i64 n] w fun e w' => e = .returned (.int .i64 (modN x n : Nat)) ∧ w' = w := by
  have hm : (modN x n : Int) = x % (n : Int) := by
    unfold modN
    have h2 := Int.emod_nonneg x (show (n : Int) ≠ 0 by omega)
    omega
  have h2 := Go.PlainOps.tmod_mod x n (by omega)
  obtain ⟨b0, b1⟩ := Go.PlainOps.tmod_bounds x n (by omega)
  have E : Hid ((modN x n : Int) = (if x.tmod n < 0 then x.tmod n + n else x.tmod n)) := by unfold Hid; rw [hm, h2]
  have hn : ¬ (n : Int) = 0 := by omega
  have hn2 : (n : Int) ≤ 1099511627776 := by omega
  have b2 : -1099511627777 ≤ x.tmod n := by omega
  clear hm h2
  unfold okI at hx
  obtain ⟨R, hR⟩ : ∃ R, R = modN x n := ⟨_, rfl⟩
  rw [← hR] at E ⊢
  clear hR
  by_cases hr : x.tmod n < 0
  · go_enter Try.func20, Try.ntmps20
    go_wp2
    go_ret
    exact ⟨by rw [E.out, if_pos hr]; rfl, rfl⟩
  · go_enter Try.func20, Try.ntmps20
    go_wp2
    go_ret
    exact ⟨by rw [E.out, if_neg (by omega)]; rfl, rfl⟩
def fitOne (N : Nat) (e : Ed) : List Ed := if modN e.f N < modN e.t N then [⟨(modN e.f N : Nat), (modN e.t N : Nat)⟩] else if modN e.t N < modN e.f N then [⟨(modN e.t N : Nat), (modN e.f N : Nat)⟩] else []
def fitP (N : Nat) (l : List Ed) : List Ed := l.flatMap (fitOne N)
def fitL (N : Nat) (l : List Ed) : List Ed := if 0 < N then fitP N (l.take 2000) else []
theorem fitOne_len (N : Nat) (e : Ed) : (fitOne N e).length ≤ 1 := by
  unfold fitOne
  split
  · simp
  · split <;> simp
theorem fitP_snoc (N : Nat) {l : List Ed} {k : Nat} {e : Ed} (h : l[k]? = some e) : fitP N (l.take (k + 1)) = fitP N (l.take k) ++ fitOne N e := by
  unfold fitP
  rw [List.take_add_one, h]
  simp
theorem fitP_len (N : Nat) (l : List Ed) : (fitP N l).length ≤ l.length := by
  unfold fitP
  induction l with
  | nil => simp
  | cons e l ih =>
    rw [List.flatMap_cons, List.length_append, List.length_cons]
    have := fitOne_len N e
    omega
theorem fit_dag (N : Nat) (l : List Ed) (hN : N ≤ 200) : Dag (N : Int) (fitL N l) := by
  unfold fitL
  split
  · rename_i h0
    refine ⟨by omega, by omega, ?_, fun e he => ?_⟩
    · have := fitP_len N (l.take 2000)
      rw [List.length_take] at this
      omega
    · unfold fitP at he
      obtain ⟨x, _, hx⟩ := List.mem_flatMap.1 he
      have h1 := modN_lt x.f h0
      have h2 := modN_lt x.t h0
      unfold fitOne at hx
      split at hx
      · simp at hx; subst hx; simp only; omega
      · split at hx
        · simp at hx; subst hx; simp only; omega
        · cases hx
  · exact ⟨by omega, by omega, by simp, fun e he => by cases he⟩
/-- The dag of a row of our own. -/
theorem row_seen {w : World} {base : Nat} {a : Option Addr} {k c : Nat} {l : List Ed} (h : w.ownsRow base 52 2 (.slice a k c) k (edVals l)) : SeenE w a k l := by
  have hl : k = l.length := by have := h.1; rw [edVals_length] at this; omega
  refine ⟨hl, fun h0 => ?_⟩
  obtain ⟨g, rfl, _, hlt, _⟩ := ed_elem h (k := 0) (x := l[0]'(by omega)) (List.getElem?_eq_getElem _)
  refine ⟨g, 0, rfl, hlt, fun i e hi => ?_⟩
  obtain ⟨g', e', _, _, _, h1, h2, _⟩ := ed_elem h hi
  injection e' with e'
  injection e' with e'
  subst e'
  rw [Nat.zero_add]
  exact ⟨h1, h2⟩
set_option maxHeartbeats 3200000 in
theorem fit_any (n : Int) (a : Option Addr) (m c : Nat) (l : List Ed) (w : World) (o : okI n) (h : SeenE w a m l) (hok : ∀ e ∈ l, okI e.f ∧ okI e.t) :
    Calls Try.prog 19 #[.int .i64 n, .slice a m c] w fun e w' => ∃ sa k sc, e = .returned (dagV (modN n 201 : Nat) sa k sc) ∧ w'.ownsRow w.heap.size 52 2 (.slice sa k sc) k (edVals (fitL (modN n 201) l)) ∧ Keeps None w w' := by
  have HS : Hid (SeenE w a m l ∧ ∀ e ∈ l, okI e.f ∧ okI e.t) := ⟨h, hok⟩
  have hl : Hid (m = l.length) := h.len
  obtain ⟨s0, hs0⟩ : ∃ s0, s0 = w.heap.size := ⟨_, rfl⟩
  have HS0 : Hid (s0 = w.heap.size) := hs0
  clear h hok
  go_enter Try.func19, Try.ntmps19
  go_wp2_with fail
  refine (mod_any n 201 _ o (by omega) (by omega)).mono ?_
  rintro _ wz ⟨rfl, hw⟩
  have hw2 := hw.symm
  subst hw2
  clear hw
  have hN := modN_lt n (n := 201) (by omega)
  obtain ⟨N, hNe⟩ : ∃ N, N = modN n 201 := ⟨_, rfl⟩
  have HNE : Hid (N = modN n 201) := hNe
  rw [← hNe] at hN ⊢
  clear hNe hs0
  go_wp2_with fail
  rw [← HS0.out]
  go_loopw [6, 7, 8] (fun s6 _ _ wr => ∃ (k q : Nat) (sa : Option Addr) (sc : Nat), s6 = .int .i64 k ∧ k ≤ m ∧ k ≤ 2000 ∧ wr.heap[s0]? = some (.cells #[.int .i64 0, .slice none 0 0] 24 (0, 0)) ∧ wr.heap[s0 + 1]? = some (.cells #[.int .i64 N, .slice sa q sc] 24 (0, 0)) ∧
      wr.ownsRow s0 52 2 (.slice sa q sc) q (edVals (if 0 < N then fitP N (l.take k) else [])) ∧ Keeps None w wr) (fun s6 _ _ _ => m - (intOf s6).toNat)
  case atStart =>
    have e := HS0.out
    refine ⟨0, 0, none, 0, rfl, Nat.zero_le _, by omega, blk_old (blk_new _ _ _ e.symm) _, blk_new _ _ _ (by simp; omega), ?_, ((Keeps.refl None w).andAlloc _).andAlloc _⟩
    rw [show (if 0 < N then fitP N (l.take 0) else []) = [] by simp [fitP]]
    simpa [edVals] using row_nil _ _ _ _
  case round =>
    obtain ⟨k, q, sa, sc, rfl, hk, hk2, b0, b1, hrow, hkp⟩ := hrel
    have d0 : wr.cell? ⟨s0 + 1, 0, none⟩ = some (.int .i64 N) := (blk_cell b1 0).trans rfl
    have d1 : wr.cell? ⟨s0 + 1, 1, none⟩ = some (.slice sa q sc) := (blk_cell b1 1).trans rfl
    by_cases hgo : k < m ∧ k < 2000 ∧ 0 < N
    · obtain ⟨hkm, hk20, hN0⟩ := hgo
      rw [if_pos hN0] at hrow
      obtain ⟨b, off, e, rfl, he, hat⟩ := (HS.out.1.more hkp).at hkm
      have hoke := HS.out.2 e (List.mem_of_getElem? he)
      obtain ⟨ef, et⟩ := e
      have HE : Hid (l[k]? = some (⟨ef, et⟩ : Ed)) := he
      have e0 := hat.f
      have e1 := hat.t
      simp only at e0 e1 hoke
      have m0 : ¬ m = 0 := by omega
      have i1 : (k : Int) < (m : Int) := by omega
      have i2 : (k : Int) < 2000 := by omega
      have i3 : (0 : Int) < (N : Int) := by omega
      have hql : q = (fitP N (l.take k)).length := by have := hrow.1; rw [edVals_length] at this; omega
      have hq20 : q ≤ 2000 := by have := fitP_len N (l.take k); rw [List.length_take] at this; omega
      have hm1 := fun wz => mod_any ef N wz hoke.1 hN0 (by omega)
      have hm2 := fun wz => mod_any et N wz hoke.2 hN0 (by omega)
      have HM : Hid ((∀ wz, Calls Try.prog 20 #[.int .i64 ef, .int .i64 N] wz fun e w' => e = .returned (.int .i64 (modN ef N : Nat)) ∧ w' = wz) ∧ ∀ wz, Calls Try.prog 20 #[.int .i64 et, .int .i64 N] wz fun e w' => e = .returned (.int .i64 (modN et N : Nat)) ∧ w' = wz) := ⟨hm1, hm2⟩
      clear hm1 hm2 hat he hoke
      go_upto_region 5 with fail
      go_cut [7] (fun s7 wx => s7 = .int .i64 (modN ef N : Nat) ∧ Keeps None wr wx)
      case first =>
        clear hrow hkp b0 b1
        go_region_held3 (fun w' => w'.cell? ⟨s0 + 1, 0, none⟩ = some (.int .i64 N) ∧ w'.cell? ⟨b, off + k * 2, none⟩ = some (.int .i64 ef) ∧ w'.cell? ⟨b, off + k * 2 + 1, none⟩ = some (.int .i64 et)) (go_keep) (first
          | (go_at_call 20; refine (HM.out.1 _).mono ?_; rintro _ w4 ⟨rfl, hw⟩; have hw2 := hw.symm; subst hw2; clear hw))
        all_goals (go_wp2_with fail; go_meet)
        all_goals exact ⟨rfl, Keeps.drew None _⟩
      case rest =>
      obtain ⟨rfl, hkc0⟩ := hcut
      have d0c := hkc0.cell d0 (fun f => f)
      have e0c := hkc0.cell e0 (fun f => f)
      have e1c := hkc0.cell e1 (fun f => f)
      obtain ⟨wb, hwb⟩ : ∃ wb, wb = wc := ⟨_, rfl⟩
      rw [← hwb] at hkc0 d0c e0c e1c ⊢
      clear hwb
      go_upto_region 6 with fail
      go_cut [8] (fun s8 wx => s8 = .int .i64 (modN et N : Nat) ∧ Keeps None wb wx)
      case first =>
        clear hrow hkp b0 b1 d0 e0 e1
        go_region_held3 (fun w' => w'.cell? ⟨s0 + 1, 0, none⟩ = some (.int .i64 N) ∧ w'.cell? ⟨b, off + k * 2, none⟩ = some (.int .i64 ef) ∧ w'.cell? ⟨b, off + k * 2 + 1, none⟩ = some (.int .i64 et)) (go_keep) (first
          | (go_at_call 20; refine (HM.out.2 _).mono ?_; rintro _ w4 ⟨rfl, hw⟩; have hw2 := hw.symm; subst hw2; clear hw))
        all_goals (go_wp2_with fail; go_meet)
        all_goals exact ⟨rfl, Keeps.drew None _⟩
      case rest =>
      obtain ⟨rfl, hkc1⟩ := hcut
      have hkc : Keeps None wr wc := hkc0.trans hkc1 (fun _ f _ => f)
      obtain ⟨fa, hfa⟩ : ∃ fa, fa = modN ef N := ⟨_, rfl⟩
      obtain ⟨fb, hfb⟩ : ∃ fb, fb = modN et N := ⟨_, rfl⟩
      rw [← hfa, ← hfb]
      clear hkc0 hkc1 d0c e0c e1c HM
      by_cases c1 : fa < fb
      · have c1' : (fa : Int) < (fb : Int) := by omega
        have hone : fitOne N ⟨ef, et⟩ = [⟨(fa : Nat), (fb : Nat)⟩] := by unfold fitOne; simp only; rw [← hfa, ← hfb]; rw [if_pos c1]
        obtain ⟨g, cp, w5, hr, ho, hk5, hm⟩ := ed_more s0 (.slice sa q sc) (fitP N (l.take k)) ⟨(fa : Nat), (fb : Nat)⟩ q 22 wc.heap.size (wc.alloc (.cells #[.int .i64 fa, .int .i64 fb] 52)) hql (row_kept (row_kept hrow hkc (fun _ _ f => f)) (Keeps.alloc None wc _) (fun _ _ f => f)) (by have := hkp.size; have := hkc.size; have := HS0.out; simp; omega) (by omega) (blk_new _ _ _ rfl)
        have hnb : ∀ (jj : Nat) qq t fz, wr.heap[jj]? = some (.cells qq t fz) → 52 ≠ t → w5.heap[jj]? = some (.cells qq t fz) := by
          intro jj qq t fz hj ht
          have hj2 := blk_old (blk_kept hj hkc (fun f => f)) (.cells #[.int .i64 fa, .int .i64 fb] 52)
          exact blk_kept hj2 hk5 (fun e => ht (own_type (row_kept (row_kept hrow hkc (fun _ _ f => f)) (Keeps.alloc None wc (.cells #[.int .i64 fa, .int .i64 fb] 52)) (fun _ _ f => f)) e hj2))
        have q0 := hnb _ _ _ _ b0 (by decide)
        have q1 := hnb _ _ _ _ b1 (by decide)
        have hkS : Keeps (· = s0 + 1) w5 (w5.setCell ⟨s0 + 1, 1, none⟩ (.slice (some ⟨g, 0, none⟩) (q + 1) cp)) := Keeps.setCell (S := (· = s0 + 1)) w5 rfl _
        have HF : Hid ((w5.setCell ⟨s0 + 1, 1, none⟩ (.slice (some ⟨g, 0, none⟩) (q + 1) cp)).heap[s0]? = some (.cells #[.int .i64 0, .slice none 0 0] 24 (0, 0)) ∧ (w5.setCell ⟨s0 + 1, 1, none⟩ (.slice (some ⟨g, 0, none⟩) (q + 1) cp)).heap[s0 + 1]? = some (.cells #[.int .i64 N, .slice (some ⟨g, 0, none⟩) (q + 1) cp] 24 (0, 0)) ∧
            (w5.setCell ⟨s0 + 1, 1, none⟩ (.slice (some ⟨g, 0, none⟩) (q + 1) cp)).ownsRow s0 52 2 (.slice (some ⟨g, 0, none⟩) (q + 1) cp) (q + 1) (edVals (fitP N (l.take (k + 1)))) ∧ Keeps None w (w5.setCell ⟨s0 + 1, 1, none⟩ (.slice (some ⟨g, 0, none⟩) (q + 1) cp))) := by
          have hs0 := HS0.out
          refine ⟨blk_kept q0 hkS (by omega), blk_set q1 _, ?_, (((hkp.trans hkc (fun _ f _ => f)).andAlloc _).trans hk5 (fun i e hi => by have := row_low hrow e; omega)).trans hkS (fun i e hi => by omega)⟩
          rw [fitP_snoc N HE.out, hone]
          exact row_kept ho hkS (fun i e e2 => by subst e2; exact absurd (own_type ho e q1) (by decide))
        have x1 : wc.cell? ⟨s0 + 1, 1, none⟩ = some (.slice sa q sc) := (blk_cell (blk_kept b1 hkc (fun f => f)) 1).trans rfl
        have y1 : w5.cell? ⟨s0 + 1, 1, none⟩ = some (.slice sa q sc) := (blk_cell q1 1).trans rfl
        have y2 := blk_free q1 1
        clear hone hrow hkp hkc ho hk5 hm hnb q0 q1 hkS b0 b1 hql hfa hfb
        go_wp2_with (at_builtin; refine wpList_append_run rfl (.tmp 47) (.tmp 51) 22 22 rfl rfl rfl hr ?_)
        exact ⟨⟨k + 1, q + 1, _, _, by go_num, by omega, by omega, by rw [if_pos hN0]; exact HF.out⟩, by simp [intOf]; omega⟩
      · have c1' : ¬ (fa : Int) < (fb : Int) := by omega
        by_cases c2 : fb < fa
        · have c2' : (fb : Int) < (fa : Int) := by omega
          have hone : fitOne N ⟨ef, et⟩ = [⟨(fb : Nat), (fa : Nat)⟩] := by unfold fitOne; simp only; rw [← hfa, ← hfb]; rw [if_neg c1, if_pos c2]
          obtain ⟨g, cp, w5, hr, ho, hk5, hm⟩ := ed_more s0 (.slice sa q sc) (fitP N (l.take k)) ⟨(fb : Nat), (fa : Nat)⟩ q 22 wc.heap.size (wc.alloc (.cells #[.int .i64 fb, .int .i64 fa] 52)) hql (row_kept (row_kept hrow hkc (fun _ _ f => f)) (Keeps.alloc None wc _) (fun _ _ f => f)) (by have := hkp.size; have := hkc.size; have := HS0.out; simp; omega) (by omega) (blk_new _ _ _ rfl)
          have hnb : ∀ (jj : Nat) qq t fz, wr.heap[jj]? = some (.cells qq t fz) → 52 ≠ t → w5.heap[jj]? = some (.cells qq t fz) := by
            intro jj qq t fz hj ht
            have hj2 := blk_old (blk_kept hj hkc (fun f => f)) (.cells #[.int .i64 fb, .int .i64 fa] 52)
            exact blk_kept hj2 hk5 (fun e => ht (own_type (row_kept (row_kept hrow hkc (fun _ _ f => f)) (Keeps.alloc None wc (.cells #[.int .i64 fb, .int .i64 fa] 52)) (fun _ _ f => f)) e hj2))
          have q0 := hnb _ _ _ _ b0 (by decide)
          have q1 := hnb _ _ _ _ b1 (by decide)
          have hkS : Keeps (· = s0 + 1) w5 (w5.setCell ⟨s0 + 1, 1, none⟩ (.slice (some ⟨g, 0, none⟩) (q + 1) cp)) := Keeps.setCell (S := (· = s0 + 1)) w5 rfl _
          have HF : Hid ((w5.setCell ⟨s0 + 1, 1, none⟩ (.slice (some ⟨g, 0, none⟩) (q + 1) cp)).heap[s0]? = some (.cells #[.int .i64 0, .slice none 0 0] 24 (0, 0)) ∧ (w5.setCell ⟨s0 + 1, 1, none⟩ (.slice (some ⟨g, 0, none⟩) (q + 1) cp)).heap[s0 + 1]? = some (.cells #[.int .i64 N, .slice (some ⟨g, 0, none⟩) (q + 1) cp] 24 (0, 0)) ∧
              (w5.setCell ⟨s0 + 1, 1, none⟩ (.slice (some ⟨g, 0, none⟩) (q + 1) cp)).ownsRow s0 52 2 (.slice (some ⟨g, 0, none⟩) (q + 1) cp) (q + 1) (edVals (fitP N (l.take (k + 1)))) ∧ Keeps None w (w5.setCell ⟨s0 + 1, 1, none⟩ (.slice (some ⟨g, 0, none⟩) (q + 1) cp))) := by
            have hs0 := HS0.out
            refine ⟨blk_kept q0 hkS (by omega), blk_set q1 _, ?_, (((hkp.trans hkc (fun _ f _ => f)).andAlloc _).trans hk5 (fun i e hi => by have := row_low hrow e; omega)).trans hkS (fun i e hi => by omega)⟩
            rw [fitP_snoc N HE.out, hone]
            exact row_kept ho hkS (fun i e e2 => by subst e2; exact absurd (own_type ho e q1) (by decide))
          have x1 : wc.cell? ⟨s0 + 1, 1, none⟩ = some (.slice sa q sc) := (blk_cell (blk_kept b1 hkc (fun f => f)) 1).trans rfl
          have y1 : w5.cell? ⟨s0 + 1, 1, none⟩ = some (.slice sa q sc) := (blk_cell q1 1).trans rfl
          have y2 := blk_free q1 1
          clear hone hrow hkp hkc ho hk5 hm hnb q0 q1 hkS b0 b1 hql hfa hfb
          go_wp2_with (at_builtin; refine wpList_append_run rfl (.tmp 58) (.tmp 62) 22 22 rfl rfl rfl hr ?_)
          exact ⟨⟨k + 1, q + 1, _, _, by go_num, by omega, by omega, by rw [if_pos hN0]; exact HF.out⟩, by simp [intOf]; omega⟩
        · have c2' : ¬ (fb : Int) < (fa : Int) := by omega
          have HF : Hid (wc.heap[s0]? = some (.cells #[.int .i64 0, .slice none 0 0] 24 (0, 0)) ∧ wc.heap[s0 + 1]? = some (.cells #[.int .i64 N, .slice sa q sc] 24 (0, 0)) ∧ wc.ownsRow s0 52 2 (.slice sa q sc) q (edVals (fitP N (l.take (k + 1)))) ∧ Keeps None w wc) := by
            refine ⟨blk_kept b0 hkc (fun f => f), blk_kept b1 hkc (fun f => f), ?_, hkp.trans hkc (fun _ f _ => f)⟩
            have hone : fitOne N ⟨ef, et⟩ = [] := by unfold fitOne; simp only; rw [← hfa, ← hfb, if_neg c1, if_neg c2]
            rw [fitP_snoc N HE.out, hone, List.append_nil]
            exact row_kept hrow hkc (fun _ _ f => f)
          clear hrow hkp hkc b0 b1 hql hfa hfb
          go_wp2_with fail
          exact ⟨⟨k + 1, q, sa, sc, by go_num, by omega, by omega, by rw [if_pos hN0]; exact HF.out⟩, by simp [intOf]; omega⟩
    · have HF : Hid (wr.heap[s0]? = some (.cells #[.int .i64 0, .slice none 0 0] 24 (0, 0)) ∧ wr.ownsRow w.heap.size 52 2 (.slice sa q sc) q (edVals (fitL N l)) ∧ Keeps None w wr ∧ w.heap.size ≤ s0) := by
        have hs0 := HS0.out
        refine ⟨b0, ?_, hkp, by omega⟩
        have he : (if 0 < N then fitP N (l.take k) else []) = fitL N l := by
          unfold fitL
          by_cases h0 : 0 < N
          · rw [if_pos h0, if_pos h0]
            congr 1
            by_cases h2 : k = 2000
            · rw [h2]
            · have h3 : k = m := by omega
              have h4 := hl.out
              rw [List.take_of_length_le (by omega), List.take_of_length_le (by omega)]
          · rw [if_neg h0, if_neg h0]
        rw [he] at hrow
        exact row_base hrow (by omega)
      have v0 := (blk_cell b0 0).trans rfl
      have v1 := (blk_cell b0 1).trans rfl
      have u0 := blk_free b0 0
      have u1 := blk_free b0 1
      clear hrow hkp b0 b1
      by_cases hkm : k < m
      · have i1 : (k : Int) < (m : Int) := by omega
        by_cases hk20 : k < 2000
        · have i2 : (k : Int) < 2000 := by omega
          have hN0 : N = 0 := by omega
          have i3 : ¬ (0 : Int) < (N : Int) := by omega
          have i4 : ¬ 0 < N := by omega
          have HN0 : Hid (N = 0) := hN0
          clear hN0 hgo
          go_wp2_with fail
          refine dag_end 4 rfl rfl HF.out.1 rfl rfl _ _ (fun w' hk' => ⟨sa, q, sc, by rw [← HNE.out]; rfl, ?_, ?_⟩)
          · rw [← HNE.out]
            exact row_kept HF.out.2.1 hk' (fun i e e2 => by subst e2; exact absurd (own_type HF.out.2.1 e HF.out.1) (by decide))
          · exact HF.out.2.2.1.trans hk' (fun i e hi => by have := HF.out.2.2.2; omega)
        · have i2 : ¬ (k : Int) < 2000 := by omega
          clear hgo
          go_wp2_with fail
          refine dag_end 4 rfl rfl HF.out.1 rfl rfl _ _ (fun w' hk' => ⟨sa, q, sc, by rw [← HNE.out]; rfl, ?_, ?_⟩)
          · rw [← HNE.out]
            exact row_kept HF.out.2.1 hk' (fun i e e2 => by subst e2; exact absurd (own_type HF.out.2.1 e HF.out.1) (by decide))
          · exact HF.out.2.2.1.trans hk' (fun i e hi => by have := HF.out.2.2.2; omega)
      · have i1 : ¬ (k : Int) < (m : Int) := by omega
        clear hgo
        go_wp2_with fail
        refine dag_end 4 rfl rfl HF.out.1 rfl rfl _ _ (fun w' hk' => ⟨sa, q, sc, by rw [← HNE.out]; rfl, ?_, ?_⟩)
        · rw [← HNE.out]
          exact row_kept HF.out.2.1 hk' (fun i e e2 => by subst e2; exact absurd (own_type HF.out.2.1 e HF.out.1) (by decide))
        · exact HF.out.2.2.1.trans hk' (fun i e hi => by have := HF.out.2.2.2; omega)
end Go.Proofs.Ytnhoedodnbifdaa
