import Derived.Test.YtlbkfehakomicaaDoorPkBG
import Derived.Test.YtlbkfehakomicaaDoorPkBD
import Derived.Test.YtlbkfehakomicaaDoorPkBC
import Derived.Test.YtlbkfehakomicaaDoorPkAT
import Derived.Test.YtlbkfehakomicaaDoorPkAN
/-! Greedy: the program's. -/
namespace Go.Proofs.YtlbkfehakomicaaDoor.Dg
set_option linter.unusedVariables false
set_option maxRecDepth 20000
open Go.RowKit Go.HeapKit

/-- In a round, behind the first j nodes of Q: what the heap holds. -/
def SQ (n : Nat) (l : List Ed) (T T' : Nat → Int) (Q : List Nat) (x : Nat) : Prop := x < n ∧ x ∉ Q ∧ T x = 0 ∧ lft l T' x = 0
theorem mem_rds_lft {n : Nat} {l : List Ed} {T : Nat → Int} {x : Nat} : x ∈ rds n l T ↔ x < n ∧ T x = 0 ∧ lft l T x = 0 := by
  rw [rds, List.mem_filter, List.mem_range, rdy_lft]
theorem SQ_start (n P : Nat) (l : List Ed) (T : Nat → Int) (x : Nat) : x ∈ (rds n l T).drop P ↔ SQ n l T T ((rds n l T).take P) x := by
  have nd := rds_nodup n l T
  rw [← List.take_append_drop P (rds n l T)] at nd
  have hdis := (List.nodup_append.1 nd).2.2
  unfold SQ
  constructor
  · intro h
    have h1 := List.mem_of_mem_drop h
    rw [rds, List.mem_filter, List.mem_range, rdy_lft] at h1
    exact ⟨h1.1, fun h2 => hdis x h2 x h rfl, h1.2.1, h1.2.2⟩
  · rintro ⟨h1, h2, h3, h4⟩
    have hm : x ∈ rds n l T := by
      rw [rds, List.mem_filter, List.mem_range, rdy_lft]
      exact ⟨h1, h3, h4⟩
    rw [← List.take_append_drop P (rds n l T)] at hm
    rcases List.mem_append.1 hm with h | h
    · exact absurd h h2
    · exact h
theorem SQ_end (n P : Nat) (l : List Ed) (T : Nat → Int) (t : Int) (ht : t ≠ 0) (x : Nat) : SQ n l T (stepT n P l t T) ((rds n l T).take P) x ↔ x ∈ rds n l (stepT n P l t T) := by
  rw [mem_rds_lft]
  unfold SQ
  constructor
  · rintro ⟨h1, h2, h3, h4⟩
    exact ⟨h1, by unfold stepT; rw [if_neg h2]; exact h3, h4⟩
  · rintro ⟨h1, h2, h3⟩
    have h5 : x ∉ (rds n l T).take P := fun h => by
      unfold stepT at h2
      rw [if_pos h] at h2
      exact ht h2
    exact ⟨h1, h5, by unfold stepT at h2; rw [if_neg h5] at h2; exact h2, h3⟩
theorem mem_flw_bef {l : List Ed} {v i : Nat} (hp : ∀ e ∈ l, 0 ≤ e.f) : (i : Int) ∈ flw l v ↔ (v : Int) ∈ bef l i := by
  rw [mem_flw, mem_bef]
  constructor
  · rintro ⟨e, he, h1, h2⟩; exact ⟨e, he, h2, h1⟩
  · rintro ⟨e, he, h1, h2⟩; exact ⟨e, he, h2, h1⟩
/-- One node more of a round is done. -/
theorem SQ_step {n : Nat} {l : List Ed} (hd : Dag (n : Int) l) {T : Nat → Int} (hcl : ∀ i, T i ≠ 0 → ∀ a ∈ bef l i, T a.toNat ≠ 0) {P : Nat} {t : Int} (ht : t ≠ 0) {j q : Nat} (hq : ((rds n l T).take P)[j]? = some q) :
    q < n ∧ putT T (((rds n l T).take P).take j) t q = 0 ∧ (∀ x : Nat, (x : Int) ∈ flw l q → ¬ SQ n l T (putT T (((rds n l T).take P).take j) t) ((rds n l T).take P) x) ∧
      (∀ i, lft l (putT T (((rds n l T).take P).take (j + 1)) t) i + (flw l q).count (i : Int) = lft l (putT T (((rds n l T).take P).take j) t) i) ∧
      ∀ x, SQ n l T (putT T (((rds n l T).take P).take (j + 1)) t) ((rds n l T).take P) x ↔ SQ n l T (putT T (((rds n l T).take P).take j) t) ((rds n l T).take P) x ∨ ((x : Int) ∈ flw l q ∧ (lft l (putT T (((rds n l T).take P).take j) t) x : Int) - ((flw l q).count (x : Int) : Nat) = 0) := by
  have hp : ∀ e ∈ l, 0 ≤ e.f := fun e he => (hd.ok e he).1
  have hqm : q ∈ (rds n l T).take P := List.mem_of_getElem? hq
  have hqr := mem_rds.1 (List.mem_of_mem_take hqm)
  have nd : ((rds n l T).take P).Nodup := (List.take_sublist P _).nodup (rds_nodup n l T)
  have hnq : q ∉ ((rds n l T).take P).take j := by
    intro h
    have hjl := (List.getElem?_eq_some_iff.1 hq).1
    have hdr : q ∈ ((rds n l T).take P).drop j := by
      rw [List.drop_eq_getElem_cons hjl]
      rw [List.getElem?_eq_getElem hjl] at hq
      injection hq with hq
      rw [hq]
      exact List.mem_cons_self ..
    rw [← List.take_append_drop j ((rds n l T).take P)] at nd
    exact (List.nodup_append.1 nd).2.2 q h q hdr rfl
  have h0 : putT T (((rds n l T).take P).take j) t q = 0 := by
    unfold putT
    rw [if_neg hnq]
    exact hqr.2.1
  have hst : putT T (((rds n l T).take P).take (j + 1)) t = setT (putT T (((rds n l T).take P).take j) t) q t := by
    rw [List.take_add_one, hq]
    exact put_snoc _ _ _ _
  have hl : ∀ i, lft l (putT T (((rds n l T).take P).take (j + 1)) t) i + (flw l q).count (i : Int) = lft l (putT T (((rds n l T).take P).take j) t) i := by
    intro i
    rw [hst]
    exact lft_set l _ q i t hp h0 ht
  have hfl : ∀ x : Nat, (x : Int) ∈ flw l q → x < n ∧ x ∉ (rds n l T).take P ∧ T x = 0 := by
    intro x hx
    have hb := (mem_flw_bef hp).1 hx
    obtain ⟨e, he, h1, h2⟩ := mem_flw.1 hx
    have hok := hd.ok e he
    refine ⟨by omega, fun hm => ?_, ?_⟩
    · have := (mem_rds.1 (List.mem_of_mem_take hm)).2.2 (q : Int) hb
      rw [Int.toNat_natCast] at this
      exact this hqr.2.1
    · by_cases hz : T x = 0
      · exact hz
      · have := hcl x hz (q : Int) hb
        rw [Int.toNat_natCast] at this
        exact absurd hqr.2.1 this
  refine ⟨hqr.1, h0, fun x hx hs => ?_, hl, fun x => ?_⟩
  · have h1 := hl x
    have h2 : 0 < (flw l q).count (x : Int) := List.count_pos_iff.2 hx
    have := hs.2.2.2
    omega
  · have h1 := hl x
    unfold SQ
    constructor
    · rintro ⟨a1, a2, a3, a4⟩
      by_cases hx : (x : Int) ∈ flw l q
      · exact .inr ⟨hx, by omega⟩
      · have : (flw l q).count (x : Int) = 0 := List.count_eq_zero.2 hx
        exact .inl ⟨a1, a2, a3, by omega⟩
    · rintro (⟨a1, a2, a3, a4⟩ | ⟨hx, h2⟩)
      · exact ⟨a1, a2, a3, by omega⟩
      · obtain ⟨b1, b2, b3⟩ := hfl x hx
        exact ⟨b1, b2, b3, by omega⟩
end Go.Proofs.YtlbkfehakomicaaDoor.Dg
/-! Greedy times: the program's. -/
namespace Go.Proofs.YtlbkfehakomicaaDoor.Dg
set_option linter.unusedVariables false
set_option maxRecDepth 20000
open Go.RowKit Go.HeapKit

theorem Plan.congr {w : World} {p B g gl gt n : Nat} {vs : Nat → Value} {l : List Ed} {F F' T T' : Nat → Int} {v : Value} {hl : List Int} (h : Plan w p B g gl gt n vs l F T v hl) (e1 : ∀ k, k < n → F k = F' k) (e2 : ∀ k, k < n → T k = T' k) : Plan w p B g gl gt n vs l F' T' v hl :=
  ⟨h.hp, h.lists, h.left.congr e1, h.times.congr e2, h.low, h.ne, h.size⟩
set_option maxHeartbeats 3200000 in
theorem times_any (n P : Nat) (a : Option Addr) (m c : Nat) (l : List Ed) (w : World) (h : SeenE w a m l) (hd : Dag (n : Int) l) (hP1 : 1 ≤ P) (hP : P ≤ 64) :
    Calls Tryd.prog 21 #[dagV n a m c, .int .i64 P] w fun e w' => ∃ gt, e = .returned (.slice (some ⟨gt, 0, none⟩) n n) ∧ IsN w' gt n (timesV n P l) ∧ w.heap.size ≤ gt ∧ Keeps None w w' := by
  have HS : Hid (SeenE w a m l) := h
  have HD : Hid (Dag (n : Int) l) := hd
  have hn : n ≤ 4096 := by have := hd.hi; omega
  clear h hd
  unfold dagV
  go_enter Tryd.func21, Tryd.ntmps21
  go_wp2_with fail
  have hk0 := keeps1 w (.cells #[.int .i64 n, .slice a m c] 34)
  refine (plan_any n a m c l _ (HS.out.more hk0) HD.out).mono ?_
  rintro _ w2 ⟨p, rfl, B, g, gl, gt, vs, v, hl, hPl, hOf, hk, hp1, hp2, hp3, hp4⟩
  have H1 : Hid (Plan w2 p B g gl gt n vs l (fun i => (lft l (runT n P l 0) i : Nat)) (runT n P l 0) v hl ∧ Of hl (fun x => x ∈ rds n l (runT n P l 0)) ∧ Keeps None w w2 ∧ w.heap.size ≤ p ∧ w.heap.size ≤ gl ∧ w.heap.size ≤ gt ∧ w.heap.size ≤ B) := by
    have hsz := hk0.size
    exact ⟨hPl, hOf, hk0.trans hk (fun _ f _ => f), by omega, by omega, by omega, by omega⟩
  clear hPl hOf hk hp1 hp2 hp3 hp4 hk0
  go_wp2_with fail
  go_loopw [6, 8] (fun s6 _ wr => ∃ (k : Nat) (v : Value) (hl : List Int), s6 = .int .i64 (k + 1 : Nat) ∧ k ≤ n ∧ Plan wr p B g gl gt n vs l (fun i => (lft l (runT n P l k) i : Nat)) (runT n P l k) v hl ∧ Of hl (fun x => x ∈ rds n l (runT n P l k)) ∧ Keeps None w wr) (fun s6 _ _ => n + 1 - (intOf s6).toNat)
  case atStart => exact ⟨0, v, hl, rfl, Nat.zero_le _, H1.out.1, H1.out.2.1, H1.out.2.2.1⟩
  case round =>
    obtain ⟨k, v, hl, rfl, hk, hPl, hOf, hkp⟩ := hrel
    have HI : Hid (Plan wr p B g gl gt n vs l (fun i => (lft l (runT n P l k) i : Nat)) (runT n P l k) v hl ∧ Of hl (fun x => x ∈ rds n l (runT n P l k)) ∧ Keeps None w wr) := ⟨hPl, hOf, hkp⟩
    clear hPl hOf hkp
    by_cases hem : rds n l (runT n P l k) = []
    · have he : hl.length = 0 := HI.out.2.1.empty.2 (fun x hx => by rw [hem] at hx; cases hx)
      have HT : Hid (runT n P l k = timesV n P l) := times_eq HD.out n P hP1 k hem
      have c4 := HI.out.1.hp.c4
      clear hem
      go_wp2_with fail
      refine (empty_any p B _ _ _ v hl _ HI.out.1.hp).mono ?_
      rintro _ wz ⟨rfl, hw⟩
      have hw2 := hw.symm
      subst hw2
      clear hw
      rw [decide_eq_true he]
      go_wp2_with fail
      go_ret
      refine ⟨gt, rfl, ?_, H1.out.2.2.2.2.2.1, HI.out.2.2⟩
      rw [← HT.out]
      exact HI.out.1.times
    · have hne : ¬ hl.length = 0 := fun e => by
        have := HI.out.2.1.empty.1 e
        cases hr : rds n l (runT n P l k) with
        | nil => exact hem hr
        | cons y ys => exact this y (by rw [hr]; exact List.mem_cons_self ..)
      have hkn : k < n := k_le HD.out n P hP1 k hem
      clear hem
      go_wp2_with fail
      refine (empty_any p B _ _ _ v hl _ HI.out.1.hp).mono ?_
      rintro _ wz ⟨rfl, hw⟩
      have hw2 := hw.symm
      subst hw2
      clear hw
      rw [decide_eq_false hne]
      go_wp2_with fail
      refine (take_any p B _ _ _ v hl (rds n l (runT n P l k)) P n _ HI.out.1.hp HI.out.2.1 (rds_sorted _ _ _) (fun x hx => (mem_rds.1 hx).1) hn hP).mono ?_
      rintro _ w3 ⟨s, v3, hl3, rfl, hrow, hI3, hO3, hk3, hv3⟩
      obtain ⟨T, hT⟩ : ∃ T, T = runT n P l k := ⟨_, rfl⟩
      obtain ⟨Q, hQ⟩ : ∃ Q, Q = (rds n l T).take P := ⟨_, rfl⟩
      rw [← hT] at hrow hO3
      rw [← hQ] at hrow
      obtain ⟨K, hK⟩ : ∃ K, K = Q.length := ⟨_, rfl⟩
      have hK4 : K ≤ 4096 := by
        rw [hK, hQ, List.length_take]
        omega
      rw [← hK] at hrow
      obtain ⟨sa, sc, rfl⟩ := row_shape hrow
      have H3 : Hid (Plan w3 p B g gl gt n vs l (fun i => (lft l (putT T (Q.take 0) (k + 1)) i : Nat)) (putT T (Q.take 0) (k + 1)) v3 hl3 ∧ Of hl3 (SQ n l T (putT T (Q.take 0) (k + 1)) Q) ∧ Keeps None w w3 ∧ w3.ownsRow wr.heap.size 3 1 (.slice sa K sc) K (iv (nI Q)) ∧ ∀ q, v3.ownBlock = some q → (Value.slice sa K sc).ownBlock ≠ some q) := by
        have h1 := H1.out
        refine ⟨?_, ?_, HI.out.2.2.trans hk3 (fun q e hq => ?_), hrow, fun q e e2 => ?_⟩
        · rw [List.take_zero, put_nil, hT]
          exact HI.out.1.heap hI3 hk3
        · rw [List.take_zero, put_nil]
          refine hO3.congr (fun x => ?_)
          rw [hQ]
          exact SQ_start n P l T x
        · rcases e with e | e
          · omega
          · have := HI.out.1.vg q e; omega
        · have h2 := row_low hrow e2
          rw [hv3] at e
          have := own_lt HI.out.1.hp.row e
          omega
      have HT : Hid (T = runT n P l k ∧ Q = (rds n l T).take P ∧ K = Q.length ∧ ∀ i, T i ≠ 0 → ∀ a ∈ bef l i, T a.toNat ≠ 0) := ⟨hT, hQ, hK, by rw [hT]; exact run_closed n P l k⟩
      have HB : Hid (B ≤ wr.heap.size) := HI.out.1.size
      clear hrow hI3 hO3 hk3 hv3 hT hQ hK hne HI
      obtain ⟨R0, hR0⟩ : ∃ R0, R0 = wr.heap.size := ⟨_, rfl⟩
      rw [← hR0] at H3 HB
      clear hR0
      go_wp2_with fail
      go_loopw [22, 8] (fun s22 _ wr => ∃ (j : Nat) (v : Value) (hl : List Int), s22 = .int .i64 j ∧ j ≤ K ∧ Plan wr p B g gl gt n vs l (fun i => (lft l (putT T (Q.take j) (k + 1)) i : Nat)) (putT T (Q.take j) (k + 1)) v hl ∧ Of hl (SQ n l T (putT T (Q.take j) (k + 1)) Q) ∧ Keeps None w wr ∧ wr.ownsRow R0 3 1 (.slice sa K sc) K (iv (nI Q)) ∧ ∀ q, v.ownBlock = some q → (Value.slice sa K sc).ownBlock ≠ some q) (fun s22 _ _ => K - (intOf s22).toNat)
      case atStart => exact ⟨0, v3, hl3, rfl, Nat.zero_le _, H3.out⟩
      case round =>
        clear H3
        obtain ⟨j, v, hl, rfl, hj, hPl, hOf, hkp, hrow, hvs⟩ := hrel
        have HJ : Hid (Plan wr p B g gl gt n vs l (fun i => (lft l (putT T (Q.take j) (k + 1)) i : Nat)) (putT T (Q.take j) (k + 1)) v hl ∧ Of hl (SQ n l T (putT T (Q.take j) (k + 1)) Q) ∧ Keeps None w wr ∧ wr.ownsRow R0 3 1 (.slice sa K sc) K (iv (nI Q)) ∧ ∀ q, v.ownBlock = some q → (Value.slice sa K sc).ownBlock ≠ some q) := ⟨hPl, hOf, hkp, hrow, hvs⟩
        by_cases hjK : j < K
        · have hjl : j < Q.length := by have := HT.out.2.2.1; omega
          obtain ⟨q, hq⟩ : ∃ q, Q[j]? = some q := ⟨Q[j], List.getElem?_eq_getElem hjl⟩
          have hqI : (nI Q)[j]? = some (q : Int) := by unfold nI; simp [hq]
          obtain ⟨b, rfl, e0, _⟩ := row_at hrow hqI
          have hq2 := hq
          rw [HT.out.2.1] at hq2
          have hSQ := SQ_step HD.out HT.out.2.2.2 (t := ((k : Int) + 1)) (by omega) hq2
          rw [← HT.out.2.1] at hSQ
          have hqn := hSQ.1
          have c4 := hPl.hp.c4
          have x0 := hPl.times.at hqn
          have z0 := hPl.times.free q
          have q1 : (q : Int) < (n : Int) := by omega
          have n0 : ¬ n = 0 := by omega
          have K0 : ¬ K = 0 := by omega
          have j1 : (j : Int) < (K : Int) := by omega
          have hPl2 := hPl.setTime q ((k : Int) + 1)
          have hkS : Keeps (· = gt) wr (wr.setCell ⟨gt, q, none⟩ (.int .i64 ((k : Int) + 1))) := Keeps.setCell (S := (· = gt)) wr rfl _
          have h1 := H1.out
          have HN : Hid (Plan (wr.setCell ⟨gt, q, none⟩ (.int .i64 ((k : Int) + 1))) p B g gl gt n vs l (fun i => (lft l (putT T (Q.take j) (k + 1)) i : Nat)) (setT (putT T (Q.take j) (k + 1)) q ((k : Int) + 1)) v hl ∧ Keeps None w (wr.setCell ⟨gt, q, none⟩ (.int .i64 ((k : Int) + 1))) ∧ (wr.setCell ⟨gt, q, none⟩ (.int .i64 ((k : Int) + 1))).ownsRow R0 3 1 (.slice (some ⟨b, 0, none⟩) K sc) K (iv (nI Q))) := by
            refine ⟨hPl2, hkp.trans hkS (fun i e hi => by omega), row_kept hrow hkS (fun i e e2 => ?_)⟩
            have h2 := row_low hrow e
            have h3 := hPl.low.2.2.1
            have h4 := HB.out
            omega
          have HQ : Hid (Q[j]? = some q) := hq
          have HSQ : Hid (q < n ∧ putT T (Q.take j) ((k : Int) + 1) q = 0 ∧ (∀ x : Nat, (x : Int) ∈ flw l q → ¬ SQ n l T (putT T (Q.take j) ((k : Int) + 1)) Q x) ∧
              (∀ i, lft l (putT T (Q.take (j + 1)) ((k : Int) + 1)) i + (flw l q).count (i : Int) = lft l (putT T (Q.take j) ((k : Int) + 1)) i) ∧
              ∀ x, SQ n l T (putT T (Q.take (j + 1)) ((k : Int) + 1)) Q x ↔ SQ n l T (putT T (Q.take j) ((k : Int) + 1)) Q x ∨ ((x : Int) ∈ flw l q ∧ (lft l (putT T (Q.take j) ((k : Int) + 1)) x : Int) - ((flw l q).count (x : Int) : Nat) = 0)) := hSQ
          generalize putT T (Q.take j) (↑k + 1) q = xv at x0
          clear hPl hOf hkp hrow hvs hPl2 hkS h1 hSQ hq hq2 hqI
          go_wp2_with fail
          refine (free_any p B g gl gt n vs l _ _ v hl (SQ n l T (putT T (Q.take j) (k + 1)) Q) q _ HN.out.1 HD.out hqn HJ.out.2.1 (fun x hx => hx.1) (fun i hi => ?_) HSQ.out.2.2.1).mono ?_
          · have h2 := HSQ.out.2.2.2.1 i
            have h3 := lft_le l (putT T (Q.take j) (k + 1)) i
            have h4 := HD.out.len
            refine ⟨?_, ?_⟩
            · show ((flw l q).count (i : Int) : Int) ≤ (lft l (putT T (Q.take j) (k + 1)) i : Int)
              omega
            · show (lft l (putT T (Q.take j) (k + 1)) i : Int) ≤ 16384
              omega
          rintro _ w5 ⟨v5, hl5, rfl, hPl5, hO5, hk5, hv5⟩
          have HF : Hid (Plan w5 p B g gl gt n vs l (fun i => (lft l (putT T (Q.take (j + 1)) (k + 1)) i : Nat)) (putT T (Q.take (j + 1)) (k + 1)) v5 hl5 ∧ Of hl5 (SQ n l T (putT T (Q.take (j + 1)) (k + 1)) Q) ∧ Keeps None w w5 ∧ w5.ownsRow R0 3 1 (.slice (some ⟨b, 0, none⟩) K sc) K (iv (nI Q)) ∧ ∀ q, v5.ownBlock = some q → (Value.slice (some ⟨b, 0, none⟩) K sc).ownBlock ≠ some q) := by
            have h1 := H1.out
            have h4 := HB.out
            have h5 := HJ.out.1.low
            refine ⟨hPl5.congr (fun i _ => ?_) (fun i _ => ?_), hO5.congr (fun x => (HSQ.out.2.2.2.2 x).symm), HN.out.2.1.trans hk5 (fun i e hi => ?_), row_kept HN.out.2.2 hk5 (fun i e e2 => ?_), fun i e e2 => ?_⟩
            · have h2 := HSQ.out.2.2.2.1 i
              show (lft l (putT T (Q.take j) (k + 1)) i : Int) - ((flw l q).count (i : Int) : Nat) = (lft l (putT T (Q.take (j + 1)) (k + 1)) i : Int)
              omega
            · rw [List.take_add_one, HQ.out]
              exact (congrFun (put_snoc T (Q.take j) q (k + 1)) i).symm
            · rcases e with e | e | e
              · omega
              · omega
              · have := HJ.out.1.vg i e; omega
            · have h2 := row_low HN.out.2.2 e
              rcases e2 with e2 | e2 | e2
              · omega
              · omega
              · exact HJ.out.2.2.2.2 i e2 e
            · rcases hv5 with h2 | ⟨i2, h2, h3⟩
              · rw [h2] at e
                exact HJ.out.2.2.2.2 i e e2
              · rw [h2] at e
                injection e with e
                have := own_lt HN.out.2.2 e2
                omega
          clear hPl5 hO5 hk5 hv5
          go_wp2_with fail
          exact ⟨⟨j + 1, v5, hl5, by go_num, by omega, HF.out⟩, by simp [intOf]; omega⟩
        · have j1 : ¬ (j : Int) < (K : Int) := by omega
          have HF : Hid (Plan wr p B g gl gt n vs l (fun i => (lft l (runT n P l (k + 1)) i : Nat)) (runT n P l (k + 1)) v hl ∧ Of hl (fun x => x ∈ rds n l (runT n P l (k + 1))) ∧ Keeps None w wr) := by
            have e1 : Q.take j = Q := List.take_of_length_le (by have := HT.out.2.2.1; omega)
            have e2 : putT T Q (k + 1) = runT n P l (k + 1) := by
              rw [HT.out.2.1, put_all, HT.out.1]
              rfl
            rw [e1, e2] at hPl hOf
            refine ⟨hPl, hOf.congr (fun x => ?_), hkp⟩
            rw [HT.out.2.1]
            have h3 := SQ_end n P l T ((k : Int) + 1) (by omega) x
            rw [HT.out.1] at h3 ⊢
            exact h3
          clear hPl hOf hkp hrow hvs HJ
          go_wp2_with fail
          exact ⟨⟨k + 1, v, hl, by go_num, by omega, HF.out⟩, by simp [intOf]; omega⟩
end Go.Proofs.YtlbkfehakomicaaDoor.Dg
/-! Greedy: the program's. -/
namespace Go.Proofs.YtlbkfehakomicaaDoor.Dg
set_option linter.unusedVariables false
set_option maxRecDepth 20000
open Go.RowKit Go.HeapKit

def greE (n : Int) (l : List Ed) (p : Int) : Int := if checkV n l = 0 then (if p < 1 ∨ 64 < p then 3 else 0) else checkV n l
def greV (n : Int) (l : List Ed) (p : Int) : List Int := if greE n l p = 0 then (List.range n.toNat).map (timesV n.toNat p.toNat l) else []
theorem gre_zero {n : Int} {l : List Ed} {p : Int} (h : greE n l p = 0) : checkV n l = 0 ∧ 1 ≤ p ∧ p ≤ 64 := by
  unfold greE at h
  split at h
  · split at h
    · cases h
    · rename_i h1 h2; exact ⟨h1, by omega, by omega⟩
  · rename_i h1; exact absurd h h1
theorem gre_ok {n : Nat} {l : List Ed} {P : Nat} (h : greE n l P = 0) : greV n l P = (List.range n).map (timesV n P l) := by
  unfold greV
  rw [if_pos h]
  simp
theorem gre_bad {n : Int} {l : List Ed} {p : Int} (h : ¬ greE n l p = 0) : greV n l p = [] := by
  unfold greV
  rw [if_neg h]
theorem gre_len (n : Int) (l : List Ed) (p : Int) : (greV n l p).length ≤ 4096 := by
  by_cases h : greE n l p = 0
  · have hd := dag_of (gre_zero h).1
    have := hd.hi
    unfold greV
    rw [if_pos h]
    simp
    omega
  · rw [gre_bad h]; simp
set_option maxHeartbeats 1600000 in
theorem checkFor_any (n : Int) (a : Option Addr) (m c : Nat) (l : List Ed) (p : Int) (w : World) (h : SeenE w a m l) (hs : m * 16 ≤ 140737488351232) :
    Calls Tryd.prog 20 #[dagV n a m c, .int .i64 p] w fun e w' => e = .returned (.int .i64 (greE n l p)) ∧ Keeps None w w' := by
  have HS : Hid (SeenE w a m l) := h
  clear h
  unfold dagV
  by_cases hc : checkV n l = 0
  · have E : Hid (greE n l p = if p < 1 ∨ 64 < p then 3 else 0) := by show _ = _; unfold greE; rw [if_pos hc]
    generalize greE n l p = r at E ⊢
    go_enter Tryd.func20, Tryd.ntmps20
    go_wp2_with fail
    have hk0 := keeps1 w (.cells #[.int .i64 n, .slice a m c] 34)
    refine (check_any n a m c l _ (HS.out.more hk0) hs).mono ?_
    rintro _ w2 ⟨rfl, hk⟩
    have HK : Hid (Keeps None w w2) := hk0.trans hk (fun _ f _ => f)
    rw [hc]
    clear hk hk0 hc
    by_cases p1 : p < 1
    · go_wp2_with fail
      go_ret
      exact ⟨by rw [E.out, if_pos (.inl p1)]; rfl, HK.out⟩
    · by_cases p2 : 64 < p
      · go_wp2_with fail
        go_ret
        exact ⟨by rw [E.out, if_pos (.inr p2)]; rfl, HK.out⟩
      · have E2 : Hid (r = 0) := by have := E.out; rw [if_neg (by omega)] at this; exact this
        go_wp2_with fail
        go_ret
        exact ⟨by rw [E2.out]; rfl, HK.out⟩
  · have E : Hid (greE n l p = checkV n l) := by show _ = _; unfold greE; rw [if_neg hc]
    have eb : (checkV n l == 0) = false := by simpa using hc
    have q0 : ¬ checkV n l = 0 := hc
    generalize greE n l p = r at E ⊢
    go_enter Tryd.func20, Tryd.ntmps20
    go_wp2_with fail
    have hk0 := keeps1 w (.cells #[.int .i64 n, .slice a m c] 34)
    refine (check_any n a m c l _ (HS.out.more hk0) hs).mono ?_
    rintro _ w2 ⟨rfl, hk⟩
    have HK : Hid (Keeps None w w2) := hk0.trans hk (fun _ f _ => f)
    clear hk hk0 hc
    go_wp2_with fail
    go_ret
    exact ⟨by rw [E.out]; rfl, HK.out⟩
set_option maxHeartbeats 1600000 in
theorem gre_any (n : Int) (a : Option Addr) (m c : Nat) (l : List Ed) (p : Int) (w : World) (h : SeenE w a m l) (hs : m * 16 ≤ 140737488351232) :
    Calls Tryd.prog 10 #[dagV n a m c, .int .i64 p] w fun e w' => ∃ v, e = .returned (.tuple #[v, .int .i64 (greE n l p)]) ∧ w'.ownsRow w.heap.size 3 1 v (greV n l p).length (iv (greV n l p)) ∧ Keeps None w w' := by
  have HS : Hid (SeenE w a m l) := h
  clear h
  obtain ⟨s0, hs0⟩ : ∃ s0, s0 = w.heap.size := ⟨_, rfl⟩
  have HS0 : Hid (s0 = w.heap.size) := hs0
  unfold dagV
  go_enter Tryd.func10, Tryd.ntmps10
  go_wp2_with fail
  have hbox := blk_new w (.cells #[.int .i64 n, .slice a m c] 34) _ rfl
  have hk0 := keeps1 w (.cells #[.int .i64 n, .slice a m c] 34)
  refine (checkFor_any n a m c l p _ (HS.out.more hk0) hs).mono ?_
  rintro e w2 ⟨rfl, hk⟩
  rw [← hs0] at hbox ⊢
  have H1 : Hid (w2.heap[s0]? = some (.cells #[.int .i64 n, .slice a m c] 34 (0, 0)) ∧ Keeps None w w2) := ⟨blk_kept hbox hk (fun f => f), hk0.trans hk (fun _ f _ => f)⟩
  have d0 : w2.cell? ⟨s0, 0, none⟩ = some (.int .i64 n) := (blk_cell H1.out.1 0).trans rfl
  have d1 : w2.cell? ⟨s0, 1, none⟩ = some (.slice a m c) := (blk_cell H1.out.1 1).trans rfl
  clear hk0 hbox hk hs0
  by_cases hc : greE n l p = 0
  · have HC : Hid (greE n l p = 0) := hc
    rw [hc]
    obtain ⟨h1, h2, h3⟩ := gre_zero hc
    have hd := dag_of h1
    obtain ⟨N, rfl⟩ := Int.eq_ofNat_of_zero_le hd.lo
    obtain ⟨P, rfl⟩ := Int.eq_ofNat_of_zero_le (show 0 ≤ p by omega)
    have HD : Hid (Dag (N : Int) l) := hd
    have hP1 : 1 ≤ P := by omega
    have hP2 : P ≤ 64 := by omega
    clear hc hd h1 h2 h3
    go_wp2_with fail
    refine (times_any N P a m c l _ (HS.out.more H1.out.2) HD.out hP1 hP2).mono ?_
    rintro e w3 ⟨gt, rfl, hN, hg, hk⟩
    have HN : Hid (w3.ownsRow w.heap.size 3 1 (.slice (some ⟨gt, 0, none⟩) N N) (greV N l P).length (iv (greV N l P)) ∧ Keeps None w w3) := by
      refine ⟨?_, H1.out.2.trans hk (fun _ f _ => f)⟩
      have h1 := H1.out.2.size
      have h2 := HD.out.hi
      have := hN.row w.heap.size (by omega) (by omega)
      rw [gre_ok HC.out]
      simpa using this
    clear hN hg hk
    go_wp2_with fail
    go_ret2
    exact ⟨_, by rw [HC.out]; rfl, HN.out⟩
  · have HC : Hid (¬ greE n l p = 0) := hc
    have hb : (greE n l p == 0) = false := by simpa using hc
    have HE : Hid (greV n l p = []) := gre_bad hc
    have q0 : ¬ greE n l p = 0 := hc
    clear hc
    go_wp2_with fail
    go_ret2
    refine ⟨_, rfl, ?_, H1.out.2⟩
    rw [HE.out]
    exact row_nil _ _ _ _
end Go.Proofs.YtlbkfehakomicaaDoor.Dg
/-! The program's own schedule keeps the bounds, without the judge (out of DgGrahamP and DgGrahamWalk). -/
namespace Go.Proofs.YtlbkfehakomicaaDoor.Dg
set_option linter.unusedVariables false
set_option maxRecDepth 20000
open Go.RowKit Go.HeapKit

structure SeenZ (w : World) (a : Option Addr) (n : Nat) (zs : List Int) : Prop where
  len : n = zs.length
  ok : ∀ x ∈ zs, okI x
  ex : 0 < n → ∃ b off, a = some ⟨b, off, none⟩ ∧ b < w.heap.size ∧ ∀ k x, zs[k]? = some x → w.cell? ⟨b, off + k, none⟩ = some (.int .i64 x)
theorem SeenZ.kept {w w' : World} {S : Nat → Prop} {a : Option Addr} {n : Nat} {zs : List Int} (h : SeenZ w a n zs) (hk : Keeps S w w') (hS : ∀ x, a = some x → x.block < w.heap.size → ¬ S x.block) : SeenZ w' a n zs := by
  refine ⟨h.len, h.ok, fun h0 => ?_⟩
  obtain ⟨b, off, rfl, hb, hc⟩ := h.ex h0
  exact ⟨b, off, rfl, Nat.lt_of_lt_of_le hb hk.size, fun k i hi => hk.cell (hc k i hi) (hS ⟨b, off, none⟩ rfl hb)⟩
theorem SeenZ.more {w w' : World} {a : Option Addr} {n : Nat} {zs : List Int} (h : SeenZ w a n zs) (hk : Keeps None w w') : SeenZ w' a n zs := h.kept hk (fun _ _ _ f => f)
theorem SeenZ.at {w : World} {a : Option Addr} {n : Nat} {zs : List Int} (h : SeenZ w a n zs) {k : Nat} (hk : k < n) : ∃ b off x, a = some ⟨b, off, none⟩ ∧ zs[k]? = some x ∧ okI x ∧ w.cell? ⟨b, off + k, none⟩ = some (.int .i64 x) := by
  obtain ⟨b, off, rfl, hb, hc⟩ := h.ex (by omega)
  have hl := h.len
  exact ⟨b, off, zs[k]'(by omega), rfl, by simp, h.ok _ (List.getElem_mem _), hc k _ (by simp)⟩
theorem run_keep {n p : Nat} {l : List Ed} {k i : Nat} (h : runT n p l k i ≠ 0) : ∀ j, k ≤ j → runT n p l j i = runT n p l k i := by
  intro j
  induction j with
  | zero => intro hj; rw [show k = 0 by omega]
  | succ j ih =>
    intro hj
    by_cases e : k = j + 1
    · rw [e]
    · have h1 := ih (by omega)
      rw [runT, stepT, if_neg, h1]
      intro hm
      have := (mem_rds.1 (List.mem_of_mem_take hm)).2.1
      rw [h1] at this
      exact h this
theorem run_later {n p : Nat} {l : List Ed} {k i : Nat} (h : runT n p l k i = 0) : ∀ j, k ≤ j → runT n p l j i = 0 ∨ (k : Int) < runT n p l j i := by
  intro j
  induction j with
  | zero => intro hj; rw [show (0 : Nat) = k by omega]; exact .inl h
  | succ j ih =>
    intro hj
    by_cases e : k = j + 1
    · rw [← e]; exact .inl h
    · have h1 := ih (by omega)
      rw [runT, stepT]
      split
      · right; omega
      · exact h1
theorem run_at {n p : Nat} {l : List Ed} {k i : Nat} (hk : k ≤ n) : (timesV n p l i ≤ k → runT n p l k i = timesV n p l i) ∧ ((k : Int) < timesV n p l i → runT n p l k i = 0) := by
  by_cases h : runT n p l k i = 0
  · have := run_later h n hk
    refine ⟨fun h1 => ?_, fun _ => h⟩
    unfold timesV at h1 ⊢
    omega
  · have h1 := run_keep h n hk
    have h2 := (run_range n p l k i).2
    refine ⟨fun _ => h1.symm, fun h3 => ?_⟩
    unfold timesV at h3
    omega
theorem set_at {n p : Nat} {l : List Ed} {k : Nat} (hk : k < n) (i : Nat) : timesV n p l i = (k : Int) + 1 ↔ i ∈ (rds n l (runT n p l k)).take p := by
  constructor
  · intro h
    have h1 := (run_at (n := n) (p := p) (l := l) (k := k + 1) (i := i) (by omega)).1 (by omega)
    have h2 := (run_range n p l k i).2
    rw [runT, stepT] at h1
    split at h1
    · assumption
    · omega
  · intro h
    have h1 : runT n p l (k + 1) i = (k : Int) + 1 := by rw [runT, stepT, if_pos h]
    have h2 := run_keep (n := n) (p := p) (l := l) (k := k + 1) (i := i) (by omega) n (by omega)
    unfold timesV
    omega
theorem cnt_times {n p : Nat} {l : List Ed} {k : Nat} (hk : k < n) : cntAt n (timesV n p l) ((k : Int) + 1) = ((rds n l (runT n p l k)).take p).length := by
  rw [← filter_mem_take]
  unfold cntAt
  congr 1
  apply List.filter_congr
  intro i _
  have := set_at (p := p) (l := l) hk i
  by_cases e : timesV n p l i = (k : Int) + 1
  · simp [e, this.1 e]
  · have h2 : ¬ i ∈ (rds n l (runT n p l k)).take p := fun h => e (this.2 h)
    simp [e, h2]
theorem times_one {n p : Nat} {l : List Ed} (hd : Dag (n : Int) l) (hp : 1 ≤ p) (i : Nat) (hi : i < n) : 1 ≤ timesV n p l i ∧ timesV n p l i ≤ n := by
  have h1 := cnt_all.1 (run_ends hd n p hp) i hi
  have h2 := run_range n p l n i
  unfold timesV at h1 ⊢
  omega
theorem cnt_out {n p : Nat} {l : List Ed} (hd : Dag (n : Int) l) (hp : 1 ≤ p) {t : Int} (ht : t < 1 ∨ (n : Int) < t) : cntAt n (timesV n p l) t = 0 := by
  unfold cntAt
  rw [List.length_eq_zero_iff, List.filter_eq_nil_iff]
  intro i hi h
  have := times_one hd hp i (List.mem_range.1 hi)
  simp at h
  omega
theorem times_grdy {n p : Nat} {l : List Ed} (hd : Dag (n : Int) l) (hp : 1 ≤ p) (len : Nat) (hlen : ∀ i, i < n → timesV n p l i ≤ len) : Grdy n p l (timesV n p l) len := by
  refine ⟨⟨fun i hi => (times_one hd hp i hi).1, fun t => ?_, fun e he => ?_⟩, hlen, fun t h1 h2 => ?_⟩
  · by_cases ht : t < 1 ∨ (n : Int) < t
    · rw [cnt_out hd hp ht]; omega
    · obtain ⟨k, hk⟩ := Int.eq_ofNat_of_zero_le (show 0 ≤ t - 1 by omega)
      rw [show t = (k : Int) + 1 by omega, cnt_times (by omega)]
      exact List.length_take_le _ _
  · have h0 := hd.ok e he
    have h1 := times_one hd hp e.t.toNat (by omega)
    obtain ⟨k, hk⟩ := Int.eq_ofNat_of_zero_le (show 0 ≤ timesV n p l e.t.toNat - 1 by omega)
    have h2 := (set_at (n := n) (p := p) (l := l) (k := k) (by omega) e.t.toNat).1 (by omega)
    have h3 := (mem_rds.1 (List.mem_of_mem_take h2)).2.2 e.f (mem_bef.2 ⟨e, he, by omega, rfl⟩)
    have h4 := run_keep h3 n (by omega)
    have h5 := (run_range n p l k e.f.toNat).2
    unfold timesV at *
    omega
  · by_cases ht : n < t
    · exact .inr (fun i hi h3 => by have := (times_one hd hp i hi).2; omega)
    · obtain ⟨k, rfl⟩ : ∃ k, t = k + 1 := ⟨t - 1, by omega⟩
      have hc := cnt_times (n := n) (p := p) (l := l) (k := k) (by omega)
      have e1 : ((k + 1 : Nat) : Int) = (k : Int) + 1 := by omega
      rw [e1]
      by_cases hl : p ≤ (rds n l (runT n p l k)).length
      · left
        rw [hc, List.length_take]
        omega
      · right
        intro i hi h3 h4
        have h5 : i ∈ rds n l (runT n p l k) := by
          refine mem_rds.2 ⟨hi, (run_at (by omega)).2 (by omega), fun a ha => ?_⟩
          obtain ⟨e, he, ea, eb⟩ := mem_bef.1 ha
          have h6 := hd.ok e he
          have h7 := h4 a ha
          have h8 := (run_at (n := n) (p := p) (l := l) (k := k) (i := a.toNat) (by omega)).1 (by omega)
          have h9 := (times_one hd hp a.toNat (by omega)).1
          omega
        have h6 := (set_at (n := n) (p := p) (l := l) (k := k) (by omega) i).2 (by rw [List.take_of_length_le (by omega)]; exact h5)
        omega
theorem greE_ok {n : Nat} {l : List Ed} (hd : Dag (n : Int) l) {P : Nat} (h1 : 1 ≤ P) (h2 : P ≤ 64) : greE n l P = 0 := by
  unfold greE
  rw [if_pos (dag_check hd), if_neg (by omega)]
theorem row_seenZ {w : World} {base : Nat} {a : Option Addr} {n c : Nat} {zs : List Int} (h : w.ownsRow base 3 1 (.slice a n c) n (iv zs)) (hok : ∀ x ∈ zs, okI x) : SeenZ w a n zs := by
  have hl : n = zs.length := by have := h.1; rw [iv_len] at this; omega
  refine ⟨hl, hok, fun h0 => ?_⟩
  obtain ⟨g, rfl, h1, _⟩ := row_at h (k := 0) (x := zs[0]'(by omega)) (by simp)
  refine ⟨g, 0, rfl, own_lt h rfl, fun k x hx => ?_⟩
  obtain ⟨g2, e2, h2, _⟩ := row_at h hx
  injection e2 with e2
  injection e2 with e2
  subst e2
  rw [Nat.zero_add]
  exact h2
set_option maxHeartbeats 1600000 in
theorem length_any (a : Option Addr) (n c : Nat) (zs : List Int) (w : World) (h : SeenZ w a n zs) (hn : n ≤ 4096) : Calls Tryd.prog 12 #[.slice a n c] w fun e w' => e = .returned (.int .i64 (grt zs)) ∧ Keeps None w w' := by
  have HS : Hid (SeenZ w a n zs) := h
  have HL : Hid (n = zs.length) := h.len
  clear h
  go_enter Tryd.func12, Tryd.ntmps12
  go_wp2_with fail
  go_loopw [4, 3] (fun s4 s3 wr => ∃ (k : Nat) (y : Int), s4 = .int .i64 k ∧ s3 = .int .i64 y ∧ k ≤ n ∧ y = grt (zs.take k) ∧ Keeps None w wr) (fun s4 _ _ => n - (intOf s4).toNat)
  case atStart => exact ⟨0, 0, rfl, rfl, Nat.zero_le _, rfl, Keeps.refl _ _⟩
  case round =>
    obtain ⟨k, y, rfl, rfl, hk, hy, hkp⟩ := hrel
    have HY : Hid (y = grt (zs.take k) ∧ Keeps None w wr) := ⟨hy, hkp⟩
    clear hy hkp
    by_cases hlt : k < n
    · have i1 : (k : Int) < (n : Int) := by omega
      have n0 : ¬ n = 0 := by omega
      obtain ⟨b, off, x, rfl, hx, _, e0⟩ := (HS.out.more HY.out.2).at hlt
      have HX : Hid (grt (zs.take (k + 1)) = max y x) := by
        show _ = _
        rw [List.take_add_one, hx, HY.out.1]
        exact grt_snoc _ _
      clear hx
      go_wp2_with fail
      exact ⟨⟨k + 1, max y x, by go_num, (by first | rfl | (congr 1; rw [Int.max_def]; split <;> split <;> omega)), by omega, HX.out.symm, HY.out.2⟩, by simp [intOf]; omega⟩
    · have i1 : ¬ (k : Int) < (n : Int) := by omega
      have HX : Hid (y = grt zs) := by
        have h1 := HY.out.1
        rw [show k = zs.length by have := HL.out; omega, List.take_length] at h1
        exact h1
      go_wp2_with fail
      go_ret
      exact ⟨by rw [← HX.out]; rfl, HY.out.2⟩
set_option maxHeartbeats 1600000 in
theorem bounds_any (n s p t : Int) (w : World) (hn : 0 ≤ n ∧ n ≤ 4096) (hs : 0 ≤ s ∧ s ≤ 4096) (hp : 1 ≤ p ∧ p ≤ 64) (ht : 0 ≤ t ∧ t ≤ 4096) (h1 : s ≤ t) (h2 : n ≤ p * t) (h3 : p * t ≤ n + (p - 1) * s) :
    Calls Tryd.prog 11 #[.int .i64 n, .int .i64 s, .int .i64 p, .int .i64 t] w fun e w' => e = .returned (.bool true) ∧ w' = w := by
  have b1 : 0 ≤ p * t := Int.mul_nonneg (by omega) ht.1
  have b2 : p * t ≤ 64 * 4096 := Int.mul_le_mul hp.2 ht.2 ht.1 (by omega)
  have b3 : 0 ≤ (p - 1) * s := Int.mul_nonneg (by omega) hs.1
  have b4 : (p - 1) * s ≤ 64 * 4096 := Int.mul_le_mul (by omega) hs.2 hs.1 (by omega)
  go_enter Tryd.func11, Tryd.ntmps11
  go_wp2_with fail
  go_ret
  exact ⟨by first | rfl | (simp; omega), rfl⟩
theorem run_out (n p : Nat) (l : List Ed) (i : Nat) (hi : n ≤ i) : ∀ k, runT n p l k i = 0 := by
  intro k
  induction k with
  | zero => rfl
  | succ k ih =>
    rw [runT, stepT, if_neg]
    · exact ih
    · intro h
      have := (mem_rds.1 (List.mem_of_mem_take h)).1
      omega
theorem graham_bounds {n P : Nat} {l : List Ed} (hd : Dag (n : Int) l) (h1 : 1 ≤ P) (zs : List Int) (hz : zs = (List.range n).map (timesV n P l)) (t S : Nat) (ht : grt zs = t) (hS : spanV n l = S) :
    S ≤ t ∧ n ≤ P * t ∧ P * t ≤ n + (P - 1) * S ∧ t ≤ n := by
  have hlen : zs.length = n := by rw [hz]; simp
  have hT : ∀ i, i < n → timesV n P l i ≤ t := by
    intro i hi
    have := (grt_ge zs).2 (timesV n P l i) (by rw [hz]; exact List.mem_map.2 ⟨i, List.mem_range.2 hi, rfl⟩)
    omega
  have hG := times_grdy hd h1 t hT
  have hR : ∀ i, i < n → R l i ≤ S := by
    intro i hi
    have e : earV n l = (List.range n).map (R l) := ear_ok (dag_check hd)
    have := (grt_ge (earV n l)).2 (R l i) (by rw [e]; exact List.mem_map.2 ⟨i, List.mem_range.2 hi, rfl⟩)
    unfold spanV at hS
    omega
  have hSt : S ≤ t := by
    unfold spanV at hS
    rcases grt_eq (earV n l) with h | h
    · omega
    · rw [ear_ok (dag_check hd), List.mem_map] at h
      obtain ⟨i, hi, h⟩ := h
      have h2 := sched_rank hd hG.sch i (List.mem_range.1 hi)
      have h3 := hT i (List.mem_range.1 hi)
      rw [ear_ok (dag_check hd)] at hS
      omega
  refine ⟨hSt, sched_work hG.sch hT, ?_, ?_⟩
  · rcases grt_eq zs with h | h
    · have : t = 0 := by omega
      rw [this]; simp
    · rw [hz, List.mem_map] at h
      obtain ⟨i, hi, h⟩ := h
      exact brent hd hG h1 ⟨i, List.mem_range.1 hi, by rw [h, ← hz]; exact ht⟩ S hR
  · rcases grt_eq zs with h | h
    · omega
    · rw [hz, List.mem_map] at h
      obtain ⟨i, hi, h⟩ := h
      have := (times_one hd h1 i (List.mem_range.1 hi)).2
      rw [h, ← hz] at this
      omega
end Go.Proofs.YtlbkfehakomicaaDoor.Dg
/-! The law's 'ends': has each node but the first an edge to it, and each but the last one from it? -/
namespace Go.Proofs.YtlbkfehakomicaaDoor.Dg
set_option linter.unusedVariables false
set_option maxRecDepth 20000
open Go.RowKit Go.HeapKit

def cin (l : List Ed) (i k : Nat) : Int := ((bef (l.take i) k).length : Int)
def cout (l : List Ed) (i k : Nat) : Int := ((flw (l.take i) k).length : Int)
theorem cin_step {l : List Ed} {i : Nat} {e : Ed} (he : l[i]? = some e) {t : Nat} (ht : e.t = t) (k : Nat) : upd (cin l i) t (cin l i t + 1) k = cin l (i + 1) k := by
  unfold upd cin
  rw [bef_take l i e he k]
  by_cases h : k = t
  · subst h
    rw [if_pos rfl, if_pos ht, List.length_append]
    simp
  · rw [if_neg h, if_neg (by omega)]
theorem cout_step {l : List Ed} {i : Nat} {e : Ed} (he : l[i]? = some e) {t : Nat} (ht : e.f = t) (k : Nat) : upd (cout l i) t (cout l i t + 1) k = cout l (i + 1) k := by
  unfold upd cout
  rw [flw_take l i e he k]
  by_cases h : k = t
  · subst h
    rw [if_pos rfl, if_pos ht, List.length_append]
    simp
  · rw [if_neg h, if_neg (by omega)]
theorem cin_le (l : List Ed) (i k : Nat) : 0 ≤ cin l i k ∧ cin l i k ≤ l.length := by
  unfold cin
  have := bef_len (l.take i) k
  rw [List.length_take] at this
  omega
theorem cout_le (l : List Ed) (i k : Nat) : 0 ≤ cout l i k ∧ cout l i k ≤ l.length := by
  unfold cout
  have := flw_len (l.take i) k
  rw [List.length_take] at this
  omega
theorem cin_pos {l : List Ed} {k : Nat} (h : ∃ e ∈ l, e.t = k) : ¬ cin l l.length k = 0 := by
  unfold cin
  rw [List.take_length]
  obtain ⟨e, he, h⟩ := h
  have := List.length_pos_of_mem (mem_bef.2 ⟨e, he, h, rfl⟩)
  omega
theorem cout_pos {l : List Ed} {k : Nat} (h : ∃ e ∈ l, e.f = k) : ¬ cout l l.length k = 0 := by
  unfold cout
  rw [List.take_length]
  obtain ⟨e, he, h⟩ := h
  have := List.length_pos_of_mem (mem_flw.2 ⟨e, he, h, rfl⟩)
  omega
theorem one_new (w : World) (n : Nat) (s0 : Nat) (hs : w.heap.size = s0) (wx : World) (hx : wx = w.alloc (.cells ((List.range n).map (fun _ => Value.int .i64 0)).toArray 3)) :
    IsN wx s0 n (fun _ => 0) ∧ Keeps None w wx := by
  subst hx
  exact ⟨blk_new _ _ _ hs, (Keeps.refl None w).andAlloc _⟩
/-- What stands in memory: the dag's box, the two rows of counts. -/
structure EnW (w wr : World) (s0 g1 g2 n : Nat) (a : Option Addr) (m c : Nat) (F G : Nat → Int) : Prop where
  box : wr.heap[s0]? = some (.cells #[.int .i64 n, .slice a m c] 34 (0, 0))
  n1 : IsN wr g1 n F
  n2 : IsN wr g2 n G
  kept : Keeps None w wr
theorem EnW.more {w wr : World} {s0 g1 g2 n : Nat} {a : Option Addr} {m c : Nat} {F G : Nat → Int} (h : EnW w wr s0 g1 g2 n a m c F G) (o : Obj) : EnW w (wr.alloc o) s0 g1 g2 n a m c F G :=
  ⟨blk_kept h.box (keeps1 wr o) (fun f => f), h.n1.kept (keeps1 wr o) (fun f => f), h.n2.kept (keeps1 wr o) (fun f => f), h.kept.andAlloc o⟩
theorem EnW.set1 {w wr : World} {s0 g1 g2 n : Nat} {a : Option Addr} {m c : Nat} {F G : Nat → Int} (h : EnW w wr s0 g1 g2 n a m c F G) (h1 : g1 ≠ g2) (h2 : s0 ≠ g1) (h3 : w.heap.size ≤ g1) (k : Nat) (x : Int) : EnW w (wr.setCell ⟨g1, k, none⟩ (.int .i64 x)) s0 g1 g2 n a m c (upd F k x) G := by
  have hk : Keeps (· = g1) wr (wr.setCell ⟨g1, k, none⟩ (.int .i64 x)) := Keeps.setCell (S := (· = g1)) _ rfl _
  exact ⟨blk_kept h.box hk h2, h.n1.set k x, h.n2.kept hk (fun e => h1 e.symm), h.kept.trans hk (fun q e hq => by omega)⟩
theorem EnW.set2 {w wr : World} {s0 g1 g2 n : Nat} {a : Option Addr} {m c : Nat} {F G : Nat → Int} (h : EnW w wr s0 g1 g2 n a m c F G) (h1 : g1 ≠ g2) (h2 : s0 ≠ g2) (h3 : w.heap.size ≤ g2) (k : Nat) (x : Int) : EnW w (wr.setCell ⟨g2, k, none⟩ (.int .i64 x)) s0 g1 g2 n a m c F (upd G k x) := by
  have hk : Keeps (· = g2) wr (wr.setCell ⟨g2, k, none⟩ (.int .i64 x)) := Keeps.setCell (S := (· = g2)) _ rfl _
  exact ⟨blk_kept h.box hk h2, h.n1.kept hk h1, h.n2.set k x, h.kept.trans hk (fun q e hq => by omega)⟩
theorem EnW.congr {w wr : World} {s0 g1 g2 n : Nat} {a : Option Addr} {m c : Nat} {F G F' G' : Nat → Int} (h : EnW w wr s0 g1 g2 n a m c F G) (e1 : ∀ k, F k = F' k) (e2 : ∀ k, G k = G' k) : EnW w wr s0 g1 g2 n a m c F' G' :=
  ⟨h.box, h.n1.congr (fun k _ => e1 k), h.n2.congr (fun k _ => e2 k), h.kept⟩
set_option maxHeartbeats 3200000 in
theorem lends_any (n : Nat) (a : Option Addr) (m c : Nat) (l : List Ed) (w : World) (h : SeenE w a m l) (hd : Dag (n : Int) l) (hin : ∀ k : Nat, k < n → 0 < k → ∃ e ∈ l, e.t = k) (hout : ∀ k : Nat, k + 1 < n → ∃ e ∈ l, e.f = k) :
    Calls Tryd.prog 7 #[dagV n a m c] w fun e w' => e = .returned (.bool true) ∧ Keeps None w w' := by
  have HS : Hid (SeenE w a m l) := h
  have HD : Hid (Dag (n : Int) l) := hd
  have HE : Hid ((∀ k : Nat, k < n → 0 < k → ∃ e ∈ l, e.t = k) ∧ (∀ k : Nat, k + 1 < n → ∃ e ∈ l, e.f = k)) := ⟨hin, hout⟩
  have hn : n ≤ 4096 := by have := hd.hi; omega
  have hml : m = l.length := h.len
  have hm : m ≤ 16384 := by have := hd.len; omega
  have HM : Hid (m = l.length) := hml
  clear h hd hin hout hml
  obtain ⟨s0, hs0⟩ : ∃ s0, s0 = w.heap.size := ⟨_, rfl⟩
  obtain ⟨wa, hwa⟩ : ∃ wa, wa = w.alloc (.cells #[.int .i64 n, .slice a m c] 34) := ⟨_, rfl⟩
  have hbox : wa.heap[s0]? = some (.cells #[.int .i64 n, .slice a m c] 34 (0, 0)) := by rw [hwa]; exact blk_new w _ _ hs0.symm
  have hka : Keeps None w wa := by rw [hwa]; exact keeps1 _ _
  obtain ⟨g1, hg1⟩ : ∃ g, g = wa.heap.size := ⟨_, rfl⟩
  have hmk1 := make_ints n wa hn
  rw [← hg1] at hmk1
  obtain ⟨wb, hwb⟩ : ∃ wm, wm = wa.alloc (.cells ((List.range n).map (fun _ => Value.int .i64 0)).toArray 3) := ⟨_, rfl⟩
  have hN1 : IsN wb g1 n (fun _ => 0) := by rw [hwb]; exact blk_new _ _ _ hg1.symm
  have hkb : Keeps None wa wb := by rw [hwb]; exact keeps1 _ _
  have hsz : wb.heap.size = g1 + 1 := by rw [hwb]; simp; omega
  rw [← hwb] at hmk1
  obtain ⟨g2, hg2⟩ : ∃ g, g = wb.heap.size := ⟨_, rfl⟩
  have hmk2 := make_ints n wb hn
  rw [← hg2] at hmk2
  obtain ⟨wd, hwd⟩ : ∃ wm, wm = wb.alloc (.cells ((List.range n).map (fun _ => Value.int .i64 0)).toArray 3) := ⟨_, rfl⟩
  have hN2 : IsN wd g2 n (fun _ => 0) := by rw [hwd]; exact blk_new _ _ _ hg2.symm
  have hkd : Keeps None wb wd := by rw [hwd]; exact keeps1 _ _
  rw [← hwd] at hmk2
  have d0 : wa.cell? ⟨s0, 0, none⟩ = some (.int .i64 n) := (blk_cell hbox 0).trans rfl
  have d1 : wb.cell? ⟨s0, 0, none⟩ = some (.int .i64 n) := hkb.cell d0 (fun f => f)
  have hlt := blk_lt hbox
  have HN : Hid (g1 ≠ g2 ∧ s0 ≠ g1 ∧ s0 ≠ g2 ∧ w.heap.size ≤ g1 ∧ w.heap.size ≤ g2) := ⟨by omega, by omega, by omega, by omega, by omega⟩
  have HW : Hid (EnW w wd s0 g1 g2 n a m c (cin l 0) (cout l 0)) := ⟨blk_kept (blk_kept hbox hkb (fun f => f)) hkd (fun f => f), (hN1.kept hkd (fun f => f)).congr (fun k _ => by simp [cin, bef]), hN2.congr (fun k _ => by simp [cout, flw]), (hka.trans hkb (fun _ f _ => f)).trans hkd (fun _ f _ => f)⟩
  have HA : Hid (wa = w.alloc (.cells #[.int .i64 n, .slice a m c] 34)) := hwa
  clear hbox hka hN1 hkb hN2 hkd hwd hwb hwa hsz hlt
  unfold dagV
  go_enter Tryd.func7, Tryd.ntmps7
  go_upto_region 1 with fail
  rw [← HA.out, ← hs0]
  clear HA hs0 hg1 hg2
  go_upto_region 3 with fail
  clear hmk1 hmk2 d0 d1
  go_wp2_with fail
  go_loopw [5, 6] (fun s5 _ wr => ∃ i : Nat, s5 = .int .i64 i ∧ i ≤ m ∧ EnW w wr s0 g1 g2 n a m c (cin l i) (cout l i)) (fun s5 _ _ => m - (intOf s5).toNat)
  case atStart => exact ⟨0, rfl, Nat.zero_le _, HW.out⟩
  case round =>
    obtain ⟨i, rfl, hi, hW⟩ := hrel
    have c0 := (blk_cell hW.box 0).trans rfl
    have c1 := (blk_cell hW.box 1).trans rfl
    by_cases hlt : i < m
    · have i1 : (i : Int) < (m : Int) := by omega
      have m0 : ¬ m = 0 := by omega
      obtain ⟨b, off, e, rfl, he, hat⟩ := (HS.out.more hW.kept).at hlt
      have hok := HD.out.ok e (List.mem_of_getElem? he)
      obtain ⟨ef, et⟩ := e
      simp only at hok
      obtain ⟨f, rfl⟩ := Int.eq_ofNat_of_zero_le hok.1
      obtain ⟨t, rfl⟩ := Int.eq_ofNat_of_zero_le (show 0 ≤ et by omega)
      have e0 := hat.f
      have e1 := hat.t
      simp only at e0 e1
      obtain ⟨B, hB⟩ : ∃ B, B = wr.heap.size := ⟨_, rfl⟩
      obtain ⟨U, hU⟩ : ∃ U, U = wr.alloc (.cells #[.int .i64 (f : Int), .int .i64 (t : Int)] 70) := ⟨_, rfl⟩
      have hWU : EnW w U s0 g1 g2 n (some ⟨b, off, none⟩) m c (cin l i) (cout l i) := by rw [hU]; exact hW.more _
      have hbU : U.heap[B]? = some (.cells #[.int .i64 (f : Int), .int .i64 (t : Int)] 70 (0, 0)) := by rw [hU]; exact blk_new _ _ _ hB.symm
      have hB1 : B ≠ g1 := by have := hW.n1.lt; omega
      have hB2 : B ≠ g2 := by have := hW.n2.lt; omega
      have u0 : U.cell? ⟨B, 0, none⟩ = some (.int .i64 (f : Int)) := (blk_cell hbU 0).trans rfl
      have u1 : U.cell? ⟨B, 1, none⟩ = some (.int .i64 (t : Int)) := (blk_cell hbU 1).trans rfl
      have uc : U.cell? ⟨s0, 0, none⟩ = some (.int .i64 n) := (blk_cell hWU.box 0).trans rfl
      have hft : f < n ∧ t < n := by omega
      have x1 := hWU.n1.at hft.2
      have z1 := hWU.n1.free t
      obtain ⟨V, hV⟩ : ∃ V, V = U.setCell ⟨g1, t, none⟩ (.int .i64 (cin l i t + 1)) := ⟨_, rfl⟩
      have hWV : EnW w V s0 g1 g2 n (some ⟨b, off, none⟩) m c (upd (cin l i) t (cin l i t + 1)) (cout l i) := by rw [hV]; exact hWU.set1 HN.out.1 HN.out.2.1 HN.out.2.2.2.1 t _
      have hbV : V.heap[B]? = some (.cells #[.int .i64 (f : Int), .int .i64 (t : Int)] 70 (0, 0)) := by rw [hV]; exact blk_kept hbU (Keeps.setCell (S := (· = g1)) _ rfl _) hB1
      have v0 : V.cell? ⟨B, 0, none⟩ = some (.int .i64 (f : Int)) := (blk_cell hbV 0).trans rfl
      have x2 := hWV.n2.at hft.1
      have z2 := hWV.n2.free f
      have HX : Hid (EnW w (V.setCell ⟨g2, f, none⟩ (.int .i64 (cout l i f + 1))) s0 g1 g2 n (some ⟨b, off, none⟩) m c (cin l (i + 1)) (cout l (i + 1))) := (hWV.set2 HN.out.1 HN.out.2.2.1 HN.out.2.2.2.2 f _).congr (cin_step he rfl) (cout_step he rfl)
      have l1 := cin_le l i t
      have l2 := cout_le l i f
      have hm2 := HM.out
      have a1 : ¬ ((f : Int) < 0) := by omega
      have a2 : ¬ ((n : Int) ≤ (f : Int)) := by omega
      have a3 : ¬ ((t : Int) < 0) := by omega
      have a4 : ¬ ((n : Int) ≤ (t : Int)) := by omega
      have a5 : (f : Int) < (n : Int) := by omega
      have a6 : (t : Int) < (n : Int) := by omega
      have n0 : ¬ n = 0 := by omega
      obtain ⟨p, hp⟩ : ∃ p, p = cin l i t := ⟨_, rfl⟩
      obtain ⟨q, hq⟩ : ∃ q, q = cout l i f := ⟨_, rfl⟩
      have w1 : wrap64 (p + 1) = p + 1 := by unfold wrap64; omega
      have w2 : wrap64 (q + 1) = q + 1 := by unfold wrap64; omega
      rw [← hp] at x1 hV
      rw [← hq] at x2 HX
      clear hat he hok hW hWU hbU hWV hbV l1 l2 hm2 hp hq hB1 hB2
      go_upto_region 7 with fail
      rw [← hU, ← hB]
      clear hU hB c0 c1 e0 e1
      go_upto_region 10 with fail
      rw [← hV]
      clear hV u0 u1 uc x1 z1
      go_wp2_with fail
      exact ⟨⟨i + 1, by go_num, by omega, HX.out⟩, by simp [intOf]; omega⟩
    · have i1 : ¬ (i : Int) < (m : Int) := by omega
      obtain rfl : i = m := by omega
      have HW2 : Hid (EnW w wr s0 g1 g2 n a i c (cin l i) (cout l i)) := hW
      clear hW HW
      go_wp2_with fail
      clear c0 c1
      go_loopw [7] (fun s7 wx => ∃ k : Nat, s7 = .int .i64 k ∧ k ≤ n ∧ wx = wr) (fun s7 _ => n - (intOf s7).toNat)
      case atStart => exact ⟨0, rfl, Nat.zero_le _, rfl⟩
      case round =>
        obtain ⟨k, rfl, hk, rfl⟩ := hrel
        have c0 := (blk_cell HW2.out.box 0).trans rfl
        by_cases hkn : k < n
        · have k1 : (k : Int) < (n : Int) := by omega
          have n0 : ¬ n = 0 := by omega
          have x1 := HW2.out.n1.at hkn
          have x2 := HW2.out.n2.at hkn
          have hml := HM.out
          have w1 : wrap64 ((n : Int) - 1) = (n : Int) - 1 := by unfold wrap64; omega
          have P1 : 0 < k → ¬ cin l i k = 0 := fun h0 => by rw [hml]; exact cin_pos (HE.out.1 k hkn h0)
          have P2 : k + 1 < n → ¬ cout l i k = 0 := fun h0 => by rw [hml]; exact cout_pos (HE.out.2 k h0)
          obtain ⟨p, hp⟩ : ∃ p, p = cin l i k := ⟨_, rfl⟩
          obtain ⟨q, hq⟩ : ∃ q, q = cout l i k := ⟨_, rfl⟩
          rw [← hp] at x1 P1
          rw [← hq] at x2 P2
          clear hp hq hml
          by_cases h0 : 0 < k
          · have p1 : (p == 0) = false := by simpa using P1 h0
            have k2 : (0 : Int) < (k : Int) := by omega
            by_cases h2 : k + 1 < n
            · have q1 : (q == 0) = false := by simpa using P2 h2
              have k3 : (k : Int) < (n : Int) - 1 := by omega
              clear P1 P2
              go_wp2_with fail
              exact ⟨⟨k + 1, by go_num, by omega, trivial⟩, by simp [intOf]; omega⟩
            · have k3 : ¬ (k : Int) < (n : Int) - 1 := by omega
              clear P1 P2
              go_wp2_with fail
              exact ⟨⟨k + 1, by go_num, by omega, trivial⟩, by simp [intOf]; omega⟩
          · obtain rfl : k = 0 := by omega
            by_cases h2 : 0 + 1 < n
            · have q1 : (q == 0) = false := by simpa using P2 h2
              have k3 : (0 : Int) < (n : Int) - 1 := by omega
              clear P1 P2
              go_wp2_with fail
              exact ⟨⟨0 + 1, by go_num, by omega, trivial⟩, by simp [intOf]; omega⟩
            · have k3 : ¬ (0 : Int) < (n : Int) - 1 := by omega
              clear P1 P2
              go_wp2_with fail
              exact ⟨⟨0 + 1, by go_num, by omega, trivial⟩, by simp [intOf]; omega⟩
        · have k1 : ¬ (k : Int) < (n : Int) := by omega
          go_wp2_with fail
          go_ret
          exact ⟨rfl, HW2.out.kept⟩
end Go.Proofs.YtlbkfehakomicaaDoor.Dg
/-! Arguments that are written out, in memory. -/
namespace Go.Proofs.YtlbkfehakomicaaDoor
set_option linter.unusedVariables false
set_option maxRecDepth 20000
open Go.RowKit Go.HeapKit Go.PlainOps

theorem seen_args {w : World} {g : Nat} {l : List Int} {t : TypeId} {z : Nat × Nat} (hb : w.heap[g]? = some (.cells (ints l).toArray t z)) (hl : ∀ x ∈ l, okI x) (hn : l.length ≤ 9223372036854775807) : SeenA w (some ⟨g, 0, none⟩) l.length l := by
  refine ⟨rfl, hn, hl, fun _ => ⟨g, 0, rfl, blk_lt hb, fun k x hx => ?_⟩⟩
  rw [blk_cell hb, Nat.zero_add]
  simpa using ints_at l k x hx
end Go.Proofs.YtlbkfehakomicaaDoor
