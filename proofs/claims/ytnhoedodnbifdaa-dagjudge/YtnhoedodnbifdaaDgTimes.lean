import Derived.Test.YtnhoedodnbifdaaDgGreedy
/-! Greedy times: the program's. -/
namespace Go.Proofs.Ytnhoedodnbifdaa
set_option linter.unusedVariables false
set_option maxRecDepth 20000
open Go.RowKit Go.HeapKit

theorem Plan.congr {w : World} {p B g gl gt n : Nat} {vs : Nat → Value} {l : List Ed} {F F' T T' : Nat → Int} {v : Value} {hl : List Int} (h : Plan w p B g gl gt n vs l F T v hl) (e1 : ∀ k, k < n → F k = F' k) (e2 : ∀ k, k < n → T k = T' k) : Plan w p B g gl gt n vs l F' T' v hl :=
  ⟨h.hp, h.lists, h.left.congr e1, h.times.congr e2, h.low, h.ne, h.size⟩
set_option maxHeartbeats 3200000 in
theorem times_any (n P : Nat) (a : Option Addr) (m c : Nat) (l : List Ed) (w : World) (h : SeenE w a m l) (hd : Dag (n : Int) l) (hP1 : 1 ≤ P) (hP : P ≤ 64) :
    Calls Try.prog 34 #[dagV n a m c, .int .i64 P] w fun e w' => ∃ gt, e = .returned (.slice (some ⟨gt, 0, none⟩) n n) ∧ IsN w' gt n (timesV n P l) ∧ w.heap.size ≤ gt ∧ Keeps None w w' := by
  have HS : Hid (SeenE w a m l) := h
  have HD : Hid (Dag (n : Int) l) := hd
  have hn : n ≤ 4096 := by have := hd.hi; omega
  clear h hd
  unfold dagV
  go_enter Try.func34, Try.ntmps34
  go_wp2_with fail
  have hk0 := keeps1 w (.cells #[.int .i64 n, .slice a m c] 24)
  refine (plan_any n a m c l _ (HS.out.more hk0) HD.out).mono ?_
  rintro _ w2 ⟨p, rfl, B, g, gl, gt, vs, v, hl, hPl, hOf, hk, hp1, hp2, hp3, hp4⟩
  have H1 : Hid (Plan w2 p B g gl gt n vs l (fun i => (lft l (runT n P l 0) i : Nat)) (runT n P l 0) v hl ∧ Of hl (fun x => x ∈ rds n l (runT n P l 0)) ∧ Keeps None w w2 ∧ w.heap.size ≤ p ∧ w.heap.size ≤ gl ∧ w.heap.size ≤ gt ∧ w.heap.size ≤ B) := by
    have hsz := hk0.size
    exact ⟨hPl, hOf, hk0.trans hk (fun _ f _ => f), by omega, by omega, by omega, by omega⟩
  clear hPl hOf hk hp1 hp2 hp3 hp4 hk0
  go_wp2_with fail
  go_loopw [6, 8] (fun s6 _ wr => ∃ (k : Nat) (v : Value) (hl : List Int), s6 = .int .i64 (k + 1 : Nat) ∧ k ≤ n ∧ Plan wr p B g gl gt n vs l (fun i => (lft l (runT n P l k) i : Nat)) (runT n P l k) v hl ∧ Of hl (fun x => x ∈ rds n l (runT n P l k)) ∧ Keeps None w wr) (fun s6 _ _ => n + 1 - (intOf s6).toNat)
  case atStart => exact ⟨0, v, hl, rfl, Nat.zero_le _, H1.out.1, H1.out.2.1, H1.out.2.2.1⟩
  case round =>
    obtain ⟨k, v, hl, rfl, hk, hPl, hOf, hkp⟩ := hrel
    have HI : Hid (Plan wr p B g gl gt n vs l (fun i => (lft l (runT n P l k) i : Nat)) (runT n P l k) v hl ∧ Of hl (fun x => x ∈ rds n l (runT n P l k)) ∧ Keeps None w wr) := ⟨hPl, hOf, hkp⟩
    clear hPl hOf hkp
    by_cases hem : rds n l (runT n P l k) = []
    · have he : hl.length = 0 := HI.out.2.1.empty.2 (fun x hx => by rw [hem] at hx; cases hx)
      have HT : Hid (runT n P l k = timesV n P l) := times_eq HD.out n P hP1 k hem
      have c4 := HI.out.1.hp.c4
      clear hem
      go_wp2_with fail
      refine (empty_any p B _ _ _ v hl _ HI.out.1.hp).mono ?_
      rintro _ wz ⟨rfl, hw⟩
      have hw2 := hw.symm
      subst hw2
      clear hw
      rw [decide_eq_true he]
      go_wp2_with fail
      go_ret
      refine ⟨gt, rfl, ?_, H1.out.2.2.2.2.2.1, HI.out.2.2⟩
      rw [← HT.out]
      exact HI.out.1.times
    · have hne : ¬ hl.length = 0 := fun e => by
        have := HI.out.2.1.empty.1 e
        cases hr : rds n l (runT n P l k) with
        | nil => exact hem hr
        | cons y ys => exact this y (by rw [hr]; exact List.mem_cons_self ..)
      have hkn : k < n := k_le HD.out n P hP1 k hem
      clear hem
      go_wp2_with fail
      refine (empty_any p B _ _ _ v hl _ HI.out.1.hp).mono ?_
      rintro _ wz ⟨rfl, hw⟩
      have hw2 := hw.symm
      subst hw2
      clear hw
      rw [decide_eq_false hne]
      go_wp2_with fail
      refine (take_any p B _ _ _ v hl (rds n l (runT n P l k)) P n _ HI.out.1.hp HI.out.2.1 (rds_sorted _ _ _) (fun x hx => (mem_rds.1 hx).1) hn hP).mono ?_
      rintro _ w3 ⟨s, v3, hl3, rfl, hrow, hI3, hO3, hk3, hv3⟩
      obtain ⟨T, hT⟩ : ∃ T, T = runT n P l k := ⟨_, rfl⟩
      obtain ⟨Q, hQ⟩ : ∃ Q, Q = (rds n l T).take P := ⟨_, rfl⟩
      rw [← hT] at hrow hO3
      rw [← hQ] at hrow
      obtain ⟨K, hK⟩ : ∃ K, K = Q.length := ⟨_, rfl⟩
      have hK4 : K ≤ 4096 := by
        rw [hK, hQ, List.length_take]
        omega
      rw [← hK] at hrow
      obtain ⟨sa, sc, rfl⟩ := row_shape hrow
      have H3 : Hid (Plan w3 p B g gl gt n vs l (fun i => (lft l (putT T (Q.take 0) (k + 1)) i : Nat)) (putT T (Q.take 0) (k + 1)) v3 hl3 ∧ Of hl3 (SQ n l T (putT T (Q.take 0) (k + 1)) Q) ∧ Keeps None w w3 ∧ w3.ownsRow wr.heap.size 3 1 (.slice sa K sc) K (iv (nI Q)) ∧ ∀ q, v3.ownBlock = some q → (Value.slice sa K sc).ownBlock ≠ some q) := by
        have h1 := H1.out
        refine ⟨?_, ?_, HI.out.2.2.trans hk3 (fun q e hq => ?_), hrow, fun q e e2 => ?_⟩
        · rw [List.take_zero, put_nil, hT]
          exact HI.out.1.heap hI3 hk3
        · rw [List.take_zero, put_nil]
          refine hO3.congr (fun x => ?_)
          rw [hQ]
          exact SQ_start n P l T x
        · rcases e with e | e
          · omega
          · have := HI.out.1.vg q e; omega
        · have h2 := row_low hrow e2
          rw [hv3] at e
          have := own_lt HI.out.1.hp.row e
          omega
      have HT : Hid (T = runT n P l k ∧ Q = (rds n l T).take P ∧ K = Q.length ∧ ∀ i, T i ≠ 0 → ∀ a ∈ bef l i, T a.toNat ≠ 0) := ⟨hT, hQ, hK, by rw [hT]; exact run_closed n P l k⟩
      have HB : Hid (B ≤ wr.heap.size) := HI.out.1.size
      clear hrow hI3 hO3 hk3 hv3 hT hQ hK hne HI
      obtain ⟨R0, hR0⟩ : ∃ R0, R0 = wr.heap.size := ⟨_, rfl⟩
      rw [← hR0] at H3 HB
      clear hR0
      go_wp2_with fail
      go_loopw [22, 8] (fun s22 _ wr => ∃ (j : Nat) (v : Value) (hl : List Int), s22 = .int .i64 j ∧ j ≤ K ∧ Plan wr p B g gl gt n vs l (fun i => (lft l (putT T (Q.take j) (k + 1)) i : Nat)) (putT T (Q.take j) (k + 1)) v hl ∧ Of hl (SQ n l T (putT T (Q.take j) (k + 1)) Q) ∧ Keeps None w wr ∧ wr.ownsRow R0 3 1 (.slice sa K sc) K (iv (nI Q)) ∧ ∀ q, v.ownBlock = some q → (Value.slice sa K sc).ownBlock ≠ some q) (fun s22 _ _ => K - (intOf s22).toNat)
      case atStart => exact ⟨0, v3, hl3, rfl, Nat.zero_le _, H3.out⟩
      case round =>
        clear H3
        obtain ⟨j, v, hl, rfl, hj, hPl, hOf, hkp, hrow, hvs⟩ := hrel
        have HJ : Hid (Plan wr p B g gl gt n vs l (fun i => (lft l (putT T (Q.take j) (k + 1)) i : Nat)) (putT T (Q.take j) (k + 1)) v hl ∧ Of hl (SQ n l T (putT T (Q.take j) (k + 1)) Q) ∧ Keeps None w wr ∧ wr.ownsRow R0 3 1 (.slice sa K sc) K (iv (nI Q)) ∧ ∀ q, v.ownBlock = some q → (Value.slice sa K sc).ownBlock ≠ some q) := ⟨hPl, hOf, hkp, hrow, hvs⟩
        by_cases hjK : j < K
        · have hjl : j < Q.length := by have := HT.out.2.2.1; omega
          obtain ⟨q, hq⟩ : ∃ q, Q[j]? = some q := ⟨Q[j], List.getElem?_eq_getElem hjl⟩
          have hqI : (nI Q)[j]? = some (q : Int) := by unfold nI; simp [hq]
          obtain ⟨b, rfl, e0, _⟩ := row_at hrow hqI
          have hq2 := hq
          rw [HT.out.2.1] at hq2
          have hSQ := SQ_step HD.out HT.out.2.2.2 (t := ((k : Int) + 1)) (by omega) hq2
          rw [← HT.out.2.1] at hSQ
          have hqn := hSQ.1
          have c4 := hPl.hp.c4
          have x0 := hPl.times.at hqn
          have z0 := hPl.times.free q
          have q1 : (q : Int) < (n : Int) := by omega
          have n0 : ¬ n = 0 := by omega
          have K0 : ¬ K = 0 := by omega
          have j1 : (j : Int) < (K : Int) := by omega
          have hPl2 := hPl.setTime q ((k : Int) + 1)
          have hkS : Keeps (· = gt) wr (wr.setCell ⟨gt, q, none⟩ (.int .i64 ((k : Int) + 1))) := Keeps.setCell (S := (· = gt)) wr rfl _
          have h1 := H1.out
          have HN : Hid (Plan (wr.setCell ⟨gt, q, none⟩ (.int .i64 ((k : Int) + 1))) p B g gl gt n vs l (fun i => (lft l (putT T (Q.take j) (k + 1)) i : Nat)) (setT (putT T (Q.take j) (k + 1)) q ((k : Int) + 1)) v hl ∧ Keeps None w (wr.setCell ⟨gt, q, none⟩ (.int .i64 ((k : Int) + 1))) ∧ (wr.setCell ⟨gt, q, none⟩ (.int .i64 ((k : Int) + 1))).ownsRow R0 3 1 (.slice (some ⟨b, 0, none⟩) K sc) K (iv (nI Q))) := by
            refine ⟨hPl2, hkp.trans hkS (fun i e hi => by omega), row_kept hrow hkS (fun i e e2 => ?_)⟩
            have h2 := row_low hrow e
            have h3 := hPl.low.2.2.1
            have h4 := HB.out
            omega
          have HQ : Hid (Q[j]? = some q) := hq
          have HSQ : Hid (q < n ∧ putT T (Q.take j) ((k : Int) + 1) q = 0 ∧ (∀ x : Nat, (x : Int) ∈ flw l q → ¬ SQ n l T (putT T (Q.take j) ((k : Int) + 1)) Q x) ∧
              (∀ i, lft l (putT T (Q.take (j + 1)) ((k : Int) + 1)) i + (flw l q).count (i : Int) = lft l (putT T (Q.take j) ((k : Int) + 1)) i) ∧
              ∀ x, SQ n l T (putT T (Q.take (j + 1)) ((k : Int) + 1)) Q x ↔ SQ n l T (putT T (Q.take j) ((k : Int) + 1)) Q x ∨ ((x : Int) ∈ flw l q ∧ (lft l (putT T (Q.take j) ((k : Int) + 1)) x : Int) - ((flw l q).count (x : Int) : Nat) = 0)) := hSQ
          generalize putT T (Q.take j) (↑k + 1) q = xv at x0
          clear hPl hOf hkp hrow hvs hPl2 hkS h1 hSQ hq hq2 hqI
          go_wp2_with fail
          refine (free_any p B g gl gt n vs l _ _ v hl (SQ n l T (putT T (Q.take j) (k + 1)) Q) q _ HN.out.1 HD.out hqn HJ.out.2.1 (fun x hx => hx.1) (fun i hi => ?_) HSQ.out.2.2.1).mono ?_
          · have h2 := HSQ.out.2.2.2.1 i
            have h3 := lft_le l (putT T (Q.take j) (k + 1)) i
            have h4 := HD.out.len
            refine ⟨?_, ?_⟩
            · show ((flw l q).count (i : Int) : Int) ≤ (lft l (putT T (Q.take j) (k + 1)) i : Int)
              omega
            · show (lft l (putT T (Q.take j) (k + 1)) i : Int) ≤ 16384
              omega
          rintro _ w5 ⟨v5, hl5, rfl, hPl5, hO5, hk5, hv5⟩
          have HF : Hid (Plan w5 p B g gl gt n vs l (fun i => (lft l (putT T (Q.take (j + 1)) (k + 1)) i : Nat)) (putT T (Q.take (j + 1)) (k + 1)) v5 hl5 ∧ Of hl5 (SQ n l T (putT T (Q.take (j + 1)) (k + 1)) Q) ∧ Keeps None w w5 ∧ w5.ownsRow R0 3 1 (.slice (some ⟨b, 0, none⟩) K sc) K (iv (nI Q)) ∧ ∀ q, v5.ownBlock = some q → (Value.slice (some ⟨b, 0, none⟩) K sc).ownBlock ≠ some q) := by
            have h1 := H1.out
            have h4 := HB.out
            have h5 := HJ.out.1.low
            refine ⟨hPl5.congr (fun i _ => ?_) (fun i _ => ?_), hO5.congr (fun x => (HSQ.out.2.2.2.2 x).symm), HN.out.2.1.trans hk5 (fun i e hi => ?_), row_kept HN.out.2.2 hk5 (fun i e e2 => ?_), fun i e e2 => ?_⟩
            · have h2 := HSQ.out.2.2.2.1 i
              show (lft l (putT T (Q.take j) (k + 1)) i : Int) - ((flw l q).count (i : Int) : Nat) = (lft l (putT T (Q.take (j + 1)) (k + 1)) i : Int)
              omega
            · rw [List.take_add_one, HQ.out]
              exact (congrFun (put_snoc T (Q.take j) q (k + 1)) i).symm
            · rcases e with e | e | e
              · omega
              · omega
              · have := HJ.out.1.vg i e; omega
            · have h2 := row_low HN.out.2.2 e
              rcases e2 with e2 | e2 | e2
              · omega
              · omega
              · exact HJ.out.2.2.2.2 i e2 e
            · rcases hv5 with h2 | ⟨i2, h2, h3⟩
              · rw [h2] at e
                exact HJ.out.2.2.2.2 i e e2
              · rw [h2] at e
                injection e with e
                have := own_lt HN.out.2.2 e2
                omega
          clear hPl5 hO5 hk5 hv5
          go_wp2_with fail
          exact ⟨⟨j + 1, v5, hl5, by go_num, by omega, HF.out⟩, by simp [intOf]; omega⟩
        · have j1 : ¬ (j : Int) < (K : Int) := by omega
          have HF : Hid (Plan wr p B g gl gt n vs l (fun i => (lft l (runT n P l (k + 1)) i : Nat)) (runT n P l (k + 1)) v hl ∧ Of hl (fun x => x ∈ rds n l (runT n P l (k + 1))) ∧ Keeps None w wr) := by
            have e1 : Q.take j = Q := List.take_of_length_le (by have := HT.out.2.2.1; omega)
            have e2 : putT T Q (k + 1) = runT n P l (k + 1) := by
              rw [HT.out.2.1, put_all, HT.out.1]
              rfl
            rw [e1, e2] at hPl hOf
            refine ⟨hPl, hOf.congr (fun x => ?_), hkp⟩
            rw [HT.out.2.1]
            have h3 := SQ_end n P l T ((k : Int) + 1) (by omega) x
            rw [HT.out.1] at h3 ⊢
            exact h3
          clear hPl hOf hkp hrow hvs HJ
          go_wp2_with fail
          exact ⟨⟨k + 1, v, hl, by go_num, by omega, HF.out⟩, by simp [intOf]; omega⟩
end Go.Proofs.Ytnhoedodnbifdaa
