import Derived.Test.YtolhojagbiaamaaRcBefore
import Derived.Test.YtolhojagbiaamaaRcStepW
/-! The document's table, walked. -/
namespace Go.Proofs.Ytolhojagbiaamaa
set_option linter.unusedVariables false
set_option maxRecDepth 20000
set_option linter.unusedSimpArgs false
open Go.RowKit Go.HeapKit

/-- The rows of steps, as they are read. -/
structure FrM (w : World) (base n F : Nat) (K : Nat → Value) (L : Nat → List Nat) : Prop where
  rs : Rs w base K L
  fr : w.heap[F]? = some (.cells ((List.range n).map (fun k => K (2 * k))).toArray 33 (0, 0))
theorem FrM.kept {S : Nat → Prop} {w w' : World} {base n F : Nat} {K : Nat → Value} {L : Nat → List Nat} (h : FrM w base n F K L) (hk : Keeps S w w') (h1 : ¬ S F) (h2 : ∀ k b, (K k).ownBlock = some b → ¬ S b) : FrM w' base n F K L := ⟨h.rs.kept hk h2, blk_kept h.fr hk h1⟩
theorem FrM.more {w w' : World} {base n F : Nat} {K : Nat → Value} {L : Nat → List Nat} (h : FrM w base n F K L) (hk : Keeps None w w') : FrM w' base n F K L := h.kept hk (fun f => f) (fun _ _ _ f => f)
/-- A block of another kind is written. -/
theorem FrM.other {w w' : World} {base n F : Nat} {K : Nat → Value} {L : Nat → List Nat} (h : FrM w base n F K L) {p : Nat} (hk : Keeps (· = p) w w') {c : Array Value} {t : TypeId} {fz : Nat × Nat} (hp : w.heap[p]? = some (.cells c t fz)) (ht : t ≠ 3) (ht2 : t ≠ 33) : FrM w' base n F K L := by
  refine h.kept hk (fun e => ?_) (fun k b hb e => h.rs.ne hb hp ht e)
  have h1 := h.fr
  rw [e, hp] at h1
  injection h1 with h1
  injection h1 with _ h1
  exact ht2 h1
theorem frm_len (ds : List Dd) (k : Nat) : (frmN ds k).length ≤ k + 1 := by
  have h1 := out_le ds k
  unfold frmN
  rw [List.length_append]
  have h2 : (Cof (stN ds k)).getLast?.toList.length ≤ 1 := by cases (Cof (stN ds k)).getLast? <;> simp
  have h3 : (outOf ((ds.getD k ⟨3, 0⟩).k) (stN ds k)).length ≤ outSum (stN ds k) := by
    cases stN ds k with
    | nil => simp [outOf]
    | cons t r =>
      rw [out_cons]
      simp only [outSum]
      split
      · omega
      · simp
  omega
/-- What the table says, behind the first k rows. -/
def Says (l : List Dd) (n k : Nat) (M : Nat → Nat → Bool) : Prop := ∀ j, j < k → ∀ m, m < n → (M j m = true ↔ Ah l m j)
set_option maxHeartbeats 8000000 in
theorem before_ok (a : Option Addr) (n c : Nat) (l : List Dd) (w : World) (hS : Seen w a n l) (hf : Fine l) (hn : n ≤ 4096) :
    Calls Try.prog 36 #[.slice a n c] w fun e w' => ∃ G R M, e = .returned (.slice (some ⟨G, 0, none⟩) n n) ∧ BfM w' w.heap.size n n G R M ∧ Says l n n M ∧ Keeps None w w' := by
  have HS : Hid (Fine l ∧ n = l.length) := ⟨hf, hS.len⟩
  have HC : Hid _ := steps_ok a n c l w hS hf hn
  clear hS hf
  go_enter Try.func36, Try.ntmps36
  go_upto_region 3 with (go_at_call 46; refine Calls.mono HC.out ?_; rintro _ w1 ⟨F, K, L, rfl, hrs, hfr, hF, hL, hk1⟩)
  have hmk := make_rows n w1 hn
  have kA := Keeps.alloc None w1 (.cells (outB n 0 (fun _ => 0)) 57)
  have H1 : Hid (BfM (w1.alloc (.cells (outB n 0 (fun _ => 0)) 57)) w.heap.size n 0 w1.heap.size (fun _ => 0) (fun _ _ => false) ∧ FrM (w1.alloc (.cells (outB n 0 (fun _ => 0)) 57)) w.heap.size n F K L ∧ Keeps None w (w1.alloc (.cells (outB n 0 (fun _ => 0)) 57)) ∧ (∀ k, k < n → L (2 * k) = frmN l k)) := by
    refine ⟨⟨heap_alloc_new _ _, fun j hj => by omega, fun j k hj => by omega, by have := hk1.size; omega, fun j hj => by omega⟩, ⟨hrs.more kA, blk_kept hfr kA (fun f => f)⟩, hk1.trans kA (fun _ f _ => f), hL⟩
  obtain ⟨G, hG⟩ : ∃ G, G = w1.heap.size := ⟨_, rfl⟩
  obtain ⟨w2, hw2⟩ : ∃ w2, w2 = w1.alloc (.cells (outB n 0 (fun _ => 0)) 57) := ⟨_, rfl⟩
  rw [← hG] at hmk
  rw [← hw2] at hmk H1
  rw [← hG] at H1
  clear kA hrs hfr hF hL hk1 HC hG hw2
  go_wp2_with (at_make; refine wpList_make_run rfl (.tmp 14) (.tmp 14) 55 rfl rfl rfl hmk ?_)
  clear hmk
  have HL : Hid (∀ k, k < n → L (2 * k) = frmN l k) := H1.out.2.2.2
  go_loopw [6, 7, 8, 9] (fun i _ _ _ wr => ∃ (k : Nat) (R : Nat → Nat) (M : Nat → Nat → Bool), k ≤ n ∧ i = .int .i64 k ∧ BfM wr w.heap.size n k G R M ∧ FrM wr w.heap.size n F K L ∧ Says l n k M ∧ Keeps None w wr) (fun i _ _ _ _ => n - (intOf i).toNat)
  case atStart => exact ⟨0, _, _, Nat.zero_le _, rfl, H1.out.1, H1.out.2.1, fun j hj => by omega, H1.out.2.2.1⟩
  case round =>
    clear H1
    obtain ⟨k, R, M, hk, rfl, hB, hFr, hSy, hkp⟩ := hrel
    by_cases hkn : k < n
    · have hmk := make_bools n wr hn
      have hB2 := hB.add hkn (by have := hkp.size; omega)
      have gk : (wr.alloc (.cells (boolsA n (fun _ => false)) 4)).cell? ⟨G, k, none⟩ = some (.slice none 0 0) := by
        have := (cell_of_heap (hB.more (Keeps.alloc None wr (.cells (boolsA n (fun _ => false)) 4))).out k).trans (outB_at hkn)
        rw [this]; unfold vsB; rw [if_neg (by omega)]
      have gf := blk_free (hB.more (Keeps.alloc None wr (.cells (boolsA n (fun _ => false)) 4))).out k
      have i1 : (k : Int) < (n : Int) := by omega
      have hFr2 := hFr.other hB2.2 hB.out (by decide) (by decide)
      have hkp2 := hkp.trans hB2.2 (fun i e hi => by have := hB.lowG; omega)
      have HN : Hid (BfM ((wr.alloc (.cells (boolsA n (fun _ => false)) 4)).setCell ⟨G, k, none⟩ (.slice (some ⟨wr.heap.size, 0, none⟩) n n)) w.heap.size n (k + 1) G (updF R k wr.heap.size) (updF M k (fun _ => false)) ∧ FrM ((wr.alloc (.cells (boolsA n (fun _ => false)) 4)).setCell ⟨G, k, none⟩ (.slice (some ⟨wr.heap.size, 0, none⟩) n n)) w.heap.size n F K L ∧ Says l n k (updF M k (fun _ => false)) ∧ Keeps None w ((wr.alloc (.cells (boolsA n (fun _ => false)) 4)).setCell ⟨G, k, none⟩ (.slice (some ⟨wr.heap.size, 0, none⟩) n n))) :=
        ⟨hB2.1, hFr2, fun j hj m hm => by rw [updF_ne (by omega)]; exact hSy j hj m hm, hkp2⟩
      clear hB2 hFr2 hkp2 hB hFr hSy hkp
      go_wp2_with (at_make; refine wpList_make_run rfl (.tmp 23) (.tmp 23) 57 rfl rfl rfl hmk ?_)
      clear hmk gk gf
      generalize hW3 : ((wr.alloc (.cells (boolsA n (fun _ => false)) 4)).setCell ⟨G, k, none⟩ (.slice (some ⟨wr.heap.size, 0, none⟩) n n)) = W3 at HN ⊢
      clear hW3
      obtain ⟨R1, hR1⟩ : ∃ R1, R1 = updF R k wr.heap.size := ⟨_, rfl⟩
      obtain ⟨fl, hfl⟩ : ∃ fl : List Nat, fl = frmN l k := ⟨_, rfl⟩
      have HFL : Hid (fl = frmN l k ∧ L (2 * k) = fl) := ⟨hfl, by rw [hfl]; exact HL.out k hkn⟩
      rw [← hR1] at HN
      clear hR1 hfl
      go_loopw [7, 8, 9] (fun s7 _ _ wj => ∃ (j : Nat) (M2 : Nat → Nat → Bool), j ≤ fl.length ∧ s7 = .int .i64 j ∧ BfM wj w.heap.size n (k + 1) G R1 M2 ∧ FrM wj w.heap.size n F K L ∧ Says l n k M2 ∧ (∀ m, m < n → (M2 k m = true ↔ ∃ z ∈ fl.take j, m = z ∨ Ah l m z)) ∧ Keeps None w wj) (fun s7 _ _ _ => fl.length - (intOf s7).toNat)
      case atStart => exact ⟨0, _, Nat.zero_le _, rfl, HN.out.1, HN.out.2.1, HN.out.2.2.1, fun m hm => by rw [updF_eq]; simp, HN.out.2.2.2⟩
      case round =>
        clear HN
        obtain ⟨j, M2, hj, rfl, hB, hFr, hSy, hRow, hkp⟩ := hrel
        obtain ⟨hf, hnl⟩ := HS.out
        obtain ⟨hfl, hLk⟩ := HFL.out
        obtain ⟨oa, oc, hK⟩ := row_shape (hFr.rs.row (2 * k))
        rw [hLk] at hK
        have hcF : wr.cell? ⟨F, k, none⟩ = some (.slice oa fl.length oc) := ((cell_of_heap hFr.fr k).trans (range_getR _ _ _ hkn)).trans (by rw [hK])
        obtain ⟨fn, hfn⟩ : ∃ fn, fn = fl.length := ⟨_, rfl⟩
        have HFN : Hid (fn = fl.length) := hfn
        rw [← hfn] at hcF hK hj
        by_cases hjl : j < fn
        · have hrow := hFr.rs.row (2 * k)
          rw [hLk, hK, ← hfn] at hrow
          obtain ⟨go, hgo⟩ : ∃ go, oa = some ⟨go, 0, none⟩ := by
            rcases hrow.2 with ⟨_, h0⟩ | ⟨g', cap', cur, he, _⟩
            · omega
            · injection he with e1; exact ⟨g', e1⟩
          subst hgo
          obtain ⟨z, hz⟩ : ∃ z, fl[j]? = some z := ⟨fl[j]'(by omega), by simp⟩
          have cz := ints_at hrow hz
          have hzk : z < k := frm_lt hf (by omega) (by rw [← hfl]; exact List.mem_of_getElem? hz)
          have gk : wr.cell? ⟨G, k, none⟩ = some (.slice (some ⟨R1 k, 0, none⟩) n n) := ((cell_of_heap hB.out k).trans (outB_at hkn)).trans (by unfold vsB; rw [if_pos (by omega)])
          have rk : wr.cell? ⟨R1 k, z, none⟩ = some (.bool (M2 k z)) := (cell_of_heap (hB.row k (by omega)) z).trans (bools_at _ _ (by omega))
          have rf := blk_free (hB.row k (by omega)) z
          have hB3 := hB.put (j := k) (by omega) z true
          have hFr3 := hFr.other hB3.2 (hB.row k (by omega)) (by decide) (by decide)
          have hkp3 := hkp.trans hB3.2 (fun i e hi => by have := hB.low k (by omega); omega)
          have HN : Hid (BfM (wr.setCell ⟨R1 k, z, none⟩ (.bool true)) w.heap.size n (k + 1) G R1 (updF M2 k (updF (M2 k) z true)) ∧ FrM (wr.setCell ⟨R1 k, z, none⟩ (.bool true)) w.heap.size n F K L ∧ Says l n k (updF M2 k (updF (M2 k) z true)) ∧ (∀ m, m < n → (updF M2 k (updF (M2 k) z true) k m = true ↔ (∃ y ∈ fl.take j, m = y ∨ Ah l m y) ∨ m = z ∨ (m < 0 ∧ Ah l m z))) ∧ Keeps None w (wr.setCell ⟨R1 k, z, none⟩ (.bool true))) := by
            refine ⟨hB3.1, hFr3, fun q hq m hm => by rw [updF_ne (by omega)]; exact hSy q hq m hm, fun m hm => ?_, hkp3⟩
            rw [updF_eq]
            by_cases e : m = z
            · subst e; rw [updF_eq]; simp
            · rw [updF_ne e, hRow m hm]
              constructor
              · exact .inl
              · rintro (h | h | h)
                · exact h
                · exact (e h).elim
                · omega
          have HZ : Hid (fl[j]? = some z ∧ Fine l ∧ k < l.length ∧ fl = frmN l k) := ⟨hz, hf, by omega, hfl⟩
          have j1 : (j : Int) < (fn : Int) := by omega
          have j2 : (z : Int) < (n : Int) := by omega
          have j3 : (k : Int) < (n : Int) := by omega
          have j4 : fn ≤ 4098 := by have := frm_len l k; rw [hfn, hfl]; omega
          clear hf hnl hfl hLk hK hrow hB hFr hSy hRow hkp hB3 hFr3 hkp3 hz hfn
          go_wp2_with fail
          clear gk rk rf cz
          go_loopw [9] (fun s9 wm => ∃ (p : Nat) (M3 : Nat → Nat → Bool), p ≤ z ∧ s9 = .int .i64 p ∧ BfM wm w.heap.size n (k + 1) G R1 M3 ∧ FrM wm w.heap.size n F K L ∧ Says l n k M3 ∧ (∀ m, m < n → (M3 k m = true ↔ (∃ y ∈ fl.take j, m = y ∨ Ah l m y) ∨ m = z ∨ (m < p ∧ Ah l m z))) ∧ Keeps None w wm) (fun s9 _ => z - (intOf s9).toNat)
          case atStart => exact ⟨0, _, Nat.zero_le _, rfl, HN.out⟩
          case round =>
            clear HN
            obtain ⟨p, M3, hp, rfl, hB, hFr, hSy, hRow, hkp⟩ := hrel
            by_cases hpz : p < z
            · have gz : wr.cell? ⟨G, z, none⟩ = some (.slice (some ⟨R1 z, 0, none⟩) n n) := ((cell_of_heap hB.out z).trans (outB_at (by omega))).trans (by unfold vsB; rw [if_pos (by omega)])
              have gk : wr.cell? ⟨G, k, none⟩ = some (.slice (some ⟨R1 k, 0, none⟩) n n) := ((cell_of_heap hB.out k).trans (outB_at hkn)).trans (by unfold vsB; rw [if_pos (by omega)])
              have rz : wr.cell? ⟨R1 z, p, none⟩ = some (.bool (M3 z p)) := (cell_of_heap (hB.row z (by omega)) p).trans (bools_at _ _ (by omega))
              have rk : wr.cell? ⟨R1 k, p, none⟩ = some (.bool (M3 k p)) := (cell_of_heap (hB.row k (by omega)) p).trans (bools_at _ _ (by omega))
              have rf := blk_free (hB.row k (by omega)) p
              have p1 : (p : Int) < (z : Int) := by omega
              have p2 : (p : Int) < (n : Int) := by omega
              have hiff := hSy z hzk p (by omega)
              cases hMz : M3 z p with
              | true =>
                rw [hMz] at rz hiff
                have hB3 := hB.put (j := k) (by omega) p true
                have hFr3 := hFr.other hB3.2 (hB.row k (by omega)) (by decide) (by decide)
                have hkp3 := hkp.trans hB3.2 (fun i e hi => by have := hB.low k (by omega); omega)
                have HN : Hid (BfM (wr.setCell ⟨R1 k, p, none⟩ (.bool true)) w.heap.size n (k + 1) G R1 (updF M3 k (updF (M3 k) p true)) ∧ FrM (wr.setCell ⟨R1 k, p, none⟩ (.bool true)) w.heap.size n F K L ∧ Says l n k (updF M3 k (updF (M3 k) p true)) ∧ (∀ m, m < n → (updF M3 k (updF (M3 k) p true) k m = true ↔ (∃ y ∈ fl.take j, m = y ∨ Ah l m y) ∨ m = z ∨ (m < p + 1 ∧ Ah l m z))) ∧ Keeps None w (wr.setCell ⟨R1 k, p, none⟩ (.bool true))) := by
                  refine ⟨hB3.1, hFr3, fun q hq m hm => by rw [updF_ne (by omega)]; exact hSy q hq m hm, fun m hm => ?_, hkp3⟩
                  rw [updF_eq]
                  by_cases e : m = p
                  · subst e
                    rw [updF_eq]
                    simp only [true_iff]
                    exact .inr (.inr ⟨by omega, hiff.1 rfl⟩)
                  · rw [updF_ne e, hRow m hm]
                    constructor
                    · rintro (h | h | h)
                      · exact .inl h
                      · exact .inr (.inl h)
                      · exact .inr (.inr ⟨by omega, h.2⟩)
                    · rintro (h | h | h)
                      · exact .inl h
                      · exact .inr (.inl h)
                      · exact .inr (.inr ⟨by omega, h.2⟩)
                clear hB hFr hSy hRow hkp hB3 hFr3 hkp3 hiff hMz
                go_wp2
                go_roundw
                case rel => exact ⟨p + 1, _, by omega, by go_num, HN.out⟩
                case measure => simp [intOf]; omega
              | false =>
                rw [hMz] at rz hiff
                have HN : Hid (BfM wr w.heap.size n (k + 1) G R1 M3 ∧ FrM wr w.heap.size n F K L ∧ Says l n k M3 ∧ (∀ m, m < n → (M3 k m = true ↔ (∃ y ∈ fl.take j, m = y ∨ Ah l m y) ∨ m = z ∨ (m < p + 1 ∧ Ah l m z))) ∧ Keeps None w wr) := by
                  refine ⟨hB, hFr, hSy, fun m hm => ?_, hkp⟩
                  rw [hRow m hm]
                  constructor
                  · rintro (h | h | h)
                    · exact .inl h
                    · exact .inr (.inl h)
                    · exact .inr (.inr ⟨by omega, h.2⟩)
                  · rintro (h | h | h)
                    · exact .inl h
                    · exact .inr (.inl h)
                    · by_cases e : m = p
                      · subst e; exact absurd (hiff.2 h.2) (by simp)
                      · exact .inr (.inr ⟨by omega, h.2⟩)
                clear hB hFr hSy hRow hkp hiff hMz rf
                go_wp2
                go_roundw
                case rel => exact ⟨p + 1, _, by omega, by go_num, HN.out⟩
                case measure => simp [intOf]; omega
            · have hpz2 : p = z := by omega
              subst hpz2
              have HN : Hid (BfM wr w.heap.size n (k + 1) G R1 M3 ∧ FrM wr w.heap.size n F K L ∧ Says l n k M3 ∧ (∀ m, m < n → (M3 k m = true ↔ ∃ y ∈ fl.take (j + 1), m = y ∨ Ah l m y)) ∧ Keeps None w wr) := by
                obtain ⟨hz, hf, hkl, hfl⟩ := HZ.out
                refine ⟨hB, hFr, hSy, fun m hm => ?_, hkp⟩
                rw [hRow m hm, List.take_add_one, hz]
                simp only [Option.toList_some, List.mem_append, List.mem_singleton]
                constructor
                · rintro (⟨y, hy, h⟩ | h | h)
                  · exact ⟨y, .inl hy, h⟩
                  · exact ⟨p, .inr rfl, .inl h⟩
                  · exact ⟨p, .inr rfl, .inr h.2⟩
                · rintro ⟨y, hy | hy, h⟩
                  · exact .inl ⟨y, hy, h⟩
                  · subst hy
                    rcases h with h | h
                    · exact .inr (.inl h)
                    · exact .inr (.inr ⟨ah_lt hf (by omega) h, h⟩)
              clear hB hFr hSy hRow hkp
              go_wp2
              go_roundw
              case rel => exact ⟨j + 1, M3, by have := HFN.out; omega, by go_num, HN.out⟩
              case measure => have := HFN.out; simp [intOf]; omega
        · have hjl2 : j = fn := by omega
          have HN : Hid (BfM wr w.heap.size n (k + 1) G R1 M2 ∧ FrM wr w.heap.size n F K L ∧ Says l n (k + 1) M2 ∧ Keeps None w wr) := by
            refine ⟨hB, hFr, fun q hq m hm => ?_, hkp⟩
            by_cases e : q = k
            · subst e
              rw [hRow m hm, List.take_of_length_le (by omega), ah_iff, ← hfl]
            · exact hSy q (by omega) m hm
          subst hjl2
          clear hf hnl hfl hLk hK hB hFr hSy hRow hkp hfn
          go_wp2
          go_roundw
          case rel => exact ⟨k + 1, R1, M2, by omega, by go_num, HN.out⟩
          case measure => simp [intOf]; omega
    · have hkn2 : k = n := by omega
      subst hkn2
      have HN : Hid (BfM wr w.heap.size k k G R M ∧ Says l k k M ∧ Keeps None w wr) := ⟨hB, hSy, hkp⟩
      clear hB hFr hSy hkp
      go_wp2
      go_ret
      exact ⟨G, R, M, rfl, HN.out⟩
end Go.Proofs.Ytolhojagbiaamaa
