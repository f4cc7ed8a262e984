import Derived.Test.YtolhojagbiaamaaPkAD
import Derived.Test.YtolhojagbiaamaaPkAE
import Derived.Test.YtolhojagbiaamaaPkAA
import Derived.Deep.RegionHeld3
import Derived.Deep.DeepCutAuto
import Derived.Deep.Cut
import Derived.Laws.StructEq
/-! The document's table, walked. -/
namespace Go.Proofs.Ytolhojagbiaamaa
set_option linter.unusedVariables false
set_option maxRecDepth 20000
set_option linter.unusedSimpArgs false
open Go.RowKit Go.HeapKit

/-- The rows of steps, as they are read. -/
structure FrM (w : World) (base n F : Nat) (K : Nat → Value) (L : Nat → List Nat) : Prop where
  rs : Rs w base K L
  fr : w.heap[F]? = some (.cells ((List.range n).map (fun k => K (2 * k))).toArray 33 (0, 0))
theorem FrM.kept {S : Nat → Prop} {w w' : World} {base n F : Nat} {K : Nat → Value} {L : Nat → List Nat} (h : FrM w base n F K L) (hk : Keeps S w w') (h1 : ¬ S F) (h2 : ∀ k b, (K k).ownBlock = some b → ¬ S b) : FrM w' base n F K L := ⟨h.rs.kept hk h2, blk_kept h.fr hk h1⟩
theorem FrM.more {w w' : World} {base n F : Nat} {K : Nat → Value} {L : Nat → List Nat} (h : FrM w base n F K L) (hk : Keeps None w w') : FrM w' base n F K L := h.kept hk (fun f => f) (fun _ _ _ f => f)
/-- A block of another kind is written. -/
theorem FrM.other {w w' : World} {base n F : Nat} {K : Nat → Value} {L : Nat → List Nat} (h : FrM w base n F K L) {p : Nat} (hk : Keeps (· = p) w w') {c : Array Value} {t : TypeId} {fz : Nat × Nat} (hp : w.heap[p]? = some (.cells c t fz)) (ht : t ≠ 3) (ht2 : t ≠ 33) : FrM w' base n F K L := by
  refine h.kept hk (fun e => ?_) (fun k b hb e => h.rs.ne hb hp ht e)
  have h1 := h.fr
  rw [e, hp] at h1
  injection h1 with h1
  injection h1 with _ h1
  exact ht2 h1
theorem frm_len (ds : List Dd) (k : Nat) : (frmN ds k).length ≤ k + 1 := by
  have h1 := out_le ds k
  unfold frmN
  rw [List.length_append]
  have h2 : (Cof (stN ds k)).getLast?.toList.length ≤ 1 := by cases (Cof (stN ds k)).getLast? <;> simp
  have h3 : (outOf ((ds.getD k ⟨3, 0⟩).k) (stN ds k)).length ≤ outSum (stN ds k) := by
    cases stN ds k with
    | nil => simp [outOf]
    | cons t r =>
      rw [out_cons]
      simp only [outSum]
      split
      · omega
      · simp
  omega
/-- What the table says, behind the first k rows. -/
def Says (l : List Dd) (n k : Nat) (M : Nat → Nat → Bool) : Prop := ∀ j, j < k → ∀ m, m < n → (M j m = true ↔ Ah l m j)
set_option maxHeartbeats 8000000 in
theorem before_ok (a : Option Addr) (n c : Nat) (l : List Dd) (w : World) (hS : Seen w a n l) (hf : Fine l) (hn : n ≤ 4096) :
    Calls Try.prog 36 #[.slice a n c] w fun e w' => ∃ G R M, e = .returned (.slice (some ⟨G, 0, none⟩) n n) ∧ BfM w' w.heap.size n n G R M ∧ Says l n n M ∧ Keeps None w w' := by
  have HS : Hid (Fine l ∧ n = l.length) := ⟨hf, hS.len⟩
  have HC : Hid _ := steps_ok a n c l w hS hf hn
  clear hS hf
  go_enter Try.func36, Try.ntmps36
  go_upto_region 3 with (go_at_call 46; refine Calls.mono HC.out ?_; rintro _ w1 ⟨F, K, L, rfl, hrs, hfr, hF, hL, hk1⟩)
  have hmk := make_rows n w1 hn
  have kA := Keeps.alloc None w1 (.cells (outB n 0 (fun _ => 0)) 57)
  have H1 : Hid (BfM (w1.alloc (.cells (outB n 0 (fun _ => 0)) 57)) w.heap.size n 0 w1.heap.size (fun _ => 0) (fun _ _ => false) ∧ FrM (w1.alloc (.cells (outB n 0 (fun _ => 0)) 57)) w.heap.size n F K L ∧ Keeps None w (w1.alloc (.cells (outB n 0 (fun _ => 0)) 57)) ∧ (∀ k, k < n → L (2 * k) = frmN l k)) := by
    refine ⟨⟨heap_alloc_new _ _, fun j hj => by omega, fun j k hj => by omega, by have := hk1.size; omega, fun j hj => by omega⟩, ⟨hrs.more kA, blk_kept hfr kA (fun f => f)⟩, hk1.trans kA (fun _ f _ => f), hL⟩
  obtain ⟨G, hG⟩ : ∃ G, G = w1.heap.size := ⟨_, rfl⟩
  obtain ⟨w2, hw2⟩ : ∃ w2, w2 = w1.alloc (.cells (outB n 0 (fun _ => 0)) 57) := ⟨_, rfl⟩
  rw [← hG] at hmk
  rw [← hw2] at hmk H1
  rw [← hG] at H1
  clear kA hrs hfr hF hL hk1 HC hG hw2
  go_wp2_with (at_make; refine wpList_make_run rfl (.tmp 14) (.tmp 14) 55 rfl rfl rfl hmk ?_)
  clear hmk
  have HL : Hid (∀ k, k < n → L (2 * k) = frmN l k) := H1.out.2.2.2
  go_loopw [6, 7, 8, 9] (fun i _ _ _ wr => ∃ (k : Nat) (R : Nat → Nat) (M : Nat → Nat → Bool), k ≤ n ∧ i = .int .i64 k ∧ BfM wr w.heap.size n k G R M ∧ FrM wr w.heap.size n F K L ∧ Says l n k M ∧ Keeps None w wr) (fun i _ _ _ _ => n - (intOf i).toNat)
  case atStart => exact ⟨0, _, _, Nat.zero_le _, rfl, H1.out.1, H1.out.2.1, fun j hj => by omega, H1.out.2.2.1⟩
  case round =>
    clear H1
    obtain ⟨k, R, M, hk, rfl, hB, hFr, hSy, hkp⟩ := hrel
    by_cases hkn : k < n
    · have hmk := make_bools n wr hn
      have hB2 := hB.add hkn (by have := hkp.size; omega)
      have gk : (wr.alloc (.cells (boolsA n (fun _ => false)) 4)).cell? ⟨G, k, none⟩ = some (.slice none 0 0) := by
        have := (cell_of_heap (hB.more (Keeps.alloc None wr (.cells (boolsA n (fun _ => false)) 4))).out k).trans (outB_at hkn)
        rw [this]; unfold vsB; rw [if_neg (by omega)]
      have gf := blk_free (hB.more (Keeps.alloc None wr (.cells (boolsA n (fun _ => false)) 4))).out k
      have i1 : (k : Int) < (n : Int) := by omega
      have hFr2 := hFr.other hB2.2 hB.out (by decide) (by decide)
      have hkp2 := hkp.trans hB2.2 (fun i e hi => by have := hB.lowG; omega)
      have HN : Hid (BfM ((wr.alloc (.cells (boolsA n (fun _ => false)) 4)).setCell ⟨G, k, none⟩ (.slice (some ⟨wr.heap.size, 0, none⟩) n n)) w.heap.size n (k + 1) G (updF R k wr.heap.size) (updF M k (fun _ => false)) ∧ FrM ((wr.alloc (.cells (boolsA n (fun _ => false)) 4)).setCell ⟨G, k, none⟩ (.slice (some ⟨wr.heap.size, 0, none⟩) n n)) w.heap.size n F K L ∧ Says l n k (updF M k (fun _ => false)) ∧ Keeps None w ((wr.alloc (.cells (boolsA n (fun _ => false)) 4)).setCell ⟨G, k, none⟩ (.slice (some ⟨wr.heap.size, 0, none⟩) n n))) :=
        ⟨hB2.1, hFr2, fun j hj m hm => by rw [updF_ne (by omega)]; exact hSy j hj m hm, hkp2⟩
      clear hB2 hFr2 hkp2 hB hFr hSy hkp
      go_wp2_with (at_make; refine wpList_make_run rfl (.tmp 23) (.tmp 23) 57 rfl rfl rfl hmk ?_)
      clear hmk gk gf
      generalize hW3 : ((wr.alloc (.cells (boolsA n (fun _ => false)) 4)).setCell ⟨G, k, none⟩ (.slice (some ⟨wr.heap.size, 0, none⟩) n n)) = W3 at HN ⊢
      clear hW3
      obtain ⟨R1, hR1⟩ : ∃ R1, R1 = updF R k wr.heap.size := ⟨_, rfl⟩
      obtain ⟨fl, hfl⟩ : ∃ fl : List Nat, fl = frmN l k := ⟨_, rfl⟩
      have HFL : Hid (fl = frmN l k ∧ L (2 * k) = fl) := ⟨hfl, by rw [hfl]; exact HL.out k hkn⟩
      rw [← hR1] at HN
      clear hR1 hfl
      go_loopw [7, 8, 9] (fun s7 _ _ wj => ∃ (j : Nat) (M2 : Nat → Nat → Bool), j ≤ fl.length ∧ s7 = .int .i64 j ∧ BfM wj w.heap.size n (k + 1) G R1 M2 ∧ FrM wj w.heap.size n F K L ∧ Says l n k M2 ∧ (∀ m, m < n → (M2 k m = true ↔ ∃ z ∈ fl.take j, m = z ∨ Ah l m z)) ∧ Keeps None w wj) (fun s7 _ _ _ => fl.length - (intOf s7).toNat)
      case atStart => exact ⟨0, _, Nat.zero_le _, rfl, HN.out.1, HN.out.2.1, HN.out.2.2.1, fun m hm => by rw [updF_eq]; simp, HN.out.2.2.2⟩
      case round =>
        clear HN
        obtain ⟨j, M2, hj, rfl, hB, hFr, hSy, hRow, hkp⟩ := hrel
        obtain ⟨hf, hnl⟩ := HS.out
        obtain ⟨hfl, hLk⟩ := HFL.out
        obtain ⟨oa, oc, hK⟩ := row_shape (hFr.rs.row (2 * k))
        rw [hLk] at hK
        have hcF : wr.cell? ⟨F, k, none⟩ = some (.slice oa fl.length oc) := ((cell_of_heap hFr.fr k).trans (range_getR _ _ _ hkn)).trans (by rw [hK])
        obtain ⟨fn, hfn⟩ : ∃ fn, fn = fl.length := ⟨_, rfl⟩
        have HFN : Hid (fn = fl.length) := hfn
        rw [← hfn] at hcF hK hj
        by_cases hjl : j < fn
        · have hrow := hFr.rs.row (2 * k)
          rw [hLk, hK, ← hfn] at hrow
          obtain ⟨go, hgo⟩ : ∃ go, oa = some ⟨go, 0, none⟩ := by
            rcases hrow.2 with ⟨_, h0⟩ | ⟨g', cap', cur, he, _⟩
            · omega
            · injection he with e1; exact ⟨g', e1⟩
          subst hgo
          obtain ⟨z, hz⟩ : ∃ z, fl[j]? = some z := ⟨fl[j]'(by omega), by simp⟩
          have cz := ints_at hrow hz
          have hzk : z < k := frm_lt hf (by omega) (by rw [← hfl]; exact List.mem_of_getElem? hz)
          have gk : wr.cell? ⟨G, k, none⟩ = some (.slice (some ⟨R1 k, 0, none⟩) n n) := ((cell_of_heap hB.out k).trans (outB_at hkn)).trans (by unfold vsB; rw [if_pos (by omega)])
          have rk : wr.cell? ⟨R1 k, z, none⟩ = some (.bool (M2 k z)) := (cell_of_heap (hB.row k (by omega)) z).trans (bools_at _ _ (by omega))
          have rf := blk_free (hB.row k (by omega)) z
          have hB3 := hB.put (j := k) (by omega) z true
          have hFr3 := hFr.other hB3.2 (hB.row k (by omega)) (by decide) (by decide)
          have hkp3 := hkp.trans hB3.2 (fun i e hi => by have := hB.low k (by omega); omega)
          have HN : Hid (BfM (wr.setCell ⟨R1 k, z, none⟩ (.bool true)) w.heap.size n (k + 1) G R1 (updF M2 k (updF (M2 k) z true)) ∧ FrM (wr.setCell ⟨R1 k, z, none⟩ (.bool true)) w.heap.size n F K L ∧ Says l n k (updF M2 k (updF (M2 k) z true)) ∧ (∀ m, m < n → (updF M2 k (updF (M2 k) z true) k m = true ↔ (∃ y ∈ fl.take j, m = y ∨ Ah l m y) ∨ m = z ∨ (m < 0 ∧ Ah l m z))) ∧ Keeps None w (wr.setCell ⟨R1 k, z, none⟩ (.bool true))) := by
            refine ⟨hB3.1, hFr3, fun q hq m hm => by rw [updF_ne (by omega)]; exact hSy q hq m hm, fun m hm => ?_, hkp3⟩
            rw [updF_eq]
            by_cases e : m = z
            · subst e; rw [updF_eq]; simp
            · rw [updF_ne e, hRow m hm]
              constructor
              · exact .inl
              · rintro (h | h | h)
                · exact h
                · exact (e h).elim
                · omega
          have HZ : Hid (fl[j]? = some z ∧ Fine l ∧ k < l.length ∧ fl = frmN l k) := ⟨hz, hf, by omega, hfl⟩
          have j1 : (j : Int) < (fn : Int) := by omega
          have j2 : (z : Int) < (n : Int) := by omega
          have j3 : (k : Int) < (n : Int) := by omega
          have j4 : fn ≤ 4098 := by have := frm_len l k; rw [hfn, hfl]; omega
          clear hf hnl hfl hLk hK hrow hB hFr hSy hRow hkp hB3 hFr3 hkp3 hz hfn
          go_wp2_with fail
          clear gk rk rf cz
          go_loopw [9] (fun s9 wm => ∃ (p : Nat) (M3 : Nat → Nat → Bool), p ≤ z ∧ s9 = .int .i64 p ∧ BfM wm w.heap.size n (k + 1) G R1 M3 ∧ FrM wm w.heap.size n F K L ∧ Says l n k M3 ∧ (∀ m, m < n → (M3 k m = true ↔ (∃ y ∈ fl.take j, m = y ∨ Ah l m y) ∨ m = z ∨ (m < p ∧ Ah l m z))) ∧ Keeps None w wm) (fun s9 _ => z - (intOf s9).toNat)
          case atStart => exact ⟨0, _, Nat.zero_le _, rfl, HN.out⟩
          case round =>
            clear HN
            obtain ⟨p, M3, hp, rfl, hB, hFr, hSy, hRow, hkp⟩ := hrel
            by_cases hpz : p < z
            · have gz : wr.cell? ⟨G, z, none⟩ = some (.slice (some ⟨R1 z, 0, none⟩) n n) := ((cell_of_heap hB.out z).trans (outB_at (by omega))).trans (by unfold vsB; rw [if_pos (by omega)])
              have gk : wr.cell? ⟨G, k, none⟩ = some (.slice (some ⟨R1 k, 0, none⟩) n n) := ((cell_of_heap hB.out k).trans (outB_at hkn)).trans (by unfold vsB; rw [if_pos (by omega)])
              have rz : wr.cell? ⟨R1 z, p, none⟩ = some (.bool (M3 z p)) := (cell_of_heap (hB.row z (by omega)) p).trans (bools_at _ _ (by omega))
              have rk : wr.cell? ⟨R1 k, p, none⟩ = some (.bool (M3 k p)) := (cell_of_heap (hB.row k (by omega)) p).trans (bools_at _ _ (by omega))
              have rf := blk_free (hB.row k (by omega)) p
              have p1 : (p : Int) < (z : Int) := by omega
              have p2 : (p : Int) < (n : Int) := by omega
              have hiff := hSy z hzk p (by omega)
              cases hMz : M3 z p with
              | true =>
                rw [hMz] at rz hiff
                have hB3 := hB.put (j := k) (by omega) p true
                have hFr3 := hFr.other hB3.2 (hB.row k (by omega)) (by decide) (by decide)
                have hkp3 := hkp.trans hB3.2 (fun i e hi => by have := hB.low k (by omega); omega)
                have HN : Hid (BfM (wr.setCell ⟨R1 k, p, none⟩ (.bool true)) w.heap.size n (k + 1) G R1 (updF M3 k (updF (M3 k) p true)) ∧ FrM (wr.setCell ⟨R1 k, p, none⟩ (.bool true)) w.heap.size n F K L ∧ Says l n k (updF M3 k (updF (M3 k) p true)) ∧ (∀ m, m < n → (updF M3 k (updF (M3 k) p true) k m = true ↔ (∃ y ∈ fl.take j, m = y ∨ Ah l m y) ∨ m = z ∨ (m < p + 1 ∧ Ah l m z))) ∧ Keeps None w (wr.setCell ⟨R1 k, p, none⟩ (.bool true))) := by
                  refine ⟨hB3.1, hFr3, fun q hq m hm => by rw [updF_ne (by omega)]; exact hSy q hq m hm, fun m hm => ?_, hkp3⟩
                  rw [updF_eq]
                  by_cases e : m = p
                  · subst e
                    rw [updF_eq]
                    simp only [true_iff]
                    exact .inr (.inr ⟨by omega, hiff.1 rfl⟩)
                  · rw [updF_ne e, hRow m hm]
                    constructor
                    · rintro (h | h | h)
                      · exact .inl h
                      · exact .inr (.inl h)
                      · exact .inr (.inr ⟨by omega, h.2⟩)
                    · rintro (h | h | h)
                      · exact .inl h
                      · exact .inr (.inl h)
                      · exact .inr (.inr ⟨by omega, h.2⟩)
                clear hB hFr hSy hRow hkp hB3 hFr3 hkp3 hiff hMz
                go_wp2
                go_roundw
                case rel => exact ⟨p + 1, _, by omega, by go_num, HN.out⟩
                case measure => simp [intOf]; omega
              | false =>
                rw [hMz] at rz hiff
                have HN : Hid (BfM wr w.heap.size n (k + 1) G R1 M3 ∧ FrM wr w.heap.size n F K L ∧ Says l n k M3 ∧ (∀ m, m < n → (M3 k m = true ↔ (∃ y ∈ fl.take j, m = y ∨ Ah l m y) ∨ m = z ∨ (m < p + 1 ∧ Ah l m z))) ∧ Keeps None w wr) := by
                  refine ⟨hB, hFr, hSy, fun m hm => ?_, hkp⟩
                  rw [hRow m hm]
                  constructor
                  · rintro (h | h | h)
                    · exact .inl h
                    · exact .inr (.inl h)
                    · exact .inr (.inr ⟨by omega, h.2⟩)
                  · rintro (h | h | h)
                    · exact .inl h
                    · exact .inr (.inl h)
                    · by_cases e : m = p
                      · subst e; exact absurd (hiff.2 h.2) (by simp)
                      · exact .inr (.inr ⟨by omega, h.2⟩)
                clear hB hFr hSy hRow hkp hiff hMz rf
                go_wp2
                go_roundw
                case rel => exact ⟨p + 1, _, by omega, by go_num, HN.out⟩
                case measure => simp [intOf]; omega
            · have hpz2 : p = z := by omega
              subst hpz2
              have HN : Hid (BfM wr w.heap.size n (k + 1) G R1 M3 ∧ FrM wr w.heap.size n F K L ∧ Says l n k M3 ∧ (∀ m, m < n → (M3 k m = true ↔ ∃ y ∈ fl.take (j + 1), m = y ∨ Ah l m y)) ∧ Keeps None w wr) := by
                obtain ⟨hz, hf, hkl, hfl⟩ := HZ.out
                refine ⟨hB, hFr, hSy, fun m hm => ?_, hkp⟩
                rw [hRow m hm, List.take_add_one, hz]
                simp only [Option.toList_some, List.mem_append, List.mem_singleton]
                constructor
                · rintro (⟨y, hy, h⟩ | h | h)
                  · exact ⟨y, .inl hy, h⟩
                  · exact ⟨p, .inr rfl, .inl h⟩
                  · exact ⟨p, .inr rfl, .inr h.2⟩
                · rintro ⟨y, hy | hy, h⟩
                  · exact .inl ⟨y, hy, h⟩
                  · subst hy
                    rcases h with h | h
                    · exact .inr (.inl h)
                    · exact .inr (.inr ⟨ah_lt hf (by omega) h, h⟩)
              clear hB hFr hSy hRow hkp
              go_wp2
              go_roundw
              case rel => exact ⟨j + 1, M3, by have := HFN.out; omega, by go_num, HN.out⟩
              case measure => have := HFN.out; simp [intOf]; omega
        · have hjl2 : j = fn := by omega
          have HN : Hid (BfM wr w.heap.size n (k + 1) G R1 M2 ∧ FrM wr w.heap.size n F K L ∧ Says l n (k + 1) M2 ∧ Keeps None w wr) := by
            refine ⟨hB, hFr, fun q hq m hm => ?_, hkp⟩
            by_cases e : q = k
            · subst e
              rw [hRow m hm, List.take_of_length_le (by omega), ah_iff, ← hfl]
            · exact hSy q (by omega) m hm
          subst hjl2
          clear hf hnl hfl hLk hK hB hFr hSy hRow hkp hfn
          go_wp2
          go_roundw
          case rel => exact ⟨k + 1, R1, M2, by omega, by go_num, HN.out⟩
          case measure => simp [intOf]; omega
    · have hkn2 : k = n := by omega
      subst hkn2
      have HN : Hid (BfM wr w.heap.size k k G R M ∧ Says l k k M ∧ Keeps None w wr) := ⟨hB, hSy, hkp⟩
      clear hB hFr hSy hkp
      go_wp2
      go_ret
      exact ⟨G, R, M, rfl, HN.out⟩
end Go.Proofs.Ytolhojagbiaamaa
/-! What the laws of deeds hand in: a copy with odd ones behind it, other deeds, deeds laid in. -/
namespace Go.Proofs.Ytolhojagbiaamaa
set_option linter.unusedVariables false
set_option maxRecDepth 20000
set_option linter.unusedSimpArgs false
open Go.RowKit Go.HeapKit

def odd1 : Dd := ⟨77, 5⟩
def odd2 : Dd := ⟨78, 6⟩
/-- A list of n deeds of the law's own, with the odd ones behind it. -/
def Spare (w : World) (base g n : Nat) (l : List Dd) : Prop := n = l.length ∧ IsD w base g (n + 2) (n + 2) (l ++ [odd1, odd2])
theorem made_two (n : Nat) : madeCells (Value.agg #[.int .i64 0, .int .i64 0]).cells (n * 2) = (ddVals (List.replicate n ⟨0, 0⟩)).toArray := by
  have hl : (ddVals (List.replicate n ⟨0, 0⟩)).length = n * 2 := by rw [ddVals_length]; simp
  have hc : (Value.agg #[.int .i64 0, .int .i64 0]).cells = #[.int .i64 0, .int .i64 0] := by kernel_rfl
  rw [hc]
  apply Array.ext
  · rw [size_madeCells]; simpa using hl.symm
  · intro i h1 h2
    have hi : i < n * 2 := by rwa [size_madeCells] at h1
    have hq : (List.replicate n (⟨0, 0⟩ : Dd))[i / 2]? = some ⟨0, 0⟩ := by rw [List.getElem?_replicate, if_pos (by omega)]
    have hv : (ddVals (List.replicate n (⟨0, 0⟩ : Dd)))[i]? = some (.int .i64 0) := by
      rcases Nat.mod_two_eq_zero_or_one i with h | h
      · have := ddVals_at _ _ _ hq 0 (.int .i64 0) rfl
        rwa [show i / 2 * 2 + 0 = i by omega] at this
      · have := ddVals_at _ _ _ hq 1 (.int .i64 0) rfl
        rwa [show i / 2 * 2 + 1 = i by omega] at this
    have hr : (ddVals (List.replicate n (⟨0, 0⟩ : Dd))).toArray[i] = .int .i64 0 := by
      have := (List.getElem?_eq_some_iff.1 hv).2
      simpa using this
    rw [hr]
    rcases Nat.mod_two_eq_zero_or_one i with h | h <;> simp [madeCells, h]
theorem make_deeds (n : Nat) (w : World) (hn : n * 16 ≤ 140737488355328) : ∃ w', (Instr.makeSlice 22 (.int .i64 n) (.int .i64 n)).run Try.prog w = .ok (.slice (some ⟨w.heap.size, 0, none⟩) n n) w' ∧ IsD w' w.heap.size w.heap.size n n (List.replicate n ⟨0, 0⟩) ∧ Keeps None w w' := by
  obtain ⟨i0, hi, hz0, hz1, hz2⟩ := info_parts Try.infoDeed
  obtain ⟨M, hM, hs, hr⟩ := run_make_block (P := Try.prog) (w := w) 22 51 i0 _ 2 16 Try.underlying22 hi hz0 hz1 hz2 n (by omega) (by omega)
  rw [made_two] at hM
  refine ⟨_, hr, ⟨by simp, by rw [ddVals_length]; simp, .inr ⟨_, _, M, rfl, Nat.le_refl _, heap_alloc_new _ _, Nat.le_refl _, ?_, ?_, ?_⟩⟩, Keeps.alloc None w _⟩
  all_goals first
    | (unfold maxLen; omega)
    | (rw [hM]; simp [ddVals_length]; done)
    | (rw [hM]; exact List.take_of_length_le (by rw [ddVals_length]; simp))
theorem wrap_small {x : Int} (h1 : -9223372036854775808 ≤ x) (h2 : x ≤ 9223372036854775807) : wrap64 x = x := by unfold wrap64; omega
theorem take_more {l : List Dd} {k : Nat} {x : Dd} (hx : l[k]? = some x) : l.take (k + 1) = l.take k ++ [x] := by
  rw [List.take_add_one, hx]
  rfl
theorem take_setD {l l2 : List Dd} {k : Nat} {x : Dd} (hx : l[k]? = some x) (hl : l.length ≤ l2.length) : (l.take k ++ l2.drop k).set k x = l.take (k + 1) ++ l2.drop (k + 1) := by
  have hk := (List.getElem?_eq_some_iff.1 hx).1
  rw [take_more hx, List.set_append_right _ _ (by simp; omega), List.append_assoc]
  congr 1
  rw [show k - (l.take k).length = 0 by simp; omega]
  rw [List.drop_eq_getElem_cons (show k < l2.length by omega)]
  rfl

set_option maxHeartbeats 1600000 in
theorem spare_ok (a : Option Addr) (n c : Nat) (l : List Dd) (w : World) (hS : Seen w a n l) (hn : (n + 2) * 16 ≤ 140737488355328) :
    Calls Try.prog 9 #[.slice a n c] w fun e w' => ∃ g, e = .returned (.slice (some ⟨g, 0, none⟩) (n + 2) (n + 2)) ∧ Spare w' w.heap.size g n l ∧ Keeps None w w' := by
  have HS : Hid (Seen w a n l) := hS
  clear hS
  obtain ⟨wm, hr, hD, hkm⟩ := make_deeds (n + 2) w hn
  have hw2 : wrap64 ((n : Int) + 2) = ((n + 2 : Nat) : Int) := wrap_small (by omega) (by omega)
  have HM : Hid (IsD wm w.heap.size w.heap.size (n + 2) (n + 2) (List.replicate (n + 2) ⟨0, 0⟩) ∧ Keeps None w wm) := ⟨hD, hkm⟩
  clear hD hkm
  go_enter Try.func9, Try.ntmps9
  go_wp2_with (at_make; refine wpList_make_run rfl (.tmp 9) (.tmp 9) 22 rfl rfl rfl hr ?_)
  clear hr
  go_loopw [5] (fun i wr => ∃ k : Nat, k ≤ n ∧ i = .int .i64 k ∧ IsD wr w.heap.size w.heap.size (n + 2) (n + 2) (l.take k ++ (List.replicate (n + 2) ⟨0, 0⟩).drop k) ∧ Keeps None w wr) (fun i _ => n - (intOf i).toNat)
  case atStart => exact ⟨0, Nat.zero_le _, rfl, by simpa using HM.out.1, HM.out.2⟩
  case round =>
    clear HM
    obtain ⟨k, hk, rfl, hD, hkp⟩ := hrel
    have hlen := HS.out.len
    by_cases hkn : k < n
    · obtain ⟨b, off, x, rfl, hb, hx, u0, u1⟩ := (HS.out.more hkp).elem hkn
      obtain ⟨y, hy⟩ : ∃ y, (l.take k ++ (List.replicate (n + 2) (⟨0, 0⟩ : Dd)).drop k)[k]? = some y := ⟨_, List.getElem?_eq_getElem (by simp; omega)⟩
      obtain ⟨v0, v1⟩ := hD.elem hy
      have f0 := hD.free (k * 2)
      have f1 := hD.free (k * 2 + 1)
      have i2 : (k : Int) < (n : Int) := by omega
      have HN : Hid (IsD (set2 wr w.heap.size (k * 2) x) w.heap.size w.heap.size (n + 2) (n + 2) (l.take (k + 1) ++ (List.replicate (n + 2) ⟨0, 0⟩).drop (k + 1)) ∧ Keeps None w (set2 wr w.heap.size (k * 2) x)) := by
        have := hD.put (k := k) (by omega) x
        rw [take_setD hx (by simp; omega)] at this
        exact ⟨this, hkp.trans (keeps_set2 wr w.heap.size (k * 2) x) (fun i e hi => by omega)⟩
      clear hD hkp hx hy hlen
      go_wp2
      go_roundw
      case rel => exact ⟨k + 1, by omega, by go_num, HN.out⟩
      case measure => simp [intOf]; omega
    · have hkn2 : k = n := by omega
      subst hkn2
      have hd2 : (l.take k ++ (List.replicate (k + 2) (⟨0, 0⟩ : Dd)).drop k) = l ++ [⟨0, 0⟩, ⟨0, 0⟩] := by
        rw [List.take_of_length_le (by omega), List.drop_replicate, show k + 2 - k = 2 by omega]
        rfl
      rw [hd2] at hD
      clear hd2
      obtain ⟨v0, v1⟩ := hD.elem (k := k) (x := ⟨0, 0⟩) (by rw [List.getElem?_append_right (by omega)]; simp [← hlen])
      obtain ⟨v2, v3⟩ := hD.elem (k := k + 1) (x := ⟨0, 0⟩) (by rw [List.getElem?_append_right (by omega)]; simp [← hlen])
      have f0 := hD.free (k * 2)
      have f1 := hD.free (k * 2 + 1)
      have f2 := hD.free ((k + 1) * 2)
      have f3 := hD.free ((k + 1) * 2 + 1)
      have hw1 : wrap64 ((k : Int) + 1) = ((k + 1 : Nat) : Int) := wrap_small (by omega) (by omega)
      have hD1 := hD.put (k := k) (by omega) odd1
      have hD2 := hD1.put (k := k + 1) (by omega) odd2
      have z2 := (hD1.elem (k := k + 1) (x := ⟨0, 0⟩) (by rw [List.getElem?_set_ne (by omega), List.getElem?_append_right (by omega)]; simp [← hlen]))
      obtain ⟨z2, z3⟩ := z2
      have z4 := hD1.free ((k + 1) * 2)
      have z5 := hD1.free ((k + 1) * 2 + 1)
      have HN : Hid (Spare (set2 (set2 wr w.heap.size (k * 2) odd1) w.heap.size ((k + 1) * 2) odd2) w.heap.size w.heap.size k l ∧ Keeps None w (set2 (set2 wr w.heap.size (k * 2) odd1) w.heap.size ((k + 1) * 2) odd2)) := by
        refine ⟨⟨hlen, ?_⟩, (hkp.trans (keeps_set2 wr w.heap.size (k * 2) odd1) (fun i e hi => by omega)).trans (keeps_set2 _ w.heap.size ((k + 1) * 2) odd2) (fun i e hi => by omega)⟩
        have e : ((l ++ [(⟨0, 0⟩ : Dd), ⟨0, 0⟩]).set k odd1).set (k + 1) odd2 = l ++ [odd1, odd2] := by
          rw [List.set_append_right _ _ (by omega), List.set_append_right _ _ (by omega), show k - l.length = 0 by omega, show k + 1 - l.length = 1 by omega]
          rfl
        rw [e] at hD2
        exact hD2
      unfold set2 odd1 odd2 at HN
      unfold set2 odd1 at z2 z3 z4 z5
      clear hD hD1 hD2 hkp hlen
      go_wp2
      go_ret
      exact ⟨_, rfl, HN.out⟩
end Go.Proofs.Ytolhojagbiaamaa
/-! What the laws of deeds hand in, further. -/
namespace Go.Proofs.Ytolhojagbiaamaa
set_option linter.unusedVariables false
set_option maxRecDepth 20000
set_option linter.unusedSimpArgs false
open Go.RowKit Go.HeapKit

theorem keeps_drewN (w : World) (m : Nat) : Keeps None w (w.drewN m) := ⟨rfl, rfl, rfl, Nat.le_refl _, fun _ _ _ => rfl⟩
theorem same_ok (aa ab : Option Addr) (n ca cb : Nat) (l : List Dd) (w : World) (ha : Seen w aa n l) (hb : Seen w ab n l) (hz : n * 16 ≤ 140737488355328) :
    Calls Try.prog 31 #[.slice aa n ca, .slice ab n cb] w fun e w' => e = .returned (.bool true) ∧ ∃ m, w' = w.drewN m := by
  have HH : Hid (Seen w aa n l ∧ Seen w ab n l) := ⟨ha, hb⟩
  clear ha hb
  go_enter Try.func31, Try.ntmps31
  go_wp2_with fail
  go_loopw [5] (fun i wr => ∃ k : Nat, k ≤ n ∧ i = .int .i64 k ∧ ∃ m, wr = w.drewN m) (fun i _ => n - (intOf i).toNat)
  case atStart => exact ⟨0, Nat.zero_le _, rfl, 0, rfl⟩
  case round =>
    obtain ⟨k, hk, rfl, m, rfl⟩ := hrel
    by_cases hkn : k < n
    · obtain ⟨ga, oa, rfl, -, hca⟩ := HH.out.1.ex (by omega)
      obtain ⟨gb, ob, rfl, -, hcb⟩ := HH.out.2.ex (by omega)
      obtain ⟨x, hx⟩ : ∃ x, l[k]? = some x := ⟨l[k]'(by have := HH.out.1.len; omega), by simp⟩
      obtain ⟨y0, y1⟩ := hca k x hx
      obtain ⟨z0, z1⟩ := hcb k x hx
      have i1 : (k : Int) < (n : Int) := by omega
      clear hx hca hcb HH
      obtain ⟨x0, x1⟩ := x
      go_wp2
      go_quiet (fail)
      go_wp2
      go_roundw
      case rel => exact ⟨k + 1, by omega, by go_num, _, rfl⟩
      case measure => simp [intOf]; omega
    · clear HH
      go_wp2
      go_ret
      exact ⟨rfl, _, rfl⟩

theorem Spare.seen {w : World} {base g n : Nat} {l : List Dd} (h : Spare w base g n l) : Seen w (some ⟨g, 0, none⟩) n l := by
  have := h.2.seen (m := n) (by omega)
  rwa [List.take_append_of_le_length (by have := h.1; omega), List.take_of_length_le (by have := h.1; omega)] at this
theorem Spare.kept {S : Nat → Prop} {w w' : World} {base g n : Nat} {l : List Dd} (h : Spare w base g n l) (hk : Keeps S w w') (hS : ¬ S g) : Spare w' base g n l := ⟨h.1, h.2.kept hk hS⟩
theorem Spare.more {w w' : World} {base g n : Nat} {l : List Dd} (h : Spare w base g n l) (hk : Keeps None w w') : Spare w' base g n l := h.kept hk (fun f => f)
theorem Spare.put {w : World} {base g n : Nat} {l : List Dd} (h : Spare w base g n l) {k : Nat} (hk : k < n) (x : Dd) : Spare (set2 w g (k * 2) x) base g n (l.set k x) := by
  refine ⟨by simpa using h.1, ?_⟩
  have := h.2.put (k := k) (by omega) x
  rwa [List.set_append_left _ _ (by have := h.1; omega)] at this
theorem Spare.elem {w : World} {base g n : Nat} {l : List Dd} (h : Spare w base g n l) {k : Nat} (hk : k < n) : ∃ y, C2 w g (k * 2) y := by
  obtain ⟨y, hy⟩ : ∃ y, (l ++ [odd1, odd2])[k]? = some y := ⟨_, List.getElem?_eq_getElem (by simp; have := h.1; omega)⟩
  exact ⟨y, h.2.elem hy⟩

set_option maxHeartbeats 1600000 in
theorem untouched_ok (a : Option Addr) (g n c base : Nat) (l : List Dd) (w : World) (hG : Spare w base g n l) (hS : Seen w a n l) (hz : (n + 2) * 16 ≤ 140737488355328) :
    Calls Try.prog 12 #[.slice (some ⟨g, 0, none⟩) (n + 2) (n + 2), .slice a n c] w fun e w' => e = .returned (.bool true) ∧ ∃ m, w' = w.drewN m := by
  have HG : Hid (Spare w base g n l) := hG
  have HS : Hid (Seen w a n l) := hS
  have hlen := hG.1
  obtain ⟨v0, v1⟩ := hG.2.elem (k := n) (x := odd1) (by rw [List.getElem?_append_right (by omega)]; simp [← hlen])
  obtain ⟨v2, v3⟩ := hG.2.elem (k := n + 1) (x := odd2) (by rw [List.getElem?_append_right (by omega)]; simp [← hlen])
  unfold odd1 at v0 v1
  unfold odd2 at v2 v3
  have hw1 : wrap64 ((n : Int) + 1) = ((n + 1 : Nat) : Int) := wrap_small (by omega) (by omega)
  clear hG hS hlen
  have v0' : ∀ m, (w.drewN m).cell? ⟨g, n * 2, none⟩ = some (.int .i64 77) := fun _ => v0
  have v1' : ∀ m, (w.drewN m).cell? ⟨g, n * 2 + 1, none⟩ = some (.int .i64 5) := fun _ => v1
  have v2' : ∀ m, (w.drewN m).cell? ⟨g, (n + 1) * 2, none⟩ = some (.int .i64 78) := fun _ => v2
  have v3' : ∀ m, (w.drewN m).cell? ⟨g, (n + 1) * 2 + 1, none⟩ = some (.int .i64 6) := fun _ => v3
  go_enter Try.func12, Try.ntmps12
  go_wp2_with fail
  refine (same_ok _ a n _ c l w HG.out.seen HS.out (by omega)).mono ?_
  rintro e w' ⟨rfl, m, rfl⟩
  have z0 := v0' m
  have z1 := v1' m
  have z2 := v2' m
  have z3 := v3' m
  go_wp2
  go_ret
  exact ⟨rfl, _, rfl⟩

def turnD (x : Dd) : Dd := if x.k = 3 then ⟨4, wrap64 (x.loc + 1)⟩ else if x.k = 4 then ⟨3, wrap64 (x.loc + 1)⟩ else if x.k = 2 then ⟨3, x.loc⟩ else x
set_option maxHeartbeats 3200000 in
theorem turned_ok (a : Option Addr) (n c : Nat) (l : List Dd) (w : World) (hS : Seen w a n l) (hn : (n + 2) * 16 ≤ 140737488355328) :
    Calls Try.prog 32 #[.slice a n c] w fun e w' => ∃ v, e = .returned v ∧ w'.ownsRow w.heap.size 51 2 v n (ddVals (l.map turnD)) ∧ Keeps None w w' := by
  have HS : Hid (Seen w a n l) := hS
  clear hS
  go_enter Try.func32, Try.ntmps32
  go_wp2_with fail
  go_loopw [3, 4, 5] (fun s i _ wr => ∃ k : Nat, k ≤ n ∧ i = .int .i64 k ∧ wr.ownsRow w.heap.size 51 2 s k (ddVals ((l.take k).map turnD)) ∧ Keeps None w wr) (fun _ i _ _ => n - (intOf i).toNat)
  case atStart => exact ⟨0, Nat.zero_le _, rfl, by simpa [ddVals] using row_nil w _ _ _, Keeps.refl _ _⟩
  case round =>
    obtain ⟨k, hk, rfl, hrow, hkp⟩ := hrel
    obtain ⟨sa, cs, rfl⟩ := row_shape hrow
    have hlen := HS.out.len
    by_cases hkn : k < n
    · obtain ⟨b, off, x, rfl, hb, hx, u0, u1⟩ := (HS.out.more hkp).elem hkn
      have i2 : (k : Int) < (n : Int) := by omega
      have hfin : ∀ k' lo' : Int, turnD x = ⟨k', lo'⟩ → ∃ g cp w2, (Builtin.append_ #[22, 22] 22 #[.slice sa k cs, .slice (some ⟨wr.heap.size + 1, 0, none⟩) 1 1]).run Try.prog ((wr.alloc (.cells #[.int .i64 k', .int .i64 lo'] 51)).alloc (.cells #[.int .i64 k', .int .i64 lo'] 51)) = .ok (.slice (some ⟨g, 0, none⟩) (k + 1) cp) w2 ∧ Hid (w2.ownsRow w.heap.size 51 2 (.slice (some ⟨g, 0, none⟩) (k + 1) cp) (k + 1) (ddVals ((l.take (k + 1)).map turnD)) ∧ Keeps None w w2) := by
        intro k' lo' ht
        have hbn : ((wr.alloc (.cells #[.int .i64 k', .int .i64 lo'] 51)).alloc (.cells #[.int .i64 k', .int .i64 lo'] 51)).heap[wr.heap.size + 1]? = some (.cells #[.int .i64 k', .int .i64 lo'] 51 (0, 0)) := blk_new _ _ _ (by simp)
        obtain ⟨g, cp, w2, hr, ho, hk3, hm⟩ := deed_more w.heap.size (.slice sa k cs) ((l.take k).map turnD) ⟨k', lo'⟩ k 22 _ (by simp; omega) ((hrow.alloc _).alloc _) (by have := hkp.size; simp; omega) (by omega) hbn
        refine ⟨g, cp, w2, hr, ?_, ?_⟩
        · rw [take_more hx, List.map_append, List.map_singleton, ht]
          exact ho
        · exact ((hkp.andAlloc _).andAlloc _).trans hk3 (fun i e hi => by have := row_low hrow e; omega)
      have HF : Hid _ := hfin
      clear hfin hrow hkp hx hlen
      obtain ⟨xk, xl⟩ := x
      by_cases e3 : xk = 3
      · subst e3
        obtain ⟨g, cp, w2, hr, HN⟩ := HF.out 4 (wrap64 (xl + 1)) rfl
        clear HF
        go_wp2_with (at_builtin; refine wpList_append_run rfl (.tmp 35) (.tmp 37) 22 22 rfl rfl rfl hr ?_)
        exact ⟨⟨k + 1, by omega, by go_num, HN.out⟩, by simp [intOf]; omega⟩
      · by_cases e4 : xk = 4
        · subst e4
          obtain ⟨g, cp, w2, hr, HN⟩ := HF.out 3 (wrap64 (xl + 1)) rfl
          clear HF
          go_wp2_with (at_builtin; refine wpList_append_run rfl (.tmp 35) (.tmp 37) 22 22 rfl rfl rfl hr ?_)
          exact ⟨⟨k + 1, by omega, by go_num, HN.out⟩, by simp [intOf]; omega⟩
        · by_cases e2 : xk = 2
          · subst e2
            obtain ⟨g, cp, w2, hr, HN⟩ := HF.out 3 xl rfl
            clear HF
            go_wp2_with (at_builtin; refine wpList_append_run rfl (.tmp 35) (.tmp 37) 22 22 rfl rfl rfl hr ?_)
            exact ⟨⟨k + 1, by omega, by go_num, HN.out⟩, by simp [intOf]; omega⟩
          · obtain ⟨g, cp, w2, hr, HN⟩ := HF.out xk xl (by simp [turnD, e2, e3, e4])
            clear HF
            go_wp2_with (at_builtin; refine wpList_append_run rfl (.tmp 35) (.tmp 37) 22 22 rfl rfl rfl hr ?_)
            exact ⟨⟨k + 1, by omega, by go_num, HN.out⟩, by simp [intOf]; omega⟩
    · have hkn2 : k = n := by omega
      subst hkn2
      have HN : Hid (wr.ownsRow w.heap.size 51 2 (.slice sa k cs) k (ddVals (l.map turnD)) ∧ Keeps None w wr) := by
        rw [List.take_of_length_le (by omega)] at hrow
        exact ⟨hrow, hkp⟩
      clear hrow hkp hlen
      go_wp2
      go_ret
      exact ⟨_, rfl, HN.out⟩

set_option maxHeartbeats 1600000 in
theorem lay_ok (a : Option Addr) (n c g base cap : Nat) (l l2 : List Dd) (w : World) (hG : Spare w base g n l2) (hS : Seen w a n l) (hne : 0 < n → ∀ b, blockOf a = some b → b ≠ g) (hcap : n ≤ cap) (hn : (n + 2) * 16 ≤ 140737488355328) :
    Calls Try.prog 33 #[.slice (some ⟨g, 0, none⟩) n cap, .slice a n c] w fun e w' => e = .returned (.tuple #[]) ∧ Spare w' base g n l ∧ Keeps (· = g) w w' := by
  have HH : Hid (Seen w a n l) := hS
  have HR : Hid (Spare w base g n l2) := hG
  have HE : Hid (0 < n → ∀ b, blockOf a = some b → b ≠ g) := hne
  clear hS hG hne
  go_enter Try.func33, Try.ntmps33
  go_wp2_with fail
  go_loopw [4] (fun i wr => ∃ k : Nat, k ≤ n ∧ i = .int .i64 k ∧ Spare wr base g n (l.take k ++ l2.drop k) ∧ Keeps (· = g) w wr) (fun i _ => n - (intOf i).toNat)
  case atStart => exact ⟨0, Nat.zero_le _, rfl, by simpa using HR.out, Keeps.refl _ _⟩
  case round =>
    obtain ⟨k, hk, rfl, hroom, hkp⟩ := hrel
    have h1 := HH.out.len
    have h2 := HR.out.1
    by_cases hkn : k < n
    · have hS := HH.out.kept hkp (fun h0 b e _ e2 => HE.out h0 b e e2)
      obtain ⟨b, off, x, rfl, hb, hx, u0, u1⟩ := hS.elem hkn
      obtain ⟨y, z0, z1⟩ := hroom.elem hkn
      have f0 := hroom.2.free (k * 2)
      have f1 := hroom.2.free (k * 2 + 1)
      have i1 : (k : Int) < (n : Int) := by omega
      have HN : Hid (Spare (set2 wr g (k * 2) x) base g n (l.take (k + 1) ++ l2.drop (k + 1)) ∧ Keeps (· = g) w (set2 wr g (k * 2) x)) := by
        have := hroom.put hkn x
        rw [take_setD hx (by omega)] at this
        exact ⟨this, hkp.trans (keeps_set2 wr g (k * 2) x) (fun _ e _ => e)⟩
      clear hS hx hroom hkp HE HR h1 h2
      go_wp2
      go_roundw
      case rel => exact ⟨k + 1, by omega, by go_num, HN.out⟩
      case measure => simp [intOf]; omega
    · have hkn2 : k = n := by omega
      subst hkn2
      have HN : Hid (Spare wr base g k l ∧ Keeps (· = g) w wr) := by
        rw [List.take_of_length_le (by omega), List.drop_eq_nil_of_le (by omega), List.append_nil] at hroom
        exact ⟨hroom, hkp⟩
      clear hroom hkp HE HR
      go_wp2
      go_end0
      exact ⟨rfl, HN.out⟩
end Go.Proofs.Ytolhojagbiaamaa
/-! The walk of RacesCheck. -/
namespace Go.Proofs.Ytolhojagbiaamaa
set_option linter.unusedVariables false
set_option maxRecDepth 20000
set_option linter.unusedSimpArgs false
open Go.RowKit Go.HeapKit

/-- The other deeds, with the odd ones behind them. -/
theorem tspare_ok (v : Value) (n : Nat) (l : List Dd) (w : World) (base : Nat) (hr : w.ownsRow base 51 2 v n (ddVals l)) (hl : n = l.length) (hn : (n + 2) * 16 ≤ 140737488355328) :
    Calls Try.prog 9 #[v] w fun e w' => ∃ g, e = .returned (.slice (some ⟨g, 0, none⟩) (n + 2) (n + 2)) ∧ Spare w' w.heap.size g n l ∧ Keeps None w w' := by
  obtain ⟨a, c, rfl⟩ := row_shape hr
  exact spare_ok a n c l w (Seen.of_row hl hr) hn
theorem eqSpot (x k : Int) (w : World) : (binOp .eql 26 (.agg #[.int .i64 x, .int .i64 k]) (.agg #[.int .i64 x, .int .i64 k])).run Try.prog w = .ok (.bool true) w := by
  have u3 := Try.underlying3
  have a3 := Try.isAgg3
  have z3 := Try.sizeOf3
  have u2 := Try.underlying24
  have a2 := Try.isAgg24
  have z2 := Try.sizeOf24
  have hS : Try.prog.underlying 26 = some (.struct (Try.prog.fieldsOf 26)) := by kernel_rfl
  have hp : Try.prog.stoodInHeld 26 = false := by kernel_rfl
  rw [run_eql_struct, show (10000 : Nat) = 9999 + 1 from rfl, run_equalIn_agg w 9999 26 _ _ hS hp]
  simp only [Program.fieldsOf, Try.underlying26]
  go_simp
theorem check_raw (a : Option Addr) (n c : Nat) (l : List Dd) (w : World) (hS : Seen w a n l) :
    Calls Try.prog 10 #[.slice a n c] w fun e w' => e = .returned (.agg #[.int .i64 (chkE l), .int .i64 (chkA l)]) ∧ Keeps None w w' := check_ok a n c l w hS
theorem rcheck_raw (a : Option Addr) (n c : Nat) (l : List Dd) (w : World) (hS : Seen w a n l) :
    Calls Try.prog 11 #[.slice a n c] w fun e w' => e = .returned (.agg #[.int .i64 (chkE l), .int .i64 (chkA l)]) ∧ Keeps None w w' := rcheck_ok a n c l w hS
set_option maxHeartbeats 1600000 in
theorem checkPlaced_ok (a : Option Addr) (n c : Nat) (l : List Dd) (w : World) (hS : Seen w a n l) (hn : (n + 2) * 16 ≤ 140737488355328) :
    Calls Try.prog 13 #[.slice a n c] w fun e w' => e = .returned (.bool true) ∧ Keeps None w w' := by
  have HS : Hid (Seen w a n l) := hS
  have HLen : Hid (n = l.length) := hS.len
  clear hS
  go_enter Try.func13, Try.ntmps13
  go_wp2_with fail
  refine (turned_ok a n c l w HS.out hn).mono ?_
  rintro e w1 ⟨v, rfl, hr1, hk1⟩
  obtain ⟨a1, c1, rfl⟩ := row_shape hr1
  have HR1 : Hid (w1.ownsRow w.heap.size 51 2 (.slice a1 n c1) n (ddVals (l.map turnD)) ∧ Keeps None w w1) := ⟨hr1, hk1⟩
  have hs1 := hk1.size
  clear hr1 hk1
  go_wp2_with fail
  refine (tspare_ok _ n (l.map turnD) w1 _ HR1.out.1 (by simpa using HLen.out) hn).mono ?_
  rintro e w2 ⟨g, rfl, hsp, hk2⟩
  have HR2 : Hid (Spare w2 w1.heap.size g n (l.map turnD) ∧ Keeps None w w2 ∧ Keeps None w1 w2) := ⟨hsp, HR1.out.2.trans hk2 (fun _ f _ => f), hk2⟩
  clear hsp hk2
  go_wp2_with fail
  refine (check_raw _ n _ (l.map turnD) w2 HR2.out.1.seen).mono ?_
  rintro e w3 ⟨rfl, hk3⟩
  have HR3 : Hid (Spare w3 w1.heap.size g n (l.map turnD) ∧ Keeps None w w3 ∧ Keeps None w1 w3) := ⟨HR2.out.1.more hk3, HR2.out.2.1.trans hk3 (fun _ f _ => f), HR2.out.2.2.trans hk3 (fun _ f _ => f)⟩
  clear hk3 HR2
  have b4 := heap_alloc_new w3 (.cells #[.int .i64 (chkE (l.map turnD)), .int .i64 (chkA (l.map turnD))] 26)
  have k4 := Keeps.alloc None w3 (.cells #[.int .i64 (chkE (l.map turnD)), .int .i64 (chkA (l.map turnD))] 26)
  obtain ⟨E1, hE1⟩ : ∃ E1, E1 = chkE (l.map turnD) := ⟨_, rfl⟩
  obtain ⟨A1, hA1⟩ : ∃ A1, A1 = chkA (l.map turnD) := ⟨_, rfl⟩
  have HEA : Hid (chkE (l.map turnD) = E1 ∧ chkA (l.map turnD) = A1) := ⟨hE1.symm, hA1.symm⟩
  rw [← hE1, ← hA1] at b4 k4
  rw [← hE1, ← hA1]
  clear hE1 hA1
  go_wp2_with fail
  obtain ⟨w4, hw4⟩ : ∃ w4, w4 = w3.alloc (.cells #[.int .i64 E1, .int .i64 A1] 26) := ⟨_, rfl⟩
  obtain ⟨B, hB⟩ : ∃ B, B = w3.heap.size := ⟨_, rfl⟩
  rw [← hw4] at b4 k4
  rw [← hB] at b4
  rw [← hw4, ← hB]
  have hBg : g ≠ B := by have := HR3.out.1.2.lt; omega
  have HR4 : Hid (Spare w4 w1.heap.size g n (l.map turnD) ∧ Keeps None w w4 ∧ Keeps None w1 w4) := ⟨HR3.out.1.more k4, HR3.out.2.1.trans k4 (fun _ f _ => f), HR3.out.2.2.trans k4 (fun _ f _ => f)⟩
  have g0 : w4.cell? ⟨B, 0, none⟩ = some (.int .i64 E1) := (blk_cell b4 0).trans rfl
  have g1 : w4.cell? ⟨B, 1, none⟩ = some (.int .i64 A1) := (blk_cell b4 1).trans rfl
  have HB4 : Hid (w4.cell? ⟨B, 0, none⟩ = some (.int .i64 E1) ∧ w4.cell? ⟨B, 1, none⟩ = some (.int .i64 A1)) := ⟨g0, g1⟩
  clear HR3 hw4 hB b4 k4 g0 g1
  refine (lay_ok a n c g _ (n + 2) l (l.map turnD) w4 HR4.out.1 (HS.out.more HR4.out.2.1) (fun h0 b e e2 => by have h3 := HS.out.low h0 e; have := HR4.out.1.2.low; omega) (by omega) hn).mono ?_
  rintro e w5 ⟨rfl, hsp4, hk4⟩
  have HR5 : Hid (Spare w5 w1.heap.size g n l ∧ Keeps None w w5 ∧ Keeps None w1 w5) := ⟨hsp4, HR4.out.2.1.trans hk4 (fun i e hi => by have := HR4.out.1.2.low; omega), HR4.out.2.2.trans hk4 (fun i e hi => by have := HR4.out.1.2.low; omega)⟩
  have HB5 : Hid (w5.cell? ⟨B, 0, none⟩ = some (.int .i64 E1) ∧ w5.cell? ⟨B, 1, none⟩ = some (.int .i64 A1)) := ⟨hk4.cell HB4.out.1 (fun e => hBg e.symm), hk4.cell HB4.out.2 (fun e => hBg e.symm)⟩
  clear hsp4 hk4 HR4 HB4 hBg
  go_upto_region 6 with (go_at_call 10; refine Calls.mono (check_raw _ n _ l _ HR5.out.1.seen) ?_; rintro _ w6 ⟨rfl, hk6⟩)
  obtain ⟨E2, hE2⟩ : ∃ E2, E2 = chkE l := ⟨_, rfl⟩
  obtain ⟨A2, hA2⟩ : ∃ A2, A2 = chkA l := ⟨_, rfl⟩
  have HEB : Hid (chkE l = E2 ∧ chkA l = A2) := ⟨hE2.symm, hA2.symm⟩
  rw [← hE2, ← hA2]
  clear hE2 hA2
  have b7 := heap_alloc_new w6 (.cells #[.int .i64 E2, .int .i64 A2] 26)
  have k7 := hk6.andAlloc (.cells #[.int .i64 E2, .int .i64 A2] 26)
  obtain ⟨w7, hw7⟩ : ∃ w7, w7 = w6.alloc (.cells #[.int .i64 E2, .int .i64 A2] 26) := ⟨_, rfl⟩
  obtain ⟨C, hC⟩ : ∃ C, C = w6.heap.size := ⟨_, rfl⟩
  rw [← hw7] at b7 k7
  rw [← hC] at b7
  rw [← hw7, ← hC]
  have g0 : w7.cell? ⟨B, 0, none⟩ = some (.int .i64 E1) := k7.cell HB5.out.1 (fun f => f)
  have g1 : w7.cell? ⟨B, 1, none⟩ = some (.int .i64 A1) := k7.cell HB5.out.2 (fun f => f)
  have g2 : w7.cell? ⟨C, 0, none⟩ = some (.int .i64 E2) := (blk_cell b7 0).trans rfl
  have g3 : w7.cell? ⟨C, 1, none⟩ = some (.int .i64 A2) := (blk_cell b7 1).trans rfl
  have HSA : Hid (∀ w', Keeps None w7 w' → w'.cell? ⟨B, 0, none⟩ = some (.int .i64 E1) ∧ w'.cell? ⟨B, 1, none⟩ = some (.int .i64 A1) ∧ w'.cell? ⟨C, 0, none⟩ = some (.int .i64 E2) ∧ w'.cell? ⟨C, 1, none⟩ = some (.int .i64 A2)) := fun w' hk => ⟨hk.cell g0 (fun f => f), hk.cell g1 (fun f => f), hk.cell g2 (fun f => f), hk.cell g3 (fun f => f)⟩
  have HRN : Hid (∀ w', Keeps None w7 w' → Calls Try.prog 11 #[.slice a1 n c1] w' fun e w'' => e = .returned (.agg #[.int .i64 E1, .int .i64 A1]) ∧ Keeps None w7 w'') := fun w' hk => (rcheck_raw a1 n c1 (l.map turnD) w' ((Seen.of_row (by simpa using HLen.out) HR1.out.1).more (HR5.out.2.2.trans (k7.trans hk (fun _ f _ => f)) (fun _ f _ => f)))).mono fun e w'' hp => by
    rw [HEA.out.1, HEA.out.2] at hp
    exact ⟨hp.1, hk.trans hp.2 (fun _ f _ => f)⟩
  have HRM : Hid (∀ w', Keeps None w7 w' → Calls Try.prog 11 #[.slice a n c] w' fun e w'' => e = .returned (.agg #[.int .i64 E2, .int .i64 A2]) ∧ Keeps None w7 w'') := fun w' hk => (rcheck_raw a n c l w' (HS.out.more (HR5.out.2.1.trans (k7.trans hk (fun _ f _ => f)) (fun _ f _ => f)))).mono fun e w'' hp => by
    rw [HEB.out.1, HEB.out.2] at hp
    exact ⟨hp.1, hk.trans hp.2 (fun _ f _ => f)⟩
  have H7 : Hid (Keeps None w w7) := HR5.out.2.1.trans k7 (fun _ f _ => f)
  have heq1 := eqSpot E1 A1
  have heq2 := eqSpot E2 A2
  clear hw7 hC b7 k7 hk6 HB5 HEA HEB HR5 HR1 HS HLen
  go_region_held3 (fun w' => w'.cell? ⟨B, 0, none⟩ = some (.int .i64 E1) ∧ w'.cell? ⟨B, 1, none⟩ = some (.int .i64 A1) ∧ w'.cell? ⟨C, 0, none⟩ = some (.int .i64 E2) ∧ w'.cell? ⟨C, 1, none⟩ = some (.int .i64 A2)) (first | exact hs9 | exact hs8 | go_keep) (first | (go_at_call_of 11 (Value.slice a1 n c1); refine Calls.mono (HRN.out _ (Keeps.drew None _)) ?_; rintro _ w8 ⟨rfl, hk8⟩; have hs8 := HSA.out _ hk8) | (go_at_call 11; refine Calls.mono (HRM.out _ hk8) ?_; rintro _ w9 ⟨rfl, hk9⟩; have hs9 := HSA.out _ hk9))
  all_goals (go_wp2_with fail; go_ret)
  all_goals exact ⟨rfl, H7.out.trans hk9 (fun _ f _ => f)⟩

set_option maxHeartbeats 1600000 in
theorem racesCheck_walk (a : Option Addr) (n c : Nat) (l : List Dd) (w : World) (hS : Seen w a n l) (hn : (n + 2) * 16 ≤ 140737488355328) :
    Calls Try.prog 3 #[.slice a n c] w fun e w' => e = .returned (.bool true) ∧ Below w.heap.size w w' := by
  have HS : Hid (Seen w a n l) := hS
  clear hS
  go_enter Try.func3, Try.ntmps3
  go_wp2_with fail
  refine (spare_ok a n c l w HS.out hn).mono ?_
  rintro e w1 ⟨g, rfl, hsp, hk1⟩
  have HR1 : Hid (Spare w1 w.heap.size g n l ∧ Keeps None w w1) := ⟨hsp, hk1⟩
  clear hsp hk1
  go_upto_region 3 with (go_at_call 10; refine Calls.mono (check_raw _ n _ l _ HR1.out.1.seen) ?_; rintro _ w6 ⟨rfl, hk6⟩)
  obtain ⟨E2, hE2⟩ : ∃ E2, E2 = chkE l := ⟨_, rfl⟩
  obtain ⟨A2, hA2⟩ : ∃ A2, A2 = chkA l := ⟨_, rfl⟩
  have HEB : Hid (chkE l = E2 ∧ chkA l = A2) := ⟨hE2.symm, hA2.symm⟩
  rw [← hE2, ← hA2]
  clear hE2 hA2
  have b7 := heap_alloc_new w6 (.cells #[.int .i64 E2, .int .i64 A2] 26)
  have k7 := hk6.andAlloc (.cells #[.int .i64 E2, .int .i64 A2] 26)
  obtain ⟨w7, hw7⟩ : ∃ w7, w7 = w6.alloc (.cells #[.int .i64 E2, .int .i64 A2] 26) := ⟨_, rfl⟩
  obtain ⟨C, hC⟩ : ∃ C, C = w6.heap.size := ⟨_, rfl⟩
  rw [← hw7] at b7 k7
  rw [← hC] at b7
  rw [← hw7, ← hC]
  have g2 : w7.cell? ⟨C, 0, none⟩ = some (.int .i64 E2) := (blk_cell b7 0).trans rfl
  have g3 : w7.cell? ⟨C, 1, none⟩ = some (.int .i64 A2) := (blk_cell b7 1).trans rfl
  have HSA : Hid (∀ w', Keeps None w7 w' → w'.cell? ⟨C, 0, none⟩ = some (.int .i64 E2) ∧ w'.cell? ⟨C, 1, none⟩ = some (.int .i64 A2)) := fun w' hk => ⟨hk.cell g2 (fun f => f), hk.cell g3 (fun f => f)⟩
  have HW7 : Hid (Keeps None w w7) := HR1.out.2.trans k7 (fun _ f _ => f)
  have HRM : Hid (∀ w', Keeps None w7 w' → Calls Try.prog 11 #[.slice a n c] w' fun e w'' => e = .returned (.agg #[.int .i64 E2, .int .i64 A2]) ∧ Keeps None w7 w'') := fun w' hk => (rcheck_raw a n c l w' (HS.out.more (HW7.out.trans hk (fun _ f _ => f)))).mono fun e w'' hp => by
    rw [HEB.out.1, HEB.out.2] at hp
    exact ⟨hp.1, hk.trans hp.2 (fun _ f _ => f)⟩
  have HRU : Hid (∀ w', Keeps None w7 w' → Calls Try.prog 12 #[.slice (some ⟨g, 0, none⟩) (n + 2) (n + 2), .slice a n c] w' fun e w'' => e = .returned (.bool true) ∧ Keeps None w7 w'') := fun w' hk => (untouched_ok a g n c _ l w' (HR1.out.1.more (k7.trans hk (fun _ f _ => f))) (HS.out.more (HW7.out.trans hk (fun _ f _ => f))) hn).mono fun e w'' hp => by
    obtain ⟨h1, m, rfl⟩ := hp
    exact ⟨h1, hk.trans (keeps_drewN _ m) (fun _ f _ => f)⟩
  have HRP : Hid (∀ w', Keeps None w7 w' → Calls Try.prog 13 #[.slice a n c] w' fun e w'' => e = .returned (.bool true) ∧ Keeps None w7 w'') := fun w' hk => (checkPlaced_ok a n c l w' (HS.out.more (HW7.out.trans hk (fun _ f _ => f))) hn).mono fun e w'' hp => ⟨hp.1, hk.trans hp.2 (fun _ f _ => f)⟩
  have heq2 := eqSpot E2 A2
  clear hw7 hC b7 k7 hk6 HEB HR1 HS
  go_region_held3 (fun w' => w'.cell? ⟨C, 0, none⟩ = some (.int .i64 E2) ∧ w'.cell? ⟨C, 1, none⟩ = some (.int .i64 A2)) (first | exact hs10 | exact hs9 | exact hs8 | go_keep) (first
    | (go_at_call 11; refine Calls.mono (HRM.out _ (Keeps.drew None _)) ?_; rintro _ w8 ⟨rfl, hk8⟩; have hs8 := HSA.out _ hk8)
    | (go_at_call 12; refine Calls.mono (HRU.out _ hk8) ?_; rintro _ w9 ⟨rfl, hk9⟩; have hs9 := HSA.out _ hk9)
    | (go_at_call 13; refine Calls.mono (HRP.out _ hk9) ?_; rintro _ w10 ⟨rfl, hk10⟩; have hs10 := HSA.out _ hk10))
  all_goals (go_wp2_with fail; go_ret)
  all_goals exact ⟨rfl, (HW7.out.trans hk10 (fun _ f _ => f)).below _ (Nat.le_refl _) (fun _ f => f.elim)⟩
end Go.Proofs.Ytolhojagbiaamaa
