import Derived.Test.YtolhojagbiaamabPkAD
import Derived.Test.YtolhojagbiaamabPkAE
import Derived.Test.YtolhojagbiaamabPkAA
import Derived.Deep.RegionHeld3
import Derived.Deep.DeepCutAuto
import Derived.Deep.Cut
import Derived.Laws.StructEq
/-! The document's table, walked. -/
namespace Go.Proofs.Ytolhojagbiaamab
set_option linter.unusedVariables false
set_option maxRecDepth 20000
set_option linter.unusedSimpArgs false
open Go.RowKit Go.HeapKit

/-- The rows of steps, as they are read. -/
structure FrM (w : World) (base n F : Nat) (K : Nat → Value) (L : Nat → List Nat) : Prop where
  rs : Rs w base K L
  fr : w.heap[F]? = some (.cells ((List.range n).map (fun k => K (2 * k))).toArray 35 (0, 0))
theorem FrM.kept {S : Nat → Prop} {w w' : World} {base n F : Nat} {K : Nat → Value} {L : Nat → List Nat} (h : FrM w base n F K L) (hk : Keeps S w w') (h1 : ¬ S F) (h2 : ∀ k b, (K k).ownBlock = some b → ¬ S b) : FrM w' base n F K L := ⟨h.rs.kept hk h2, blk_kept h.fr hk h1⟩
theorem FrM.more {w w' : World} {base n F : Nat} {K : Nat → Value} {L : Nat → List Nat} (h : FrM w base n F K L) (hk : Keeps None w w') : FrM w' base n F K L := h.kept hk (fun f => f) (fun _ _ _ f => f)
/-- A block of another kind is written. -/
theorem FrM.other {w w' : World} {base n F : Nat} {K : Nat → Value} {L : Nat → List Nat} (h : FrM w base n F K L) {p : Nat} (hk : Keeps (· = p) w w') {c : Array Value} {t : TypeId} {fz : Nat × Nat} (hp : w.heap[p]? = some (.cells c t fz)) (ht : t ≠ 3) (ht2 : t ≠ 35) : FrM w' base n F K L := by
  refine h.kept hk (fun e => ?_) (fun k b hb e => h.rs.ne hb hp ht e)
  have h1 := h.fr
  rw [e, hp] at h1
  injection h1 with h1
  injection h1 with _ h1
  exact ht2 h1
theorem frm_len (ds : List Dd) (k : Nat) : (frmN ds k).length ≤ k + 1 := by
  have h1 := out_le ds k
  unfold frmN
  rw [List.length_append]
  have h2 : (Cof (stN ds k)).getLast?.toList.length ≤ 1 := by cases (Cof (stN ds k)).getLast? <;> simp
  have h3 : (outOf ((ds.getD k ⟨3, 0⟩).k) (stN ds k)).length ≤ outSum (stN ds k) := by
    cases stN ds k with
    | nil => simp [outOf]
    | cons t r =>
      rw [out_cons]
      simp only [outSum]
      split
      · omega
      · simp
  omega
/-- What the table says, behind the first k rows. -/
def Says (l : List Dd) (n k : Nat) (M : Nat → Nat → Bool) : Prop := ∀ j, j < k → ∀ m, m < n → (M j m = true ↔ Ah l m j)
set_option maxHeartbeats 8000000 in
theorem before_ok (a : Option Addr) (n c : Nat) (l : List Dd) (w : World) (hS : Seen w a n l) (hf : Fine l) (hn : n ≤ 4096) :
    Calls Try.prog 29 #[.slice a n c] w fun e w' => ∃ G R M, e = .returned (.slice (some ⟨G, 0, none⟩) n n) ∧ BfM w' w.heap.size n n G R M ∧ Says l n n M ∧ Keeps None w w' := by
  have HS : Hid (Fine l ∧ n = l.length) := ⟨hf, hS.len⟩
  have HC : Hid _ := steps_ok a n c l w hS hf hn
  clear hS hf
  go_enter Try.func29, Try.ntmps29
  go_upto_region 3 with (go_at_call 45; refine Calls.mono HC.out ?_; rintro _ w1 ⟨F, K, L, rfl, hrs, hfr, hF, hL, hk1⟩)
  have hmk := make_rows n w1 hn
  have kA := Keeps.alloc None w1 (.cells (outB n 0 (fun _ => 0)) 72)
  have H1 : Hid (BfM (w1.alloc (.cells (outB n 0 (fun _ => 0)) 72)) w.heap.size n 0 w1.heap.size (fun _ => 0) (fun _ _ => false) ∧ FrM (w1.alloc (.cells (outB n 0 (fun _ => 0)) 72)) w.heap.size n F K L ∧ Keeps None w (w1.alloc (.cells (outB n 0 (fun _ => 0)) 72)) ∧ (∀ k, k < n → L (2 * k) = frmN l k)) := by
    refine ⟨⟨heap_alloc_new _ _, fun j hj => by omega, fun j k hj => by omega, by have := hk1.size; omega, fun j hj => by omega⟩, ⟨hrs.more kA, blk_kept hfr kA (fun f => f)⟩, hk1.trans kA (fun _ f _ => f), hL⟩
  obtain ⟨G, hG⟩ : ∃ G, G = w1.heap.size := ⟨_, rfl⟩
  obtain ⟨w2, hw2⟩ : ∃ w2, w2 = w1.alloc (.cells (outB n 0 (fun _ => 0)) 72) := ⟨_, rfl⟩
  rw [← hG] at hmk
  rw [← hw2] at hmk H1
  rw [← hG] at H1
  clear kA hrs hfr hF hL hk1 HC hG hw2
  go_wp2_with (at_make; refine wpList_make_run rfl (.tmp 14) (.tmp 14) 60 rfl rfl rfl hmk ?_)
  clear hmk
  have HL : Hid (∀ k, k < n → L (2 * k) = frmN l k) := H1.out.2.2.2
  go_loopw [6, 7, 8, 9] (fun i _ _ _ wr => ∃ (k : Nat) (R : Nat → Nat) (M : Nat → Nat → Bool), k ≤ n ∧ i = .int .i64 k ∧ BfM wr w.heap.size n k G R M ∧ FrM wr w.heap.size n F K L ∧ Says l n k M ∧ Keeps None w wr) (fun i _ _ _ _ => n - (intOf i).toNat)
  case atStart => exact ⟨0, _, _, Nat.zero_le _, rfl, H1.out.1, H1.out.2.1, fun j hj => by omega, H1.out.2.2.1⟩
  case round =>
    clear H1
    obtain ⟨k, R, M, hk, rfl, hB, hFr, hSy, hkp⟩ := hrel
    by_cases hkn : k < n
    · have hmk := make_bools n wr hn
      have hB2 := hB.add hkn (by have := hkp.size; omega)
      have gk : (wr.alloc (.cells (boolsA n (fun _ => false)) 4)).cell? ⟨G, k, none⟩ = some (.slice none 0 0) := by
        have := (cell_of_heap (hB.more (Keeps.alloc None wr (.cells (boolsA n (fun _ => false)) 4))).out k).trans (outB_at hkn)
        rw [this]; unfold vsB; rw [if_neg (by omega)]
      have gf := blk_free (hB.more (Keeps.alloc None wr (.cells (boolsA n (fun _ => false)) 4))).out k
      have i1 : (k : Int) < (n : Int) := by omega
      have hFr2 := hFr.other hB2.2 hB.out (by decide) (by decide)
      have hkp2 := hkp.trans hB2.2 (fun i e hi => by have := hB.lowG; omega)
      have HN : Hid (BfM ((wr.alloc (.cells (boolsA n (fun _ => false)) 4)).setCell ⟨G, k, none⟩ (.slice (some ⟨wr.heap.size, 0, none⟩) n n)) w.heap.size n (k + 1) G (updF R k wr.heap.size) (updF M k (fun _ => false)) ∧ FrM ((wr.alloc (.cells (boolsA n (fun _ => false)) 4)).setCell ⟨G, k, none⟩ (.slice (some ⟨wr.heap.size, 0, none⟩) n n)) w.heap.size n F K L ∧ Says l n k (updF M k (fun _ => false)) ∧ Keeps None w ((wr.alloc (.cells (boolsA n (fun _ => false)) 4)).setCell ⟨G, k, none⟩ (.slice (some ⟨wr.heap.size, 0, none⟩) n n))) :=
        ⟨hB2.1, hFr2, fun j hj m hm => by rw [updF_ne (by omega)]; exact hSy j hj m hm, hkp2⟩
      clear hB2 hFr2 hkp2 hB hFr hSy hkp
      go_wp2_with (at_make; refine wpList_make_run rfl (.tmp 23) (.tmp 23) 72 rfl rfl rfl hmk ?_)
      clear hmk gk gf
      generalize hW3 : ((wr.alloc (.cells (boolsA n (fun _ => false)) 4)).setCell ⟨G, k, none⟩ (.slice (some ⟨wr.heap.size, 0, none⟩) n n)) = W3 at HN ⊢
      clear hW3
      obtain ⟨R1, hR1⟩ : ∃ R1, R1 = updF R k wr.heap.size := ⟨_, rfl⟩
      obtain ⟨fl, hfl⟩ : ∃ fl : List Nat, fl = frmN l k := ⟨_, rfl⟩
      have HFL : Hid (fl = frmN l k ∧ L (2 * k) = fl) := ⟨hfl, by rw [hfl]; exact HL.out k hkn⟩
      rw [← hR1] at HN
      clear hR1 hfl
      go_loopw [7, 8, 9] (fun s7 _ _ wj => ∃ (j : Nat) (M2 : Nat → Nat → Bool), j ≤ fl.length ∧ s7 = .int .i64 j ∧ BfM wj w.heap.size n (k + 1) G R1 M2 ∧ FrM wj w.heap.size n F K L ∧ Says l n k M2 ∧ (∀ m, m < n → (M2 k m = true ↔ ∃ z ∈ fl.take j, m = z ∨ Ah l m z)) ∧ Keeps None w wj) (fun s7 _ _ _ => fl.length - (intOf s7).toNat)
      case atStart => exact ⟨0, _, Nat.zero_le _, rfl, HN.out.1, HN.out.2.1, HN.out.2.2.1, fun m hm => by rw [updF_eq]; simp, HN.out.2.2.2⟩
      case round =>
        clear HN
        obtain ⟨j, M2, hj, rfl, hB, hFr, hSy, hRow, hkp⟩ := hrel
        obtain ⟨hf, hnl⟩ := HS.out
        obtain ⟨hfl, hLk⟩ := HFL.out
        obtain ⟨oa, oc, hK⟩ := row_shape (hFr.rs.row (2 * k))
        rw [hLk] at hK
        have hcF : wr.cell? ⟨F, k, none⟩ = some (.slice oa fl.length oc) := ((cell_of_heap hFr.fr k).trans (range_getR _ _ _ hkn)).trans (by rw [hK])
        obtain ⟨fn, hfn⟩ : ∃ fn, fn = fl.length := ⟨_, rfl⟩
        have HFN : Hid (fn = fl.length) := hfn
        rw [← hfn] at hcF hK hj
        by_cases hjl : j < fn
        · have hrow := hFr.rs.row (2 * k)
          rw [hLk, hK, ← hfn] at hrow
          obtain ⟨go, hgo⟩ : ∃ go, oa = some ⟨go, 0, none⟩ := by
            rcases hrow.2 with ⟨_, h0⟩ | ⟨g', cap', cur, he, _⟩
            · omega
            · injection he with e1; exact ⟨g', e1⟩
          subst hgo
          obtain ⟨z, hz⟩ : ∃ z, fl[j]? = some z := ⟨fl[j]'(by omega), by simp⟩
          have cz := ints_at hrow hz
          have hzk : z < k := frm_lt hf (by omega) (by rw [← hfl]; exact List.mem_of_getElem? hz)
          have gk : wr.cell? ⟨G, k, none⟩ = some (.slice (some ⟨R1 k, 0, none⟩) n n) := ((cell_of_heap hB.out k).trans (outB_at hkn)).trans (by unfold vsB; rw [if_pos (by omega)])
          have rk : wr.cell? ⟨R1 k, z, none⟩ = some (.bool (M2 k z)) := (cell_of_heap (hB.row k (by omega)) z).trans (bools_at _ _ (by omega))
          have rf := blk_free (hB.row k (by omega)) z
          have hB3 := hB.put (j := k) (by omega) z true
          have hFr3 := hFr.other hB3.2 (hB.row k (by omega)) (by decide) (by decide)
          have hkp3 := hkp.trans hB3.2 (fun i e hi => by have := hB.low k (by omega); omega)
          have HN : Hid (BfM (wr.setCell ⟨R1 k, z, none⟩ (.bool true)) w.heap.size n (k + 1) G R1 (updF M2 k (updF (M2 k) z true)) ∧ FrM (wr.setCell ⟨R1 k, z, none⟩ (.bool true)) w.heap.size n F K L ∧ Says l n k (updF M2 k (updF (M2 k) z true)) ∧ (∀ m, m < n → (updF M2 k (updF (M2 k) z true) k m = true ↔ (∃ y ∈ fl.take j, m = y ∨ Ah l m y) ∨ m = z ∨ (m < 0 ∧ Ah l m z))) ∧ Keeps None w (wr.setCell ⟨R1 k, z, none⟩ (.bool true))) := by
            refine ⟨hB3.1, hFr3, fun q hq m hm => by rw [updF_ne (by omega)]; exact hSy q hq m hm, fun m hm => ?_, hkp3⟩
            rw [updF_eq]
            by_cases e : m = z
            · subst e; rw [updF_eq]; simp
            · rw [updF_ne e, hRow m hm]
              constructor
              · exact .inl
              · rintro (h | h | h)
                · exact h
                · exact (e h).elim
                · omega
          have HZ : Hid (fl[j]? = some z ∧ Fine l ∧ k < l.length ∧ fl = frmN l k) := ⟨hz, hf, by omega, hfl⟩
          have j1 : (j : Int) < (fn : Int) := by omega
          have j2 : (z : Int) < (n : Int) := by omega
          have j3 : (k : Int) < (n : Int) := by omega
          have j4 : fn ≤ 4098 := by have := frm_len l k; rw [hfn, hfl]; omega
          clear hf hnl hfl hLk hK hrow hB hFr hSy hRow hkp hB3 hFr3 hkp3 hz hfn
          go_wp2_with fail
          clear gk rk rf cz
          go_loopw [9] (fun s9 wm => ∃ (p : Nat) (M3 : Nat → Nat → Bool), p ≤ z ∧ s9 = .int .i64 p ∧ BfM wm w.heap.size n (k + 1) G R1 M3 ∧ FrM wm w.heap.size n F K L ∧ Says l n k M3 ∧ (∀ m, m < n → (M3 k m = true ↔ (∃ y ∈ fl.take j, m = y ∨ Ah l m y) ∨ m = z ∨ (m < p ∧ Ah l m z))) ∧ Keeps None w wm) (fun s9 _ => z - (intOf s9).toNat)
          case atStart => exact ⟨0, _, Nat.zero_le _, rfl, HN.out⟩
          case round =>
            clear HN
            obtain ⟨p, M3, hp, rfl, hB, hFr, hSy, hRow, hkp⟩ := hrel
            by_cases hpz : p < z
            · have gz : wr.cell? ⟨G, z, none⟩ = some (.slice (some ⟨R1 z, 0, none⟩) n n) := ((cell_of_heap hB.out z).trans (outB_at (by omega))).trans (by unfold vsB; rw [if_pos (by omega)])
              have gk : wr.cell? ⟨G, k, none⟩ = some (.slice (some ⟨R1 k, 0, none⟩) n n) := ((cell_of_heap hB.out k).trans (outB_at hkn)).trans (by unfold vsB; rw [if_pos (by omega)])
              have rz : wr.cell? ⟨R1 z, p, none⟩ = some (.bool (M3 z p)) := (cell_of_heap (hB.row z (by omega)) p).trans (bools_at _ _ (by omega))
              have rk : wr.cell? ⟨R1 k, p, none⟩ = some (.bool (M3 k p)) := (cell_of_heap (hB.row k (by omega)) p).trans (bools_at _ _ (by omega))
              have rf := blk_free (hB.row k (by omega)) p
              have p1 : (p : Int) < (z : Int) := by omega
              have p2 : (p : Int) < (n : Int) := by omega
              have hiff := hSy z hzk p (by omega)
              cases hMz : M3 z p with
              | true =>
                rw [hMz] at rz hiff
                have hB3 := hB.put (j := k) (by omega) p true
                have hFr3 := hFr.other hB3.2 (hB.row k (by omega)) (by decide) (by decide)
                have hkp3 := hkp.trans hB3.2 (fun i e hi => by have := hB.low k (by omega); omega)
                have HN : Hid (BfM (wr.setCell ⟨R1 k, p, none⟩ (.bool true)) w.heap.size n (k + 1) G R1 (updF M3 k (updF (M3 k) p true)) ∧ FrM (wr.setCell ⟨R1 k, p, none⟩ (.bool true)) w.heap.size n F K L ∧ Says l n k (updF M3 k (updF (M3 k) p true)) ∧ (∀ m, m < n → (updF M3 k (updF (M3 k) p true) k m = true ↔ (∃ y ∈ fl.take j, m = y ∨ Ah l m y) ∨ m = z ∨ (m < p + 1 ∧ Ah l m z))) ∧ Keeps None w (wr.setCell ⟨R1 k, p, none⟩ (.bool true))) := by
                  refine ⟨hB3.1, hFr3, fun q hq m hm => by rw [updF_ne (by omega)]; exact hSy q hq m hm, fun m hm => ?_, hkp3⟩
                  rw [updF_eq]
                  by_cases e : m = p
                  · subst e
                    rw [updF_eq]
                    simp only [true_iff]
                    exact .inr (.inr ⟨by omega, hiff.1 rfl⟩)
                  · rw [updF_ne e, hRow m hm]
                    constructor
                    · rintro (h | h | h)
                      · exact .inl h
                      · exact .inr (.inl h)
                      · exact .inr (.inr ⟨by omega, h.2⟩)
                    · rintro (h | h | h)
                      · exact .inl h
                      · exact .inr (.inl h)
                      · exact .inr (.inr ⟨by omega, h.2⟩)
                clear hB hFr hSy hRow hkp hB3 hFr3 hkp3 hiff hMz
                go_wp2
                go_roundw
                case rel => exact ⟨p + 1, _, by omega, by go_num, HN.out⟩
                case measure => simp [intOf]; omega
              | false =>
                rw [hMz] at rz hiff
                have HN : Hid (BfM wr w.heap.size n (k + 1) G R1 M3 ∧ FrM wr w.heap.size n F K L ∧ Says l n k M3 ∧ (∀ m, m < n → (M3 k m = true ↔ (∃ y ∈ fl.take j, m = y ∨ Ah l m y) ∨ m = z ∨ (m < p + 1 ∧ Ah l m z))) ∧ Keeps None w wr) := by
                  refine ⟨hB, hFr, hSy, fun m hm => ?_, hkp⟩
                  rw [hRow m hm]
                  constructor
                  · rintro (h | h | h)
                    · exact .inl h
                    · exact .inr (.inl h)
                    · exact .inr (.inr ⟨by omega, h.2⟩)
                  · rintro (h | h | h)
                    · exact .inl h
                    · exact .inr (.inl h)
                    · by_cases e : m = p
                      · subst e; exact absurd (hiff.2 h.2) (by simp)
                      · exact .inr (.inr ⟨by omega, h.2⟩)
                clear hB hFr hSy hRow hkp hiff hMz rf
                go_wp2
                go_roundw
                case rel => exact ⟨p + 1, _, by omega, by go_num, HN.out⟩
                case measure => simp [intOf]; omega
            · have hpz2 : p = z := by omega
              subst hpz2
              have HN : Hid (BfM wr w.heap.size n (k + 1) G R1 M3 ∧ FrM wr w.heap.size n F K L ∧ Says l n k M3 ∧ (∀ m, m < n → (M3 k m = true ↔ ∃ y ∈ fl.take (j + 1), m = y ∨ Ah l m y)) ∧ Keeps None w wr) := by
                obtain ⟨hz, hf, hkl, hfl⟩ := HZ.out
                refine ⟨hB, hFr, hSy, fun m hm => ?_, hkp⟩
                rw [hRow m hm, List.take_add_one, hz]
                simp only [Option.toList_some, List.mem_append, List.mem_singleton]
                constructor
                · rintro (⟨y, hy, h⟩ | h | h)
                  · exact ⟨y, .inl hy, h⟩
                  · exact ⟨p, .inr rfl, .inl h⟩
                  · exact ⟨p, .inr rfl, .inr h.2⟩
                · rintro ⟨y, hy | hy, h⟩
                  · exact .inl ⟨y, hy, h⟩
                  · subst hy
                    rcases h with h | h
                    · exact .inr (.inl h)
                    · exact .inr (.inr ⟨ah_lt hf (by omega) h, h⟩)
              clear hB hFr hSy hRow hkp
              go_wp2
              go_roundw
              case rel => exact ⟨j + 1, M3, by have := HFN.out; omega, by go_num, HN.out⟩
              case measure => have := HFN.out; simp [intOf]; omega
        · have hjl2 : j = fn := by omega
          have HN : Hid (BfM wr w.heap.size n (k + 1) G R1 M2 ∧ FrM wr w.heap.size n F K L ∧ Says l n (k + 1) M2 ∧ Keeps None w wr) := by
            refine ⟨hB, hFr, fun q hq m hm => ?_, hkp⟩
            by_cases e : q = k
            · subst e
              rw [hRow m hm, List.take_of_length_le (by omega), ah_iff, ← hfl]
            · exact hSy q (by omega) m hm
          subst hjl2
          clear hf hnl hfl hLk hK hB hFr hSy hRow hkp hfn
          go_wp2
          go_roundw
          case rel => exact ⟨k + 1, R1, M2, by omega, by go_num, HN.out⟩
          case measure => simp [intOf]; omega
    · have hkn2 : k = n := by omega
      subst hkn2
      have HN : Hid (BfM wr w.heap.size k k G R M ∧ Says l k k M ∧ Keeps None w wr) := ⟨hB, hSy, hkp⟩
      clear hB hFr hSy hkp
      go_wp2
      go_ret
      exact ⟨G, R, M, rfl, HN.out⟩
end Go.Proofs.Ytolhojagbiaamab
/-! What the laws of deeds hand in: a copy with odd ones behind it, other deeds, deeds laid in. -/
namespace Go.Proofs.Ytolhojagbiaamab
set_option linter.unusedVariables false
set_option maxRecDepth 20000
set_option linter.unusedSimpArgs false
open Go.RowKit Go.HeapKit

def odd1 : Dd := ⟨77, 5⟩
def odd2 : Dd := ⟨78, 6⟩
/-- A list of n deeds of the law's own, with the odd ones behind it. -/
def Spare (w : World) (base g n : Nat) (l : List Dd) : Prop := n = l.length ∧ IsD w base g (n + 2) (n + 2) (l ++ [odd1, odd2])
theorem made_two (n : Nat) : madeCells (Value.agg #[.int .i64 0, .int .i64 0]).cells (n * 2) = (ddVals (List.replicate n ⟨0, 0⟩)).toArray := by
  have hl : (ddVals (List.replicate n ⟨0, 0⟩)).length = n * 2 := by rw [ddVals_length]; simp
  have hc : (Value.agg #[.int .i64 0, .int .i64 0]).cells = #[.int .i64 0, .int .i64 0] := by kernel_rfl
  rw [hc]
  apply Array.ext
  · rw [size_madeCells]; simpa using hl.symm
  · intro i h1 h2
    have hi : i < n * 2 := by rwa [size_madeCells] at h1
    have hq : (List.replicate n (⟨0, 0⟩ : Dd))[i / 2]? = some ⟨0, 0⟩ := by rw [List.getElem?_replicate, if_pos (by omega)]
    have hv : (ddVals (List.replicate n (⟨0, 0⟩ : Dd)))[i]? = some (.int .i64 0) := by
      rcases Nat.mod_two_eq_zero_or_one i with h | h
      · have := ddVals_at _ _ _ hq 0 (.int .i64 0) rfl
        rwa [show i / 2 * 2 + 0 = i by omega] at this
      · have := ddVals_at _ _ _ hq 1 (.int .i64 0) rfl
        rwa [show i / 2 * 2 + 1 = i by omega] at this
    have hr : (ddVals (List.replicate n (⟨0, 0⟩ : Dd))).toArray[i] = .int .i64 0 := by
      have := (List.getElem?_eq_some_iff.1 hv).2
      simpa using this
    rw [hr]
    rcases Nat.mod_two_eq_zero_or_one i with h | h <;> simp [madeCells, h]
theorem make_deeds (n : Nat) (w : World) (hn : n * 16 ≤ 140737488355328) : ∃ w', (Instr.makeSlice 22 (.int .i64 n) (.int .i64 n)).run Try.prog w = .ok (.slice (some ⟨w.heap.size, 0, none⟩) n n) w' ∧ IsD w' w.heap.size w.heap.size n n (List.replicate n ⟨0, 0⟩) ∧ Keeps None w w' := by
  obtain ⟨i0, hi, hz0, hz1, hz2⟩ := info_parts Try.infoDeed
  obtain ⟨M, hM, hs, hr⟩ := run_make_block (P := Try.prog) (w := w) 22 26 i0 _ 2 16 Try.underlying22 hi hz0 hz1 hz2 n (by omega) (by omega)
  rw [made_two] at hM
  refine ⟨_, hr, ⟨by simp, by rw [ddVals_length]; simp, .inr ⟨_, _, M, rfl, Nat.le_refl _, heap_alloc_new _ _, Nat.le_refl _, ?_, ?_, ?_⟩⟩, Keeps.alloc None w _⟩
  all_goals first
    | (unfold maxLen; omega)
    | (rw [hM]; simp [ddVals_length]; done)
    | (rw [hM]; exact List.take_of_length_le (by rw [ddVals_length]; simp))
theorem wrap_small {x : Int} (h1 : -9223372036854775808 ≤ x) (h2 : x ≤ 9223372036854775807) : wrap64 x = x := by unfold wrap64; omega
theorem take_more {l : List Dd} {k : Nat} {x : Dd} (hx : l[k]? = some x) : l.take (k + 1) = l.take k ++ [x] := by
  rw [List.take_add_one, hx]
  rfl
theorem take_setD {l l2 : List Dd} {k : Nat} {x : Dd} (hx : l[k]? = some x) (hl : l.length ≤ l2.length) : (l.take k ++ l2.drop k).set k x = l.take (k + 1) ++ l2.drop (k + 1) := by
  have hk := (List.getElem?_eq_some_iff.1 hx).1
  rw [take_more hx, List.set_append_right _ _ (by simp; omega), List.append_assoc]
  congr 1
  rw [show k - (l.take k).length = 0 by simp; omega]
  rw [List.drop_eq_getElem_cons (show k < l2.length by omega)]
  rfl

set_option maxHeartbeats 1600000 in
theorem spare_ok (a : Option Addr) (n c : Nat) (l : List Dd) (w : World) (hS : Seen w a n l) (hn : (n + 2) * 16 ≤ 140737488355328) :
    Calls Try.prog 18 #[.slice a n c] w fun e w' => ∃ g, e = .returned (.slice (some ⟨g, 0, none⟩) (n + 2) (n + 2)) ∧ Spare w' w.heap.size g n l ∧ Keeps None w w' := by
  have HS : Hid (Seen w a n l) := hS
  clear hS
  obtain ⟨wm, hr, hD, hkm⟩ := make_deeds (n + 2) w hn
  have hw2 : wrap64 ((n : Int) + 2) = ((n + 2 : Nat) : Int) := wrap_small (by omega) (by omega)
  have HM : Hid (IsD wm w.heap.size w.heap.size (n + 2) (n + 2) (List.replicate (n + 2) ⟨0, 0⟩) ∧ Keeps None w wm) := ⟨hD, hkm⟩
  clear hD hkm
  go_enter Try.func18, Try.ntmps18
  go_wp2_with (at_make; refine wpList_make_run rfl (.tmp 9) (.tmp 9) 22 rfl rfl rfl hr ?_)
  clear hr
  go_loopw [5] (fun i wr => ∃ k : Nat, k ≤ n ∧ i = .int .i64 k ∧ IsD wr w.heap.size w.heap.size (n + 2) (n + 2) (l.take k ++ (List.replicate (n + 2) ⟨0, 0⟩).drop k) ∧ Keeps None w wr) (fun i _ => n - (intOf i).toNat)
  case atStart => exact ⟨0, Nat.zero_le _, rfl, by simpa using HM.out.1, HM.out.2⟩
  case round =>
    clear HM
    obtain ⟨k, hk, rfl, hD, hkp⟩ := hrel
    have hlen := HS.out.len
    by_cases hkn : k < n
    · obtain ⟨b, off, x, rfl, hb, hx, u0, u1⟩ := (HS.out.more hkp).elem hkn
      obtain ⟨y, hy⟩ : ∃ y, (l.take k ++ (List.replicate (n + 2) (⟨0, 0⟩ : Dd)).drop k)[k]? = some y := ⟨_, List.getElem?_eq_getElem (by simp; omega)⟩
      obtain ⟨v0, v1⟩ := hD.elem hy
      have f0 := hD.free (k * 2)
      have f1 := hD.free (k * 2 + 1)
      have i2 : (k : Int) < (n : Int) := by omega
      have HN : Hid (IsD (set2 wr w.heap.size (k * 2) x) w.heap.size w.heap.size (n + 2) (n + 2) (l.take (k + 1) ++ (List.replicate (n + 2) ⟨0, 0⟩).drop (k + 1)) ∧ Keeps None w (set2 wr w.heap.size (k * 2) x)) := by
        have := hD.put (k := k) (by omega) x
        rw [take_setD hx (by simp; omega)] at this
        exact ⟨this, hkp.trans (keeps_set2 wr w.heap.size (k * 2) x) (fun i e hi => by omega)⟩
      clear hD hkp hx hy hlen
      go_wp2
      go_roundw
      case rel => exact ⟨k + 1, by omega, by go_num, HN.out⟩
      case measure => simp [intOf]; omega
    · have hkn2 : k = n := by omega
      subst hkn2
      have hd2 : (l.take k ++ (List.replicate (k + 2) (⟨0, 0⟩ : Dd)).drop k) = l ++ [⟨0, 0⟩, ⟨0, 0⟩] := by
        rw [List.take_of_length_le (by omega), List.drop_replicate, show k + 2 - k = 2 by omega]
        rfl
      rw [hd2] at hD
      clear hd2
      obtain ⟨v0, v1⟩ := hD.elem (k := k) (x := ⟨0, 0⟩) (by rw [List.getElem?_append_right (by omega)]; simp [← hlen])
      obtain ⟨v2, v3⟩ := hD.elem (k := k + 1) (x := ⟨0, 0⟩) (by rw [List.getElem?_append_right (by omega)]; simp [← hlen])
      have f0 := hD.free (k * 2)
      have f1 := hD.free (k * 2 + 1)
      have f2 := hD.free ((k + 1) * 2)
      have f3 := hD.free ((k + 1) * 2 + 1)
      have hw1 : wrap64 ((k : Int) + 1) = ((k + 1 : Nat) : Int) := wrap_small (by omega) (by omega)
      have hD1 := hD.put (k := k) (by omega) odd1
      have hD2 := hD1.put (k := k + 1) (by omega) odd2
      have z2 := (hD1.elem (k := k + 1) (x := ⟨0, 0⟩) (by rw [List.getElem?_set_ne (by omega), List.getElem?_append_right (by omega)]; simp [← hlen]))
      obtain ⟨z2, z3⟩ := z2
      have z4 := hD1.free ((k + 1) * 2)
      have z5 := hD1.free ((k + 1) * 2 + 1)
      have HN : Hid (Spare (set2 (set2 wr w.heap.size (k * 2) odd1) w.heap.size ((k + 1) * 2) odd2) w.heap.size w.heap.size k l ∧ Keeps None w (set2 (set2 wr w.heap.size (k * 2) odd1) w.heap.size ((k + 1) * 2) odd2)) := by
        refine ⟨⟨hlen, ?_⟩, (hkp.trans (keeps_set2 wr w.heap.size (k * 2) odd1) (fun i e hi => by omega)).trans (keeps_set2 _ w.heap.size ((k + 1) * 2) odd2) (fun i e hi => by omega)⟩
        have e : ((l ++ [(⟨0, 0⟩ : Dd), ⟨0, 0⟩]).set k odd1).set (k + 1) odd2 = l ++ [odd1, odd2] := by
          rw [List.set_append_right _ _ (by omega), List.set_append_right _ _ (by omega), show k - l.length = 0 by omega, show k + 1 - l.length = 1 by omega]
          rfl
        rw [e] at hD2
        exact hD2
      unfold set2 odd1 odd2 at HN
      unfold set2 odd1 at z2 z3 z4 z5
      clear hD hD1 hD2 hkp hlen
      go_wp2
      go_ret
      exact ⟨_, rfl, HN.out⟩
end Go.Proofs.Ytolhojagbiaamab
/-! What the laws of deeds hand in, further. -/
namespace Go.Proofs.Ytolhojagbiaamab
set_option linter.unusedVariables false
set_option maxRecDepth 20000
set_option linter.unusedSimpArgs false
open Go.RowKit Go.HeapKit

theorem keeps_drewN (w : World) (m : Nat) : Keeps None w (w.drewN m) := ⟨rfl, rfl, rfl, Nat.le_refl _, fun _ _ _ => rfl⟩
theorem same_ok (aa ab : Option Addr) (n ca cb : Nat) (l : List Dd) (w : World) (ha : Seen w aa n l) (hb : Seen w ab n l) (hz : n * 16 ≤ 140737488355328) :
    Calls Try.prog 32 #[.slice aa n ca, .slice ab n cb] w fun e w' => e = .returned (.bool true) ∧ ∃ m, w' = w.drewN m := by
  have HH : Hid (Seen w aa n l ∧ Seen w ab n l) := ⟨ha, hb⟩
  clear ha hb
  go_enter Try.func32, Try.ntmps32
  go_wp2_with fail
  go_loopw [5] (fun i wr => ∃ k : Nat, k ≤ n ∧ i = .int .i64 k ∧ ∃ m, wr = w.drewN m) (fun i _ => n - (intOf i).toNat)
  case atStart => exact ⟨0, Nat.zero_le _, rfl, 0, rfl⟩
  case round =>
    obtain ⟨k, hk, rfl, m, rfl⟩ := hrel
    by_cases hkn : k < n
    · obtain ⟨ga, oa, rfl, -, hca⟩ := HH.out.1.ex (by omega)
      obtain ⟨gb, ob, rfl, -, hcb⟩ := HH.out.2.ex (by omega)
      obtain ⟨x, hx⟩ : ∃ x, l[k]? = some x := ⟨l[k]'(by have := HH.out.1.len; omega), by simp⟩
      obtain ⟨y0, y1⟩ := hca k x hx
      obtain ⟨z0, z1⟩ := hcb k x hx
      have i1 : (k : Int) < (n : Int) := by omega
      clear hx hca hcb HH
      obtain ⟨x0, x1⟩ := x
      go_wp2
      go_quiet (fail)
      go_wp2
      go_roundw
      case rel => exact ⟨k + 1, by omega, by go_num, _, rfl⟩
      case measure => simp [intOf]; omega
    · clear HH
      go_wp2
      go_ret
      exact ⟨rfl, _, rfl⟩

theorem Spare.seen {w : World} {base g n : Nat} {l : List Dd} (h : Spare w base g n l) : Seen w (some ⟨g, 0, none⟩) n l := by
  have := h.2.seen (m := n) (by omega)
  rwa [List.take_append_of_le_length (by have := h.1; omega), List.take_of_length_le (by have := h.1; omega)] at this
theorem Spare.kept {S : Nat → Prop} {w w' : World} {base g n : Nat} {l : List Dd} (h : Spare w base g n l) (hk : Keeps S w w') (hS : ¬ S g) : Spare w' base g n l := ⟨h.1, h.2.kept hk hS⟩
theorem Spare.more {w w' : World} {base g n : Nat} {l : List Dd} (h : Spare w base g n l) (hk : Keeps None w w') : Spare w' base g n l := h.kept hk (fun f => f)
theorem Spare.put {w : World} {base g n : Nat} {l : List Dd} (h : Spare w base g n l) {k : Nat} (hk : k < n) (x : Dd) : Spare (set2 w g (k * 2) x) base g n (l.set k x) := by
  refine ⟨by simpa using h.1, ?_⟩
  have := h.2.put (k := k) (by omega) x
  rwa [List.set_append_left _ _ (by have := h.1; omega)] at this
theorem Spare.elem {w : World} {base g n : Nat} {l : List Dd} (h : Spare w base g n l) {k : Nat} (hk : k < n) : ∃ y, C2 w g (k * 2) y := by
  obtain ⟨y, hy⟩ : ∃ y, (l ++ [odd1, odd2])[k]? = some y := ⟨_, List.getElem?_eq_getElem (by simp; have := h.1; omega)⟩
  exact ⟨y, h.2.elem hy⟩

set_option maxHeartbeats 1600000 in
theorem untouched_ok (a : Option Addr) (g n c base : Nat) (l : List Dd) (w : World) (hG : Spare w base g n l) (hS : Seen w a n l) (hz : (n + 2) * 16 ≤ 140737488355328) :
    Calls Try.prog 19 #[.slice (some ⟨g, 0, none⟩) (n + 2) (n + 2), .slice a n c] w fun e w' => e = .returned (.bool true) ∧ ∃ m, w' = w.drewN m := by
  have HG : Hid (Spare w base g n l) := hG
  have HS : Hid (Seen w a n l) := hS
  have hlen := hG.1
  obtain ⟨v0, v1⟩ := hG.2.elem (k := n) (x := odd1) (by rw [List.getElem?_append_right (by omega)]; simp [← hlen])
  obtain ⟨v2, v3⟩ := hG.2.elem (k := n + 1) (x := odd2) (by rw [List.getElem?_append_right (by omega)]; simp [← hlen])
  unfold odd1 at v0 v1
  unfold odd2 at v2 v3
  have hw1 : wrap64 ((n : Int) + 1) = ((n + 1 : Nat) : Int) := wrap_small (by omega) (by omega)
  clear hG hS hlen
  have v0' : ∀ m, (w.drewN m).cell? ⟨g, n * 2, none⟩ = some (.int .i64 77) := fun _ => v0
  have v1' : ∀ m, (w.drewN m).cell? ⟨g, n * 2 + 1, none⟩ = some (.int .i64 5) := fun _ => v1
  have v2' : ∀ m, (w.drewN m).cell? ⟨g, (n + 1) * 2, none⟩ = some (.int .i64 78) := fun _ => v2
  have v3' : ∀ m, (w.drewN m).cell? ⟨g, (n + 1) * 2 + 1, none⟩ = some (.int .i64 6) := fun _ => v3
  go_enter Try.func19, Try.ntmps19
  go_wp2_with fail
  refine (same_ok _ a n _ c l w HG.out.seen HS.out (by omega)).mono ?_
  rintro e w' ⟨rfl, m, rfl⟩
  have z0 := v0' m
  have z1 := v1' m
  have z2 := v2' m
  have z3 := v3' m
  go_wp2
  go_ret
  exact ⟨rfl, _, rfl⟩

def turnD (x : Dd) : Dd := if x.k = 3 then ⟨4, wrap64 (x.loc + 1)⟩ else if x.k = 4 then ⟨3, wrap64 (x.loc + 1)⟩ else if x.k = 2 then ⟨3, x.loc⟩ else x
set_option maxHeartbeats 3200000 in
theorem turned_ok (a : Option Addr) (n c : Nat) (l : List Dd) (w : World) (hS : Seen w a n l) (hn : (n + 2) * 16 ≤ 140737488355328) :
    Calls Try.prog 33 #[.slice a n c] w fun e w' => ∃ v, e = .returned v ∧ w'.ownsRow w.heap.size 26 2 v n (ddVals (l.map turnD)) ∧ Keeps None w w' := by
  have HS : Hid (Seen w a n l) := hS
  clear hS
  go_enter Try.func33, Try.ntmps33
  go_wp2_with fail
  go_loopw [3, 4, 5] (fun s i _ wr => ∃ k : Nat, k ≤ n ∧ i = .int .i64 k ∧ wr.ownsRow w.heap.size 26 2 s k (ddVals ((l.take k).map turnD)) ∧ Keeps None w wr) (fun _ i _ _ => n - (intOf i).toNat)
  case atStart => exact ⟨0, Nat.zero_le _, rfl, by simpa [ddVals] using row_nil w _ _ _, Keeps.refl _ _⟩
  case round =>
    obtain ⟨k, hk, rfl, hrow, hkp⟩ := hrel
    obtain ⟨sa, cs, rfl⟩ := row_shape hrow
    have hlen := HS.out.len
    by_cases hkn : k < n
    · obtain ⟨b, off, x, rfl, hb, hx, u0, u1⟩ := (HS.out.more hkp).elem hkn
      have i2 : (k : Int) < (n : Int) := by omega
      have hfin : ∀ k' lo' : Int, turnD x = ⟨k', lo'⟩ → ∃ g cp w2, (Builtin.append_ #[22, 22] 22 #[.slice sa k cs, .slice (some ⟨wr.heap.size + 1, 0, none⟩) 1 1]).run Try.prog ((wr.alloc (.cells #[.int .i64 k', .int .i64 lo'] 26)).alloc (.cells #[.int .i64 k', .int .i64 lo'] 26)) = .ok (.slice (some ⟨g, 0, none⟩) (k + 1) cp) w2 ∧ Hid (w2.ownsRow w.heap.size 26 2 (.slice (some ⟨g, 0, none⟩) (k + 1) cp) (k + 1) (ddVals ((l.take (k + 1)).map turnD)) ∧ Keeps None w w2) := by
        intro k' lo' ht
        have hbn : ((wr.alloc (.cells #[.int .i64 k', .int .i64 lo'] 26)).alloc (.cells #[.int .i64 k', .int .i64 lo'] 26)).heap[wr.heap.size + 1]? = some (.cells #[.int .i64 k', .int .i64 lo'] 26 (0, 0)) := blk_new _ _ _ (by simp)
        obtain ⟨g, cp, w2, hr, ho, hk3, hm⟩ := deed_more w.heap.size (.slice sa k cs) ((l.take k).map turnD) ⟨k', lo'⟩ k 22 _ (by simp; omega) ((hrow.alloc _).alloc _) (by have := hkp.size; simp; omega) (by omega) hbn
        refine ⟨g, cp, w2, hr, ?_, ?_⟩
        · rw [take_more hx, List.map_append, List.map_singleton, ht]
          exact ho
        · exact ((hkp.andAlloc _).andAlloc _).trans hk3 (fun i e hi => by have := row_low hrow e; omega)
      have HF : Hid _ := hfin
      clear hfin hrow hkp hx hlen
      obtain ⟨xk, xl⟩ := x
      by_cases e3 : xk = 3
      · subst e3
        obtain ⟨g, cp, w2, hr, HN⟩ := HF.out 4 (wrap64 (xl + 1)) rfl
        clear HF
        go_wp2_with (at_builtin; refine wpList_append_run rfl (.tmp 35) (.tmp 37) 22 22 rfl rfl rfl hr ?_)
        exact ⟨⟨k + 1, by omega, by go_num, HN.out⟩, by simp [intOf]; omega⟩
      · by_cases e4 : xk = 4
        · subst e4
          obtain ⟨g, cp, w2, hr, HN⟩ := HF.out 3 (wrap64 (xl + 1)) rfl
          clear HF
          go_wp2_with (at_builtin; refine wpList_append_run rfl (.tmp 35) (.tmp 37) 22 22 rfl rfl rfl hr ?_)
          exact ⟨⟨k + 1, by omega, by go_num, HN.out⟩, by simp [intOf]; omega⟩
        · by_cases e2 : xk = 2
          · subst e2
            obtain ⟨g, cp, w2, hr, HN⟩ := HF.out 3 xl rfl
            clear HF
            go_wp2_with (at_builtin; refine wpList_append_run rfl (.tmp 35) (.tmp 37) 22 22 rfl rfl rfl hr ?_)
            exact ⟨⟨k + 1, by omega, by go_num, HN.out⟩, by simp [intOf]; omega⟩
          · obtain ⟨g, cp, w2, hr, HN⟩ := HF.out xk xl (by simp [turnD, e2, e3, e4])
            clear HF
            go_wp2_with (at_builtin; refine wpList_append_run rfl (.tmp 35) (.tmp 37) 22 22 rfl rfl rfl hr ?_)
            exact ⟨⟨k + 1, by omega, by go_num, HN.out⟩, by simp [intOf]; omega⟩
    · have hkn2 : k = n := by omega
      subst hkn2
      have HN : Hid (wr.ownsRow w.heap.size 26 2 (.slice sa k cs) k (ddVals (l.map turnD)) ∧ Keeps None w wr) := by
        rw [List.take_of_length_le (by omega)] at hrow
        exact ⟨hrow, hkp⟩
      clear hrow hkp hlen
      go_wp2
      go_ret
      exact ⟨_, rfl, HN.out⟩

set_option maxHeartbeats 1600000 in
theorem lay_ok (a : Option Addr) (n c g base cap : Nat) (l l2 : List Dd) (w : World) (hG : Spare w base g n l2) (hS : Seen w a n l) (hne : 0 < n → ∀ b, blockOf a = some b → b ≠ g) (hcap : n ≤ cap) (hn : (n + 2) * 16 ≤ 140737488355328) :
    Calls Try.prog 34 #[.slice (some ⟨g, 0, none⟩) n cap, .slice a n c] w fun e w' => e = .returned (.tuple #[]) ∧ Spare w' base g n l ∧ Keeps (· = g) w w' := by
  have HH : Hid (Seen w a n l) := hS
  have HR : Hid (Spare w base g n l2) := hG
  have HE : Hid (0 < n → ∀ b, blockOf a = some b → b ≠ g) := hne
  clear hS hG hne
  go_enter Try.func34, Try.ntmps34
  go_wp2_with fail
  go_loopw [4] (fun i wr => ∃ k : Nat, k ≤ n ∧ i = .int .i64 k ∧ Spare wr base g n (l.take k ++ l2.drop k) ∧ Keeps (· = g) w wr) (fun i _ => n - (intOf i).toNat)
  case atStart => exact ⟨0, Nat.zero_le _, rfl, by simpa using HR.out, Keeps.refl _ _⟩
  case round =>
    obtain ⟨k, hk, rfl, hroom, hkp⟩ := hrel
    have h1 := HH.out.len
    have h2 := HR.out.1
    by_cases hkn : k < n
    · have hS := HH.out.kept hkp (fun h0 b e _ e2 => HE.out h0 b e e2)
      obtain ⟨b, off, x, rfl, hb, hx, u0, u1⟩ := hS.elem hkn
      obtain ⟨y, z0, z1⟩ := hroom.elem hkn
      have f0 := hroom.2.free (k * 2)
      have f1 := hroom.2.free (k * 2 + 1)
      have i1 : (k : Int) < (n : Int) := by omega
      have HN : Hid (Spare (set2 wr g (k * 2) x) base g n (l.take (k + 1) ++ l2.drop (k + 1)) ∧ Keeps (· = g) w (set2 wr g (k * 2) x)) := by
        have := hroom.put hkn x
        rw [take_setD hx (by omega)] at this
        exact ⟨this, hkp.trans (keeps_set2 wr g (k * 2) x) (fun _ e _ => e)⟩
      clear hS hx hroom hkp HE HR h1 h2
      go_wp2
      go_roundw
      case rel => exact ⟨k + 1, by omega, by go_num, HN.out⟩
      case measure => simp [intOf]; omega
    · have hkn2 : k = n := by omega
      subst hkn2
      have HN : Hid (Spare wr base g k l ∧ Keeps (· = g) w wr) := by
        rw [List.take_of_length_le (by omega), List.drop_eq_nil_of_le (by omega), List.append_nil] at hroom
        exact ⟨hroom, hkp⟩
      clear hroom hkp HE HR
      go_wp2
      go_end0
      exact ⟨rfl, HN.out⟩
end Go.Proofs.Ytolhojagbiaamab
/-! The walk of RacesCheck. -/
namespace Go.Proofs.Ytolhojagbiaamab
set_option linter.unusedVariables false
set_option maxRecDepth 20000
set_option linter.unusedSimpArgs false
open Go.RowKit Go.HeapKit

/-- The other deeds, with the odd ones behind them. -/
theorem tspare_ok (v : Value) (n : Nat) (l : List Dd) (w : World) (base : Nat) (hr : w.ownsRow base 26 2 v n (ddVals l)) (hl : n = l.length) (hn : (n + 2) * 16 ≤ 140737488355328) :
    Calls Try.prog 18 #[v] w fun e w' => ∃ g, e = .returned (.slice (some ⟨g, 0, none⟩) (n + 2) (n + 2)) ∧ Spare w' w.heap.size g n l ∧ Keeps None w w' := by
  obtain ⟨a, c, rfl⟩ := row_shape hr
  exact spare_ok a n c l w (Seen.of_row hl hr) hn
theorem eqSpot (x k : Int) (w : World) : (binOp .eql 54 (.agg #[.int .i64 x, .int .i64 k]) (.agg #[.int .i64 x, .int .i64 k])).run Try.prog w = .ok (.bool true) w := by
  have u3 := Try.underlying3
  have a3 := Try.isAgg3
  have z3 := Try.sizeOf3
  have u2 := Try.underlying28
  have a2 := Try.isAgg28
  have z2 := Try.sizeOf28
  have hS : Try.prog.underlying 54 = some (.struct (Try.prog.fieldsOf 54)) := by kernel_rfl
  have hp : Try.prog.stoodInHeld 54 = false := by kernel_rfl
  rw [run_eql_struct, show (10000 : Nat) = 9999 + 1 from rfl, run_equalIn_agg w 9999 54 _ _ hS hp]
  simp only [Program.fieldsOf, Try.underlying54]
  go_simp
theorem check_raw (a : Option Addr) (n c : Nat) (l : List Dd) (w : World) (hS : Seen w a n l) :
    Calls Try.prog 22 #[.slice a n c] w fun e w' => e = .returned (.agg #[.int .i64 (chkE l), .int .i64 (chkA l)]) ∧ Keeps None w w' := check_ok a n c l w hS
theorem rcheck_raw (a : Option Addr) (n c : Nat) (l : List Dd) (w : World) (hS : Seen w a n l) :
    Calls Try.prog 28 #[.slice a n c] w fun e w' => e = .returned (.agg #[.int .i64 (chkE l), .int .i64 (chkA l)]) ∧ Keeps None w w' := rcheck_ok a n c l w hS
end Go.Proofs.Ytolhojagbiaamab
/-! Parallel: the program's and the document's. -/
namespace Go.Proofs.Ytolhojagbiaamab
set_option linter.unusedVariables false
set_option maxRecDepth 20000
set_option linter.unusedSimpArgs false
open Go.RowKit Go.HeapKit

theorem chk_fine {l : List Dd} (h : chkE l = 0) : l.length ≤ 4096 ∧ Fine l := by
  by_cases h1 : l.length > 4096
  · rw [(chk_long h1).1] at h; omega
  · refine ⟨by omega, ⟨?_⟩⟩
    cases hc : chkL l 0 0 with
    | none => rfl
    | some i => rw [(chk_some h1 hc).1] at h; omega
/-- Is the number of a deed told? -/
def outI (l : List Dd) (i : Int) : Bool := decide (i < 0) || decide (i ≥ (l.length : Int))
def parE (l : List Dd) (i j : Int) : Int := if chkE l = 0 then (if (outI l i || outI l j) = true then 3 else 0) else chkE l
def parB (l : List Dd) (i j : Int) : Bool := if chkE l = 0 ∧ (outI l i || outI l j) = false then decide ((Lof (stN l l.length)).idxOf (max i.toNat j.toNat) < (Lof (stN l l.length)).idxOf (min i.toNat j.toNat)) else false
theorem par_bad {l : List Dd} {i j : Int} (h : ¬ chkE l = 0) : parB l i j = false ∧ parE l i j = chkE l := ⟨by unfold parB; rw [if_neg (fun e => h e.1)], by unfold parE; rw [if_neg h]⟩
theorem par_out {l : List Dd} {i j : Int} (h : chkE l = 0) (ho : (outI l i || outI l j) = true) : parB l i j = false ∧ parE l i j = 3 := ⟨by unfold parB; rw [if_neg (fun e => by rw [ho] at e; exact absurd e.2 (by decide))], by unfold parE; rw [if_pos h, if_pos ho]⟩
theorem par_in {l : List Dd} {i j : Nat} (h : chkE l = 0) (hi : i < l.length) (hj : j < l.length) : parB l i j = decide ((Lof (stN l l.length)).idxOf (max i j) < (Lof (stN l l.length)).idxOf (min i j)) ∧ parE l i j = 0 := by
  have ho : (outI l i || outI l j) = false := by unfold outI; simp; omega
  refine ⟨by unfold parB; rw [if_pos ⟨h, ho⟩]; simp, by unfold parE; rw [if_pos h, ho]; rfl⟩
theorem par_eq {l : List Dd} {i j : Int} {b : Bool} {e : Int} (h : parB l i j = b ∧ parE l i j = e) : Ending.returned (.tuple #[.bool b, .int .i64 e]) = Ending.returned (.tuple #[.bool (parB l i j), .int .i64 (parE l i j)]) := by rw [h.1, h.2]
set_option maxHeartbeats 4000000 in
theorem parallel_ok (a : Option Addr) (n c : Nat) (l : List Dd) (i j : Int) (w : World) (hS : Seen w a n l) :
    Calls Try.prog 10 #[.slice a n c, .int .i64 i, .int .i64 j] w fun e w' => e = .returned (.tuple #[.bool (parB l i j), .int .i64 (parE l i j)]) ∧ Keeps None w w' := by
  have HS : Hid (Seen w a n l) := hS
  have HLen : Hid (n = l.length) := hS.len
  clear hS
  go_enter Try.func10, Try.ntmps10
  go_upto_region 2 with (go_at_call 22; refine Calls.mono (check_raw a n c l w HS.out) ?_; rintro _ w1 ⟨rfl, hk1⟩)
  obtain ⟨E, hE⟩ : ∃ E, E = chkE l := ⟨_, rfl⟩
  obtain ⟨A1, hA1⟩ : ∃ A1, A1 = chkA l := ⟨_, rfl⟩
  rw [← hE, ← hA1]
  have b2 := heap_alloc_new w1 (.cells #[.int .i64 E, .int .i64 A1] 54)
  have k2 := hk1.andAlloc (.cells #[.int .i64 E, .int .i64 A1] 54)
  obtain ⟨w2, hw2⟩ : ∃ w2, w2 = w1.alloc (.cells #[.int .i64 E, .int .i64 A1] 54) := ⟨_, rfl⟩
  obtain ⟨B, hB⟩ : ∃ B, B = w1.heap.size := ⟨_, rfl⟩
  rw [← hw2] at b2 k2
  rw [← hB] at b2
  rw [← hw2, ← hB]
  have g0 : w2.cell? ⟨B, 0, none⟩ = some (.int .i64 E) := cell_of_heap b2 0
  have HK : Hid (Keeps None w w2) := k2
  have HE : Hid (chkE l = E) := hE.symm
  clear b2 k2 hw2 hB hE hA1 hk1
  by_cases hE0 : E = 0
  · subst hE0
    obtain ⟨hn, hf⟩ := chk_fine HE.out
    have hn2 : n ≤ 4096 := by rw [HLen.out]; exact hn
    have HP : Hid _ := parentsFirst_ok a n c l w2 (HS.out.more HK.out) hf hn2
    obtain ⟨d, _, _, hI⟩ := hf.at l.length (Nat.le_refl _)
    have HI : Hid (Inv l l.length) := hI
    clear hn hf hI
    by_cases ho : (outI l i || outI l j) = true
    · have HO : Hid _ := par_out HE.out ho
      have hmm : min i j < 0 ∨ (¬ min i j < 0 ∧ max i j ≥ (n : Int)) := by
        have := HLen.out
        unfold outI at ho
        simp at ho
        omega
      clear ho HP HI
      rcases hmm with hm | ⟨hm, hx⟩
      · go_wp2
        all_goals (go_ret2; exact ⟨par_eq HO.out, HK.out⟩)
      · go_wp2
        all_goals (go_ret2; exact ⟨par_eq HO.out, HK.out⟩)
    · obtain ⟨i', rfl, hi'⟩ : ∃ i' : Nat, i = i' ∧ i' < l.length := by
        refine ⟨i.toNat, ?_, ?_⟩ <;> (unfold outI at ho; simp at ho; omega)
      obtain ⟨j', rfl, hj'⟩ : ∃ j' : Nat, j = j' ∧ j' < l.length := by
        refine ⟨j.toNat, ?_, ?_⟩ <;> (unfold outI at ho; simp at ho; omega)
      have HV : Hid _ := par_in HE.out hi' hj'
      have i1 : ((i' : Nat) : Int) < (n : Int) := by rw [HLen.out]; omega
      have i2 : ((j' : Nat) : Int) < (n : Int) := by rw [HLen.out]; omega
      have hin : ∀ q, q < l.length → q ∈ Lof (stN l l.length) := fun q hq => (HI.out.all q).2 hq
      have HIN : Hid (i' ∈ Lof (stN l n) ∧ j' ∈ Lof (stN l n)) := by rw [HLen.out]; exact ⟨hin i' hi', hin j' hj'⟩
      clear ho hi' hj' hin HI
      rcases Nat.lt_trichotomy i' j' with hij | hij | hij
      · skip
        have f1 : (i' : Int) < (j' : Int) := by omega
        have f2 : ¬ (j' : Int) < (i' : Int) := by omega
        have f3 : (i' : Int) ≤ (j' : Int) := by omega
        have f4 : ¬ (j' : Int) ≤ (i' : Int) := by omega
        have f5 : ¬ j' ≤ i' := by omega
        have f6 : ¬ j' < i' := by omega
        have f7 : i' ≤ j' := by omega
        have hmm : max i' j' = j' ∧ min i' j' = i' := by omega
        have HMM : Hid (max i' j' = j' ∧ min i' j' = i') := hmm
        clear hmm
        go_wp2_with (first
          | (go_at_call 25; refine Calls.mono HP.out ?_; rintro _ w3 ⟨g, c3, rfl, hr3, hk3⟩)
          | (go_at_call 24; refine Calls.mono (swapped_ok g n c3 _ (Lof (stN l n)) i' j' w3 hr3 HIN.out.1 HIN.out.2 hn2) ?_; rintro _ w4 ⟨rfl, hw4⟩; have hw4' := hw4.symm; subst hw4'))
        go_ret2
        refine ⟨?_, HK.out.trans hk3 (fun _ f _ => f)⟩
        rw [HV.out.1, HV.out.2, HMM.out.1, HMM.out.2, HLen.out]
        first
          | rfl
          | (simp only [Nat.lt_irrefl, decide_false]; rfl)
      · subst hij
        have hmm : max i' i' = i' ∧ min i' i' = i' := by omega
        have HMM : Hid (max i' i' = i' ∧ min i' i' = i') := hmm
        clear hmm
        go_wp2_with (first
          | (go_at_call 25; refine Calls.mono HP.out ?_; rintro _ w3 ⟨g, c3, rfl, hr3, hk3⟩)
          | (go_at_call 24; refine Calls.mono (swapped_ok g n c3 _ (Lof (stN l n)) i' i' w3 hr3 HIN.out.1 HIN.out.1 hn2) ?_; rintro _ w4 ⟨rfl, hw4⟩; have hw4' := hw4.symm; subst hw4'))
        go_ret2
        refine ⟨?_, HK.out.trans hk3 (fun _ f _ => f)⟩
        rw [HV.out.1, HV.out.2, HMM.out.1, HMM.out.2, HLen.out]
        first
          | rfl
          | (simp only [Nat.lt_irrefl, decide_false]; rfl)
      · skip
        have f1 : (j' : Int) < (i' : Int) := by omega
        have f2 : ¬ (i' : Int) < (j' : Int) := by omega
        have f3 : (j' : Int) ≤ (i' : Int) := by omega
        have f4 : ¬ (i' : Int) ≤ (j' : Int) := by omega
        have f5 : ¬ i' ≤ j' := by omega
        have f6 : ¬ i' < j' := by omega
        have f7 : j' ≤ i' := by omega
        have hmm : max i' j' = i' ∧ min i' j' = j' := by omega
        have HMM : Hid (max i' j' = i' ∧ min i' j' = j') := hmm
        clear hmm
        go_wp2_with (first
          | (go_at_call 25; refine Calls.mono HP.out ?_; rintro _ w3 ⟨g, c3, rfl, hr3, hk3⟩)
          | (go_at_call 24; refine Calls.mono (swapped_ok g n c3 _ (Lof (stN l n)) j' i' w3 hr3 HIN.out.2 HIN.out.1 hn2) ?_; rintro _ w4 ⟨rfl, hw4⟩; have hw4' := hw4.symm; subst hw4'))
        go_ret2
        refine ⟨?_, HK.out.trans hk3 (fun _ f _ => f)⟩
        rw [HV.out.1, HV.out.2, HMM.out.1, HMM.out.2, HLen.out]
        first
          | rfl
          | (simp only [Nat.lt_irrefl, decide_false]; rfl)
  · have HO : Hid _ := par_bad (i := i) (j := j) (fun h => hE0 (HE.out.symm.trans h))
    go_upto_region 3 with fail
    go_quiet (fail)
    go_wp2
    go_ret2
    exact ⟨by rw [← HE.out]; exact par_eq HO.out, HK.out.trans (keeps_drewN _ _) (fun _ f _ => f)⟩
theorem idx_inj {L : List Nat} {a b : Nat} (ha : a ∈ L) (h : L.idxOf a = L.idxOf b) : a = b := by
  have h1 := List.getElem_idxOf (List.idxOf_lt_length_iff.2 ha)
  have hb : L.idxOf b < L.length := by rw [← h]; exact List.idxOf_lt_length_iff.2 ha
  have h2 := List.getElem_idxOf hb
  have h3 : L[L.idxOf a]'(List.idxOf_lt_length_iff.2 ha) = L[L.idxOf b] := by simp only [h]
  rw [h1, h2] at h3
  exact h3
theorem par_val {l : List Dd} {i j : Nat} {M : Nat → Nat → Bool} (hI : Inv l l.length) (hSy : Says l l.length l.length M) (hi : i < l.length) (hj : j < l.length) (hij : i < j) :
    decide ((Lof (stN l l.length)).idxOf j < (Lof (stN l l.length)).idxOf i) = (!M j i) ∧ M i j = false := by
  have h1 := hSy j hj i hi
  have h2 := hSy i hi j hj
  rw [hI.ah j hj i] at h1
  rw [hI.ah i hi j] at h2
  have hne : (Lof (stN l l.length)).idxOf i ≠ (Lof (stN l l.length)).idxOf j := fun e => by
    have := idx_inj ((hI.all i).2 hi) e
    omega
  constructor
  · cases hM : M j i with
    | true =>
      have := (h1.1 hM).2
      simp; omega
    | false =>
      simp
      rw [hM] at h1
      have h3 : ¬ ((Lof (stN l l.length)).idxOf i < (Lof (stN l l.length)).idxOf j) := fun h => by
        have := h1.2 ⟨hij, h⟩
        simp at this
      omega
  · cases hM : M i j with
    | true => have := (h2.1 hM).1; omega
    | false => rfl
end Go.Proofs.Ytolhojagbiaamab
/-! The walk of RacesParallel. -/
namespace Go.Proofs.Ytolhojagbiaamab
set_option linter.unusedVariables false
set_option maxRecDepth 20000
set_option linter.unusedSimpArgs false
open Go.RowKit Go.HeapKit

end Go.Proofs.Ytolhojagbiaamab
/-! Orders: rows of numbers that are told; serially; Orders; the marks. -/
namespace Go.Proofs.Ytolhojagbiaamab
set_option linter.unusedVariables false
set_option maxRecDepth 20000
set_option linter.unusedSimpArgs false
open Go.RowKit Go.HeapKit

def ivZ (l : List Int) : List Value := l.map (Value.int .i64)
theorem ivZ_len (l : List Int) : (ivZ l).length = l.length := by simp [ivZ]
def natZ (l : List Nat) : List Int := l.map (fun a : Nat => (a : Int))
theorem ivN_ivZ (L : List Nat) : ivN L = ivZ (natZ L) := by simp [ivN, ivZ, natZ]
/-- A row of numbers of the call's own. -/
def RowZ (w : World) (base : Nat) (v : Value) (L : List Int) : Prop := w.ownsRow base 3 1 v L.length (ivZ L)
section
variable {w w' : World} {base : Nat} {v : Value} {L : List Int}
theorem RowZ.shape (h : RowZ w base v L) : ∃ a c, v = .slice a L.length c ∧ (0 < L.length → ∃ g, a = some ⟨g, 0, none⟩) := by
  rcases h.2 with ⟨rfl, h0⟩ | ⟨g, cap, cur, rfl, _⟩
  · exact ⟨none, 0, by rw [h0], fun h1 => by omega⟩
  · exact ⟨_, cap, rfl, fun _ => ⟨g, rfl⟩⟩
theorem RowZ.at {g c k : Nat} {x : Int} (h : RowZ w base (.slice (some ⟨g, 0, none⟩) L.length c) L) (hx : L[k]? = some x) : w.cell? ⟨g, k, none⟩ = some (.int .i64 x) ∧ w.frozen? ⟨g, k, none⟩ = false ∧ base ≤ g := by
  have hk := (List.getElem?_eq_some_iff.1 hx).1
  rcases h.2 with ⟨_, h1⟩ | ⟨g', cap, cur, hv, hbg, hg, hnc, hcm, hcs, htake⟩
  · omega
  · injection hv with e1 e2 e3
    injection e1 with e1
    injection e1 with e1
    subst e1 e3
    have hv : (ivZ L)[k]? = some (.int .i64 x) := by simp [ivZ, hx]
    refine ⟨?_, blk_free hg k, hbg⟩
    rw [blk_cell hg]
    rw [← htake, List.getElem?_take] at hv
    split at hv
    · simpa using hv
    · cases hv
theorem RowZ.kept {S : Nat → Prop} (h : RowZ w base v L) (hk : Keeps S w w') (hS : ∀ g, v.ownBlock = some g → ¬ S g) : RowZ w' base v L := row_kept h hk hS
theorem RowZ.more (h : RowZ w base v L) (hk : Keeps None w w') : RowZ w' base v L := h.kept hk (fun _ _ f => f)
theorem RowZ.put {g c k : Nat} (h : RowZ w base (.slice (some ⟨g, 0, none⟩) L.length c) L) (x : Int) : RowZ (w.setCell ⟨g, k, none⟩ (.int .i64 x)) base (.slice (some ⟨g, 0, none⟩) L.length c) (L.set k x) := by
  have := row_set h k (.int .i64 x)
  unfold RowZ
  rw [List.length_set]
  have e : (ivZ L).set k (.int .i64 x) = ivZ (L.set k x) := by simp [ivZ, List.map_set]
  rw [← e]
  exact this
end
theorem set_rep (L : List Int) (x : Int) {k : Nat} (hk : k < L.length) : (List.replicate k x ++ L.drop k).set k x = List.replicate (k + 1) x ++ L.drop (k + 1) := by
  rw [List.set_append_right _ _ (by simp), List.length_replicate, Nat.sub_self, List.drop_eq_getElem_cons hk]
  simp only [List.set_cons_zero]
  rw [List.replicate_succ', List.append_assoc]
  rfl
/-- The numbers that stand at the head of a slice. -/
def SeesZ (w : World) (v : Value) (L : List Int) : Prop := ∀ a c, v = .slice a L.length c → ∀ k x, L[k]? = some x → ∃ g, a = some ⟨g, 0, none⟩ ∧ w.cell? ⟨g, k, none⟩ = some (.int .i64 x)
theorem RowZ.sees {w : World} {base : Nat} {v : Value} {L : List Int} (h : RowZ w base v L) : SeesZ w v L := by
  intro a c e k x hx
  subst e
  have hk := (List.getElem?_eq_some_iff.1 hx).1
  obtain ⟨a', c', e, hg⟩ := h.shape
  injection e with e1 e2 e3
  subst e1 e3
  obtain ⟨g, rfl⟩ := hg (by omega)
  exact ⟨g, rfl, (h.at hx).1⟩
theorem SeesZ.kept {S : Nat → Prop} {w w' : World} {v : Value} {L : List Int} (h : SeesZ w v L) (hk : Keeps S w w') (hS : ∀ g, v.ownBlock = some g → ¬ S g) : SeesZ w' v L := by
  intro a c e k x hx
  obtain ⟨g, rfl, hc⟩ := h a c e k x hx
  subst e
  exact ⟨g, rfl, hk.cell hc (hS g rfl)⟩
end Go.Proofs.Ytolhojagbiaamab
/-! What is appended to a list leaves what stands in it. -/
namespace Go.Proofs.Ytolhojagbiaamab
set_option linter.unusedVariables false
set_option maxRecDepth 20000
set_option linter.unusedSimpArgs false
open Go.RowKit Go.HeapKit

/-- 'append': in its place, or in new memory and nothing else touched. -/
theorem run_append_apart {P : Program} (w : World) (base : Nat) (t ty e : TypeId) (i : TypeInfo) (z : Value) (size bytes : Nat) (ht : P.underlying t = some (.slice e)) (hi : P.info? e = some i) (hz : i.zero = some z)
    (hsize : i.size = size) (hby : i.bytes = bytes) (hzs : z.cells.size = size) (hsz : 0 < size)
    (v : Value) (n : Nat) (xs : List Value) (hown : w.ownsRow base e size v n xs)
    (a : Addr) (m c : Nat) (news : List Value) (hl : news.length = m * size) (hnews : ∀ j u, news[j]? = some u → w.cell? (a.add j) = some u) (h1 : ∀ u ∈ news, u.oneCell' = true)
    (h63 : n + m ≤ maxLen) (hbytes : (n + m) * bytes ≤ 140737488355328) (hbase : base ≤ w.heap.size) :
    ∃ v' w', (Builtin.append_ #[t, t] ty #[v, .slice (some a) m c]).run P w = .ok v' w' ∧ w'.ownsRow base e size v' (n + m) (xs ++ news) ∧ w.grownBy w' v.ownBlock ∧ Moved w v v' ∧ (v'.ownBlock = v.ownBlock ∨ Keeps None w w') := by
  obtain ⟨v', w', hr, ho, hg, hmv, hn⟩ := run_append_moved (P := P) w base t ty e i z size bytes ht hi hz hsize hby hzs hsz v n xs hown a m c news hl hnews h1 h63 hbytes hbase
  refine ⟨v', w', hr, ho, hg, hmv, ?_⟩
  subst hsize
  subst hby
  have hsmall : n + m ≤ 9223372036854775807 := by simp only [maxLen] at h63; omega
  rcases hown.2 with ⟨rfl, rfl⟩ | ⟨g, cap, cur, rfl, hbg, hgg, hnc, hcm, hcs, htake⟩
  · right
    exact (Keeps.refl None w).andGrown hg (fun k e => by simp [Value.ownBlock] at e)
  · by_cases hroom : n + m ≤ cap
    · left
      have hfit : n * i.size + news.length ≤ cur.size := by rw [hl, hcs, ← Nat.add_mul]; exact Nat.mul_le_mul_right _ hroom
      have hr2 := run_append_room (P := P) w t ty e i ht hi g n cap cur hgg a m c news hl hnews h1 hroom hfit
      rw [hr] at hr2
      injection hr2 with e1 e2
      rw [e1]
      rfl
    · right
      have holds : ∀ j u, xs[j]? = some u → w.cell? ((⟨g, 0, none⟩ : Addr).add j) = some u := hown.cells (g := g) rfl
      have hr2 := run_append_grow (P := P) w t ty e i z ht hi hz ⟨g, 0, none⟩ n cap xs hown.1 holds a m c news hl hnews (by omega) (by omega) (growslice_fits (by omega) hbytes)
      rw [hr] at hr2
      injection hr2 with e1 e2
      rw [e2]
      exact (Keeps.drew None w).andAlloc _
theorem intZ_more (base : Nat) (s : Value) (l : List Int) (x : Int) (ty : Nat) (w : World) (h : RowZ w base s l) (hb : base ≤ w.heap.size) (hlen : (l.length + 1) * 8 ≤ 140737488355328) {g0 : Nat}
    (hg0 : w.heap[g0]? = some (.cells #[.int .i64 x] 3 (0, 0))) :
    ∃ g cap w', (Builtin.append_ #[35, 35] ty #[s, .slice (some ⟨g0, 0, none⟩) 1 1]).run Try.prog w = .ok (.slice (some ⟨g, 0, none⟩) (l.length + 1) cap) w' ∧
      RowZ w' base (.slice (some ⟨g, 0, none⟩) (l.length + 1) cap) (l ++ [x]) ∧ Keeps (fun k => s.ownBlock = some k) w w' ∧ (s.ownBlock = some g ∨ (w.heap.size ≤ g ∧ Keeps None w w')) := by
  obtain ⟨i0, hi, hz0, hz1, hz2⟩ := info_parts Try.infoIntR
  obtain ⟨v', w1, hr, ho, hgr, hm, hk⟩ := run_append_apart (P := Try.prog) w base 35 ty 3 i0 _ 1 8 Try.underlying35 hi hz0 hz1 hz2 rfl (by decide) s l.length _ h
    ⟨g0, 0, none⟩ 1 1 [.int .i64 x] rfl (by
      intro j u hu
      rw [show (⟨g0, 0, none⟩ : Addr).add j = ⟨g0, j, none⟩ by unfold Addr.add; split <;> simp_all, blk_cell hg0]
      simpa using hu) (by
      intro u hu
      simp at hu
      subst hu; rfl) (by unfold maxLen; omega) hlen hb
  obtain ⟨g, cap, rfl⟩ : ∃ g cap, v' = .slice (some ⟨g, 0, none⟩) (l.length + 1) cap := by
    rcases ho.2 with ⟨_, h0⟩ | ⟨b, cap, cur, rfl, _⟩
    · omega
    · exact ⟨b, cap, rfl⟩
  refine ⟨g, cap, w1, hr, by unfold RowZ; simpa [ivZ] using ho, (Keeps.refl _ w).andGrown hgr (fun k e => .inl e), ?_⟩
  by_cases hs : s.ownBlock = some g
  · exact .inl hs
  · right
    rcases hm with hm | ⟨g', e, hg⟩
    · exact absurd hm.symm (by simpa [Value.ownBlock] using hs)
    · simp [Value.ownBlock] at e
      refine ⟨by omega, ?_⟩
      rcases hk with hk | hk
      · exact absurd hk.symm (by simpa [Value.ownBlock] using hs)
      · exact hk
end Go.Proofs.Ytolhojagbiaamab
