import Derived.Test.YtnhoedodnbifdaaDgSpan
import Derived.Maps.OwnOps
import Derived.Maps.Views
import Derived.WalkArith
/-! A map that counts; whether times are a schedule. -/
namespace Go.Proofs.Ytnhoedodnbifdaa
set_option linter.unusedVariables false
set_option maxRecDepth 20000
open Go.RowKit Go.HeapKit Go.Maps

theorem under3 : Try.prog.underlying 3 = some (.int .i64) := by kernel_rfl
theorem underM : Try.prog.underlying 61 = some (.map 3 3) := by kernel_rfl
theorem law3 : Keyed Try.prog 3 := int_keyed under3
theorem zero3 (w : World) : (zeroValue 3).run Try.prog w = .ok (.int .i64 0) w := by kernel_rfl
theorem okI_wf {x : Int} (h : okI x) : (Lit.int .i64 x).wf = true := WalkArith.wf_i64 h
/-- A map of whole numbers that counts. -/
def MapC (w : World) (b n : Nat) (f : Int → Nat) : Prop :=
  ∃ D : DataW Unit, w.ownsMap Try.prog 3 (plainElem Try.prog 3) b n D ∧ ∀ x, okI x → D.atKey (.int .i64 x) (.lit (.int .i64 0)) = .lit (.int .i64 (f x))
theorem MapC.made (w : World) : MapC (w.alloc (.map #[] 0)) w.heap.size 0 (fun _ => 0) :=
  ⟨_, World.ownsMap_made w _ _ _, fun x hx => rfl⟩
theorem MapC.congr {w : World} {b n : Nat} {f g : Int → Nat} (h : MapC w b n f) (hf : ∀ x, f x = g x) : MapC w b n g := by
  obtain ⟨D, h1, h2⟩ := h
  exact ⟨D, h1, fun x hx => by rw [h2 x hx, hf x]⟩
theorem MapC.look {w : World} {b n : Nat} {f : Int → Nat} (h : MapC w b n f) {x : Int} (hx : okI x) :
    (Instr.lookup 61 (.map (some b)) (.int .i64 x) false).run Try.prog w = .ok (.int .i64 (f x)) w := by
  obtain ⟨D, h1, h2⟩ := h
  obtain ⟨c, hr, hat, _⟩ := h1.lookup_int law3 underM under3 (zero3 w) (keyOf_int_mk under3 (okI_wf hx))
  rw [h2 x hx] at hat
  injection hat with hat
  injection hat with _ hat
  rw [hr, hat]
theorem MapC.put {w : World} {b n : Nat} {f : Int → Nat} (h : MapC w b n f) (hn : n ≤ 4096) {x : Int} (hx : okI x) (y : Nat) (hy : y ≤ 5000) :
    ∃ w', (Instr.mapUpdate 61 (.map (some b)) (.int .i64 x) (.int .i64 y)).run Try.prog w = .ok () w' ∧ MapC w' b (n + 1) (fun z => if z = x then y else f z) ∧ Keeps (· = b) w w' := by
  obtain ⟨D, h1, h2⟩ := h
  have hy' : okI y := by unfold okI; omega
  obtain ⟨w', hr, hm, hg⟩ := h1.update law3 underM (by unfold maxLen; omega) (keyOf_int_mk under3 (okI_wf hx)) (plainElem_int under3 (okI_wf hy'))
  refine ⟨w', hr, ⟨_, hm, fun z hz => ?_⟩, Keeps.grown hg (fun k e => by injection e with e; exact e.symm)⟩
  have hD : IsMap D := by obtain ⟨es, cl, _, _, _, e⟩ := h1; exact ⟨_, e⟩
  by_cases e : z = x
  · subst e
    have e1 : (fun z_1 => if z_1 = z then y else f z_1) z = y := if_pos rfl
    rw [e1]
    exact atKey_put_same hD (by simp [WideAt.IsKeyLit]) _ _
  · have e1 : (fun z => if z = x then y else f z) z = f z := if_neg e
    rw [e1, atKey_put_other (by intro h; injection h with _ h; exact e h)]
    exact h2 z hz
theorem MapC.lt {w : World} {b n : Nat} {f : Int → Nat} (h : MapC w b n f) : b < w.heap.size := by
  obtain ⟨D, h1, _⟩ := h
  exact h1.lt
theorem MapC.kept {w w' : World} {b n : Nat} {f : Int → Nat} (h : MapC w b n f) {S : Nat → Prop} (hk : Keeps S w w') (hS : ¬ S b) : MapC w' b n f := by
  have hl := h.lt
  obtain ⟨D, ⟨es, cl, hb, r⟩, h2⟩ := h
  exact ⟨D, ⟨es, cl, (hk.block b hl hS).trans hb, r⟩, h2⟩
/-- Whole numbers that can be read. -/
structure SeenZ (w : World) (a : Option Addr) (n : Nat) (zs : List Int) : Prop where
  len : n = zs.length
  ok : ∀ x ∈ zs, okI x
  ex : 0 < n → ∃ b off, a = some ⟨b, off, none⟩ ∧ b < w.heap.size ∧ ∀ k x, zs[k]? = some x → w.cell? ⟨b, off + k, none⟩ = some (.int .i64 x)
theorem SeenZ.kept {w w' : World} {S : Nat → Prop} {a : Option Addr} {n : Nat} {zs : List Int} (h : SeenZ w a n zs) (hk : Keeps S w w') (hS : ∀ x, a = some x → x.block < w.heap.size → ¬ S x.block) : SeenZ w' a n zs := by
  refine ⟨h.len, h.ok, fun h0 => ?_⟩
  obtain ⟨b, off, rfl, hb, hc⟩ := h.ex h0
  exact ⟨b, off, rfl, Nat.lt_of_lt_of_le hb hk.size, fun k i hi => hk.cell (hc k i hi) (hS ⟨b, off, none⟩ rfl hb)⟩
theorem SeenZ.more {w w' : World} {a : Option Addr} {n : Nat} {zs : List Int} (h : SeenZ w a n zs) (hk : Keeps None w w') : SeenZ w' a n zs := h.kept hk (fun _ _ _ f => f)
theorem SeenZ.at {w : World} {a : Option Addr} {n : Nat} {zs : List Int} (h : SeenZ w a n zs) {k : Nat} (hk : k < n) : ∃ b off x, a = some ⟨b, off, none⟩ ∧ zs[k]? = some x ∧ okI x ∧ w.cell? ⟨b, off + k, none⟩ = some (.int .i64 x) := by
  obtain ⟨b, off, rfl, hb, hc⟩ := h.ex (by omega)
  have hl := h.len
  exact ⟨b, off, zs[k]'(by omega), rfl, by simp, h.ok _ (List.getElem_mem _), hc k _ (by simp)⟩
/-- The first k times are from one on, and none stands more often than there are processors. -/
def cntOk (p : Int) (zs : List Int) (k : Nat) : Prop := ∀ i x, i < k → zs[i]? = some x → 1 ≤ x ∧ ((zs.take (i + 1)).count x : Int) ≤ p
def edOk (zs : List Int) (l : List Ed) (m : Nat) : Prop := ∀ (i : Nat) e, i < m → l[i]? = some e → zs.getD e.f.toNat 0 < zs.getD e.t.toNat 0
def isSched (p : Int) (zs : List Int) (l : List Ed) : Prop := cntOk p zs zs.length ∧ edOk zs l l.length
theorem cnt_more {p : Int} {zs : List Int} {k : Nat} {x : Int} (h : cntOk p zs k) (hx : zs[k]? = some x) (h1 : 1 ≤ x) (h2 : ((zs.take (k + 1)).count x : Int) ≤ p) : cntOk p zs (k + 1) := by
  intro i y hi hy
  by_cases e : i = k
  · subst e
    rw [hx] at hy
    injection hy with hy
    subst hy
    exact ⟨h1, h2⟩
  · exact h i y (by omega) hy
theorem take_count {zs : List Int} {k : Nat} {x : Int} (hx : zs[k]? = some x) (z : Int) : (zs.take (k + 1)).count z = (zs.take k).count z + if z = x then 1 else 0 := by
  rw [List.take_add_one, hx]
  simp only [Option.toList_some, List.count_append, List.count_singleton]
  by_cases e : z = x
  · subst e; simp
  · have : ¬ x = z := fun h => e h.symm
    simp [e, this]
theorem ed_ok_more {zs : List Int} {l : List Ed} {m : Nat} {e : Ed} (h : edOk zs l m) (he : l[m]? = some e) (h1 : zs.getD e.f.toNat 0 < zs.getD e.t.toNat 0) : edOk zs l (m + 1) := by
  intro i y hi hy
  by_cases e2 : i = m
  · subst e2
    rw [he] at hy
    injection hy with hy
    subst hy
    exact h1
  · exact h i y (by omega) hy
/-- A bool that tells whether something holds; nothing that was there is touched. -/
def BoolAns (Q : Prop) (w : World) (e : Ending) (w' : World) : Prop := ∃ b : Bool, e = .returned (.bool b) ∧ (b = true ↔ Q) ∧ Keeps None w w'
set_option maxHeartbeats 1600000 in
theorem sched_any (n : Nat) (a : Option Addr) (m c : Nat) (l : List Ed) (p : Int) (ap : Option Addr) (cp : Nat) (zs : List Int) (w : World) (h : SeenE w a m l) (hz : SeenZ w ap n zs) (hd : Dag (n : Int) l) :
    Calls Try.prog 30 #[dagV n a m c, .int .i64 p, .slice ap n cp] w fun e w' => BoolAns (isSched p zs l) w e w' := by
  have HD : Hid (Dag (n : Int) l) := hd
  have HS : Hid (SeenE w a m l) := h
  have HZ : Hid (SeenZ w ap n zs) := hz
  have hn : n ≤ 4096 := by have := hd.hi; omega
  have hm : m ≤ 16384 := by have := hd.len; have := h.len; omega
  clear hd h hz
  have hmm := @run_makeMap Try.prog
  unfold dagV
  go_enter Try.func30, Try.ntmps30
  go_wp2_with fail
  go_loopw [15, 8, 9] (fun s15 _ _ wr => ∃ k : Nat, s15 = .int .i64 k ∧ k ≤ n ∧ wr.heap[w.heap.size]? = some (.cells #[.int .i64 n, .slice a m c] 24 (0, 0)) ∧ MapC wr (w.heap.size + 1) k (fun z => (zs.take k).count z) ∧ Keeps None w wr ∧ cntOk p zs k) (fun s15 _ _ _ => n - (intOf s15).toNat)
  case atStart =>
    refine ⟨0, rfl, Nat.zero_le _, ?_, ?_, (keeps1 _ _).andAlloc _, fun i x hi => by omega⟩
    · exact blk_kept (heap_alloc_new w _) (keeps1 _ _) (fun f => f)
    · have := MapC.made (w.alloc (.cells #[.int .i64 n, .slice a m c] 24 (0, 0)))
      have e2 : (w.alloc (.cells #[.int .i64 n, .slice a m c] 24 (0, 0))).heap.size = w.heap.size + 1 := by simp
      rw [e2] at this
      exact this.congr (fun x => by simp)
  case round =>
    obtain ⟨k, rfl, hk, hb, hM, hkp, hC⟩ := hrel
    have HI : Hid (wr.heap[w.heap.size]? = some (.cells #[.int .i64 n, .slice a m c] 24 (0, 0)) ∧ MapC wr (w.heap.size + 1) k (fun z => (zs.take k).count z) ∧ Keeps None w wr ∧ cntOk p zs k) := ⟨hb, hM, hkp, hC⟩
    have d0 := (blk_cell hb 0).trans rfl
    have d1 := (blk_cell hb 1).trans rfl
    clear hb hM hkp hC
    by_cases hlt : k < n
    · have hlt' : (k : Int) < (n : Int) := by omega
      obtain ⟨b, off, x, rfl, hx, ho, e0⟩ := (HZ.out.more HI.out.2.2.1).at hlt
      have n0 : ¬ n = 0 := by omega
      have L1 := HI.out.2.1.look ho
      obtain ⟨q, hq⟩ : ∃ q, q = (zs.take k).count x := ⟨_, rfl⟩
      have hq2 : q ≤ 4096 := by rw [hq]; exact Nat.le_trans List.count_le_length (by simp; omega)
      obtain ⟨w1, hr, hM1, hk1⟩ := HI.out.2.1.put (by omega) ho (q + 1) (by omega)
      have L2 := hM1.look ho
      simp only [if_true] at L2
      rw [← hq] at L1
      have eq1 : ((q + 1 : Nat) : Int) = (q : Int) + 1 := by omega
      rw [eq1] at hr L2
      have hcx := take_count hx
      have hkk : Keeps None w w1 := HI.out.2.2.1.trans hk1 (fun i e hi => by omega)
      have HN : Hid (w1.heap[w.heap.size]? = some (.cells #[.int .i64 n, .slice a m c] 24 (0, 0)) ∧ MapC w1 (w.heap.size + 1) (k + 1) (fun z => (zs.take (k + 1)).count z) ∧ Keeps None w w1) := by
        refine ⟨blk_kept HI.out.1 hk1 (by omega), hM1.congr (fun z => ?_), hkk⟩
        have := hcx z
        by_cases e : z = x
        · subst e
          rw [if_pos rfl] at this ⊢
          rw [this, hq]
        · rw [if_neg e] at this ⊢
          rw [this]; rfl
      have HQ : Hid ((zs.take (k + 1)).count x = q + 1) := by
        have := hcx x
        rw [if_pos rfl, ← hq] at this
        exact this
      have HX : Hid (zs[k]? = some x) := hx
      clear hM1 hk1 hkk hcx hq hx
      have HF : Hid (k < zs.length) := (by have := HZ.out.len; omega : k < zs.length)
      by_cases b1 : x < 1
      · go_wp2_with fail
        go_ret
        refine ⟨false, rfl, ⟨fun h => (by cases h), fun h => ?_⟩, HN.out.2.2⟩
        have := (h.1 k x HF.out HX.out).1
        omega
      · by_cases b2 : p < (q : Int) + 1
        · go_wp2_with fail
          go_ret
          refine ⟨false, rfl, ⟨fun h => (by cases h), fun h => ?_⟩, HN.out.2.2⟩
          have := (h.1 k x HF.out HX.out).2
          rw [HQ.out] at this
          omega
        · go_wp2_with fail
          refine ⟨⟨k + 1, by go_num, by omega, HN.out.1, HN.out.2.1, HN.out.2.2, cnt_more HI.out.2.2.2 HX.out (by omega) (by rw [HQ.out]; omega)⟩, by simp [intOf]; omega⟩
    · have hlt' : ¬ (k : Int) < (n : Int) := by omega
      have HE : Hid (cntOk p zs zs.length) := by
        have h1 := HI.out.2.2.2
        have h2 := HZ.out.len
        rw [show k = zs.length by omega] at h1
        exact h1
      have HJ : Hid (wr.heap[w.heap.size]? = some (.cells #[.int .i64 n, .slice a m c] 24 (0, 0)) ∧ Keeps None w wr) := ⟨HI.out.1, HI.out.2.2.1⟩
      clear HI
      go_wp2_with fail
      go_loopw [39, 11] (fun s39 _ ws => ∃ i : Nat, s39 = .int .i64 i ∧ i ≤ m ∧ Keeps None w ws ∧ edOk zs l i) (fun s39 _ _ => m - (intOf s39).toNat)
      case atStart => exact ⟨0, rfl, Nat.zero_le _, HJ.out.2, fun i e hi => by omega⟩
      case round =>
        obtain ⟨i, rfl, hi, hkp, hC⟩ := hrel
        have HI : Hid (Keeps None w wr ∧ edOk zs l i) := ⟨hkp, hC⟩
        clear hkp hC
        by_cases hlt : i < m
        · have hlt2 : (i : Int) < (m : Int) := by omega
          obtain ⟨b, off, e, rfl, he, hat⟩ := (HS.out.more HI.out.1).at hlt
          have hok := HD.out.ok e (List.mem_of_getElem? he)
          obtain ⟨ef, et⟩ := e
          simp only at hok
          obtain ⟨u, rfl⟩ := Int.eq_ofNat_of_zero_le hok.1
          obtain ⟨v, rfl⟩ := Int.eq_ofNat_of_zero_le (show 0 ≤ et by omega)
          have e0 := hat.f
          have e1 := hat.t
          simp only at e0 e1
          have m0 : ¬ m = 0 := by omega
          have n0 : ¬ n = 0 := by omega
          have u1 : (u : Int) < (n : Int) := by omega
          have v1 : (v : Int) < (n : Int) := by omega
          obtain ⟨bp, offp, x, rfl, hx, _, ex⟩ := (HZ.out.more HI.out.1).at (k := u) (by omega)
          obtain ⟨bq, offq, y, hpq, hy, _, ey⟩ := (HZ.out.more HI.out.1).at (k := v) (by omega)
          injection hpq with hpq
          injection hpq with hp1 hp2
          subst hp1 hp2
          have ex2 := (keeps1 wr (Obj.cells #[.int .i64 u, .int .i64 v] 52)).cell ex (fun f => f)
          have ey2 := (keeps1 wr (Obj.cells #[.int .i64 u, .int .i64 v] 52)).cell ey (fun f => f)
          have HE2 : Hid (l[i]? = some ⟨u, v⟩ ∧ zs.getD u 0 = x ∧ zs.getD v 0 = y) := ⟨he, by rw [List.getD_eq_getElem?_getD, hx]; rfl, by rw [List.getD_eq_getElem?_getD, hy]; rfl⟩
          clear he hat hx hy hok
          have HK : Hid (Keeps None w (wr.alloc (Obj.cells #[.int .i64 u, .int .i64 v] 52))) := HI.out.1.andAlloc _
          by_cases b1 : y ≤ x
          · go_wp2_with fail
            go_quiet (fail)
            all_goals go_wp2_with fail
            all_goals go_ret
            all_goals refine ⟨false, rfl, ⟨fun h => (by cases h), fun h => ?_⟩, HK.out.trans (Keeps.drewN None _ _) (fun _ f _ => f)⟩
            all_goals have h1 := h.2 i _ (by have := HS.out.len; omega) HE2.out.1
            all_goals simp only [Int.toNat_natCast] at h1
            all_goals rw [HE2.out.2.1, HE2.out.2.2] at h1
            all_goals omega
          · go_wp2_with fail
            go_quiet (fail)
            all_goals go_wp2_with fail
            all_goals refine ⟨⟨i + 1, by go_num, by omega, HK.out.trans (Keeps.drewN None _ _) (fun _ f _ => f), ed_ok_more HI.out.2 HE2.out.1 ?_⟩, by simp [intOf]; omega⟩
            all_goals simp only [Int.toNat_natCast]
            all_goals rw [HE2.out.2.1, HE2.out.2.2]
            all_goals omega
        · have hlt2 : ¬ (i : Int) < (m : Int) := by omega
          have HF : Hid (edOk zs l l.length) := by
            have h1 := HI.out.2
            rw [show i = l.length by have := HS.out.len; omega] at h1
            exact h1
          go_wp2_with fail
          go_ret
          exact ⟨true, rfl, ⟨fun _ => ⟨HE.out, HF.out⟩, fun _ => rfl⟩, HI.out.1⟩
end Go.Proofs.Ytnhoedodnbifdaa
