import Derived.Test.YtpofffbookhinaaDgJudgedP
/-! The law's own greedy schedules: plainly, and 'can'. -/
namespace Go.Proofs.Ytpofffbookhinaa
set_option linter.unusedVariables false
set_option maxRecDepth 20000
open Go.RowKit Go.HeapKit

def canAt (l : List Ed) (T : Nat → Int) (i : Nat) (s : Int) : Prop := ∀ e ∈ l, e.t = (i : Int) → T e.f.toNat ≠ 0 ∧ T e.f.toNat < s
def canQ (l : List Ed) (T : Nat → Int) (i : Nat) (s : Int) : Prop := T i = 0 ∧ canAt l T i s
structure Lst (n P : Nat) (l : List Ed) (T : Nat → Int) (t k : Nat) : Prop where
  rng : ∀ i, i < n → T i = 0 ∨ (1 ≤ T i ∧ T i ≤ t)
  edge : ∀ e ∈ l, T e.t.toNat ≠ 0 → T e.f.toNat ≠ 0 ∧ T e.f.toNat < T e.t.toNat
  now : cntAt n T t = k
  kP : k ≤ P
  t1 : 1 ≤ t
  most : ∀ s : Nat, 1 ≤ s → s < t → cntAt n T s ≤ P
  full : ∀ s : Nat, 1 ≤ s → s < t → cntAt n T s = P ∨ ∀ i, i < n → (T i = 0 ∨ (s : Int) < T i) → ¬ canAt l T i s
theorem cnt_upd_other {n : Nat} {T : Nat → Int} {b : Nat} {t s : Int} (h0 : T b ≠ s) (hs : s ≠ t) : cntAt n (upd T b t) s = cntAt n T s := by
  unfold cntAt
  congr 1
  apply List.filter_congr
  intro i _
  unfold upd
  by_cases e : i = b
  · subst e
    rw [if_pos rfl]
    have : ¬ t = s := fun h => hs h.symm
    simp [this, h0]
  · rw [if_neg e]
theorem cnt_upd_same {T : Nat → Int} {b : Nat} {t : Int} (h0 : T b ≠ t) : ∀ n, cntAt n (upd T b t) t = cntAt n T t + if b < n then 1 else 0 := by
  intro n
  unfold cntAt
  induction n with
  | zero => simp
  | succ n ih =>
    rw [List.range_succ, List.filter_append, List.filter_append, List.length_append, List.length_append, ih]
    by_cases e : n = b
    · subst e
      have e1 : upd T n t n = t := by simp [upd]
      simp [e1, h0]
    · have e1 : upd T b t n = T n := by simp [upd, e]
      have e2 : [n].filter (fun i => decide (upd T b t i = t)) = [n].filter (fun i => decide (T i = t)) := by
        simp only [List.filter_cons, List.filter_nil, e1]
      have e3 : (if b < n + 1 then 1 else 0) = if b < n then 1 else 0 := by
        by_cases h1 : b < n
        · rw [if_pos h1, if_pos (by omega)]
        · rw [if_neg h1, if_neg (by omega)]
      rw [e2, e3]
      omega
theorem can_upd {l : List Ed} {T : Nat → Int} {b i : Nat} {t : Int} {s : Int} (hs : s < t) (h : canAt l (upd T b t) i s) : canAt l T i s := by
  intro e he h1
  have h2 := h e he h1
  unfold upd at h2
  split at h2
  · omega
  · exact h2
theorem Lst.put {n P : Nat} {l : List Ed} {T : Nat → Int} {t k b : Nat} (h : Lst n P l T t k) (hd : Dag (n : Int) l) (hb : b < n) (hc : canQ l T b t) (hk : k < P) : Lst n P l (upd T b t) t (k + 1) := by
  have ht := h.t1
  refine ⟨fun i hi => ?_, fun e he h1 => ?_, ?_, by omega, ht, fun s h1 h2 => ?_, fun s h1 h2 => ?_⟩
  · unfold upd
    split
    · right; omega
    · exact h.rng i hi
  · have hok := hd.ok e he
    by_cases e1 : e.t.toNat = b
    · have h2 := hc.2 e he (by omega)
      have e2 : ¬ e.f.toNat = b := by omega
      unfold upd
      rw [if_pos e1, if_neg e2]
      exact h2
    · have h1' : T e.t.toNat ≠ 0 := by unfold upd at h1; rw [if_neg e1] at h1; exact h1
      have h2 := h.edge e he h1'
      have e2 : ¬ e.f.toNat = b := fun e2 => h2.1 (by rw [e2]; exact hc.1)
      unfold upd
      rw [if_neg e1, if_neg e2]
      exact h2
  · rw [cnt_upd_same (by rw [hc.1]; omega), h.now, if_pos hb]
  · rw [cnt_upd_other (by rw [hc.1]; omega) (by omega)]
    exact h.most s h1 h2
  · rw [cnt_upd_other (by rw [hc.1]; omega) (by omega)]
    rcases h.full s h1 h2 with h3 | h3
    · exact .inl h3
    · refine .inr (fun i hi h4 h5 => h3 i hi ?_ (can_upd (by omega) h5))
      unfold upd at h4
      split at h4
      · rename_i e; left; rw [e]; exact hc.1
      · exact h4
theorem Lst.next {n P : Nat} {l : List Ed} {T : Nat → Int} {t k : Nat} (h : Lst n P l T t k) (hf : k = P ∨ ∀ i, i < n → ¬ canQ l T i t) : Lst n P l T (t + 1) 0 := by
  have ht := h.t1
  refine ⟨fun i hi => ?_, h.edge, ?_, Nat.zero_le _, by omega, fun s h1 h2 => ?_, fun s h1 h2 => ?_⟩
  · have := h.rng i hi; omega
  · unfold cntAt
    rw [List.length_eq_zero_iff, List.filter_eq_nil_iff]
    intro i hi h2
    have := h.rng i (List.mem_range.1 hi)
    simp at h2
    omega
  · by_cases e : s = t
    · rw [e, h.now]; exact h.kP
    · exact h.most s h1 (by omega)
  · by_cases e : s = t
    · subst e
      rcases hf with hf | hf
      · left; rw [h.now]; exact hf
      · right
        intro i hi h3 h4
        rcases h3 with h3 | h3
        · exact hf i hi ⟨h3, h4⟩
        · have := h.rng i hi; omega
    · exact h.full s h1 (by omega)
theorem Lst.some {n P : Nat} {l : List Ed} {T : Nat → Int} {t : Nat} (h : Lst n P l T t 0) (hd : Dag (n : Int) l) : ∀ i, i < n → T i = 0 → ∃ j, j < n ∧ canQ l T j t := by
  intro i
  induction i using Nat.strongRecOn with
  | ind i ih =>
    intro hi h0
    by_cases hc : ∃ e ∈ l, e.t = (i : Int) ∧ T e.f.toNat = 0
    · obtain ⟨e, he, h1, h2⟩ := hc
      have := hd.ok e he
      exact ih e.f.toNat (by omega) (by omega) h2
    · refine ⟨i, hi, h0, fun e he h1 => ?_⟩
      have hok := hd.ok e he
      have h2 : T e.f.toNat ≠ 0 := fun h2 => hc ⟨e, he, h1, h2⟩
      refine ⟨h2, ?_⟩
      have h3 := h.rng e.f.toNat (by omega)
      have h4 : T e.f.toNat ≠ t := by
        intro h4
        have h5 := h.now
        unfold cntAt at h5
        rw [List.length_eq_zero_iff, List.filter_eq_nil_iff] at h5
        exact h5 e.f.toNat (List.mem_range.2 (by omega)) (by simpa using h4)
      omega
theorem Lst.start (n P : Nat) (l : List Ed) : Lst n P l (fun _ => 0) 1 0 := by
  refine ⟨fun i hi => .inl rfl, fun e he h => absurd rfl h, ?_, Nat.zero_le _, Nat.le_refl _, fun s h1 h2 => by omega, fun s h1 h2 => by omega⟩
  unfold cntAt
  rw [List.length_eq_zero_iff, List.filter_eq_nil_iff]
  intro i hi h
  simp at h
theorem Lst.grdy {n P : Nat} {l : List Ed} {T : Nat → Int} {t : Nat} (h : Lst n P l T t 0) (hd : Dag (n : Int) l) (hz : ∀ i, i < n → T i ≠ 0) (len : Nat) (hlen : ∀ i, i < n → T i ≤ len) : Grdy n P l T len := by
  have h4 : ∀ i, i < n → T i < t := by
    intro i hi
    have h3 := h.rng i hi
    have h5 := h.now
    unfold cntAt at h5
    rw [List.length_eq_zero_iff, List.filter_eq_nil_iff] at h5
    have h6 := h5 i (List.mem_range.2 hi)
    simp at h6
    omega
  have hz0 : ∀ s : Int, (s < 1 ∨ (t : Int) ≤ s) → cntAt n T s = 0 := by
    intro s hs
    unfold cntAt
    rw [List.length_eq_zero_iff, List.filter_eq_nil_iff]
    intro i hi h2
    have h6 := List.mem_range.1 hi
    have h7 := h.rng i h6
    have h8 := h4 i h6
    have h9 := hz i h6
    simp at h2
    omega
  refine ⟨⟨fun i hi => ?_, fun s => ?_, fun e he => ?_⟩, hlen, fun s h1 h2 => ?_⟩
  · have := h.rng i hi
    have := hz i hi
    omega
  · by_cases hs : s < 1 ∨ (t : Int) ≤ s
    · rw [hz0 s hs]; omega
    · obtain ⟨s', rfl⟩ := Int.eq_ofNat_of_zero_le (show 0 ≤ s by omega)
      exact h.most s' (by omega) (by omega)
  · have hok := hd.ok e he
    exact (h.edge e he (hz _ (by omega))).2
  · by_cases hs : s < t
    · rcases h.full s h1 hs with h3 | h3
      · exact .inl h3
      · refine .inr (fun i hi h5 h6 => h3 i hi (.inr h5) (fun e he h7 => ?_))
        have hok := hd.ok e he
        exact ⟨hz _ (by omega), h6 e.f (mem_bef.2 ⟨e, he, h7, rfl⟩)⟩
    · exact .inr (fun i hi h5 => by have := h4 i hi; omega)
set_option maxHeartbeats 1600000 in
theorem can_any (n : Nat) (a : Option Addr) (m c : Nat) (l : List Ed) (g : Nat) (T : Nat → Int) (i t : Nat) (w : World) (h : SeenE w a m l) (hN : IsN w g n T) (hd : Dag (n : Int) l) (hi : i < n) :
    Calls Try.prog 25 #[dagV n a m c, .slice (some ⟨g, 0, none⟩) n n, .int .i64 i, .int .i64 t] w fun e w' => BoolAns (canQ l T i t) w e w' := by
  have HD : Hid (Dag (n : Int) l ∧ m = l.length) := ⟨hd, h.len⟩
  have HS : Hid (SeenE w a m l ∧ IsN w g n T) := ⟨h, hN⟩
  have hn : n ≤ 4096 := by have := hd.hi; omega
  have hm : m ≤ 16384 := by have := hd.len; have := h.len; omega
  have hk0 := keeps1 w (.cells #[.int .i64 n, .slice a m c] 25)
  have x0 := (hN.kept hk0 (fun f => f)).at hi
  have n0 : ¬ n = 0 := by omega
  have i1 : (i : Int) < (n : Int) := by omega
  clear hd h hN
  unfold dagV
  by_cases hT : T i = 0
  · have HT : Hid (T i = 0) := hT
    rw [hT] at x0
    clear hT hk0
    go_enter Try.func25, Try.ntmps25
    go_wp2_with fail
    go_loopw [9, 10] (fun s9 _ wr => ∃ k : Nat, s9 = .int .i64 k ∧ k ≤ m ∧ wr.heap[w.heap.size]? = some (.cells #[.int .i64 n, .slice a m c] 25 (0, 0)) ∧ Keeps None w wr ∧ ∀ j e, j < k → l[j]? = some e → e.t = (i : Int) → T e.f.toNat ≠ 0 ∧ T e.f.toNat < t) (fun s9 _ _ => m - (intOf s9).toNat)
    case atStart => exact ⟨0, rfl, Nat.zero_le _, heap_alloc_new w _, keeps1 _ _, fun j e hj => by omega⟩
    case round =>
      obtain ⟨k, rfl, hk, hb, hkp, hC⟩ := hrel
      have d1 := (blk_cell hb 1).trans rfl
      have HI : Hid (wr.heap[w.heap.size]? = some (.cells #[.int .i64 n, .slice a m c] 25 (0, 0)) ∧ Keeps None w wr ∧ ∀ j e, j < k → l[j]? = some e → e.t = (i : Int) → T e.f.toNat ≠ 0 ∧ T e.f.toNat < t) := ⟨hb, hkp, hC⟩
      clear hb hkp hC x0
      by_cases hlt : k < m
      · have hlt2 : (k : Int) < (m : Int) := by omega
        obtain ⟨b, off, e, rfl, he, hat⟩ := (HS.out.1.more HI.out.2.1).at hlt
        have hok := HD.out.1.ok e (List.mem_of_getElem? he)
        obtain ⟨ef, et⟩ := e
        simp only at hok
        obtain ⟨u, rfl⟩ := Int.eq_ofNat_of_zero_le hok.1
        obtain ⟨v, rfl⟩ := Int.eq_ofNat_of_zero_le (show 0 ≤ et by omega)
        have e0 := hat.f
        have e1 := hat.t
        simp only at e0 e1
        have m0 : ¬ m = 0 := by omega
        have u1 : (u : Int) < (n : Int) := by omega
        have ea := keeps1 wr (Obj.cells #[.int .i64 u, .int .i64 v] 33)
        have y0 := ((HS.out.2.kept HI.out.2.1 (fun f => f)).kept ea (fun f => f)).at (k := u) (by omega)
        obtain ⟨y, hy⟩ : ∃ y, y = T u := ⟨_, rfl⟩
        rw [← hy] at y0
        have HK : Hid (Keeps None w (wr.alloc (Obj.cells #[.int .i64 u, .int .i64 v] 33)) ∧ (wr.alloc (Obj.cells #[.int .i64 u, .int .i64 v] 33)).heap[w.heap.size]? = some (.cells #[.int .i64 n, .slice (some ⟨b, off, none⟩) m c] 25 (0, 0))) := ⟨HI.out.2.1.andAlloc _, blk_kept HI.out.1 ea (fun f => f)⟩
        have HE : Hid (l[k]? = some ⟨u, v⟩ ∧ y = T u) := ⟨he, hy⟩
        clear he hat hok ea hy
        have hmore : ((v : Int) = (i : Int) → y ≠ 0 ∧ y < t) → ∀ j e, j < k + 1 → l[j]? = some e → e.t = (i : Int) → T e.f.toNat ≠ 0 ∧ T e.f.toNat < t := by
          intro h1 j e hj hje het
          by_cases ej : j = k
          · subst ej
            rw [HE.out.1] at hje
            injection hje with hje
            subst hje
            simp only [Int.toNat_natCast]
            rw [← HE.out.2]
            exact h1 het
          · exact HI.out.2.2 j e (by omega) hje het
        have hno : (v : Int) = (i : Int) → ¬ (y ≠ 0 ∧ y < t) → ¬ canQ l T i t := by
          intro h1 h2 h3
          have := h3.2 ⟨u, v⟩ (List.mem_of_getElem? HE.out.1) h1
          simp only [Int.toNat_natCast] at this
          rw [← HE.out.2] at this
          exact h2 this
        have HMN : Hid ((((v : Int) = (i : Int) → y ≠ 0 ∧ y < t) → ∀ j e, j < k + 1 → l[j]? = some e → e.t = (i : Int) → T e.f.toNat ≠ 0 ∧ T e.f.toNat < t) ∧ ((v : Int) = (i : Int) → ¬ (y ≠ 0 ∧ y < t) → ¬ canQ l T i t)) := ⟨hmore, hno⟩
        clear hmore hno
        by_cases hv : v = i
        · have hv1 : ((v : Int) == (i : Int)) = true := by simp [hv]
          have HV : Hid ((v : Int) = (i : Int)) := by show _ = _; omega
          subst hv
          by_cases hy0 : y = 0
          · have hy1 : (y == 0) = true := by simp [hy0]
            have HY : Hid (y = 0) := hy0
            subst hy0
            go_wp2_with fail
            go_ret
            exact ⟨false, rfl, ⟨fun h => (by cases h), fun h => absurd h (HMN.out.2 (by first | trivial | rfl) (fun h => h.1 rfl))⟩, HK.out.1⟩
          · have hy1 : (y == 0) = false := by simp [hy0]
            by_cases hyt : (t : Int) ≤ y
            · go_wp2_with fail
              go_ret
              exact ⟨false, rfl, ⟨fun h => (by cases h), fun h => absurd h (HMN.out.2 (by first | trivial | rfl) (fun h => by omega))⟩, HK.out.1⟩
            · go_wp2_with fail
              exact ⟨⟨k + 1, by go_num, by omega, HK.out.2, HK.out.1, HMN.out.1 (fun _ => ⟨hy0, by omega⟩)⟩, by simp [intOf]; omega⟩
        · have hv1 : ((v : Int) == (i : Int)) = false := by simp; omega
          have hv2 : ¬ (v : Int) = (i : Int) := by omega
          go_wp2_with fail
          exact ⟨⟨k + 1, by go_num, by omega, HK.out.2, HK.out.1, HMN.out.1 (fun h => absurd h hv2)⟩, by simp [intOf]; omega⟩
      · have hlt2 : ¬ (k : Int) < (m : Int) := by omega
        have HF : Hid (canQ l T i t) := by
          refine ⟨HT.out, fun e he h1 => ?_⟩
          obtain ⟨j, hj, rfl⟩ := List.mem_iff_getElem.1 he
          exact HI.out.2.2 j _ (by have := HD.out.2; omega) (by simp) h1
        go_wp2_with fail
        go_ret
        exact ⟨true, rfl, ⟨fun _ => HF.out, fun _ => rfl⟩, HI.out.2.1⟩
  · have HT : Hid (¬ T i = 0) := hT
    have hT1 : (T i == 0) = false := by simp [hT]
    have HK : Hid (Keeps None w (w.alloc (.cells #[.int .i64 n, .slice a m c] 25))) := hk0
    generalize T i = y at x0 hT hT1
    clear hk0
    go_enter Try.func25, Try.ntmps25
    go_wp2_with fail
    go_ret
    exact ⟨false, rfl, ⟨fun h => (by cases h), fun h => absurd h.1 HT.out⟩, HK.out⟩
end Go.Proofs.Ytpofffbookhinaa
