import Derived.Test.YtlligclkoecknaaFrPl
/-! What holds at each pick of a play: the parts. -/
namespace Go.Proofs.Ytlligclkoecknaa
open Go.RowKit Go.HeapKit Go.IntWalk

def frs (l : List Nat) : Nat := 1 + l.sum
def baseR (l : List Nat) (r : Nat) : Nat := 1 + (l.take r).sum
def toGo (l : List Nat) (r : Nat) : Nat := ((l.drop r).map (fun n => 6 * n + 2)).sum
def vals100 (r j : Nat) : List Int := (List.range j).map (fun k => ((100 * r + k : Nat) : Int))
def full (l : List Nat) (r : Nat) : List (List Int) := (List.range r).map (fun i => vals100 i (l.getD i 0))
theorem full_length (l : List Nat) (r : Nat) : (full l r).length = r := by simp [full]
theorem vals100_length (r j : Nat) : (vals100 r j).length = j := by simp [vals100]
theorem vals100_succ (r j : Nat) : vals100 r (j + 1) = vals100 r j ++ [((100 * r + j : Nat) : Int)] := by simp [vals100, List.range_succ]
theorem full_succ (l : List Nat) (r : Nat) : full l (r + 1) = full l r ++ [vals100 r (l.getD r 0)] := by simp [full, List.range_succ]

theorem base_succ {l : List Nat} {r : Nat} (h : r < l.length) : baseR l (r + 1) = baseR l r + l.getD r 0 := by
  unfold baseR
  rw [List.take_succ_eq_append_getElem h, List.sum_append, List.getD_eq_getElem?_getD, List.getElem?_eq_getElem h]
  simp
  omega
theorem toGo_succ {l : List Nat} {r : Nat} (h : r < l.length) : toGo l r = 6 * l.getD r 0 + 2 + toGo l (r + 1) := by
  unfold toGo
  rw [List.drop_eq_getElem_cons h, List.getD_eq_getElem?_getD, List.getElem?_eq_getElem h, List.map_cons, List.sum_cons]
  rfl
theorem toGo_end (l : List Nat) : toGo l l.length = 0 := by simp [toGo]
theorem base_end (l : List Nat) : baseR l l.length = frs l := by simp [baseR, frs]
theorem base_le (l : List Nat) (r : Nat) : baseR l r ≤ frs l := by
  unfold baseR frs
  have : l.sum = (l.take r).sum + (l.drop r).sum := by rw [← List.sum_append, List.take_append_drop]
  omega
theorem base_pos (l : List Nat) (r : Nat) : 1 ≤ baseR l r := by unfold baseR; omega

/-- Rounds that may be. -/
structure Rounds (l : List Nat) : Prop where
  len : l.length ≤ 64
  few : ∀ r, l.getD r 0 ≤ 8
theorem sum_le_of {l : List Nat} (h : ∀ n ∈ l, n ≤ 8) : l.sum ≤ 8 * l.length := by
  induction l with
  | nil => simp
  | cons x l ih =>
    have := ih (fun n hn => h n (List.mem_cons_of_mem _ hn))
    have := h x (by simp)
    simp only [List.sum_cons, List.length_cons]
    omega
theorem Rounds.frs_le {l : List Nat} (h : Rounds l) : frs l ≤ 513 := by
  have := sum_le_of (l := l) (fun n hn => by
    obtain ⟨i, hi, rfl⟩ := List.getElem_of_mem hn
    have := h.few i
    rw [List.getD_eq_getElem?_getD, List.getElem?_eq_getElem hi] at this
    simpa using this)
  have := h.len
  unfold frs
  omega
theorem getD_map (l : List Nat) (r : Nat) : (l.map (fun n : Nat => (n : Int))).getD r 0 = (l.getD r 0 : Nat) := by
  simp only [List.getD_eq_getElem?_getD, List.getElem?_map]
  cases l[r]? <;> simp

/-- A child on its way: its slot, how far it is, its number. -/
structure Kd where
  j : Nat
  ph : Nat
  num : Int
def Kd.act (l : List Nat) (r : Nat) (x : Kd) : Actr :=
  ⟨x.num, if x.ph = 0 then startO (frs l) (baseR l r + x.j) else finO (frs l) x.j (x.ph - 1) ((100 * r + x.j : Nat) : Int), finO (frs l) x.j 0 ((100 * r + x.j : Nat) : Int)⟩
def rem (ks : List Kd) : Nat := (ks.map (fun x => 3 - x.ph)).sum
theorem rem_split (l1 l2 : List Kd) (x : Kd) : rem (l1 ++ x :: l2) = rem l1 + (3 - x.ph) + rem l2 := by simp [rem]; omega
theorem rem_app (l1 l2 : List Kd) : rem (l1 ++ l2) = rem l1 + rem l2 := by simp [rem]

structure KF (l : List Nat) (r k : Nat) (ks : List Kd) (mk sl : Nat → Int) : Prop where
  pw : ks.Pairwise (fun x y => x.j < y.j)
  lt : ∀ x ∈ ks, x.j < k ∧ x.ph < 3 ∧ 1 ≤ x.num
  bit : ∀ f, f < frs l → mk f = 0 ∨ mk f = 1
  mark : ∀ f, f < frs l → (mk f = 1 ↔ f < baseR l r + k ∧ ∀ x ∈ ks, x.ph = 0 → baseR l r + x.j ≠ f)
  sl : ∀ j, j < k → (∃ x ∈ ks, x.j = j ∧ x.ph < 2) ∨ sl j = ((100 * r + j : Nat) : Int)
section
variable {l : List Nat} {r k : Nat} {l1 l2 : List Kd} {x : Kd} {mk sl : Nat → Int}
theorem KF.other (h : KF l r k (l1 ++ x :: l2) mk sl) : ∀ y, y ∈ l1 ∨ y ∈ l2 → y.j ≠ x.j := by
  have := h.pw
  rw [List.pairwise_append] at this
  obtain ⟨_, h2, h3⟩ := this
  rw [List.pairwise_cons] at h2
  rintro y (hy | hy)
  · have := h3 y hy x (by simp); omega
  · have := h2.1 y hy; omega
theorem KF.pwSet (h : KF l r k (l1 ++ x :: l2) mk sl) (y : Kd) (hy : y.j = x.j) : (l1 ++ y :: l2).Pairwise (fun x y => x.j < y.j) := by
  have := h.pw
  rw [List.pairwise_append, List.pairwise_cons] at this ⊢
  obtain ⟨h1, ⟨h2, h3⟩, h4⟩ := this
  refine ⟨h1, ⟨fun z hz => by rw [hy]; exact h2 z hz, h3⟩, fun a ha b hb => ?_⟩
  rcases List.mem_cons.1 hb with rfl | hb
  · rw [hy]; exact h4 a ha x (by simp)
  · exact h4 a ha b (by simp [hb])
theorem KF.mem (h : KF l r k (l1 ++ x :: l2) mk sl) : x.j < k ∧ x.ph < 3 ∧ 1 ≤ x.num := h.lt x (by simp)
theorem KF.start (h : KF l r k (l1 ++ x :: l2) mk sl) (h0 : x.ph = 0) : KF l r k (l1 ++ ⟨x.j, 1, x.num⟩ :: l2) (upd mk (baseR l r + x.j) 1) sl := by
  have hm := h.mem
  have ho := h.other
  refine ⟨h.pwSet _ rfl, fun y hy => ?_, fun f hf => ?_, fun f hf => ?_, fun j hj => ?_⟩
  · simp only [List.mem_append, List.mem_cons] at hy
    rcases hy with hy | rfl | hy
    · exact h.lt y (by simp [hy])
    · exact ⟨hm.1, by simp, hm.2.2⟩
    · exact h.lt y (by simp [hy])
  · unfold upd; split
    · exact .inr rfl
    · exact h.bit f hf
  · unfold upd
    by_cases e : f = baseR l r + x.j
    · subst e
      simp only [if_true, true_iff]
      refine ⟨by omega, fun y hy hp => ?_⟩
      simp only [List.mem_append, List.mem_cons] at hy
      rcases hy with hy | rfl | hy
      · have := ho y (.inl hy); omega
      · simp at hp
      · have := ho y (.inr hy); omega
    · rw [if_neg e, h.mark f hf]
      constructor
      · rintro ⟨h1, h2⟩
        refine ⟨h1, fun y hy hp => ?_⟩
        simp only [List.mem_append, List.mem_cons] at hy
        rcases hy with hy | rfl | hy
        · exact h2 y (by simp [hy]) hp
        · simp at hp
        · exact h2 y (by simp [hy]) hp
      · rintro ⟨h1, h2⟩
        refine ⟨h1, fun y hy hp => ?_⟩
        simp only [List.mem_append, List.mem_cons] at hy
        rcases hy with hy | rfl | hy
        · exact h2 y (by simp [hy]) hp
        · exact fun e2 => e e2.symm
        · exact h2 y (by simp [hy]) hp
  · rcases h.sl j hj with ⟨y, hy, e, hp⟩ | e
    · left
      simp only [List.mem_append, List.mem_cons] at hy
      rcases hy with hy | rfl | hy
      · exact ⟨y, by simp [hy], e, hp⟩
      · exact ⟨⟨y.j, 1, y.num⟩, by simp, e, by simp⟩
      · exact ⟨y, by simp [hy], e, hp⟩
    · exact .inr e
theorem KF.store (h : KF l r k (l1 ++ x :: l2) mk sl) (h1 : x.ph = 1) : KF l r k (l1 ++ ⟨x.j, 2, x.num⟩ :: l2) mk (upd sl x.j ((100 * r + x.j : Nat) : Int)) := by
  have hm := h.mem
  have ho := h.other
  refine ⟨h.pwSet _ rfl, fun y hy => ?_, h.bit, fun f hf => ?_, fun j hj => ?_⟩
  · simp only [List.mem_append, List.mem_cons] at hy
    rcases hy with hy | rfl | hy
    · exact h.lt y (by simp [hy])
    · exact ⟨hm.1, by simp, hm.2.2⟩
    · exact h.lt y (by simp [hy])
  · rw [h.mark f hf]
    constructor
    · rintro ⟨h1, h2⟩
      refine ⟨h1, fun y hy hp => ?_⟩
      simp only [List.mem_append, List.mem_cons] at hy
      rcases hy with hy | rfl | hy
      · exact h2 y (by simp [hy]) hp
      · simp at hp
      · exact h2 y (by simp [hy]) hp
    · rintro ⟨h3, h2⟩
      refine ⟨h3, fun y hy hp => ?_⟩
      simp only [List.mem_append, List.mem_cons] at hy
      rcases hy with hy | rfl | hy
      · exact h2 y (by simp [hy]) hp
      · omega
      · exact h2 y (by simp [hy]) hp
  · unfold upd
    by_cases e : j = x.j
    · subst e; right; simp
    · rw [if_neg e]
      rcases h.sl j hj with ⟨y, hy, e2, hp⟩ | e2
      · left
        simp only [List.mem_append, List.mem_cons] at hy
        rcases hy with hy | rfl | hy
        · exact ⟨y, by simp [hy], e2, hp⟩
        · exact absurd e2.symm e
        · exact ⟨y, by simp [hy], e2, hp⟩
      · exact .inr e2
theorem KF.leave (h : KF l r k (l1 ++ x :: l2) mk sl) (h2 : x.ph = 2) : KF l r k (l1 ++ l2) mk sl := by
  refine ⟨h.pw.sublist (by simp), fun y hy => ?_, h.bit, fun f hf => ?_, fun j hj => ?_⟩
  · simp only [List.mem_append] at hy
    exact h.lt y (by rcases hy with hy | hy <;> simp [hy])
  · rw [h.mark f hf]
    constructor
    · rintro ⟨h1, h2⟩
      exact ⟨h1, fun y hy hp => h2 y (by rcases List.mem_append.1 hy with hy | hy <;> simp [hy]) hp⟩
    · rintro ⟨h3, h4⟩
      refine ⟨h3, fun y hy hp => ?_⟩
      simp only [List.mem_append, List.mem_cons] at hy
      rcases hy with hy | rfl | hy
      · exact h4 y (by simp [hy]) hp
      · omega
      · exact h4 y (by simp [hy]) hp
  · rcases h.sl j hj with ⟨y, hy, e2, hp⟩ | e2
    · left
      simp only [List.mem_append, List.mem_cons] at hy
      rcases hy with hy | rfl | hy
      · exact ⟨y, by simp [hy], e2, hp⟩
      · omega
      · exact ⟨y, by simp [hy], e2, hp⟩
    · exact .inr e2
theorem KF.fork {ks : List Kd} (h : KF l r k ks mk sl) (u : Int) (hu : 1 ≤ u) : KF l r (k + 1) (ks ++ [⟨k, 0, u⟩]) mk sl := by
  refine ⟨?_, fun y hy => ?_, h.bit, fun f hf => ?_, fun j hj => ?_⟩
  · rw [List.pairwise_append]
    exact ⟨h.pw, by simp, fun a ha b hb => by simp at hb; subst hb; exact (h.lt a ha).1⟩
  · simp only [List.mem_append, List.mem_singleton] at hy
    rcases hy with hy | rfl
    · have := h.lt y hy; exact ⟨by omega, this.2⟩
    · exact ⟨by simp, by simp, hu⟩
  · rw [h.mark f hf]
    constructor
    · rintro ⟨h1, h2⟩
      refine ⟨by omega, fun y hy hp => ?_⟩
      simp only [List.mem_append, List.mem_singleton] at hy
      rcases hy with hy | rfl
      · exact h2 y hy hp
      · simp; omega
    · rintro ⟨h1, h2⟩
      have := h2 ⟨k, 0, u⟩ (by simp) rfl
      simp at this
      exact ⟨by omega, fun y hy hp => h2 y (by simp [hy]) hp⟩
  · by_cases e : j = k
    · left; exact ⟨⟨k, 0, u⟩, by simp, e.symm, by simp⟩
    · rcases h.sl j (by omega) with ⟨y, hy, e2, hp⟩ | e2
      · exact .inl ⟨y, by simp [hy], e2, hp⟩
      · exact .inr e2
end

/-- The law's reading of the log. -/
def scan1 (H : List Int) (s : Nat × Int) (x : Acc) : Option (Nat × Int) :=
  if x.addr ≠ 1 then if x.who = s.2 then none else some s
  else if x.kind = 1 then if x.who = s.2 ∧ x.a = 1 ∧ s.1 < H.length ∧ H.getD s.1 0 = x.who then some (s.1 + 1, -1) else none
  else if x.kind = 3 ∧ 0 ≤ x.b ∧ s.2 < 0 then some (s.1, if x.b = 0 then x.who else s.2) else none
def scan (H : List Int) (s : Option (Nat × Int)) (log : List Acc) : Option (Nat × Int) := log.foldl (fun s x => s.bind (fun s => scan1 H s x)) s
theorem scan_app (H : List Int) (s : Option (Nat × Int)) (log : List Acc) (x : Acc) : scan H s (log ++ [x]) = (scan H s log).bind (fun s => scan1 H s x) := by simp [scan, List.foldl_append]
def Sc (H : List Int) (log : List Acc) (owes : Int) : Prop := ∀ t, scan (H ++ t) (some (0, -1)) log = some (H.length, owes)
theorem Sc.away {H : List Int} {log : List Acc} {u : Int} {x : Acc} (h : Sc H log (-1)) (hu : 0 ≤ u) (hx : x.who = u) (ha : x.addr ≠ 1) : Sc H (log ++ [x]) (-1) := by
  intro t
  rw [scan_app, h t]
  simp [scan1, ha, hx]
  omega
theorem Sc.add {H : List Int} {log : List Acc} {u : Int} {x : Acc} (h : Sc H log (-1)) (hx : x.who = u) (ha : x.addr = 1) (hk : x.kind = 3) (hb : 0 ≤ x.b) : Sc H (log ++ [x]) (if x.b = 0 then u else -1) := by
  intro t
  rw [scan_app, h t]
  simp [scan1, ha, hk, hb, hx]
theorem Sc.back {H : List Int} {log : List Acc} {u : Int} {x : Acc} (h : Sc H log u) (hx : x.who = u) (ha : x.addr = 1) (hk : x.kind = 1) (hb : x.a = 1) : Sc (H ++ [u]) (log ++ [x]) (-1) := by
  intro t
  rw [scan_app, List.append_assoc, h]
  simp [scan1, ha, hk, hb, hx]
end Go.Proofs.Ytlligclkoecknaa
