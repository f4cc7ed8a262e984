import Derived.Test.YtloahjkndhcjfabReserveWalks
import Derived.Test.YtloahjkndhcjfabLocks
import Derived.Conc.MuLone
/-! Shared cells, called by one goroutine. -/
namespace Go.Proofs.Ytloahjkndhcjfab
open Go.RowKit Go.HeapKit Go.MuLone

theorem atomic_add (a : Addr) (x y : Int) (w : World) (hc : w.cell? a = some (.int .i64 x)) (hz : w.frozen? a = false) :
    (callFunc 105 #[.pointer (some a), .int .i64 y]).run Try.prog w = .ok (.value (.int .i64 (wrap64 (x + y)))) (w.setCell a (.int .i64 (wrap64 (x + y)))) :=
  run_call_add (P := Try.prog) Try.func105 (by kernel_rfl) (by kernel_rfl) (by kernel_rfl) .i64 (by kernel_rfl) hc hz (by simp [go_sem, wrap64, IntKind.wrap_i64])
theorem atomic_hit (a : Addr) (x y : Int) (w : World) (hc : w.cell? a = some (.int .i64 x)) (hz : w.frozen? a = false) :
    (callFunc 104 #[.pointer (some a), .int .i64 x, .int .i64 y]).run Try.prog w = .ok (.value (.bool true)) (w.setCell a (.int .i64 y)) :=
  run_call_cas_hit (P := Try.prog) Try.func104 (by kernel_rfl) (by kernel_rfl) (by kernel_rfl) .i64 (by kernel_rfl) hc hz
theorem atomic_miss (a : Addr) (x o y : Int) (w : World) (hc : w.cell? a = some (.int .i64 x)) (hz : w.frozen? a = false) (hne : ¬ x = o) :
    (callFunc 104 #[.pointer (some a), .int .i64 o, .int .i64 y]).run Try.prog w = .ok (.value (.bool false)) w :=
  run_call_cas_miss (P := Try.prog) Try.func104 (by kernel_rfl) (by kernel_rfl) (by kernel_rfl) .i64 (by kernel_rfl) hc hz hne

def full (A : Ar) : List Int := A.cells ++ List.replicate (A.size - A.cells.length) 0
theorem full_length {A : Ar} (h : A.cells.length ≤ A.size) : (full A).length = A.size := by simp [full]; omega
def SFoot (p : Nat) (vs : Value) (k : Nat) : Prop := k = p ∨ vs.ownBlock = some k
structure IsShared (w : World) (p : Nat) (vs : Value) (A : Ar) : Prop where
  blk : w.heap[p]? = some (.cells #[.int .i64 A.size, .int .i64 A.cells.length, .int .i32 0, .int .u32 0, vs] 68 (0, 0))
  row : w.ownsRow 0 55 1 vs A.size ((full A).map (Value.int .i64))
  fit : A.cells.length ≤ A.size ∧ A.size ≤ 1048576
  plain : A.on = false

section
variable {w : World} {p : Nat} {vs : Value} {A : Ar}
theorem IsShared.lt (h : IsShared w p vs A) : p < w.heap.size := (Array.getElem?_eq_some_iff.1 h.blk).1
theorem IsShared.nsp (h : IsShared w p vs A) : vs.ownBlock ≠ some p := fun e => absurd (own_type h.row e h.blk) (by decide)
theorem IsShared.foot_lt (h : IsShared w p vs A) {k : Nat} (hk : SFoot p vs k) : k < w.heap.size := by
  rcases hk with rfl | hk
  · exact h.lt
  · exact own_lt h.row hk
theorem IsShared.c0 (h : IsShared w p vs A) : w.cell? ⟨p, 0, none⟩ = some (.int .i64 A.size) := by rw [cell_of_block h.blk]; rfl
theorem IsShared.c1 (h : IsShared w p vs A) : w.cell? ⟨p, 1, none⟩ = some (.int .i64 A.cells.length) := by rw [cell_of_block h.blk]; rfl
theorem IsShared.c2 (h : IsShared w p vs A) : w.cell? ⟨p, 2, none⟩ = some (.int .i32 0) := by rw [cell_of_block h.blk]; rfl
theorem IsShared.c4 (h : IsShared w p vs A) : w.cell? ⟨p, 4, none⟩ = some vs := by rw [cell_of_block h.blk]; rfl
theorem IsShared.free (h : IsShared w p vs A) (i : Nat) : w.frozen? ⟨p, i, none⟩ = false := free_of_block h.blk i
theorem IsShared.kept {w' : World} {S : Nat → Prop} (h : IsShared w p vs A) (hk : Keeps S w w') (hS : ∀ k, SFoot p vs k → ¬ S k) : IsShared w' p vs A :=
  ⟨(hk.block p h.lt (hS p (.inl rfl))).trans h.blk, hk.own h.row (fun k e => hS k (.inr e)), h.fit, h.plain⟩

theorem IsShared.at (h : IsShared w p vs A) (k : Nat) (hk : k < A.cells.length) :
    ∃ g cap, vs = .slice (some ⟨g, 0, none⟩) A.size cap ∧ A.size ≤ cap ∧ g ≠ p ∧ w.cell? ⟨g, k, none⟩ = some (.int .i64 (A.val k)) ∧ w.frozen? ⟨g, k, none⟩ = false := by
  have hc := h.row
  have hf := h.fit
  rcases hc.2 with ⟨_, h0⟩ | ⟨g, cap, cur, rfl, _, hg, hn, _, hcs, ht⟩
  · omega
  · refine ⟨g, cap, rfl, hn, fun e => h.nsp (by rw [← e]; rfl), ?_, free_of_block hg k⟩
    have hu := hc.cells (g := g) rfl k (.int .i64 (A.val k)) (by rw [List.getElem?_map, full, List.getElem?_append_left hk]; simp [Ar.val, List.getD, hk])
    rwa [show (⟨g, 0, none⟩ : Addr).add k = ⟨g, k, none⟩ by unfold Addr.add; split <;> simp_all] at hu
theorem IsShared.put (h : IsShared w p vs A) (k : Nat) (hk : k < A.cells.length) {g cap : Nat} (hv : vs = .slice (some ⟨g, 0, none⟩) A.size cap) (v : Int) :
    IsShared (w.setCell ⟨g, k, none⟩ (.int .i64 v)) p vs (A.put k v) ∧ Keeps (SFoot p vs) w (w.setCell ⟨g, k, none⟩ (.int .i64 v)) := by
  have hgp : g ≠ p := fun e => h.nsp (by rw [hv, ← e]; rfl)
  have hkp : Keeps (· = g) w (w.setCell ⟨g, k, none⟩ (.int .i64 v)) := Keeps.setCell (S := (· = g)) w (a := ⟨g, k, none⟩) rfl _
  refine ⟨⟨?_, ?_, by simpa [Ar.put] using h.fit, by simpa [Ar.put] using h.plain⟩, hkp.mono (fun i e _ => .inr (by rw [hv, e]; rfl))⟩
  · rw [hkp.block p h.lt (fun e => hgp e.symm), h.blk]
    simp [Ar.put]
  · have hr := h.row
    subst hv
    have := own_set hr k (.int .i64 v)
    have e : full (A.put k v) = (full A).set k v := by simp [full, Ar.put, List.set_append_left _ _ hk]
    rw [e, List.map_set]
    exact this
end

theorem sload_nil (x : Int) (w : World) :
    Calls Try.prog 38 #[.pointer none, .int .i64 x] w fun e w' => e = .returned (.tuple #[.int .i64 0, .int .i64 20]) ∧ w' = w := by
  go_enter Try.func38, Try.ntmps38
  go_wp2
  go_ret2
  exact ⟨rfl, rfl⟩
theorem sload_out (p : Nat) (vs : Value) (A : Ar) (x : Int) (w : World) (h : IsShared w p vs A) (hx : A.has x = false) :
    Calls Try.prog 38 #[.pointer (some ⟨p, 0, none⟩), .int .i64 x] w fun e w' => e = .returned (.tuple #[.int .i64 0, .int .i64 20]) ∧ w' = w := by
  have hx' : (decide (0 ≤ x) && decide (x < A.cells.length)) = false := hx
  go_enter Try.func38, Try.ntmps38
  go_wp2_with (go_at_call 74; refine (has_any p 0 _ x w h.c1).mono ?_; rw [hx']; rintro e w' ⟨rfl, rfl⟩)
  go_ret2
  exact ⟨rfl, rfl⟩
theorem sload_in (p : Nat) (vs : Value) (A : Ar) (k : Nat) (w : World) (h : IsShared w p vs A) (hx : k < A.cells.length) :
    Calls Try.prog 38 #[.pointer (some ⟨p, 0, none⟩), .int .i64 k] w fun e w' => e = .returned (.tuple #[.int .i64 (A.val k), .int .i64 0]) ∧ w' = w := by
  have hx' : (decide (0 ≤ (k : Int)) && decide ((k : Int) < A.cells.length)) = true := by simp; omega
  have c4 := h.c4
  have c1 := h.c1
  have hf := h.fit
  obtain ⟨g, cap, rfl, hcap, hgp, hv, hfz⟩ := h.at k hx
  have hl := atomic_load ⟨g, k, none⟩ _ w hv
  have hin : (k : Int) < (A.size : Int) := by omega
  clear h hf hx
  go_enter Try.func38, Try.ntmps38
  go_wp2_with (first
    | (go_at_call 74; refine (has_any p 0 _ k w c1).mono ?_; rw [hx']; rintro e w' ⟨rfl, rfl⟩)
    | go_in)
  go_ret2
  exact ⟨rfl, rfl⟩
theorem sstore_nil (x v : Int) (w : World) :
    Calls Try.prog 39 #[.pointer none, .int .i64 x, .int .i64 v] w fun e w' => e = .returned (.int .i64 20) ∧ w' = w := by
  go_enter Try.func39, Try.ntmps39
  go_wp2
  go_ret
  exact ⟨rfl, rfl⟩
theorem sstore_out (p : Nat) (vs : Value) (A : Ar) (x v : Int) (w : World) (h : IsShared w p vs A) (hx : A.has x = false) :
    Calls Try.prog 39 #[.pointer (some ⟨p, 0, none⟩), .int .i64 x, .int .i64 v] w fun e w' => e = .returned (.int .i64 20) ∧ w' = w := by
  have hx' : (decide (0 ≤ x) && decide (x < A.cells.length)) = false := hx
  go_enter Try.func39, Try.ntmps39
  go_wp2_with (go_at_call 74; refine (has_any p 0 _ x w h.c1).mono ?_; rw [hx']; rintro e w' ⟨rfl, rfl⟩)
  go_ret
  exact ⟨rfl, rfl⟩
theorem sstore_in (p : Nat) (vs : Value) (A : Ar) (k : Nat) (v : Int) (w : World) (h : IsShared w p vs A) (hx : k < A.cells.length) :
    Calls Try.prog 39 #[.pointer (some ⟨p, 0, none⟩), .int .i64 k, .int .i64 v] w fun e w' => e = .returned (.int .i64 0) ∧ IsShared w' p vs (A.put k v) ∧ Keeps (SFoot p vs) w w' := by
  have hx' : (decide (0 ≤ (k : Int)) && decide ((k : Int) < A.cells.length)) = true := by simp; omega
  have c4 := h.c4
  have c1 := h.c1
  have hf := h.fit
  obtain ⟨g, cap, rfl, hcap, hgp, hv, hfz⟩ := h.at k hx
  have hl := atomic_store ⟨g, k, none⟩ v _ w hv hfz
  have hin : (k : Int) < (A.size : Int) := by omega
  have HP : Hid _ := h.put k hx rfl v
  clear h hf hx
  go_enter Try.func39, Try.ntmps39
  go_wp2_with (first
    | (go_at_call 74; refine (has_any p 0 _ k w c1).mono ?_; rw [hx']; rintro e w' ⟨rfl, rfl⟩)
    | go_in)
  go_end0
  go_wp2
  go_ret
  exact ⟨rfl, HP.out⟩
theorem scas_nil (x o v : Int) (w : World) :
    Calls Try.prog 40 #[.pointer none, .int .i64 x, .int .i64 o, .int .i64 v] w fun e w' => e = .returned (.tuple #[.bool false, .int .i64 20]) ∧ w' = w := by
  go_enter Try.func40, Try.ntmps40
  go_wp2
  go_ret2
  exact ⟨rfl, rfl⟩
theorem scas_out (p : Nat) (vs : Value) (A : Ar) (x o v : Int) (w : World) (h : IsShared w p vs A) (hx : A.has x = false) :
    Calls Try.prog 40 #[.pointer (some ⟨p, 0, none⟩), .int .i64 x, .int .i64 o, .int .i64 v] w fun e w' => e = .returned (.tuple #[.bool false, .int .i64 20]) ∧ w' = w := by
  have hx' : (decide (0 ≤ x) && decide (x < A.cells.length)) = false := hx
  go_enter Try.func40, Try.ntmps40
  go_wp2_with (go_at_call 74; refine (has_any p 0 _ x w h.c1).mono ?_; rw [hx']; rintro e w' ⟨rfl, rfl⟩)
  go_ret2
  exact ⟨rfl, rfl⟩
theorem scas_hit (p : Nat) (vs : Value) (A : Ar) (k : Nat) (v : Int) (w : World) (h : IsShared w p vs A) (hx : k < A.cells.length) :
    Calls Try.prog 40 #[.pointer (some ⟨p, 0, none⟩), .int .i64 k, .int .i64 (A.val k), .int .i64 v] w fun e w' => e = .returned (.tuple #[.bool true, .int .i64 0]) ∧ IsShared w' p vs (A.put k v) ∧ Keeps (SFoot p vs) w w' := by
  have hx' : (decide (0 ≤ (k : Int)) && decide ((k : Int) < A.cells.length)) = true := by simp; omega
  have c4 := h.c4
  have c1 := h.c1
  have hf := h.fit
  obtain ⟨g, cap, rfl, hcap, hgp, hv, hfz⟩ := h.at k hx
  have hl := atomic_hit ⟨g, k, none⟩ _ v w hv hfz
  have hin : (k : Int) < (A.size : Int) := by omega
  have HP : Hid _ := h.put k hx rfl v
  clear h hf hx
  go_enter Try.func40, Try.ntmps40
  go_wp2_with (first
    | (go_at_call 74; refine (has_any p 0 _ k w c1).mono ?_; rw [hx']; rintro e w' ⟨rfl, rfl⟩)
    | go_in)
  go_ret2
  exact ⟨rfl, HP.out⟩
theorem scas_miss (p : Nat) (vs : Value) (A : Ar) (k : Nat) (o v : Int) (w : World) (h : IsShared w p vs A) (hx : k < A.cells.length) (hne : ¬ A.val k = o) :
    Calls Try.prog 40 #[.pointer (some ⟨p, 0, none⟩), .int .i64 k, .int .i64 o, .int .i64 v] w fun e w' => e = .returned (.tuple #[.bool false, .int .i64 0]) ∧ IsShared w' p vs A ∧ Keeps (SFoot p vs) w w' := by
  have hx' : (decide (0 ≤ (k : Int)) && decide ((k : Int) < A.cells.length)) = true := by simp; omega
  have c4 := h.c4
  have c1 := h.c1
  have hf := h.fit
  obtain ⟨g, cap, rfl, hcap, hgp, hv, hfz⟩ := h.at k hx
  have hl := atomic_miss ⟨g, k, none⟩ _ o v w hv hfz hne
  have hin : (k : Int) < (A.size : Int) := by omega
  have HP : Hid (IsShared w p (.slice (some ⟨g, 0, none⟩) A.size cap) A ∧ Keeps (SFoot p (.slice (some ⟨g, 0, none⟩) A.size cap)) w w) := ⟨h, Keeps.refl _ _⟩
  clear h hf hx
  go_enter Try.func40, Try.ntmps40
  go_wp2_with (first
    | (go_at_call 74; refine (has_any p 0 _ k w c1).mono ?_; rw [hx']; rintro e w' ⟨rfl, rfl⟩)
    | go_in)
  go_ret2
  exact ⟨rfl, HP.out⟩
theorem sadd_nil (x v : Int) (w : World) :
    Calls Try.prog 41 #[.pointer none, .int .i64 x, .int .i64 v] w fun e w' => e = .returned (.tuple #[.int .i64 0, .int .i64 20]) ∧ w' = w := by
  go_enter Try.func41, Try.ntmps41
  go_wp2
  go_ret2
  exact ⟨rfl, rfl⟩
theorem sadd_out (p : Nat) (vs : Value) (A : Ar) (x v : Int) (w : World) (h : IsShared w p vs A) (hx : A.has x = false) :
    Calls Try.prog 41 #[.pointer (some ⟨p, 0, none⟩), .int .i64 x, .int .i64 v] w fun e w' => e = .returned (.tuple #[.int .i64 0, .int .i64 20]) ∧ w' = w := by
  have hx' : (decide (0 ≤ x) && decide (x < A.cells.length)) = false := hx
  go_enter Try.func41, Try.ntmps41
  go_wp2_with (go_at_call 74; refine (has_any p 0 _ x w h.c1).mono ?_; rw [hx']; rintro e w' ⟨rfl, rfl⟩)
  go_ret2
  exact ⟨rfl, rfl⟩
theorem sadd_in (p : Nat) (vs : Value) (A : Ar) (k : Nat) (v : Int) (w : World) (h : IsShared w p vs A) (hx : k < A.cells.length) :
    Calls Try.prog 41 #[.pointer (some ⟨p, 0, none⟩), .int .i64 k, .int .i64 v] w fun e w' => e = .returned (.tuple #[.int .i64 (wrap64 (A.val k + v)), .int .i64 0]) ∧ IsShared w' p vs (A.put k (wrap64 (A.val k + v))) ∧ Keeps (SFoot p vs) w w' := by
  have hx' : (decide (0 ≤ (k : Int)) && decide ((k : Int) < A.cells.length)) = true := by simp; omega
  have c4 := h.c4
  have c1 := h.c1
  have hf := h.fit
  obtain ⟨g, cap, rfl, hcap, hgp, hv, hfz⟩ := h.at k hx
  have hl := atomic_add ⟨g, k, none⟩ _ v w hv hfz
  have hin : (k : Int) < (A.size : Int) := by omega
  have HP : Hid _ := h.put k hx rfl (wrap64 (A.val k + v))
  clear h hf hx
  go_enter Try.func41, Try.ntmps41
  go_wp2_with (first
    | (go_at_call 74; refine (has_any p 0 _ k w c1).mono ?_; rw [hx']; rintro e w' ⟨rfl, rfl⟩)
    | go_in)
  go_ret2
  exact ⟨rfl, HP.out⟩

end Go.Proofs.Ytloahjkndhcjfab
