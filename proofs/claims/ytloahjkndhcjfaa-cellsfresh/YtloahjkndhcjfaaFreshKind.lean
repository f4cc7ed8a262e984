import Derived.Test.YtloahjkndhcjfaaOnlyPlain
import Derived.Test.YtloahjkndhcjfaaSharedReserve
/-! A memory behind the interface, of either kind. -/
namespace Go.Proofs.Ytloahjkndhcjfaa
open Go.RowKit Go.HeapKit

theorem off_noted {A : Ar} (h : A.on = false) (x : Acc) : A.noted x = A := by simp [Ar.noted, h]

structure Kind (B : Nat) (T : TypeId) (ad : Addr) (kR kL kS : Nat) (Mem : World → Ar → Prop) : Prop where
  mR : ∀ w, (method 264 T (.pointer (some ad)) "Reserve").run Try.prog w = .ok (kR, .pointer (some ad)) w
  mL : ∀ w, (method 264 T (.pointer (some ad)) "Load").run Try.prog w = .ok (kL, .pointer (some ad)) w
  mS : ∀ w, (method 264 T (.pointer (some ad)) "Store").run Try.prog w = .ok (kS, .pointer (some ad)) w
  cR : ∀ args w, (callFunc kR args).run Try.prog w = .ok (.enter kR args) w
  cL : ∀ args w, (callFunc kL args).run Try.prog w = .ok (.enter kL args) w
  cS : ∀ args w, (callFunc kS args).run Try.prog w = .ok (.enter kS args) w
  bad : ∀ w A (n : Int), Mem w A → (n < 1 ∨ (A.size : Int) - A.cells.length < n) → Calls Try.prog kR #[.pointer (some ad), .int .i64 n] w fun e w' => ∃ err : Int, e = .returned (.tuple #[.int .i64 0, .int .i64 err]) ∧ err ≠ 0 ∧ Mem w' A ∧ Below B w w'
  fits : ∀ w A (n : Nat), Mem w A → 0 < n → A.cells.length + n ≤ A.size → Calls Try.prog kR #[.pointer (some ad), .int .i64 n] w fun e w' => e = .returned (.tuple #[.int .i64 A.cells.length, .int .i64 0]) ∧ Mem w' (A.more n) ∧ Below B w w'
  load : ∀ w A (k : Nat), Mem w A → k < A.cells.length → Calls Try.prog kL #[.pointer (some ad), .int .i64 k] w fun e w' => e = .returned (.tuple #[.int .i64 (A.val k), .int .i64 0]) ∧ Mem w' A ∧ Below B w w'
  loadOut : ∀ w A (x : Int), Mem w A → A.has x = false → Calls Try.prog kL #[.pointer (some ad), .int .i64 x] w fun e w' => e = .returned (.tuple #[.int .i64 0, .int .i64 20]) ∧ Mem w' A ∧ Below B w w'
  store : ∀ w A (k : Nat) (v : Int), Mem w A → k < A.cells.length → Calls Try.prog kS #[.pointer (some ad), .int .i64 k, .int .i64 v] w fun e w' => e = .returned (.int .i64 0) ∧ Mem w' (A.put k v) ∧ Below B w w'

def ArenaMem (B p : Nat) (w : World) (A : Ar) : Prop := Owned B w p A ∧ A.on = false ∧ A.log = []
theorem arena_kind (B p : Nat) : Kind B 25 ⟨p, 0, none⟩ 10 34 11 (ArenaMem B p) where
  mR := fun _ => by kernel_rfl
  mL := fun _ => by kernel_rfl
  mS := fun _ => by kernel_rfl
  cR := fun args w => by go_simp
  cL := fun args w => by go_simp
  cS := fun args w => by go_simp
  bad := fun w A n h hn => by
    obtain ⟨hO, hon, hl⟩ := h
    obtain ⟨vc, vl, hA, hp, hc, hl2⟩ := hO.ex
    by_cases h1 : n < 1
    · refine (reserve_few p vc vl A n w hA h1).mono ?_
      rintro e w' ⟨rfl, rfl⟩
      exact ⟨21, rfl, by decide, ⟨hO, hon, hl⟩, Below.refl _ _⟩
    · refine (reserve_many p vc vl A n w hA h1 (by omega)).mono ?_
      rintro e w' ⟨rfl, rfl⟩
      exact ⟨22, rfl, by decide, ⟨hO, hon, hl⟩, Below.refl _ _⟩
  fits := fun w A n h hn hf => by
    obtain ⟨hO, hon, hl⟩ := h
    refine (own_reserve hO n hn hf (by rw [hl]; decide)).mono ?_
    rintro e w' ⟨rfl, h1, h2⟩
    rw [off_noted (A := A.more n) hon] at h1
    exact ⟨rfl, ⟨h1, hon, hl⟩, h2⟩
  load := fun w A k h hk => by
    obtain ⟨hO, hon, hl⟩ := h
    obtain ⟨vc, vl, hA, hp, hc, hl2⟩ := hO.ex
    refine (load_in p vc vl A k w hA hk (by rw [hl]; decide)).mono ?_
    rintro e w' ⟨rfl, hA'⟩
    rw [off_noted hon] at hA'
    obtain ⟨h1, h2⟩ := Owned.of hA' hO.size hp hc hl2
    exact ⟨rfl, ⟨h1, hon, hl⟩, h2⟩
  loadOut := fun w A x h hx => by
    obtain ⟨hO, hon, hl⟩ := h
    obtain ⟨vc, vl, hA, hp, hc, hl2⟩ := hO.ex
    refine (load_out p vc vl A x w hA hx).mono ?_
    rintro e w' ⟨rfl, rfl⟩
    exact ⟨rfl, ⟨hO, hon, hl⟩, Below.refl _ _⟩
  store := fun w A k v h hk => by
    obtain ⟨hO, hon, hl⟩ := h
    refine (own_store hO k v hk (by rw [hl]; decide)).mono ?_
    rintro e w' ⟨rfl, h1, h2⟩
    rw [off_noted (A := A.put k v) hon] at h1
    exact ⟨rfl, ⟨h1, hon, hl⟩, h2⟩

def SharedMem (B p : Nat) (w : World) (A : Ar) : Prop := ∃ vs, IsShared w p vs A ∧ B ≤ p ∧ ∀ g, vs.ownBlock = some g → B ≤ g
theorem SharedMem.of {B p : Nat} {w w' : World} {vs : Value} {A A' : Ar} (hs : IsShared w p vs A) (hp : B ≤ p) (hg : ∀ g, vs.ownBlock = some g → B ≤ g) (h : IsShared w' p vs A' ∧ Keeps (SFoot p vs) w w') : SharedMem B p w' A' ∧ Below B w w' := by
  refine ⟨⟨vs, h.1, hp, hg⟩, h.2.below B (by have := hs.lt; omega) ?_⟩
  rintro k (rfl | e)
  · exact hp
  · exact hg k e
theorem shared_kind (B p : Nat) : Kind B 53 ⟨p, 0, none⟩ 84 82 85 (SharedMem B p) where
  mR := fun _ => by kernel_rfl
  mL := fun _ => by kernel_rfl
  mS := fun _ => by kernel_rfl
  cR := fun args w => by go_simp
  cL := fun args w => by go_simp
  cS := fun args w => by go_simp
  bad := fun w A n h hn => by
    obtain ⟨vs, hs, hp, hg⟩ := h
    by_cases h1 : n < 1
    · refine (sreserve_few p vs A n w hs h1).mono ?_
      rintro e w' ⟨rfl, hA⟩
      exact ⟨21, rfl, by decide, SharedMem.of hs hp hg hA⟩
    · refine (sreserve_many p vs A n w hs h1 (by omega)).mono ?_
      rintro e w' ⟨rfl, hA⟩
      exact ⟨22, rfl, by decide, SharedMem.of hs hp hg hA⟩
  fits := fun w A n h hn hf => by
    obtain ⟨vs, hs, hp, hg⟩ := h
    refine (sreserve_fits p vs A n w hs hn hf).mono ?_
    rintro e w' ⟨rfl, hA⟩
    exact ⟨rfl, SharedMem.of hs hp hg hA⟩
  load := fun w A k h hk => by
    obtain ⟨vs, hs, hp, hg⟩ := h
    refine (sload_in p vs A k w hs hk).mono ?_
    rintro e w' ⟨rfl, rfl⟩
    exact ⟨rfl, ⟨vs, hs, hp, hg⟩, Below.refl _ _⟩
  loadOut := fun w A x h hx => by
    obtain ⟨vs, hs, hp, hg⟩ := h
    refine (sload_out p vs A x w hs hx).mono ?_
    rintro e w' ⟨rfl, rfl⟩
    exact ⟨rfl, ⟨vs, hs, hp, hg⟩, Below.refl _ _⟩
  store := fun w A k v h hk => by
    obtain ⟨vs, hs, hp, hg⟩ := h
    refine (sstore_in p vs A k v w hs hk).mono ?_
    rintro e w' ⟨rfl, hA⟩
    exact ⟨rfl, SharedMem.of hs hp hg hA⟩
end Go.Proofs.Ytloahjkndhcjfaa
