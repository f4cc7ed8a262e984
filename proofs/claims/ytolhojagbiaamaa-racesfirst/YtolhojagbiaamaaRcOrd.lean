import Derived.Test.YtolhojagbiaamaaRcParLaw
/-! Orders: rows of numbers that are told; serially; Orders; the marks. -/
namespace Go.Proofs.Ytolhojagbiaamaa
set_option linter.unusedVariables false
set_option maxRecDepth 20000
set_option linter.unusedSimpArgs false
open Go.RowKit Go.HeapKit

def ivZ (l : List Int) : List Value := l.map (Value.int .i64)
theorem ivZ_len (l : List Int) : (ivZ l).length = l.length := by simp [ivZ]
def natZ (l : List Nat) : List Int := l.map (fun a : Nat => (a : Int))
theorem ivN_ivZ (L : List Nat) : ivN L = ivZ (natZ L) := by simp [ivN, ivZ, natZ]
/-- A row of numbers of the call's own. -/
def RowZ (w : World) (base : Nat) (v : Value) (L : List Int) : Prop := w.ownsRow base 3 1 v L.length (ivZ L)
section
variable {w w' : World} {base : Nat} {v : Value} {L : List Int}
theorem RowZ.shape (h : RowZ w base v L) : ∃ a c, v = .slice a L.length c ∧ (0 < L.length → ∃ g, a = some ⟨g, 0, none⟩) := by
  rcases h.2 with ⟨rfl, h0⟩ | ⟨g, cap, cur, rfl, _⟩
  · exact ⟨none, 0, by rw [h0], fun h1 => by omega⟩
  · exact ⟨_, cap, rfl, fun _ => ⟨g, rfl⟩⟩
theorem RowZ.at {g c k : Nat} {x : Int} (h : RowZ w base (.slice (some ⟨g, 0, none⟩) L.length c) L) (hx : L[k]? = some x) : w.cell? ⟨g, k, none⟩ = some (.int .i64 x) ∧ w.frozen? ⟨g, k, none⟩ = false ∧ base ≤ g := by
  have hk := (List.getElem?_eq_some_iff.1 hx).1
  rcases h.2 with ⟨_, h1⟩ | ⟨g', cap, cur, hv, hbg, hg, hnc, hcm, hcs, htake⟩
  · omega
  · injection hv with e1 e2 e3
    injection e1 with e1
    injection e1 with e1
    subst e1 e3
    have hv : (ivZ L)[k]? = some (.int .i64 x) := by simp [ivZ, hx]
    refine ⟨?_, blk_free hg k, hbg⟩
    rw [blk_cell hg]
    rw [← htake, List.getElem?_take] at hv
    split at hv
    · simpa using hv
    · cases hv
theorem RowZ.kept {S : Nat → Prop} (h : RowZ w base v L) (hk : Keeps S w w') (hS : ∀ g, v.ownBlock = some g → ¬ S g) : RowZ w' base v L := row_kept h hk hS
theorem RowZ.more (h : RowZ w base v L) (hk : Keeps None w w') : RowZ w' base v L := h.kept hk (fun _ _ f => f)
theorem RowZ.put {g c k : Nat} (h : RowZ w base (.slice (some ⟨g, 0, none⟩) L.length c) L) (x : Int) : RowZ (w.setCell ⟨g, k, none⟩ (.int .i64 x)) base (.slice (some ⟨g, 0, none⟩) L.length c) (L.set k x) := by
  have := row_set h k (.int .i64 x)
  unfold RowZ
  rw [List.length_set]
  have e : (ivZ L).set k (.int .i64 x) = ivZ (L.set k x) := by simp [ivZ, List.map_set]
  rw [← e]
  exact this
end
theorem set_rep (L : List Int) (x : Int) {k : Nat} (hk : k < L.length) : (List.replicate k x ++ L.drop k).set k x = List.replicate (k + 1) x ++ L.drop (k + 1) := by
  rw [List.set_append_right _ _ (by simp), List.length_replicate, Nat.sub_self, List.drop_eq_getElem_cons hk]
  simp only [List.set_cons_zero]
  rw [List.replicate_succ', List.append_assoc]
  rfl
set_option maxHeartbeats 1600000 in
theorem fill_ok (v : Value) (L : List Int) (x : Int) (base : Nat) (w : World) (h : RowZ w base v L) (hn : L.length ≤ 4096) :
    Calls Try.prog 19 #[v, .int .i64 x] w fun e w' => e = .returned (.tuple #[]) ∧ RowZ w' base v (List.replicate L.length x) ∧ Keeps (fun i => v.ownBlock = some i) w w' := by
  obtain ⟨a, c, rfl, ha⟩ := h.shape
  obtain ⟨n, hne⟩ : ∃ n, n = L.length := ⟨_, rfl⟩
  have HN : Hid (n = L.length) := hne
  have HH : Hid (RowZ w base (.slice a L.length c) L) := h
  rw [← hne] at ha hn
  clear h
  rw [← hne]
  clear hne
  go_enter Try.func19, Try.ntmps19
  go_wp2_with fail
  go_loopw [4] (fun i wr => ∃ k : Nat, k ≤ n ∧ i = .int .i64 k ∧ RowZ wr base (.slice a n c) (List.replicate k x ++ L.drop k) ∧ Keeps (fun i => (Value.slice a n c).ownBlock = some i) w wr) (fun i _ => n - (intOf i).toNat)
  case atStart => exact ⟨0, Nat.zero_le _, rfl, by rw [HN.out]; exact HH.out, Keeps.refl _ _⟩
  case round =>
    obtain ⟨k, hk, rfl, hR, hkp⟩ := hrel
    have hlen : (List.replicate k x ++ L.drop k).length = n := by simp [← HN.out]; omega
    by_cases hkn : k < n
    · obtain ⟨g, rfl⟩ := ha (by omega)
      obtain ⟨y, hy⟩ : ∃ y, (List.replicate k x ++ L.drop k)[k]? = some y := ⟨_, List.getElem?_eq_getElem (by omega)⟩
      have hR' : RowZ wr base (.slice (some ⟨g, 0, none⟩) (List.replicate k x ++ L.drop k).length c) (List.replicate k x ++ L.drop k) := by rw [hlen]; exact hR
      obtain ⟨c0, f0, _⟩ := hR'.at hy
      have hP := hR'.put (k := k) x
      rw [set_rep L x (by rw [← HN.out]; omega), hlen] at hP
      have HK : Hid (RowZ (wr.setCell ⟨g, k, none⟩ (.int .i64 x)) base (.slice (some ⟨g, 0, none⟩) n c) (List.replicate (k + 1) x ++ L.drop (k + 1)) ∧ Keeps (fun i => (Value.slice (some ⟨g, 0, none⟩) n c).ownBlock = some i) w (wr.setCell ⟨g, k, none⟩ (.int .i64 x))) := ⟨hP, hkp.andSet (x := ⟨g, k, none⟩) (.inl rfl) _⟩
      have i1 : (k : Int) < (n : Int) := by omega
      clear hR hR' hP hkp hy hlen ha
      go_wp2
      go_roundw
      case rel => exact ⟨k + 1, by omega, by go_num, HK.out⟩
      case measure => simp [intOf]; omega
    · have hkn2 : k = n := by omega
      subst hkn2
      have HK : Hid (RowZ wr base (.slice a k c) (List.replicate k x) ∧ Keeps (fun i => (Value.slice a k c).ownBlock = some i) w wr) := by
        rw [List.drop_eq_nil_of_le (by rw [← HN.out]; exact Nat.le_refl _), List.append_nil] at hR
        exact ⟨hR, hkp⟩
      clear hR hkp hlen ha
      go_wp2
      go_end0
      exact ⟨rfl, HK.out⟩
/-- The numbers that stand at the head of a slice. -/
def SeesZ (w : World) (v : Value) (L : List Int) : Prop := ∀ a c, v = .slice a L.length c → ∀ k x, L[k]? = some x → ∃ g, a = some ⟨g, 0, none⟩ ∧ w.cell? ⟨g, k, none⟩ = some (.int .i64 x)
theorem RowZ.sees {w : World} {base : Nat} {v : Value} {L : List Int} (h : RowZ w base v L) : SeesZ w v L := by
  intro a c e k x hx
  subst e
  have hk := (List.getElem?_eq_some_iff.1 hx).1
  obtain ⟨a', c', e, hg⟩ := h.shape
  injection e with e1 e2 e3
  subst e1 e3
  obtain ⟨g, rfl⟩ := hg (by omega)
  exact ⟨g, rfl, (h.at hx).1⟩
theorem SeesZ.kept {S : Nat → Prop} {w w' : World} {v : Value} {L : List Int} (h : SeesZ w v L) (hk : Keeps S w w') (hS : ∀ g, v.ownBlock = some g → ¬ S g) : SeesZ w' v L := by
  intro a c e k x hx
  obtain ⟨g, rfl, hc⟩ := h a c e k x hx
  subst e
  exact ⟨g, rfl, hk.cell hc (hS g rfl)⟩
set_option maxHeartbeats 1600000 in
theorem full_ok (v : Value) (n : Nat) (x : Int) (w : World) (a : Option Addr) (c : Nat) (hv : v = .slice a n c) (h : SeesZ w v (List.replicate n x)) (hn : n ≤ 4096) :
    Calls Try.prog 21 #[v, .int .i64 x] w fun e w' => e = .returned (.bool true) ∧ w' = w := by
  subst hv
  have HH : Hid (SeesZ w (.slice a n c) (List.replicate n x)) := h
  clear h
  go_enter Try.func21, Try.ntmps21
  go_wp2_with fail
  go_loopw [5] (fun i wr => ∃ k : Nat, k ≤ n ∧ i = .int .i64 k ∧ wr = w) (fun i _ => n - (intOf i).toNat)
  case atStart => exact ⟨0, Nat.zero_le _, rfl, rfl⟩
  case round =>
    obtain ⟨k, hk, rfl, hwr⟩ := hrel
    subst hwr
    by_cases hkn : k < n
    · obtain ⟨g, rfl, c0⟩ := HH.out a c (by simp) k x (by simp [List.getElem?_replicate, hkn])
      have i1 : (k : Int) < (n : Int) := by omega
      clear HH
      go_wp2
      go_roundw
      case rel => exact ⟨k + 1, by omega, by go_num, trivial⟩
      case measure => simp [intOf]; omega
    · clear HH
      go_wp2
      go_ret
      exact ⟨rfl, rfl⟩
end Go.Proofs.Ytolhojagbiaamaa
