import Derived.Test.YtlligclkoecknaaFrInv5
/-! What a play tells, however far it has come. -/
namespace Go.Proofs.Ytlligclkoecknaa
open Go.RowKit Go.HeapKit Go.IntWalk

def total (l : List Nat) : Nat := 2 + toGo l 0
/-- What a play that has n steps left tells. -/
structure Told (l : List Nat) (n : Nat) (done : Bool) (holders : List Int) (reads : List (List Int)) (marks : List Int) (log : List Acc) : Prop where
  dn : done = true ↔ n = 0
  lg : log.length + n = total l
  rh : reads.length = holders.length
  rl : reads.length ≤ l.length
  dh : done = true → holders.length = l.length ∧ reads = full l l.length
  row : ∀ i, i < reads.length → ∃ m, m ≤ l.getD i 0 ∧ reads.getD i [] = vals100 i m ∧ (done = true ∨ i + 1 < reads.length → m = l.getD i 0)
  ml : marks.length = frs l
  mark : ∀ f, f < frs l → (marks.getD f 0 = 0 ∨ marks.getD f 0 = 1) ∧ (done = true → marks.getD f 0 = 1)
  sc : ∃ o, scan holders (some (0, -1)) log = some (holders.length, o)
def marksOf (A : Ar) (F : Nat) : List Int := (List.range F).map (fun f => A.val (2 + 10 * f))
theorem marksOf_at (A : Ar) (F f : Nat) (h : f < F) : (marksOf A F).getD f 0 = A.val (2 + 10 * f) := by simp [marksOf, List.getD_eq_getElem?_getD, h]
theorem full_at (l : List Nat) (r i : Nat) (h : i < r) : (full l r).getD i [] = vals100 i (l.getD i 0) := by simp [full, List.getD_eq_getElem?_getD, h]
theorem Sc.out {H : List Int} {log : List Acc} {o : Int} (h : Sc H log o) : ∃ o, scan H (some (0, -1)) log = some (H.length, o) := ⟨o, by simpa using h []⟩
section
variable {l : List Nat} {n : Nat} {S : Pl}
theorem rows_full (r : Nat) (reads : List (List Int)) (done : Bool) (hre : reads = full l r) : ∀ i, i < reads.length → ∃ m, m ≤ l.getD i 0 ∧ reads.getD i [] = vals100 i m ∧ (done = true ∨ i + 1 < reads.length → m = l.getD i 0) := by
  intro i hi
  subst hre
  rw [full_length] at hi
  exact ⟨_, Nat.le_refl _, full_at l r i hi, fun _ => rfl⟩
theorem Inv.told (h : Inv l n S) : Told l n S.done S.holders S.reads (marksOf S.A (frs l)) S.A.log := by
  obtain ⟨hb, hm⟩ := h
  have hlg : S.A.log.length + n = total l := hb.lg
  have hml : (marksOf S.A (frs l)).length = frs l := by simp [marksOf]
  have mrk : ∀ {t J : Int} {mk sl : Nat → Int} {r k : Nat} {ks : List Kd}, S.done = false → MemP S.A (frs l) t J mk sl → KF l r k ks mk sl → ∀ f, f < frs l → ((marksOf S.A (frs l)).getD f 0 = 0 ∨ (marksOf S.A (frs l)).getD f 0 = 1) ∧ (S.done = true → (marksOf S.A (frs l)).getD f 0 = 1) := by
    intro t J mk sl r k ks hd hM hK f hf
    rw [marksOf_at _ _ _ hf, hM.mark f hf]
    exact ⟨hK.bit f hf, fun e => by rw [hd] at e; cases e⟩
  cases hm with
  | st z h =>
    obtain ⟨mk, sl, hM, hz⟩ := h.mem
    refine ⟨by rw [h.dn, h.hn]; cases z <;> simp <;> omega, hlg, by rw [h.re, h.ho]; rfl, by rw [h.re]; simp, by rw [h.dn]; simp, by rw [h.re]; simp, hml, fun f hf => ?_, h.sc.out⟩
    rw [marksOf_at _ _ _ hf, hM.mark f hf, h.dn]
    exact ⟨.inl (hz f hf), fun e => by cases e⟩
  | wk r k fk ks u fin h =>
    obtain ⟨mk, sl, hM, hK⟩ := h.mem
    have hn := h.hn
    have := h.hk
    refine ⟨by rw [h.dn]; simp; intro e; subst e; split at hn <;> omega, hlg, by rw [h.re, h.ho, full_length], by rw [h.re, full_length]; have := h.lt; omega, by rw [h.dn]; simp, rows_full r _ _ h.re, hml, mrk h.dn hM hK, h.sc.out⟩
  | qu r ks h =>
    obtain ⟨mk, sl, hM, hK⟩ := h.mem
    have := h.hn
    refine ⟨by rw [h.dn]; simp; omega, hlg, by rw [h.re, h.ho, full_length], by rw [h.re, full_length]; have := h.lt; omega, by rw [h.dn]; simp, rows_full r _ _ h.re, hml, mrk h.dn hM hK, h.sc.out⟩
  | bk r a h =>
    obtain ⟨mk, sl, hM, hK⟩ := h.mem
    have := h.hn
    refine ⟨by rw [h.dn]; simp; omega, hlg, by rw [h.re, h.ho, full_length], by rw [h.re, full_length]; have := h.lt; omega, by rw [h.dn]; simp, rows_full r _ _ h.re, hml, mrk h.dn hM hK, h.sc.out⟩
  | ft r j a h =>
    obtain ⟨mk, sl, hM, hK⟩ := h.b.mem
    have := h.hn
    have hj := h.lt
    have hrl : S.reads.length = r + 1 := by rw [h.b.re]; simp [full_length]
    refine ⟨by rw [h.b.dn]; simp; omega, hlg, by rw [hrl, h.b.ho], by rw [hrl]; have := h.b.lt; omega, by rw [h.b.dn]; simp, fun i hi => ?_, hml, mrk h.b.dn hM hK, h.b.sc.out⟩
    rw [hrl] at hi ⊢
    rw [h.b.dn]
    by_cases e : i = r
    · subst e
      refine ⟨j, by omega, ?_, fun e => by rcases e with e | e; cases e; omega⟩
      rw [h.b.re]
      have e1 : (full l i).length = i := full_length l i
      conv => lhs; arg 2; rw [← e1]
      simp [List.getD_eq_getElem?_getD]
    · refine ⟨l.getD i 0, Nat.le_refl _, ?_, fun _ => rfl⟩
      rw [h.b.re]
      have e1 : (full l r).length = r := full_length l r
      rw [← full_at l r i (by omega)]
      simp only [List.getD_eq_getElem?_getD]
      rw [List.getElem?_append_left (by omega)]
  | dn h =>
    obtain ⟨mk, sl, hM, hK⟩ := h.mem
    refine ⟨by rw [h.dn, h.hn]; simp, hlg, by rw [h.re, h.ho, full_length], by rw [h.re, full_length]; omega, fun _ => ⟨h.ho, h.re⟩, rows_full l.length _ _ h.re, hml, fun f hf => ?_, h.sc.out⟩
    rw [marksOf_at _ _ _ hf, hM.mark f hf]
    have : mk f = 1 := (hK.mark f hf).2 ⟨by rw [base_end]; omega, by simp⟩
    exact ⟨.inr this, fun _ => this⟩
/-- As long as steps are left, somebody is there to make them. -/
theorem Inv.some (h : Inv l (n + 1) S) : 0 < S.alive.length ∧ S.alive.length ≤ 600 ∧ S.done = false := by
  obtain ⟨hb, hm⟩ := h
  have h8 := hb.ok.few
  cases hm with
  | st z h => rw [h.al, h.dn]; simp
  | wk r k fk ks u fin h => have h1 := h.few; have h2 := h.hk; have := h8 r; rw [h.al, h.dn]; simp; omega
  | qu r ks h => have h1 := h.few; have h2 := h.ne; have := h8 r; rw [h.al, h.dn]; simp; omega
  | bk r a h => rw [h.al, h.dn]; simp
  | ft r j a h => rw [h.al, h.b.dn]; simp
  | dn h => exact absurd h.hn (by omega)
theorem Inv.done (h : Inv l 0 S) : S.done = true := by
  have := h.told.dn
  simpa using this
end
end Go.Proofs.Ytlligclkoecknaa
