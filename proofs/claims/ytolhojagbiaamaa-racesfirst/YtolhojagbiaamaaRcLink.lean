import Derived.Test.YtolhojagbiaamaaRcAdd
/-! The links of the row, plainly. -/
namespace Go.Proofs.Ytolhojagbiaamaa
set_option linter.unusedVariables false
set_option maxRecDepth 20000
set_option linter.unusedSimpArgs false

def Lnk (N : Nat → Int) : List Nat → Prop
  | [] => True
  | [a] => N a = -1
  | a :: b :: r => N a = (b : Int) ∧ Lnk N (b :: r)
theorem lnk_same {N N' : Nat → Int} : ∀ {M : List Nat}, (∀ a ∈ M, N' a = N a) → Lnk N M → Lnk N' M
  | [], _, _ => trivial
  | [a], h, hl => (h a (by simp)).trans hl
  | a :: b :: r, h, hl => ⟨(h a (by simp)).trans hl.1, lnk_same (fun x hx => h x (List.mem_cons_of_mem _ hx)) hl.2⟩
theorem upd_ne {N : Nat → Int} {k j : Nat} {v : Int} (h : j ≠ k) : upd N k v j = N j := by unfold upd; rw [if_neg h]
theorem upd_eq (N : Nat → Int) (k : Nat) (v : Int) : upd N k v k = v := by unfold upd; rw [if_pos rfl]
theorem lnk_put {N : Nat → Int} {k b : Nat} : ∀ {X Y : List Nat}, (X ++ b :: Y).Nodup → k ∉ X ++ b :: Y → Lnk N (X ++ b :: Y) → Lnk (upd (upd N k (N b)) b k) (X ++ b :: k :: Y)
  | [], Y, hnd, hk, hl => by
    have hbk : b ≠ k := fun e => hk (by simp [e])
    show Lnk _ (b :: k :: Y)
    refine ⟨upd_eq _ _ _, ?_⟩
    have hkb : upd (upd N k (N b)) b k k = N b := by rw [upd_ne (Ne.symm hbk), upd_eq]
    have hrest : ∀ a ∈ Y, upd (upd N k (N b)) b k a = N a := by
      intro a ha
      rw [upd_ne, upd_ne]
      · exact fun e => hk (by subst e; simp [ha])
      · intro e
        subst e
        exact (List.nodup_cons.1 hnd).1 ha
    match Y, hl, hrest with
    | [], hl, _ => exact hkb.trans hl
    | y :: Y', hl, hrest => exact ⟨hkb.trans hl.1, lnk_same hrest hl.2⟩
  | [x], Y, hnd, hk, hl => by
    have hx : x ≠ b := fun e => by subst e; exact (List.nodup_cons.1 hnd).1 (by simp)
    have hxk : x ≠ k := fun e => hk (by subst e; simp)
    exact ⟨by rw [upd_ne hx, upd_ne hxk]; exact hl.1, lnk_put (X := []) (List.nodup_cons.1 hnd).2 (fun h => hk (List.mem_cons_of_mem _ h)) hl.2⟩
  | x :: z :: X, Y, hnd, hk, hl => by
    have hx : x ≠ b := fun e => by subst e; exact (List.nodup_cons.1 hnd).1 (by simp)
    have hxk : x ≠ k := fun e => hk (by subst e; simp)
    exact ⟨by rw [upd_ne hx, upd_ne hxk]; exact hl.1, lnk_put (X := z :: X) (List.nodup_cons.1 hnd).2 (fun h => hk (List.mem_cons_of_mem _ h)) hl.2⟩
/-- Put in behind the last of a beginning. -/
theorem lnk_behind {N : Nat → Int} {n k : Nat} {X Y : List Nat} (hnd : (n :: (X ++ Y)).Nodup) (hk : k ∉ n :: (X ++ Y)) (hl : Lnk N (n :: (X ++ Y))) :
    Lnk (upd (upd N k (N (X.getLast?.getD n))) (X.getLast?.getD n) k) (n :: (X ++ k :: Y)) := by
  rcases List.eq_nil_or_concat X with rfl | ⟨Z, b, rfl⟩
  · exact lnk_put (X := []) hnd hk hl
  · have e : (Z.concat b).getLast?.getD n = b := by simp
    rw [e]
    have e1 : ∀ W : List Nat, n :: (Z.concat b ++ W) = (n :: Z) ++ b :: W := by intro W; simp
    rw [e1] at hnd hk hl
    rw [e1]
    exact lnk_put hnd hk hl
def lastN (n : Nat) (st : List Tk) : Nat := (Cof st).getLast?.getD n
def actL (n : Nat) : List Tk → List Dd
  | [] => []
  | t :: r => actL n r ++ [⟨lastN n (t :: r), endO t.O.getLast?⟩]
theorem act_len (n : Nat) (st : List Tk) : (actL n st).length = st.length := by
  induction st with
  | nil => rfl
  | cons t r ih => simp [actL, ih]
theorem step_le (i : Nat) (k : Int) (st : List Tk) : (stepT i k st).length ≤ st.length + 1 := by
  cases st with
  | nil => simp [stepT]
  | cons t r =>
    by_cases k0 : k = 0
    · subst k0; rw [st0]; simp
    · by_cases k1 : k = 1
      · subst k1
        cases r with
        | nil => simp [stepT]
        | cons u r' => rw [st1]; simp <;> omega
      · by_cases k2 : k = 2
        · subst k2; rw [st2]; simp
        · rw [st3 _ _ _ _ k0 k1 k2]; simp
theorem st_le (ds : List Dd) (n : Nat) : (stN ds n).length ≤ n + 1 := by
  induction n with
  | zero => simp [stN]
  | succ n ih => have := step_le n ((ds.getD n ⟨3, 0⟩).k) (stN ds n); show (stepT _ _ _).length ≤ _; omega
theorem last_two (a b : List Nat) (n : Nat) : b.getLast?.getD (a.getLast?.getD n) = (a ++ b).getLast?.getD n := by
  rw [List.getLast?_append]
  cases b.getLast? <;> rfl
theorem end_ret (t u : Tk) (k : Nat) : endE ⟨0, endO u.O.getLast?⟩ k = endO ((t.P ++ t.O ++ [k]) ++ u.O).getLast? := by
  rw [List.getLast?_append]
  cases h : u.O.getLast? with
  | none => simp [endE, endO]
  | some q => exact (if_neg (by show ¬ ((q : Nat) : Int) = -1; omega)).trans rfl
end Go.Proofs.Ytolhojagbiaamaa
