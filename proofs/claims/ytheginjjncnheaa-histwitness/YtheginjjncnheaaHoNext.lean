import Derived.Test.YtheginjjncnheaaHiSortWalk
import Derived.Test.YtheginjjncnheaaHiAllows
import Derived.Test.YtheginjjncnheaaHoMap
/-! The search for an order: the next call of an actor; is it in time; are all through? -/
namespace Go.Proofs.Ytheginjjncnheaa
set_option linter.unusedVariables false
set_option maxRecDepth 20000
set_option linter.unusedSimpArgs false
open Go.RowKit Go.HeapKit

theorem blk_kept {w w' : World} {b : Nat} {cs : Array Value} {T : TypeId} {S : Nat → Prop} (h : w.heap[b]? = some (.cells cs T (0, 0))) (hk : Keeps S w w') (hS : ¬ S b) : w'.heap[b]? = some (.cells cs T (0, 0)) := (hk.block b (Array.getElem?_eq_some_iff.1 h).1 hS).trans h
/-- The numbers of an actor's calls. -/
def ownL (l : List Cl) (i : Nat) : List Int := mineL l l.length i
def nxt (l : List Cl) (x : C4) (i : Nat) : Option Int := (ownL l i)[x.at i]?
/-- The block of the search. -/
structure IsSr (w : World) (S : Nat) (a : Option Addr) (n c : Nat) (vs : Nat → Value) (mb : Nat) (tv : Value) : Prop where
  blk : w.heap[S]? = some (.cells #[.slice a n c, vs 0, vs 1, vs 2, vs 3, .map (some mb), tv] 59 (0, 0))
theorem IsSr.more {w w' : World} {S : Nat} {a : Option Addr} {n c : Nat} {vs : Nat → Value} {mb : Nat} {tv : Value} (h : IsSr w S a n c vs mb tv) (hk : Keeps None w w') : IsSr w' S a n c vs mb tv := ⟨blk_kept h.blk hk (fun f => f)⟩
theorem IsSr.row {w : World} {S : Nat} {a : Option Addr} {n c : Nat} {vs : Nat → Value} {mb : Nat} {tv : Value} (h : IsSr w S a n c vs mb tv) {i : Nat} (hi : i < 4) : w.cell? ⟨S, 1 + i, none⟩ = some (vs i) := by
  rw [blk_cell h.blk]
  rcases i with _ | _ | _ | _ | i
  · rfl
  · rfl
  · rfl
  · rfl
  · omega
theorem mine_lt (l : List Cl) (i : Nat) : ∀ k, ∀ z ∈ mineL l k i, ∃ q : Nat, z = q ∧ q < k ∧ (clAt l q).who = i := by
  intro k
  induction k with
  | zero => intro z hz; simp [mineL] at hz
  | succ k ih =>
    intro z hz
    simp only [mineL, List.mem_append] at hz
    rcases hz with hz | hz
    · obtain ⟨q, e, h1, h2⟩ := ih z hz
      exact ⟨q, e, by omega, h2⟩
    · split at hz
      · rename_i hw
        simp at hz
        exact ⟨k, hz, by omega, hw⟩
      · cases hz
theorem nxt_is {l : List Cl} {x : C4} {i : Nat} {j : Int} (h : nxt l x i = some j) : ∃ q : Nat, j = q ∧ q < l.length ∧ (clAt l q).who = i := mine_lt l i _ j (List.mem_of_getElem? h)
set_option maxHeartbeats 1000000 in
theorem next_ok (S : Nat) (a : Option Addr) (n c : Nat) (vs : Nat → Value) (mb : Nat) (tv : Value) (l : List Cl) (base : Nat) (x : C4) (i : Nat) (w : World) (hb : IsSr w S a n c vs mb tv) (hM : Made w base vs l l.length) (h40 : l.length ≤ 40) (hi : i < 4) (hx : x.at i ≤ (ownL l i).length) :
    Calls Try.prog 36 #[.pointer (some ⟨S, 0, none⟩), .agg x.arr, .int .i64 (i : Int)] w fun e w' => e = .returned (.tuple #[.int .i64 ((nxt l x i).getD 0), .bool (nxt l x i).isSome]) ∧ Keeps None w w' := by
  have hal := Keeps.alloc None w (.cells x.arr 62)
  have bX := heap_alloc_new w (.cells x.arr 62)
  obtain ⟨W, hW⟩ : ∃ W, W = w.alloc (.cells x.arr 62) := ⟨_, rfl⟩
  obtain ⟨X, hX⟩ : ∃ X, X = w.heap.size := ⟨_, rfl⟩
  rw [← hW] at hal bX
  rw [← hX] at bX
  have c1 : W.cell? ⟨X, i, none⟩ = some (.int .i64 (x.at i : Int)) := (blk_cell bX i).trans (x.arr_at hi)
  have c2 := (hb.more hal).row hi
  have ho := (hM.more hal).own i hi
  have hol : (mineL l l.length i).length ≤ 40 := Nat.le_trans (mineL_length _ _ _) h40
  obtain ⟨ra, rc, hr⟩ : ∃ ra rc, vs i = .slice ra (mineL l l.length i).length rc := by
    rcases ho.2 with ⟨e, h0⟩ | ⟨g, cap, cur, e, _⟩
    · exact ⟨none, 0, by rw [e, h0]⟩
    · exact ⟨_, _, e⟩
  rw [hr] at c2 ho
  have i4 : (i : Int) < 4 := by omega
  have HK : Hid _ := hal
  by_cases hend : x.at i = (mineL l l.length i).length
  · have hn : nxt l x i = none := by unfold nxt ownL; rw [hend]; simp
    rw [hn]
    have e1 : (((x.at i : Nat) : Int) == (((mineL l l.length i).length : Nat) : Int)) = true := by rw [hend]; simp
    generalize (mineL l l.length i).length = L at *
    generalize x.at i = q at *
    clear hb hM hx hal bX ho hr hn hend
    go_enter Try.func36, Try.ntmps36
    go_upto_region 1 with fail
    rw [← hW, ← hX]
    clear hW hX
    go_wp2_with fail
    go_ret2
    exact ⟨rfl, HK.out⟩
  · have hlt : x.at i < (mineL l l.length i).length := by unfold ownL at hx; omega
    obtain ⟨j, hj⟩ : ∃ j, (mineL l l.length i)[x.at i]? = some j := ⟨(mineL l l.length i)[x.at i], by simp⟩
    have hn : nxt l x i = some j := hj
    rw [hn]
    have e1 : (((x.at i : Nat) : Int) == (((mineL l l.length i).length : Nat) : Int)) = false := by simp; omega
    have e2 : ((x.at i : Nat) : Int) < (((mineL l l.length i).length : Nat) : Int) := by omega
    have cj : ∃ g off, ra = some ⟨g, off, none⟩ ∧ W.cell? ⟨g, off + x.at i, none⟩ = some (.int .i64 j) := by
      rcases ho.2 with ⟨e, h0⟩ | ⟨g, cap, cur, e, hb0, hg, hnc, hcm, hcs, htk⟩
      · omega
      · injection e with e1 e2 e3
        subst e1
        refine ⟨g, 0, rfl, ?_⟩
        rw [Nat.zero_add, blk_cell hg, ← Array.getElem?_toList]
        have h1 : ((mineL l l.length i).map (Value.int .i64))[x.at i]? = some (.int .i64 j) := by rw [List.getElem?_map, hj]; rfl
        rw [← htk, List.getElem?_take] at h1
        split at h1
        · exact h1
        · cases h1
    obtain ⟨g, off, rfl, cg⟩ := cj
    generalize (mineL l l.length i).length = L at *
    generalize x.at i = q at *
    clear hb hM hx hal bX ho hr hn hend hj
    go_enter Try.func36, Try.ntmps36
    go_upto_region 1 with fail
    rw [← hW, ← hX]
    clear hW hX
    go_wp2_with fail
    go_ret2
    exact ⟨rfl, HK.out⟩
def thrI (l : List Cl) (x : C4) (i : Nat) : Bool := match nxt l x i with
  | none => true
  | some j => decide ((clAt l j).code = 0)
def thrB (l : List Cl) (x : C4) (k : Nat) : Bool := (List.range k).all (thrI l x)
def inI (l : List Cl) (x : C4) (y : Cl) (i : Nat) : Bool := match nxt l x i with
  | none => true
  | some j => !aheadB (clAt l j) y
def inB (l : List Cl) (x : C4) (y : Cl) (k : Nat) : Bool := (List.range k).all (inI l x y)
end Go.Proofs.Ytheginjjncnheaa
