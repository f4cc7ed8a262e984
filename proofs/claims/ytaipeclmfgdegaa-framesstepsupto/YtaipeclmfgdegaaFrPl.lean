import Derived.Test.YtaipeclmfgdegaaFrOp
/-! A play, plainly: as the program plays it; what holds of it at each pick. -/
namespace Go.Proofs.Ytaipeclmfgdegaa
open Go.RowKit Go.HeapKit Go.IntWalk

structure Actr where
  num : Int
  op : OpF
  fin : OpF
instance : Inhabited Actr := ⟨⟨0, OpF.zero, OpF.zero⟩⟩
structure Pl where
  A : Ar
  frames : Int
  rounds : List Int
  alive : List Actr
  born : Nat
  round : Nat
  forked : Nat
  child : Int
  done : Bool
  holders : List Int
  reads : List (List Int)
def Pl.nextFork (S : Pl) : Pl × OpF :=
  if S.round = S.rounds.length then ({ S with done := true }, OpF.zero)
  else if (S.forked : Int) < S.rounds.getD S.round 0 then (S, OpF.beg 0 0 S.frames 0 0 0)
  else (S, OpF.beg 3 0 S.frames 0 0 0)
def Pl.nextFetch (S : Pl) : Pl × OpF :=
  if ((S.reads.getD S.round []).length : Int) < S.rounds.getD S.round 0 then (S, OpF.beg 5 0 S.frames 0 (S.reads.getD S.round []).length 0)
  else ({ S with round := S.round + 1, forked := 0 } : Pl).nextFork
def Pl.taken (S : Pl) (v : Int) : Pl × OpF :=
  if v = 0 then (S, OpF.beg 4 0 S.frames 0 0 0) else ({ S with child := v }, OpF.beg 1 0 S.frames 0 0 0)
/-- The actor at a place goes on with an op. -/
def Pl.put (i : Nat) (a : Actr) (x : Pl × OpF) : Pl := { x.1 with alive := x.1.alive.set i { a with op := x.2 } }
def Pl.join (S : Pl) (o f : OpF) : Pl := { S with alive := S.alive ++ [⟨S.born, o, f⟩], born := S.born + 1 }
/-- What is done behind the answer. -/
def Pl.after (S : Pl) (i : Nat) (a : Actr) (code v : Int) : Pl :=
  if code = 4 then Pl.put i a (S.taken v)
  else if code = 14 then
    if a.num = 0 then Pl.put i a S.nextFork else Pl.put i a (S, a.fin)
  else if code = 9 then
    (Pl.put i a ({ S with forked := S.forked + 1 } : Pl).nextFork).join (OpF.beg 4 0 S.frames S.child 0 0) (OpF.beg 2 0 S.frames 0 S.forked (100 * S.round + S.forked : Nat))
  else if code = 13 ∨ code = 11 then Pl.put i a ({ S with holders := S.holders ++ [a.num], reads := S.reads ++ [[]] } : Pl).nextFetch
  else if code = 15 then Pl.put i a ({ S with reads := S.reads.set S.round (S.reads.getD S.round [] ++ [v]) } : Pl).nextFetch
  else if code = 12 ∨ code = 10 then { S with alive := S.alive.eraseIdx i }
  else S
def Pl.went (S : Pl) (i : Nat) : OpF × Ar := (S.alive.getD i default).op.step { S.A with actor := (S.alive.getD i default).num }
def Pl.pick (S : Pl) (i : Nat) : Pl :=
  ({ S with A := (S.went i).2, alive := S.alive.set i { S.alive.getD i default with op := (S.went i).1 } } : Pl).after i { S.alive.getD i default with op := (S.went i).1 } (S.went i).1.ans.1 (S.went i).1.ans.2

/-- The memory of a play: how often a frame was asked for, the counter, the marks, the slots. -/
structure MemP (A : Ar) (F : Nat) (t J : Int) (mk sl : Nat → Int) : Prop where
  len : A.cells.length = 1 + 10 * F
  pos : 0 < F
  on : A.on = true
  next : A.val 0 = t
  join : A.val 1 = J
  mark : ∀ f, f < F → A.val (2 + 10 * f) = mk f
  slot : ∀ j, j < 8 → A.val (3 + j) = sl j
def upd (g : Nat → Int) (k : Nat) (v : Int) : Nat → Int := fun i => if i = k then v else g i

theorem val_put (A : Ar) (k i : Nat) (v : Int) (hk : k < A.cells.length) : (A.put k v).val i = if i = k then v else A.val i := by
  unfold Ar.val Ar.put
  simp only [List.getD_eq_getElem?_getD, List.getElem?_set]
  by_cases h : k = i
  · subst h; simp [hk]
  · simp [h, Ne.symm h]
theorem val_noted (A : Ar) (x : Acc) (i : Nat) : (A.noted x).val i = A.val i := by
  unfold Ar.noted Ar.val; split <;> rfl
theorem cells_noted (A : Ar) (x : Acc) : (A.noted x).cells = A.cells := by
  unfold Ar.noted; split <;> rfl
theorem on_noted (A : Ar) (x : Acc) : (A.noted x).on = A.on := by
  unfold Ar.noted; split <;> rfl
theorem log_noted (A : Ar) (x : Acc) (h : A.on = true) : (A.noted x).log = A.log ++ [{ x with who := A.actor }] := by
  unfold Ar.noted; rw [if_pos h]
theorem len_put (A : Ar) (k : Nat) (v : Int) : (A.put k v).cells.length = A.cells.length := by simp [Ar.put]

section
variable {A : Ar} {F : Nat} {t J : Int} {mk sl : Nat → Int}
theorem MemP.note (h : MemP A F t J mk sl) (x : Acc) : MemP (A.noted x) F t J mk sl :=
  ⟨by rw [cells_noted]; exact h.len, h.pos, by rw [on_noted]; exact h.on, by rw [val_noted]; exact h.next, by rw [val_noted]; exact h.join, fun f hf => by rw [val_noted]; exact h.mark f hf, fun j hj => by rw [val_noted]; exact h.slot j hj⟩
theorem MemP.who (h : MemP A F t J mk sl) (u : Int) : MemP { A with actor := u } F t J mk sl := ⟨h.len, h.pos, h.on, h.next, h.join, h.mark, h.slot⟩
theorem MemP.put0 (h : MemP A F t J mk sl) (v : Int) : MemP (A.put 0 v) F v J mk sl := by
  have hp := h.pos
  have hl : 0 < A.cells.length := by rw [h.len]; omega
  refine ⟨by rw [len_put]; exact h.len, h.pos, h.on, ?_, ?_, fun f hf => ?_, fun j hj => ?_⟩ <;> rw [val_put _ _ _ _ hl]
  · simp
  · rw [if_neg (by omega)]; exact h.join
  · rw [if_neg (by omega)]; exact h.mark f hf
  · rw [if_neg (by omega)]; exact h.slot j hj
theorem MemP.put1 (h : MemP A F t J mk sl) (v : Int) : MemP (A.put 1 v) F t v mk sl := by
  have hp := h.pos
  have hl : 1 < A.cells.length := by rw [h.len]; omega
  refine ⟨by rw [len_put]; exact h.len, h.pos, h.on, ?_, ?_, fun f hf => ?_, fun j hj => ?_⟩ <;> rw [val_put _ _ _ _ hl]
  · rw [if_neg (by omega)]; exact h.next
  · simp
  · rw [if_neg (by omega)]; exact h.mark f hf
  · rw [if_neg (by omega)]; exact h.slot j hj
theorem MemP.put2 (h : MemP A F t J mk sl) (g : Nat) (hg : g < F) (v : Int) : MemP (A.put (2 + 10 * g) v) F t J (upd mk g v) sl := by
  have hp := h.pos
  have hl : 2 + 10 * g < A.cells.length := by rw [h.len]; omega
  refine ⟨by rw [len_put]; exact h.len, h.pos, h.on, ?_, ?_, fun f hf => ?_, fun j hj => ?_⟩ <;> rw [val_put _ _ _ _ hl]
  · rw [if_neg (by omega)]; exact h.next
  · rw [if_neg (by omega)]; exact h.join
  · unfold upd
    by_cases e : f = g
    · rw [if_pos (by omega), if_pos e]
    · rw [if_neg (by omega), if_neg e]; exact h.mark f hf
  · rw [if_neg (by omega)]; exact h.slot j hj
theorem MemP.put3 (h : MemP A F t J mk sl) (g : Nat) (hg : g < 8) (v : Int) : MemP (A.put (3 + g) v) F t J mk (upd sl g v) := by
  have hp := h.pos
  have hl : 3 + g < A.cells.length := by rw [h.len]; omega
  refine ⟨by rw [len_put]; exact h.len, h.pos, h.on, ?_, ?_, fun f hf => ?_, fun j hj => ?_⟩ <;> rw [val_put _ _ _ _ hl]
  · rw [if_neg (by omega)]; exact h.next
  · rw [if_neg (by omega)]; exact h.join
  · rw [if_neg (by omega)]; exact h.mark f hf
  · unfold upd
    by_cases e : j = g
    · rw [if_pos (by omega), if_pos e]
    · rw [if_neg (by omega), if_neg e]; exact h.slot j hj

/-- The ops of a play, written out. -/
def allocO (F : Nat) : OpF := ⟨0, F, 0, 0, 0, 0, 0, 0⟩
def forkO (F : Nat) : OpF := ⟨0, F, 0, 1, 0, 0, 0, 0⟩
def finO (F j m : Nat) (v : Int) : OpF := ⟨0, F, 0, 2, m, 0, j, v⟩
def syncO (F m : Nat) : OpF := ⟨0, F, 0, 3, m, 0, 0, 0⟩
def startO (F c : Nat) : OpF := ⟨0, F, 0, 4, 0, c, 0, 0⟩
def fetchO (F j : Nat) : OpF := ⟨0, F, 0, 5, 0, 0, j, 0⟩

theorem beg_ok (k : Int) (F fr sl : Nat) (v : Int) (h1 : 1 ≤ F) (h2 : F ≤ 4096) (h3 : fr < F) (h4 : sl < 8) : OpF.beg k 0 F fr sl v = ⟨0, F, 0, k, 0, fr, sl, v⟩ := by
  unfold OpF.beg
  rw [if_pos]
  unfold FitO FitT
  omega
theorem wrap_small {x : Int} (h1 : -9223372036854775808 ≤ x) (h2 : x ≤ 9223372036854775807) : wrap64 x = x := by
  unfold wrap64
  omega
theorem join_at (fr : Nat) (h : fr ≤ 4096) : joinAt 0 fr = (1 + 10 * fr : Nat) := by
  unfold joinAt beginAt
  rw [wrap_small (x := 0 + 1) (by omega) (by omega), wrap_small (x := (fr : Int) * 10) (by omega) (by omega), wrap_small (x := 0 + 1 + (fr : Int) * 10) (by omega) (by omega), wrap_small (by omega) (by omega)]
  omega
theorem mark_at (fr : Nat) (h : fr ≤ 4096) : markAt 0 fr = (2 + 10 * fr : Nat) := by
  unfold markAt beginAt
  rw [wrap_small (x := 0 + 1) (by omega) (by omega), wrap_small (x := (fr : Int) * 10) (by omega) (by omega), wrap_small (x := 0 + 1 + (fr : Int) * 10) (by omega) (by omega), wrap_small (by omega) (by omega)]
  omega
theorem slot_at (j : Nat) (h : j < 8) : slotAt 0 0 j = (3 + j : Nat) := by
  unfold slotAt beginAt
  rw [wrap_small (x := 0 + 1) (by omega) (by omega), wrap_small (x := (0 : Int) * 10) (by omega) (by omega), wrap_small (x := 0 + 1 + (0 : Int) * 10) (by omega) (by omega), wrap_small (x := 0 + 1 + (0 : Int) * 10 + 2) (by omega) (by omega), wrap_small (by omega) (by omega)]
  omega
theorem has_nat {A : Ar} {k : Nat} (h : k < A.cells.length) : A.has (k : Int) = true := by simp [Ar.has]; omega
theorem did_add (A : Ar) (k : Nat) (d : Int) (h : k < A.cells.length) (h1 : -9223372036854775808 ≤ A.val k + d) (h2 : A.val k + d ≤ 9223372036854775807) :
    A.did 3 k d 0 = (⟨A.val k + d, true, 0⟩, (A.put k (A.val k + d)).noted ⟨0, 3, k, d, A.val k + d, true⟩) := by
  simp [Ar.did, has_nat h, wrap_small h1 h2]
theorem did_store (A : Ar) (k : Nat) (v : Int) (h : k < A.cells.length) : A.did 1 k v 0 = (⟨0, true, 0⟩, (A.put k v).noted ⟨0, 1, k, v, 0, true⟩) := by
  simp [Ar.did, has_nat h]
theorem did_load (A : Ar) (k : Nat) (h : k < A.cells.length) : A.did 0 k 0 0 = (⟨A.val k, true, 0⟩, A.noted ⟨0, 0, k, A.val k, 0, true⟩) := by
  simp [Ar.did, has_nat h]
/-- What an op's step is, once its access is known. -/
theorem step_of {o : OpF} {A B : Ar} {n : Int} {ok : Bool} (hf : ¬ o.frames = 0) (hc : o.code = 0) (h : o.acc A = (⟨n, ok, 0⟩, B)) : o.step A = (o.went n, B) := by
  unfold OpF.step
  have h0 : ¬ (o = OpF.zero ∨ o.code ≠ 0) := by
    rintro (e | e)
    · exact hf (by rw [e]; rfl)
    · exact e hc
  rw [if_neg h0, h]
  simp
end
end Go.Proofs.Ytaipeclmfgdegaa
