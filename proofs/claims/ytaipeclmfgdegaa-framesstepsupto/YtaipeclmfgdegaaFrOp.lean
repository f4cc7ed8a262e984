import Derived.Test.YtaipeclmfgdegaaDoneWalks
/-! Frames, plainly: the ops; a play as the program plays it. -/
namespace Go.Proofs.Ytaipeclmfgdegaa
open Go.RowKit Go.HeapKit Go.IntWalk

@[ext] structure OpF where
  base : Int
  frames : Int
  code : Int
  kind : Int
  made : Int
  frame : Int
  slot : Int
  v : Int
instance : DecidableEq OpF := fun a b => decidable_of_iff (a.base = b.base ∧ a.frames = b.frames ∧ a.code = b.code ∧ a.kind = b.kind ∧ a.made = b.made ∧ a.frame = b.frame ∧ a.slot = b.slot ∧ a.v = b.v) (by cases a; cases b; simp)
def OpF.vals (o : OpF) : Array Value := #[.int .i64 o.base, .int .i64 o.frames, .int .i64 o.code, .int .i64 o.kind, .int .i64 o.made, .int .i64 o.frame, .int .i64 o.slot, .int .i64 o.v]
def OpF.value (o : OpF) : Value := .agg o.vals
def OpF.zero : OpF := ⟨0, 0, 0, 0, 0, 0, 0, 0⟩
def OpF.ended (code v : Int) : OpF := ⟨0, 0, code, 0, 0, 0, 0, v⟩

def FitT (b f : Int) : Prop := 0 ≤ b ∧ 1 ≤ f ∧ f ≤ 4096
instance (b f : Int) : Decidable (FitT b f) := by unfold FitT; infer_instance
def FitO (b f fr sl : Int) : Prop := FitT b f ∧ 0 ≤ fr ∧ fr < f ∧ 0 ≤ sl ∧ sl < 8
instance (b f fr sl : Int) : Decidable (FitO b f fr sl) := by unfold FitO; infer_instance
def OpF.beg (k b f fr sl v : Int) : OpF := if FitO b f fr sl then ⟨b, f, 0, k, 0, fr, sl, v⟩ else OpF.zero

def beginAt (b fr : Int) : Int := wrap64 (wrap64 (b + 1) + wrap64 (fr * 10))
def joinAt (b fr : Int) : Int := wrap64 (beginAt b fr)
def markAt (b fr : Int) : Int := wrap64 (beginAt b fr + 1)
def slotAt (b fr s : Int) : Int := wrap64 (wrap64 (beginAt b fr + 2) + s)

/-- The access of an op: kind, address, numbers. -/
def OpF.acc (o : OpF) (A : Ar) : Eff × Ar :=
  if o.kind = 0 then A.did 3 o.base 1 0
  else if o.kind = 1 then A.did 3 (joinAt o.base o.frame) 1 0
  else if o.kind = 2 then
    if o.made = 0 then A.did 1 (slotAt o.base o.frame o.slot) o.v 0
    else if o.made = 1 then A.did 3 (joinAt o.base o.frame) (-1) 0
    else A.did 1 (joinAt o.base o.frame) 1 0
  else if o.kind = 3 then
    if o.made = 0 then A.did 3 (joinAt o.base o.frame) (-1) 0
    else A.did 1 (joinAt o.base o.frame) 1 0
  else if o.kind = 4 then A.did 3 (markAt o.base o.frame) 1 0
  else A.did 0 (slotAt o.base o.frame o.slot) 0 0
/-- What the op is behind an access that answered n. -/
def OpF.went (o : OpF) (n : Int) : OpF :=
  if o.kind = 0 then if 1 ≤ n ∧ n ≤ o.frames then OpF.ended 4 (wrap64 (n - 1)) else OpF.ended 3 0
  else if o.kind = 1 then OpF.ended 9 n
  else if o.kind = 2 then
    if o.made = 0 then { o with made := 1 }
    else if o.made = 1 then if n = 0 then { o with made := 2 } else OpF.ended 10 n
    else OpF.ended 11 0
  else if o.kind = 3 then
    if o.made = 0 then if n = 0 then { o with made := 1 } else OpF.ended 12 n
    else OpF.ended 13 0
  else if o.kind = 4 then OpF.ended 14 n
  else OpF.ended 15 n
/-- A machine that may be met. -/
structure OpF.Fit (o : OpF) : Prop where
  run : o.code = 0 → o = OpF.zero ∨ (FitO o.base o.frames o.frame o.slot ∧ 0 ≤ o.kind ∧ o.kind ≤ 5 ∧ 0 ≤ o.made ∧ o.made ≤ 2)
def OpF.step (o : OpF) (A : Ar) : OpF × Ar :=
  if o = OpF.zero ∨ o.code ≠ 0 then (o, A)
  else if (o.acc A).1.err = 0 then (o.went (o.acc A).1.v, (o.acc A).2) else (OpF.zero, (o.acc A).2)
def OpF.ans (o : OpF) : Int × Int := if o = OpF.zero then (1, 0) else if o.code = 0 then (0, 0) else (o.code, o.v)

theorem OpF.fit_beg (k b f fr sl v : Int) (hk : 0 ≤ k) (hk2 : k ≤ 5) : (OpF.beg k b f fr sl v).Fit := by
  refine ⟨fun _ => ?_⟩
  unfold OpF.beg
  split
  · exact .inr ⟨by assumption, hk, hk2, by simp, by simp⟩
  · exact .inl rfl
theorem OpF.fit_ended (c v : Int) (hc : c ≠ 0) : (OpF.ended c v).Fit := ⟨fun h => absurd h hc⟩
theorem OpF.fit_zero : OpF.zero.Fit := ⟨fun _ => .inl rfl⟩
theorem OpF.fit_step {o : OpF} (A : Ar) (h : o.Fit) : (o.step A).1.Fit := by
  unfold OpF.step
  split
  · exact h
  · rename_i h1
    split
    · obtain ⟨h3, h4, h5, h6, h7⟩ := (h.run (Classical.byContradiction fun hh => h1 (.inr hh))).resolve_left (fun hh => h1 (.inl hh))
      obtain ⟨b, f, c, k, m, fr, sl, v⟩ := o
      have hc : c = 0 := Classical.byContradiction fun hh => h1 (.inr hh)
      simp only at h3 h4 h5 h6 h7
      generalize (OpF.acc _ A).1.v = n
      unfold OpF.went
      simp only
      repeat' split
      all_goals first
        | exact OpF.fit_ended _ _ (by decide)
        | exact ⟨fun _ => .inr ⟨h3, h4, h5, by simp, by simp⟩⟩
    · exact OpF.fit_zero
end Go.Proofs.Ytaipeclmfgdegaa
