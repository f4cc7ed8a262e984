import Derived.Test.YtemmkgnbngeiaaaDqRoom
import Derived.Test.YtemmkgnbngeiaaaDqRefNew
import Derived.Test.YtemmkgnbngeiaaaDqSame
import Derived.Laws.OwnMore
/-! New of the program and of the document, whatever the numbers; what the statement's end compares. -/
namespace Go.Proofs.Ytemmkgnbngeiaaa
open Go.RowKit Go.HeapKit Go.IntWalk

structure Ans where
  base : Int
  most : Int
  err : Int
  ar : Ar
open Classical in
noncomputable def newAns (A : Ar) (f m : Int) : Ans :=
  if CapOK f m then if A.cells.length + (4 + f.toNat) ≤ A.size then ⟨A.cells.length, m, 0, A.laid f.toNat⟩ else ⟨0, 0, 22, A⟩ else ⟨0, 0, 30, A⟩
theorem newAns_log (A : Ar) (f m : Int) : (newAns A f m).ar.log.length ≤ A.log.length + 3 := by
  unfold newAns
  split
  · split
    · unfold Ar.laid
      refine Nat.le_trans (noted_log _ _) ?_
      rw [put_log]
      refine Nat.le_trans (Nat.succ_le_succ (noted_log _ _)) ?_
      rw [put_log]
      refine Nat.le_trans (Nat.succ_le_succ (Nat.succ_le_succ (noted_log _ _))) ?_
      rw [more_log]
      omega
    · exact Nat.le_add_right _ _
  · exact Nat.le_add_right _ _
theorem dnew_any (p : Nat) (F : Nat → Prop) (A : Ar) (f m : Int) (w : World) (hA : ArF w p F A) (hsz : A.size ≤ 1048576) (hlog : A.log.length < 1000000) :
    Calls Try.prog 11 #[.iface 24 (.pointer (some ⟨p, 0, none⟩)), .int .i64 f, .int .i64 m] w fun e w' => e = .returned (.tuple #[.agg #[.int .i64 (newAns A f m).base, .int .i64 (newAns A f m).most], .int .i64 (newAns A f m).err]) ∧ AA w w' p F (newAns A f m).ar := by
  have hq : ∀ {w'}, Keeps None w w' → AA w w' p F A := fun hk => ⟨F, hA.kept hk (fun _ _ f => f), hk.mono (fun _ f _ => f.elim), fun _ f => .inl f⟩
  by_cases h : CapOK f m
  · obtain ⟨f', rfl⟩ : ∃ f' : Nat, f = f' := ⟨f.toNat, by unfold CapOK at h; omega⟩
    obtain ⟨m', rfl⟩ : ∃ m' : Nat, m = m' := ⟨m.toNat, by unfold CapOK at h; omega⟩
    by_cases h2 : A.cells.length + (4 + f') ≤ A.size
    · have := dnew_ok p F A f' m' w h hA h2 hsz hlog
      simpa [newAns, h, h2] using this
    · refine (dnew_room p F A f' m' w h hA (by omega)).mono ?_
      rintro e w' ⟨rfl, hk⟩
      have := hq hk
      simpa [newAns, h, h2] using this
  · refine (dnew_bad p f m w h).mono ?_
    rintro e w' ⟨rfl, hk⟩
    have := hq hk
    simpa [newAns, h] using this
theorem rnew3_any (p : Nat) (F : Nat → Prop) (A : Ar) (f m : Int) (w : World) (hA : MmF w p F A) (hsz : A.size ≤ 1048576) (hlog : A.log.length < 1000000) :
    Calls Try.prog 12 #[.pointer (some ⟨p, 0, none⟩), .int .i64 f, .int .i64 m] w fun e w' => e = .returned (.tuple #[.agg #[.int .i64 (newAns A f m).base, .int .i64 (newAns A f m).most], .int .i64 (newAns A f m).err]) ∧ MM w w' p F (newAns A f m).ar := by
  have hq : ∀ {w'}, Keeps None w w' → MM w w' p F A := fun hk => ⟨F, hA.kept hk (fun _ _ f => f), hk.mono (fun _ f _ => f.elim), fun _ f => .inl f⟩
  by_cases h : CapOK f m
  · obtain ⟨f', rfl⟩ : ∃ f' : Nat, f = f' := ⟨f.toNat, by unfold CapOK at h; omega⟩
    obtain ⟨m', rfl⟩ : ∃ m' : Nat, m = m' := ⟨m.toNat, by unfold CapOK at h; omega⟩
    by_cases h2 : A.cells.length + (4 + f') ≤ A.size
    · have := rnew3_ok p F A f' m' w h hA h2 hsz hlog
      simpa [newAns, h, h2] using this
    · refine (rnew3_room p F A f' m' w h hA (by omega)).mono ?_
      rintro e w' ⟨rfl, hk⟩
      have := hq hk
      simpa [newAns, h, h2] using this
  · refine (rnew3_bad p f m w h).mono ?_
    rintro e w' ⟨rfl, hk⟩
    have := hq hk
    simpa [newAns, h] using this
/-- Both Cells tell the same number. -/
theorem cells_both (f m : Int) : ∃ n : Int, (∀ w, Calls Try.prog 18 #[.int .i64 f, .int .i64 m] w fun e w' => e = .returned (.int .i64 n) ∧ w' = w) ∧ ∀ w, Calls Try.prog 19 #[.int .i64 f, .int .i64 m] w fun e w' => e = .returned (.int .i64 n) ∧ w' = w := by
  by_cases h : CapOK f m
  · obtain ⟨f', rfl⟩ : ∃ f' : Nat, f = f' := ⟨f.toNat, by unfold CapOK at h; omega⟩
    obtain ⟨m', rfl⟩ : ∃ m' : Nat, m = m' := ⟨m.toNat, by unfold CapOK at h; omega⟩
    exact ⟨_, fun w => dcells_ok f' m' w h, fun w => rcells_ok f' m' w h⟩
  · exact ⟨0, fun w => dcells_bad f m w h, fun w => rcells_bad f m w h⟩

/-- 'append([]int64(nothing), begin...)'. -/
theorem copy_begin (ao : Option Addr) (cap : Nat) (ys : List Int) (w : World) (hi : Ints w ao ys) (hn : ao = none → cap = 0) (hz : ys.length ≤ 4096) :
    ∃ v' w', (Builtin.append_ #[22, 22] 22 #[.slice (some ⟨w.heap.size, 0, none⟩) 0 0, .slice ao ys.length cap]).run Try.prog (w.alloc (.cells #[] 2)) = .ok v' w' ∧
      w'.ownsRow 0 2 1 v' ys.length (ys.map (Value.int .i64)) ∧ Keeps None w w' ∧ ∀ k, v'.ownBlock = some k → w.heap.size ≤ k := by
  obtain ⟨i0, hi0, hz0, hz1, hz2⟩ := info_parts Try.infoI64
  have hown : (w.alloc (.cells #[] 2)).ownsRow 0 2 1 (.slice (some ⟨w.heap.size, 0, none⟩) 0 0) 0 [] := World.ownsRow_lit w #[] 0 (Nat.zero_le _) (Nat.zero_le _) rfl
  have hka := Keeps.alloc None w (.cells #[] 2)
  match ao, hi, hn with
  | none, hi, hn =>
    obtain rfl : ys = [] := by
      match ys, hi with
      | [], _ => rfl
      | y :: ys, hi => obtain ⟨b, off, e, _⟩ := hi (by simp); cases e
    obtain rfl := hn rfl
    exact ⟨_, _, run_append_owned_none (P := Try.prog) _ 0 22 22 2 i0 1 Try.underlying22 hi0 _ _ _ hown, hown, hka, fun k e => by simp [Value.ownBlock] at e; omega⟩
  | some a, hi, _ =>
    obtain ⟨v', w', hr, ho, hg, hm, -⟩ := run_append_moved (P := Try.prog) (w.alloc (.cells #[] 2)) 0 22 22 2 i0 _ 1 8 Try.underlying22 hi0 hz0 hz1 hz2 rfl (by decide) _ 0 [] hown
      a ys.length cap (ys.map (Value.int .i64)) (by simp) (by
        intro j u hu
        have hj : j < ys.length := by simpa using (List.getElem?_eq_some_iff.1 hu).1
        obtain ⟨b, off, e, hb, hc⟩ := hi (by omega)
        obtain rfl : a = ⟨b, off, none⟩ := Option.some.inj e
        have hcj := hka.cell (hc j hj) (fun f => f)
        have hadd : (⟨b, off, none⟩ : Addr).add j = ⟨b, off + j, none⟩ := by unfold Addr.add; split <;> simp_all
        rw [hadd, hcj, ← hu, List.getElem?_map, List.getElem?_eq_getElem hj]
        simp only [List.getD, List.getElem?_eq_getElem hj, Option.getD_some, Option.map_some]) (by intro u hu; obtain ⟨y, _, rfl⟩ := List.mem_map.1 hu; rfl) (by unfold maxLen; omega) (by omega) (Nat.zero_le _)
    refine ⟨v', w', hr, by simpa using ho, hka.andGrown hg (fun k e => .inr (by simp [Value.ownBlock] at e; omega)), fun k e => ?_⟩
    rcases hm with hm | ⟨g, hm, hg⟩
    · rw [e] at hm; simp [Value.ownBlock] at hm; omega
    · rw [e] at hm; injection hm with hm; simp at hg; omega
end Go.Proofs.Ytemmkgnbngeiaaa
