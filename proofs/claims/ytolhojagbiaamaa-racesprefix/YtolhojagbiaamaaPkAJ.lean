import Derived.Test.YtolhojagbiaamaaPkAI
import Derived.Maps.Own
/-! The sweep in memory; a task's return. -/
namespace Go.Proofs.Ytolhojagbiaamaa
set_option linter.unusedVariables false
set_option maxRecDepth 20000
set_option linter.unusedSimpArgs false
open Go.RowKit Go.HeapKit

/-- The sweep: the sets, the tasks that have not returned (the root first), whose each deed is. -/
structure SwM (w : World) (base S : Nat) (U : List Nat) (M : List Bool) (A : List Int) (gu cu gm cm gl cl : Nat) (act : List Nat) (ga ca : Nat) (dn : List Nat) (vd dv mp : Value) : Prop where
  sets : SetM w base S 1 U M A gu cu gm cm gl cl
  b0 : w.cell? ⟨S, 0, none⟩ = some dv
  b4 : w.cell? ⟨S, 4, none⟩ = some (.slice (some ⟨ga, 0, none⟩) act.length ca)
  b5 : w.cell? ⟨S, 5, none⟩ = some vd
  b6 : w.cell? ⟨S, 6, none⟩ = some mp
  ra : RowZ w base (.slice (some ⟨ga, 0, none⟩) act.length ca) (natZ act)
  rd : RowZ w base vd (natZ dn)
  n1 : ga ≠ gu
  n2 : ga ≠ gl
  n3 : vd.ownBlock ≠ some gu
  n4 : vd.ownBlock ≠ some gl
  n5 : vd.ownBlock ≠ some ga
section
variable {w w' : World} {base S : Nat} {U : List Nat} {M : List Bool} {A : List Int} {gu cu gm cm gl cl : Nat} {act : List Nat} {ga ca : Nat} {dn : List Nat} {vd dv mp : Value}
theorem SwM.neS (h : SwM w base S U M A gu cu gm cm gl cl act ga ca dn vd dv mp) : S ≠ ga ∧ (∀ b, vd.ownBlock = some b → S ≠ b) ∧ ga ≠ gm ∧ (∀ b, vd.ownBlock = some b → b ≠ gm) := by
  obtain ⟨c, t, h1, h2, h3⟩ := h.sets.blk
  obtain ⟨_, ha⟩ := own_block h.ra (g := ga) rfl
  obtain ⟨_, hm⟩ := h.sets.mblk
  refine ⟨ne_of_types h1 ha h2, fun b hb => ?_, ne_of_types ha hm (by decide), fun b hb => ?_⟩
  · obtain ⟨_, hd⟩ := own_block h.rd hb; exact ne_of_types h1 hd h2
  · obtain ⟨_, hd⟩ := own_block h.rd hb; exact ne_of_types hd hm (by decide)
/-- The sets have changed, and nothing else. -/
theorem SwM.sets' (h : SwM w base S U M A gu cu gm cm gl cl act ga ca dn vd dv mp) {U' : List Nat} {M' : List Bool} {A' : List Int} (hk : Keeps (fun i => i = gu ∨ i = gl ∨ i = gm) w w') (hs : SetM w' base S 1 U' M' A' gu cu gm cm gl cl) : SwM w' base S U' M' A' gu cu gm cm gl cl act ga ca dn vd dv mp := by
  obtain ⟨m1, m2, m3, m4, m5⟩ := h.sets.neS
  obtain ⟨e1, e2, e3, e4⟩ := h.neS
  have hS : ¬ (S = gu ∨ S = gl ∨ S = gm) := by rintro (e | e | e); exact m1 e; exact m3 e; exact m2 e
  refine ⟨hs, hk.cell h.b0 hS, hk.cell h.b4 hS, hk.cell h.b5 hS, hk.cell h.b6 hS, h.ra.kept hk (fun g e => ?_), h.rd.kept hk (fun g e => ?_), h.n1, h.n2, h.n3, h.n4, h.n5⟩
  · simp [Value.ownBlock] at e
    subst e
    rintro (e | e | e)
    · exact h.n1 e
    · exact h.n2 e
    · exact e3 e
  · rintro (e5 | e5 | e5)
    · exact h.n3 (by rw [e, e5])
    · exact h.n4 (by rw [e, e5])
    · exact e4 g e e5
theorem SwM.more (h : SwM w base S U M A gu cu gm cm gl cl act ga ca dn vd dv mp) (hk : Keeps None w w') : SwM w' base S U M A gu cu gm cm gl cl act ga ca dn vd dv mp :=
  h.sets' (hk.mono (fun _ f _ => f.elim)) (h.sets.more hk)
/-- The last task is gone. -/
theorem SwM.pop {x : Nat} (h : SwM w base S U M A gu cu gm cm gl cl (act ++ [x]) ga ca dn vd dv mp) : SwM (w.setCell ⟨S, 4, none⟩ (.slice (some ⟨ga, 0, none⟩) act.length ca)) base S U M A gu cu gm cm gl cl act ga ca dn vd dv mp ∧ Keeps (· = S) w (w.setCell ⟨S, 4, none⟩ (.slice (some ⟨ga, 0, none⟩) act.length ca)) := by
  have hk : Keeps (· = S) w (w.setCell ⟨S, 4, none⟩ (.slice (some ⟨ga, 0, none⟩) act.length ca)) := keeps_one (Keeps.refl _ _) _
  obtain ⟨m1, m2, m3, m4, m5⟩ := h.sets.neS
  obtain ⟨e1, e2, e3, e4⟩ := h.neS
  obtain ⟨c, t, b1, b2, b3⟩ := h.sets.blk
  have hlt : 4 < c.size := by
    have := h.b4
    rw [blk_cell b1] at this
    exact (Array.getElem?_eq_some_iff.1 this).1
  have hset : SetM (w.setCell ⟨S, 4, none⟩ (.slice (some ⟨ga, 0, none⟩) act.length ca)) base S 1 U M A gu cu gm cm gl cl :=
    ⟨by rw [cell_setne (by omega)]; exact h.sets.c0, by rw [cell_setne (by omega)]; exact h.sets.c1, by rw [cell_setne (by omega)]; exact h.sets.c2, h.sets.ru.kept hk (fun g e => by simp [Value.ownBlock] at e; subst e; exact fun e => m1 e.symm), row_kept h.sets.rm hk (fun g e => by simp [Value.ownBlock] at e; subst e; exact fun e => m2 e.symm), h.sets.rl.kept hk (fun g e => by simp [Value.ownBlock] at e; subst e; exact fun e => m3 e.symm), h.sets.lm, h.sets.la, h.sets.ne, c.setIfInBounds 4 _, t, blk_set b1 _, b2, b3⟩
  have hra : RowZ w base (.slice (some ⟨ga, 0, none⟩) act.length ca) (natZ act) := by
    unfold RowZ
    rw [natZ_lenB]
    refine ⟨by simp [ivZ, natZ], ?_⟩
    rcases h.ra.2 with ⟨h0, _⟩ | ⟨g', cap', cur, hv, hbg, hg, hnc, hcm, hcs, htake⟩
    · cases h0
    · injection hv with e1 e2 e3
      injection e1 with e1
      injection e1 with e1
      subst e1 e3
      refine .inr ⟨ga, ca, cur, rfl, hbg, hg, by simp [natZ] at hnc; omega, hcm, hcs, ?_⟩
      have : cur.toList.take (act.length * 1) = (cur.toList.take ((natZ (act ++ [x])).length * 1)).take (act.length * 1) := by
        rw [List.take_take, Nat.min_eq_left (by simp [natZ])]
      rw [this, htake]
      simp [ivZ, natZ]
  refine ⟨⟨hset, by rw [cell_setne (by omega)]; exact h.b0, ?_, by rw [cell_setne (by omega)]; exact h.b5, by rw [cell_setne (by omega)]; exact h.b6, hra.kept hk (fun g e => by simp [Value.ownBlock] at e; subst e; exact fun e => e1 e.symm), h.rd.kept hk (fun g e => fun e2' => e2 g e e2'.symm), h.n1, h.n2, h.n3, h.n4, h.n5⟩, hk⟩
  rw [blk_cell (blk_set b1 _)]
  simp [hlt]
end
/-- What a step of the sweep may write. -/
def F6 (S gu gl gm ga : Nat) (vd : Value) : Nat → Prop := fun i => i = S ∨ i = gu ∨ i = gl ∨ i = gm ∨ i = ga ∨ vd.ownBlock = some i
set_option maxHeartbeats 1600000 in
theorem sreturned_ok (w : World) (base S gu cu gm cm gl cl ga ca t p : Nat) (U X dn : List Nat) (M : List Bool) (A : List Int) (vd dv mp : Value) (rt d : Nat → Nat) (h : SwM w base S U M A gu cu gm cm gl cl (X ++ [p, t]) ga ca dn vd dv mp) (hF : Fo U rt d) (ht : t < U.length) (hp : p < U.length) (htp : t ≠ p) (hL : LateOk rt A t U.length)
    (hL2 : A.getD p 0 = -1 ∨ ∃ e : Nat, A.getD p 0 = (e : Int) ∧ e < U.length ∧ waitR rt A t e ≠ waitR rt A t t) (hn : U.length ≤ 5000) (hX : X.length ≤ 5000) (hbS : base ≤ S) :
    Calls Try.prog 54 #[.pointer (some ⟨S, 0, none⟩), .int .i64 t] w fun e w' => e = .returned (.tuple #[]) ∧
      (∃ U' d', SwM w' base S U' (M.set (waitR rt A t t) true) ((A.set t (-1)).set p (t : Int)) gu cu gm cm gl cl (X ++ [p]) ga ca dn vd dv mp ∧ Fo U' (endR (waitR rt A t) A p t) d' ∧ U'.length = U.length) ∧ Keeps (F6 S gu gl gm ga vd) w w' := by
  have HM : Hid (SwM w base S U M A gu cu gm cm gl cl ((X ++ [p]) ++ [t]) ga ca dn vd dv mp) := by
    have : (X ++ [p]) ++ [t] = X ++ [p, t] := by simp
    rw [this]; exact h
  have H0 : Hid (Fo U rt d ∧ t < U.length ∧ p < U.length ∧ t ≠ p ∧ LateOk rt A t U.length ∧ (A.getD p 0 = -1 ∨ ∃ e : Nat, A.getD p 0 = (e : Int) ∧ e < U.length ∧ waitR rt A t e ≠ waitR rt A t t) ∧ U.length ≤ 5000) := ⟨hF, ht, hp, htp, hL, hL2, hn⟩
  obtain ⟨q, hq⟩ : ∃ q, q = X.length + 1 := ⟨_, rfl⟩
  have HQ : Hid (q = X.length + 1) := hq
  have r4 : w.cell? ⟨S, 4, none⟩ = some (.slice (some ⟨ga, 0, none⟩) (q + 1) ca) := by
    have := HM.out.b4
    rw [show ((X ++ [p]) ++ [t]).length = q + 1 by simp [hq]] at this
    exact this
  have hfit : q + 1 ≤ ca := by
    rcases HM.out.ra.2 with ⟨h0, _⟩ | ⟨g', cap', cur, hv, _, _, hnc, _⟩
    · cases h0
    · injection hv with _ _ e3
      subst e3
      simp [natZ] at hnc
      omega
  have f4 : w.frozen? ⟨S, 4, none⟩ = false := by obtain ⟨c, t, b1, _⟩ := HM.out.sets.blk; exact blk_free b1 4
  have hw1 : IntKind.i64.wrap (q : Int) = (q : Int) := by rw [IntWalk.i64_left]; unfold wrap64; omega
  have hw2 : IntKind.i64.wrap (((q + 1 : Nat) : Int) - 1) = (q : Int) := by rw [IntWalk.i64_left]; unfold wrap64; omega
  have q1 : (q : Int) ≤ (ca : Int) := by omega
  have q2 : q ≤ ca := by omega
  clear h hF ht hp htp hL hL2 hn hfit hq
  go_enter Try.func54, Try.ntmps54
  go_wp2_with fail
  go_cut [1] (fun s1 wx => s1 = .int .i64 t ∧ SwM wx base S U M A gu cu gm cm gl cl (X ++ [p]) ga ca dn vd dv mp ∧ Keeps (F6 S gu gl gm ga vd) w wx)
  case first =>
    go_region
    go_wp2_with fail
    go_meet
    obtain ⟨h1, h2⟩ := HM.out.pop
    rw [show (X ++ [p]).length = q by simp [HQ.out]] at h1 h2
    exact ⟨rfl, h1.more (Keeps.drew None _), (h2.mono (fun i e _ => .inl e)).andDrew⟩
  case rest =>
  obtain ⟨rfl, hM1, hk1⟩ := hcut
  obtain ⟨W1, hW1⟩ : ∃ W1, W1 = wc := ⟨_, rfl⟩
  rw [← hW1] at hM1 hk1 ⊢
  clear hW1 HM r4 f4
  have r5 : W1.cell? ⟨S, 4, none⟩ = some (.slice (some ⟨ga, 0, none⟩) q ca) := by
    have := hM1.b4
    rw [show (X ++ [p]).length = q by simp [HQ.out]] at this
    exact this
  have hra := hM1.ra
  rw [← natZ_lenB (X ++ [p])] at hra
  have a5 : W1.cell? ⟨ga, q - 1, none⟩ = some (.int .i64 (p : Int)) := (hra.at (k := q - 1) (x := (p : Int)) (by rw [HQ.out]; simp [natZ])).1
  have hw3 : IntKind.i64.wrap ((q : Int) - 1) = ((q - 1 : Nat) : Int) := by rw [IntWalk.i64_left]; have := HQ.out; unfold wrap64; omega
  have hw4 : ((q - 1 : Nat) : Int) < (q : Int) := by have := HQ.out; omega
  have HC : Hid (∀ w2, Keeps None W1 w2 → Calls Try.prog 61 #[.pointer (some ⟨S, 1, none⟩), .int .i64 t, .int .i64 p] w2 fun e w' => e = .returned (.tuple #[]) ∧ w'.cell? ⟨S, 4, none⟩ = some (.slice (some ⟨ga, 0, none⟩) q ca) ∧ w'.cell? ⟨ga, q - 1, none⟩ = some (.int .i64 (p : Int)) ∧ Hid ((∃ U' d', SwM w' base S U' (M.set (waitR rt A t t) true) ((A.set t (-1)).set p (t : Int)) gu cu gm cm gl cl (X ++ [p]) ga ca dn vd dv mp ∧ Fo U' (endR (waitR rt A t) A p t) d' ∧ U'.length = U.length) ∧ Keeps (F6 S gu gl gm ga vd) w w')) := by
    intro w2 hk
    obtain ⟨g1, g2, g3, g4, g5, g6, g7⟩ := H0.out
    have hM2 := hM1.more hk
    refine (end_ok w2 base S 1 gu cu gm cm gl cl t p U M A rt d hM2.sets g1 g2 g3 g4 g5 g6 g7).mono ?_
    rintro e w' ⟨rfl, ⟨U', d', h1, h2, h3⟩, h4⟩
    have hM3 := hM2.sets' h4 h1
    have c4 := hM3.b4
    rw [show (X ++ [p]).length = q by simp [HQ.out]] at c4
    have hra2 := hM3.ra
    rw [← natZ_lenB (X ++ [p])] at hra2
    refine ⟨rfl, c4, (hra2.at (k := q - 1) (x := (p : Int)) (by rw [HQ.out]; simp [natZ])).1, ⟨⟨U', d', hM3, h2, h3⟩, ?_⟩⟩
    refine (hk1.trans hk (fun _ f _ => f.elim)).trans h4 (fun i e _ => ?_)
    rcases e with e | e | e
    · exact .inr (.inl e)
    · exact .inr (.inr (.inl e))
    · exact .inr (.inr (.inr (.inl e)))
  clear hM1 hk1 hra H0 hw1 hw2
  go_wp2_with fail
  go_region_held3 (fun w' => w'.cell? ⟨S, 4, none⟩ = some (.slice (some ⟨ga, 0, none⟩) q ca) ∧ w'.cell? ⟨ga, q - 1, none⟩ = some (.int .i64 (p : Int))) (first | exact ⟨v1, v2⟩ | go_keep) (first | (go_at_call 61; refine Calls.mono (HC.out _ (Keeps.drew None _)) ?_; rintro _ w3 ⟨rfl, v1, v2, v3⟩))
  all_goals (go_wp2_with fail; go_end0)
  all_goals exact ⟨rfl, v3.out⟩
end Go.Proofs.Ytolhojagbiaamaa
/-! The map of the places. -/
namespace Go.Proofs.Ytolhojagbiaamaa
set_option linter.unusedVariables false
set_option maxRecDepth 20000
set_option linter.unusedSimpArgs false
open Go.RowKit Go.HeapKit

/-- What is known of a place. -/
structure Pl where
  w : Nat
  r : Nat
  racy : Bool
def plV (p : Pl) : Value := .agg #[.int .i64 p.w, .int .i64 p.r, .bool p.racy]
def plZ : Pl := ⟨0, 0, false⟩
def fnd : List (Int × Pl) → Int → Nat → Option (Nat × Pl)
  | [], _, _ => none
  | (k', v) :: M, k, i => if k = k' then some (i, v) else fnd M k (i + 1)
def lookP (M : List (Int × Pl)) (k : Int) : Pl := ((fnd M k 0).map Prod.snd).getD plZ
def EntP (M : List (Int × Pl)) (es : List MapEntry) : Prop := es.map (fun e => (e.key, e.val)) = M.map (fun p => (Value.int .i64 p.1, plV p.2))
theorem find_now (k : Int) : ∀ (M : List (Int × Pl)) (es : List MapEntry) (i : Nat), EntP M es → Instr.findNow (.int .i64) (.int .i64 k) es i = some ((fnd M k i).map (fun p => (p.1, plV p.2)))
  | [], es, i, h => by
    have : es = [] := by unfold EntP at h; simpa using h
    subst this
    rfl
  | (k', v) :: M, es, i, h => by
    cases es with
    | nil => simp [EntP] at h
    | cons e es =>
      simp [EntP] at h
      obtain ⟨⟨h1, h2⟩, h3⟩ := h
      unfold Instr.findNow
      rw [h1]
      by_cases e0 : k = k'
      · subst e0
        simp [Instr.sameNow, fnd, h2]
      · have := find_now k M es (i + 1) (by simpa [EntP] using h3)
        have hq : (k == k') = false := by simp [e0]
        simp [Instr.sameNow, fnd, e0, this, hq]
theorem Try.underK : Try.prog.underlying 2 = some (.int .i64) := by kernel_rfl
theorem Try.underPM : Try.prog.underlying 78 = some (.map 2 82) := by kernel_rfl
theorem Try.zeroP (w : World) : (zeroValue 82).run Try.prog w = .ok (plV plZ) w := by kernel_rfl
theorem find_key (k : Int) (w : World) (M : List (Int × Pl)) (es : List MapEntry) (h : EntP M es) : (Instr.findKey 2 (.int .i64 k) es).run Try.prog w = .ok ((fnd M k 0).map (fun p => (p.1, plV p.2))) w :=
  MapKept.run_findKey Try.underK (find_now k M es 0 h)
theorem check_key (k : Int) (e : Bool) (w : World) : (Instr.checkKey e 10000 2 (.int .i64 k)).run Try.prog w = .ok () w := by
  rw [show (10000 : Nat) = 9999 + 1 from rfl]
  unfold Instr.checkKey
  simp [run_underlying Try.underK]
/-- The entries' stamps. -/
def Stp (es : List MapEntry) (cl : Nat) : Prop := (∀ x ∈ es, x.born < cl) ∧ (es.map (·.born)).Nodup
theorem Stp.nil (cl : Nat) : Stp [] cl := ⟨by simp, by simp⟩
theorem Stp.push {es : List MapEntry} {cl : Nat} (h : Stp es cl) (e : MapEntry) (he : e.born = cl) : Stp (es ++ [e]) (cl + 1) := by
  refine ⟨fun x hx => ?_, ?_⟩
  · rw [List.mem_append] at hx
    rcases hx with hx | hx
    · have := h.1 x hx; omega
    · simp at hx; subst hx; omega
  · rw [List.map_append, List.nodup_append]
    refine ⟨h.2, by simp, fun a ha b hb => ?_⟩
    obtain ⟨x, hx, rfl⟩ := List.mem_map.1 ha
    simp at hb
    have := h.1 x hx
    omega
theorem born_modify (f : MapEntry → MapEntry) (hf : ∀ e, (f e).born = e.born) : ∀ (es : List MapEntry) (i : Nat), (es.modify i f).map (·.born) = es.map (·.born)
  | [], i => by simp
  | e :: es, 0 => by simp [hf]
  | e :: es, i + 1 => by simp [born_modify f hf es i]
theorem Stp.modify {es : List MapEntry} {cl : Nat} (h : Stp es cl) (i : Nat) (f : MapEntry → MapEntry) (hf : ∀ e, (f e).born = e.born) : Stp (es.modify i f) cl := by
  have e := born_modify f hf es i
  refine ⟨fun x hx => ?_, by rw [e]; exact h.2⟩
  have : x.born ∈ (es.modify i f).map (·.born) := List.mem_map.2 ⟨x, hx, rfl⟩
  rw [e] at this
  obtain ⟨y, hy, hxy⟩ := List.mem_map.1 this
  have := h.1 y hy
  omega
def IsPl (w : World) (b : Nat) (M : List (Int × Pl)) : Prop := ∃ es clock, w.heap[b]? = some (.map es clock) ∧ EntP M es.toList ∧ Stp es.toList clock
theorem IsPl.lt {w : World} {b : Nat} {M : List (Int × Pl)} (h : IsPl w b M) : b < w.heap.size := by
  obtain ⟨es, cl, hb, _⟩ := h
  exact (Array.getElem?_eq_some_iff.1 hb).1
theorem IsPl.kept {w w' : World} {b : Nat} {M : List (Int × Pl)} {S : Nat → Prop} (h : IsPl w b M) (hk : Keeps S w w') (hS : ¬ S b) : IsPl w' b M := by
  have hl := h.lt
  obtain ⟨es, cl, hb, he⟩ := h
  exact ⟨es, cl, (hk.block b hl hS).trans hb, he⟩
theorem IsPl.look {w : World} {b : Nat} {M : List (Int × Pl)} (h : IsPl w b M) (k : Int) : (Instr.lookup 78 (.map (some b)) (.int .i64 k) false).run Try.prog w = .ok (plV (lookP M k)) w := by
  obtain ⟨es, cl, hb, he, _⟩ := h
  have hr := find_key k w M es.toList he
  simp [Instr.lookup, run_underlying Try.underPM, MapKept.run_getObj_map hb, check_key, hr]
  unfold lookP
  cases fnd M k 0 with
  | none => simp [Try.zeroP]; rfl
  | some p => simp
/-- The list behind an update. -/
def putP (M : List (Int × Pl)) (k : Int) (v : Pl) : List (Int × Pl) := match fnd M k 0 with | some (i, _) => M.set i (k, v) | none => M ++ [(k, v)]
theorem fnd_le : ∀ (M : List (Int × Pl)) (k : Int) (i j : Nat) (v : Pl), fnd M k i = some (j, v) → i ≤ j ∧ j < i + M.length ∧ M[j - i]? = some (k, v)
  | [], k, i, j, v, h => by simp [fnd] at h
  | (k', v') :: M, k, i, j, v, h => by
    unfold fnd at h
    split at h
    · rename_i e
      subst e
      injection h with h
      injection h with h1 h2
      subst h1 h2
      exact ⟨Nat.le_refl _, by simp, by simp⟩
    · obtain ⟨h1, h2, h3⟩ := fnd_le M k (i + 1) j v h
      refine ⟨by omega, by simp; omega, ?_⟩
      rw [show j - i = (j - (i + 1)) + 1 by omega]
      simpa using h3
theorem fnd_keys : ∀ (M M' : List (Int × Pl)) (k : Int) (i : Nat), M.map Prod.fst = M'.map Prod.fst → (fnd M k i).map Prod.fst = (fnd M' k i).map Prod.fst
  | [], [], _, _, _ => rfl
  | [], _ :: _, _, _, h => by simp at h
  | _ :: _, [], _, _, h => by simp at h
  | (a, x) :: M, (b, y) :: M', k, i, h => by
    simp at h
    obtain ⟨rfl, h⟩ := h
    unfold fnd
    split
    · rfl
    · exact fnd_keys M M' k (i + 1) h
theorem fnd_app : ∀ (M : List (Int × Pl)) (k k' : Int) (v : Pl) (i : Nat), fnd (M ++ [(k, v)]) k' i = match fnd M k' i with | some x => some x | none => if k' = k then some (i + M.length, v) else none
  | [], k, k', v, i => by simp [fnd]
  | (a, x) :: M, k, k', v, i => by
    simp only [List.cons_append, fnd]
    split
    · rfl
    · rw [fnd_app M k k' v (i + 1)]
      simp [Nat.add_assoc, Nat.add_comm 1]
theorem look_put (M : List (Int × Pl)) (k k' : Int) (v : Pl) : lookP (putP M k v) k' = if k' = k then v else lookP M k' := by
  unfold putP
  cases hf : fnd M k 0 with
  | none =>
    simp only
    unfold lookP
    rw [fnd_app]
    by_cases e : k' = k
    · subst e; rw [hf]; simp
    · cases hf' : fnd M k' 0 with
      | none => simp [e]
      | some x => simp [e]
  | some p =>
    obtain ⟨i, v0⟩ := p
    simp only
    obtain ⟨h1, h2, h3⟩ := fnd_le M k 0 i v0 hf
    simp at h2 h3
    have hkeys : (M.set i (k, v)).map Prod.fst = M.map Prod.fst := by
      rw [List.map_set]
      apply List.ext_getElem?
      intro j
      rw [List.getElem?_set]
      split
      · rename_i e
        subst e
        simp [h2, h3]
        have := List.getElem?_eq_some_iff.1 h3
        obtain ⟨q1, q2⟩ := this
        simp [q2]
      · rfl
    unfold lookP
    by_cases e : k' = k
    · subst e
      rw [if_pos rfl]
      have h4 := fnd_keys (M.set i (k', v)) M k' 0 hkeys
      rw [hf] at h4
      cases hg : fnd (M.set i (k', v)) k' 0 with
      | none => rw [hg] at h4; simp at h4
      | some p =>
        obtain ⟨i', v'⟩ := p
        rw [hg] at h4
        simp at h4
        subst h4
        obtain ⟨_, _, g3⟩ := fnd_le _ k' 0 i' v' hg
        simp [h2] at g3
        simp [g3]
    · rw [if_neg e]
      have h4 := fnd_keys (M.set i (k, v)) M k' 0 hkeys
      cases hg : fnd (M.set i (k, v)) k' 0 with
      | none =>
        rw [hg] at h4
        cases hm : fnd M k' 0 with
        | none => rfl
        | some p => rw [hm] at h4; simp at h4
      | some p =>
        obtain ⟨i', v'⟩ := p
        rw [hg] at h4
        cases hm : fnd M k' 0 with
        | none => rw [hm] at h4; simp at h4
        | some p2 =>
          obtain ⟨i2, v2⟩ := p2
          rw [hm] at h4
          simp at h4
          subst h4
          obtain ⟨_, _, g3⟩ := fnd_le _ k' 0 i' v' hg
          obtain ⟨_, _, m3⟩ := fnd_le _ k' 0 i' v2 hm
          simp only [Nat.sub_zero] at g3 m3
          have hne : i ≠ i' := fun e2 => by
            subst e2
            rw [h3] at m3
            injection m3 with m3
            injection m3 with m3 _
            exact e m3.symm
          rw [List.getElem?_set_ne hne, m3] at g3
          injection g3 with g3
          injection g3 with _ g3
          simp [g3]
theorem ent_set {M : List (Int × Pl)} {es : List MapEntry} (h : EntP M es) (i : Nat) (k : Int) (v : Pl) : EntP (M.set i (k, v)) (es.modify i fun e => { e with key := .int .i64 k, val := plV v }) := by
  unfold EntP at h ⊢
  rw [List.map_set, ← h]
  apply List.ext_getElem?
  intro j
  rw [List.getElem?_map, List.getElem?_modify, List.getElem?_set, List.getElem?_map]
  by_cases e : i = j
  · subst e
    cases hj : es[i]? with
    | none =>
      have : es.length ≤ i := List.getElem?_eq_none_iff.1 hj
      simp [hj, this]
    | some x =>
      have := (List.getElem?_eq_some_iff.1 hj).1
      simp [hj, this]
  · simp [e]
theorem ent_push {M : List (Int × Pl)} {es : List MapEntry} (h : EntP M es) (k : Int) (v : Pl) (c : Nat) : EntP (M ++ [(k, v)]) (es ++ [{ key := .int .i64 k, val := plV v, born := c }]) := by
  unfold EntP at h ⊢
  rw [List.map_append, List.map_append, h]
  rfl
theorem ent_at {M : List (Int × Pl)} {es : List MapEntry} (h : EntP M es) {i : Nat} {k : Int} {v : Pl} (hi : M[i]? = some (k, v)) : (es[i]?).map (·.key) = some (.int .i64 k) := by
  unfold EntP at h
  have h1 := congrArg (fun l => l[i]?) h
  simp only [List.getElem?_map, hi, Option.map_some] at h1
  cases he : es[i]? with
  | none => rw [he] at h1; simp at h1
  | some x =>
    rw [he] at h1
    simp at h1
    simp [h1.1]
theorem IsPl.put {w : World} {b : Nat} {M : List (Int × Pl)} (h : IsPl w b M) (k : Int) (v : Pl) :
    ∃ w', (Instr.mapUpdate 78 (.map (some b)) (.int .i64 k) (plV v)).run Try.prog w = .ok () w' ∧ IsPl w' b (putP M k v) ∧ Keeps (· = b) w w' := by
  have hl := h.lt
  obtain ⟨es, cl, hb, he, hst0⟩ := h
  have hr := find_key k w M es.toList he
  have hkeep : ∀ o : Obj, Keeps (· = b) w { w with heap := w.heap.setIfInBounds b o } := fun o => ⟨rfl, rfl, rfl, by simp, fun i hi hne => by
    show (w.heap.setIfInBounds b _)[i]? = w.heap[i]?
    rw [Array.getElem?_setIfInBounds_ne (fun e => hne e.symm)]⟩
  unfold putP
  cases hf : fnd M k 0 with
  | none =>
    rw [hf] at hr
    simp only [Option.map_none] at hr
    refine ⟨{ w with heap := w.heap.setIfInBounds b (.map (es.push { key := .int .i64 k, val := plV v, born := cl }) (cl + 1)) }, ?_, ⟨es.push { key := .int .i64 k, val := plV v, born := cl }, cl + 1, by simp [hl], ?_, by rw [Array.toList_push]; exact hst0.push _ rfl⟩, hkeep _⟩
    · simp [Instr.mapUpdate, run_underlying Try.underPM, MapKept.run_getObj_map hb, check_key, hr, MapKept.run_setObj_map _ hb]
    · rw [Array.toList_push]
      exact ent_push he k v cl
  | some p =>
    obtain ⟨i, v0⟩ := p
    rw [hf] at hr
    simp only [Option.map_some] at hr
    obtain ⟨_, _, h3⟩ := fnd_le M k 0 i v0 hf
    simp only [Nat.sub_zero] at h3
    have hat := ent_at he h3
    rw [Array.getElem?_toList] at hat
    have hst : (Instr.keyThatStays (.int .i64 k) (.int .i64 k)).run Try.prog w = .ok (.int .i64 k) w := MapKept.run_keyThatStays (d := .int .i64) rfl
    refine ⟨{ w with heap := w.heap.setIfInBounds b (.map (es.modify i fun e => { e with key := .int .i64 k, val := plV v }) cl) }, ?_, ⟨es.modify i fun e => { e with key := .int .i64 k, val := plV v }, cl, by simp [hl], ?_, by rw [Array.toList_modify]; exact hst0.modify i _ (fun _ => rfl)⟩, hkeep _⟩
    · simp [Instr.mapUpdate, run_underlying Try.underPM, MapKept.run_getObj_map hb, check_key, hr, hat, hst, MapKept.run_setObj_map _ hb]
    · rw [Array.toList_modify]
      exact ent_set he i k v
end Go.Proofs.Ytolhojagbiaamaa
/-! A read or a write is noted. -/
namespace Go.Proofs.Ytolhojagbiaamaa
set_option linter.unusedVariables false
set_option maxRecDepth 20000
set_option linter.unusedSimpArgs false
open Go.RowKit Go.HeapKit

theorem IsPl.more {w w' : World} {b : Nat} {M : List (Int × Pl)} (h : IsPl w b M) (hk : Keeps None w w') : IsPl w' b M := h.kept hk (fun f => f)
def raceT (M : List Bool) (rt : Nat → Nat) (PM : List (Int × Pl)) (k loc : Int) : Bool := if k = 4 then (M.getD (rt (lookP PM loc).w) false || M.getD (rt (lookP PM loc).r) false) else M.getD (rt (lookP PM loc).w) false
def newP (M : List Bool) (rt : Nat → Nat) (PM : List (Int × Pl)) (k loc : Int) (t : Nat) : Pl := if k = 4 then ⟨bothT M rt (lookP PM loc).w t, (lookP PM loc).r, (lookP PM loc).racy⟩ else ⟨(lookP PM loc).w, bothT M rt (lookP PM loc).r t, (lookP PM loc).racy⟩
/-- The state in the midst of it. -/
structure Tch (w wx : World) (base S gu cu gm cm gl cl ga ca mb D X T : Nat) (act dn : List Nat) (M : List Bool) (A : List Int) (vd dv : Value) (rt d : Nat → Nat) (PM : List (Int × Pl)) (k loc : Int) (pw pr : Nat) (rc : Bool) : Prop where
  sw : ∃ U', SwM wx base S U' M A gu cu gm cm gl cl act ga ca dn vd dv (.map (some mb)) ∧ Fo U' rt d ∧ U'.length = T
  pl : IsPl wx mb PM
  bd : wx.heap[D]? = some (.cells #[.int .i64 k, .int .i64 loc] 51 (0, 0))
  bx : wx.heap[X]? = some (.cells #[.int .i64 pw, .int .i64 pr, .bool rc] 82 (0, 0))
  kp : Keeps (Fp w base) w wx
section
variable {w wx wy : World} {base S gu cu gm cm gl cl ga ca mb D X T : Nat} {act dn : List Nat} {M : List Bool} {A : List Int} {vd dv : Value} {rt d : Nat → Nat} {PM : List (Int × Pl)} {k loc : Int} {pw pr : Nat} {rc : Bool}
theorem Tch.more (h : Tch w wx base S gu cu gm cm gl cl ga ca mb D X T act dn M A vd dv rt d PM k loc pw pr rc) (hk : Keeps None wx wy) : Tch w wy base S gu cu gm cm gl cl ga ca mb D X T act dn M A vd dv rt d PM k loc pw pr rc := by
  obtain ⟨U', h1, h2, h3⟩ := h.sw
  exact ⟨⟨U', h1.more hk, h2, h3⟩, h.pl.more hk, blk_kept h.bd hk (fun f => f), blk_kept h.bx hk (fun f => f), Keeps.trans h.kp hk (fun _ f _ => f.elim)⟩
theorem Tch.up (h : Tch w wx base S gu cu gm cm gl cl ga ca mb D X T act dn M A vd dv rt d PM k loc pw pr rc) (hk : Keeps (· = gu) wx wy) {U1 : List Nat} (hs : SetM wy base S 1 U1 M A gu cu gm cm gl cl) (hF : Fo U1 rt d) (hl : U1.length = T) : Tch w wy base S gu cu gm cm gl cl ga ca mb D X T act dn M A vd dv rt d PM k loc pw pr rc := by
  obtain ⟨U', h1, h2, h3⟩ := h.sw
  obtain ⟨cur, hu⟩ := h1.sets.ublk
  refine ⟨⟨U1, h1.sets' (hk.mono (fun i e _ => .inl e)) hs, hF, hl⟩, h.pl.kept hk (fun e => ?_), blk_kept h.bd hk (fun e => ?_), blk_kept h.bx hk (fun e => ?_), Fp.trans h.kp hk (fun i e _ => by rw [e]; exact ⟨row_low h1.sets.ru rfl, h1.sets.toV.nb.1 _ rfl⟩)⟩
  · obtain ⟨es, cl', hb, _⟩ := h.pl
    rw [e, hu] at hb
    cases hb
  · exact ne_of_types h.bd hu (by decide) e
  · exact ne_of_types h.bx hu (by decide) e
theorem Tch.par (h : Tch w wx base S gu cu gm cm gl cl ga ca mb D X T act dn M A vd dv rt d PM k loc pw pr rc) {x : Nat} (hx : x < T) (hT : T ≤ 5000) : Calls Try.prog 58 #[.pointer (some ⟨S, 1, none⟩), .int .i64 x] wx fun e w' => e = .returned (.bool (M.getD (rt x) false)) ∧ Tch w w' base S gu cu gm cm gl cl ga ca mb D X T act dn M A vd dv rt d PM k loc pw pr rc := by
  obtain ⟨U', h1, h2, h3⟩ := h.sw
  refine (isPar_ok wx base S 1 gu cu gm cm gl cl x U' M A rt d h1.sets h2 (by omega) (by omega)).mono ?_
  rintro e w' ⟨rfl, ⟨U2, g1, g2, g3⟩, g4⟩
  exact ⟨rfl, h.up g4 g1 g2 (g3.trans h3)⟩
theorem Tch.both (h : Tch w wx base S gu cu gm cm gl cl ga ca mb D X T act dn M A vd dv rt d PM k loc pw pr rc) {x y : Nat} (hx : x < T) (hT : T ≤ 5000) : Calls Try.prog 63 #[.pointer (some ⟨S, 0, none⟩), .int .i64 x, .int .i64 y] wx fun e w' => e = .returned (.int .i64 (bothT M rt x y : Nat)) ∧ Tch w w' base S gu cu gm cm gl cl ga ca mb D X T act dn M A vd dv rt d PM k loc pw pr rc := by
  obtain ⟨U', h1, h2, h3⟩ := h.sw
  refine (forBoth_ok wx base S gu cu gm cm gl cl x y U' M A rt d h1.sets h2 (by omega) (by omega)).mono ?_
  rintro e w' ⟨rfl, ⟨U2, g1, g2, g3⟩, g4⟩
  exact ⟨rfl, h.up g4 g1 g2 (g3.trans h3)⟩
/-- The place's box is written. -/
theorem Tch.putX (h : Tch w wx base S gu cu gm cm gl cl ga ca mb D X T act dn M A vd dv rt d PM k loc pw pr rc) (hX : base ≤ X) (i : Nat) (v : Value) (hk : Keeps (· = X) wx (wx.setCell ⟨X, i, none⟩ v)) : ∃ U', SwM (wx.setCell ⟨X, i, none⟩ v) base S U' M A gu cu gm cm gl cl act ga ca dn vd dv (.map (some mb)) ∧ Fo U' rt d ∧ U'.length = T ∧ IsPl (wx.setCell ⟨X, i, none⟩ v) mb PM ∧ (wx.setCell ⟨X, i, none⟩ v).heap[D]? = some (.cells #[.int .i64 k, .int .i64 loc] 51 (0, 0)) ∧ Keeps (Fp w base) w (wx.setCell ⟨X, i, none⟩ v) := by
  obtain ⟨U', h1, h2, h3⟩ := h.sw
  have hXS : S ≠ X := fun e => by
    have := h1.b4
    rw [e, blk_cell h.bx] at this
    simp at this
  obtain ⟨_, hu⟩ := h1.sets.ublk
  obtain ⟨_, hl⟩ := h1.sets.lblk
  obtain ⟨_, hm⟩ := h1.sets.mblk
  obtain ⟨_, ha⟩ := own_block h1.ra (g := ga) rfl
  have x1 : gu ≠ X := ne_of_types hu h.bx (by decide)
  have x2 : gl ≠ X := ne_of_types hl h.bx (by decide)
  have x3 : gm ≠ X := ne_of_types hm h.bx (by decide)
  have x4 : ga ≠ X := ne_of_types ha h.bx (by decide)
  have x5 : ∀ b, vd.ownBlock = some b → b ≠ X := fun b hb => by obtain ⟨_, hd⟩ := own_block h1.rd hb; exact ne_of_types hd h.bx (by decide)
  refine ⟨U', ⟨h1.sets.kept hk hXS x1 x3 x2, hk.cell h1.b0 hXS, hk.cell h1.b4 hXS, hk.cell h1.b5 hXS, hk.cell h1.b6 hXS, h1.ra.kept hk (fun g e => by simp [Value.ownBlock] at e; subst e; exact x4), h1.rd.kept hk (fun g e => x5 g e), h1.n1, h1.n2, h1.n3, h1.n4, h1.n5⟩, h2, h3, h.pl.kept hk (fun e => ?_), blk_kept h.bd hk (fun e => ne_of_types h.bd h.bx (by decide) e), Fp.trans h.kp hk (fun i e _ => by rw [e]; exact ⟨hX, not_bk_cells h.bx (.inl (by decide))⟩)⟩
  obtain ⟨es, cl', hb, _⟩ := h.pl
  rw [e, h.bx] at hb
  cases hb
end
set_option maxHeartbeats 1600000 in
theorem touch_ok (w : World) (base S gu cu gm cm gl cl ga ca t mb : Nat) (U act dn : List Nat) (M : List Bool) (A : List Int) (vd dv : Value) (rt d : Nat → Nat) (PM : List (Int × Pl)) (k loc : Int)
    (h : SwM w base S U M A gu cu gm cm gl cl act ga ca dn vd dv (.map (some mb))) (hP : IsPl w mb PM) (hF : Fo U rt d) (ht : t < U.length) (hw : (lookP PM loc).w < U.length) (hr : (lookP PM loc).r < U.length) (hn : U.length ≤ 5000) (hk : k = 3 ∨ k = 4) (hb : base ≤ w.heap.size) (hmb : base ≤ mb) :
    Calls Try.prog 56 #[.pointer (some ⟨S, 0, none⟩), .int .i64 t, .agg #[.int .i64 k, .int .i64 loc]] w fun e w' => e = .returned (.bool (raceT M rt PM k loc)) ∧ (∃ U', SwM w' base S U' M A gu cu gm cm gl cl act ga ca dn vd dv (.map (some mb)) ∧ Fo U' rt d ∧ U'.length = U.length) ∧ IsPl w' mb (putP PM loc (newP M rt PM k loc t)) ∧ Keeps (Fp w base) w w' := by
  obtain ⟨p, hp⟩ : ∃ p, p = lookP PM loc := ⟨_, rfl⟩
  have HM : Hid (SwM w base S U M A gu cu gm cm gl cl act ga ca dn vd dv (.map (some mb)) ∧ IsPl w mb PM ∧ Fo U rt d ∧ p = lookP PM loc) := ⟨h, hP, hF, hp⟩
  have kD := Keeps.alloc None w (.cells #[.int .i64 k, .int .i64 loc] 51)
  have bD := heap_alloc_new w (.cells #[.int .i64 k, .int .i64 loc] 51)
  obtain ⟨W0, hW0⟩ : ∃ W0, W0 = w.alloc (.cells #[.int .i64 k, .int .i64 loc] 51) := ⟨_, rfl⟩
  obtain ⟨D, hD⟩ : ∃ D, D = w.heap.size := ⟨_, rfl⟩
  rw [← hW0] at kD bD
  rw [← hD] at bD
  have h0 := h.more kD
  have hP0 := hP.more kD
  have s6 := h0.b6
  have d0 : W0.cell? ⟨D, 0, none⟩ = some (.int .i64 k) := cell_of_heap bD 0
  have d1 : W0.cell? ⟨D, 1, none⟩ = some (.int .i64 loc) := cell_of_heap bD 1
  have lk1 : (Instr.lookup 78 (.map (some mb)) (.int .i64 loc) false).run Try.prog W0.drew = .ok (.agg #[.int .i64 p.w, .int .i64 p.r, .bool p.racy]) W0.drew := by
    rw [hp]; exact (hP0.more (Keeps.drew None _)).look loc
  have lk2 : ∀ c, (Instr.lookup 78 (.map (some mb)) (.int .i64 loc) false).run Try.prog (W0.alloc (.cells c 82)).drew = .ok (.agg #[.int .i64 p.w, .int .i64 p.r, .bool p.racy]) (W0.alloc (.cells c 82)).drew := fun c => by
    rw [hp]; exact ((hP0.more (Keeps.alloc None W0 _)).more (Keeps.drew None _)).look loc
  have d1' : (W0.alloc (.cells #[.int .i64 0, .int .i64 0, .bool false] 82)).cell? ⟨D, 1, none⟩ = some (.int .i64 loc) := (Keeps.alloc None W0 _).cell d1 (fun f => f)
  have s6' : (W0.alloc (.cells #[.int .i64 0, .int .i64 0, .bool false] 82)).cell? ⟨S, 6, none⟩ = some (.map (some mb)) := (Keeps.alloc None W0 _).cell s6 (fun f => f)
  have HLT : Hid ((lookP PM loc).w < U.length ∧ (lookP PM loc).r < U.length) := ⟨hw, hr⟩
  rw [← hp] at HLT
  have HW0 : Hid (W0 = w.alloc (.cells #[.int .i64 k, .int .i64 loc] 51) ∧ D = w.heap.size) := ⟨hW0, hD⟩
  clear h hP hF ht hw hr hp kD bD hW0 hD h0 hP0
  go_enter Try.func56, Try.ntmps56
  go_upto_region 1 with fail
  rw [← HW0.out.1, ← HW0.out.2]
  go_cut [7] (fun s7 wx => s7 = .pointer (some ⟨W0.heap.size, 0, none⟩) ∧ wx = (W0.alloc (.cells #[.int .i64 p.w, .int .i64 p.r, .bool p.racy] 82)).drew)
  case first =>
    go_region
    all_goals (go_wp2_with fail; go_meet)
    all_goals exact ⟨rfl, rfl⟩
  case rest =>
  obtain ⟨rfl, hwc⟩ := hcut
  have hwc' := hwc.symm
  subst hwc'
  obtain ⟨X, hXe⟩ : ∃ X, X = W0.heap.size := ⟨_, rfl⟩
  obtain ⟨T, hTe⟩ : ∃ T, T = U.length := ⟨_, rfl⟩
  have hT1 : Tch w (W0.alloc (.cells #[.int .i64 p.w, .int .i64 p.r, .bool p.racy] 82)).drew base S gu cu gm cm gl cl ga ca mb D X T act dn M A vd dv rt d PM k loc p.w p.r p.racy := by
    obtain ⟨g1, g2, g3, g4⟩ := HM.out
    have k0 : Keeps None w W0 := by rw [HW0.out.1]; exact Keeps.alloc None w _
    have k1 := (Keeps.alloc None W0 (.cells #[.int .i64 p.w, .int .i64 p.r, .bool p.racy] 82)).andDrew
    have bd0 : W0.heap[D]? = some (.cells #[.int .i64 k, .int .i64 loc] 51 (0, 0)) := by rw [HW0.out.1, HW0.out.2]; exact heap_alloc_new w _
    refine ⟨⟨U, (g1.more k0).more k1, g3, hTe.symm⟩, (g2.more k0).more k1, blk_kept bd0 k1 (fun f => f), ?_, (k0.trans k1 (fun _ f _ => f)).mono (fun _ f _ => f.elim)⟩
    rw [hXe]
    exact heap_alloc_new W0 _
  have HX : Hid (base ≤ X ∧ T = U.length ∧ p.w < T ∧ p.r < T ∧ T ≤ 5000 ∧ p = lookP PM loc) := ⟨by rw [hXe, HW0.out.1]; simp; omega, hTe, by rw [hTe]; exact HLT.out.1, by rw [hTe]; exact HLT.out.2, by rw [hTe]; exact hn, HM.out.2.2.2⟩
  rw [← hXe]
  generalize (W0.alloc (.cells #[.int .i64 p.w, .int .i64 p.r, .bool p.racy] 82)).drew = W1 at hT1 ⊢
  have HT1 : Hid _ := hT1
  have x0 : W1.cell? ⟨X, 0, none⟩ = some (.int .i64 p.w) := cell_of_heap hT1.bx 0
  clear hT1 hXe hTe HM d0 d1 d1' s6 s6' lk1 lk2 hwc
  have HPar : Hid (∀ w2, Keeps None W1 w2 → Calls Try.prog 58 #[.pointer (some ⟨S, 1, none⟩), .int .i64 p.w] w2 fun e w' => e = .returned (.bool (M.getD (rt p.w) false)) ∧ w'.cell? ⟨X, 0, none⟩ = some (.int .i64 p.w) ∧ Hid (Tch w w' base S gu cu gm cm gl cl ga ca mb D X T act dn M A vd dv rt d PM k loc p.w p.r p.racy)) := fun w2 hk2 => ((HT1.out.more hk2).par HX.out.2.2.1 HX.out.2.2.2.2.1).mono fun e w' hp => ⟨hp.1, cell_of_heap hp.2.bx 0, hp.2⟩
  go_wp2_with fail
  go_cut [8] (fun s8 wx => s8 = .bool (M.getD (rt p.w) false) ∧ Tch w wx base S gu cu gm cm gl cl ga ca mb D X T act dn M A vd dv rt d PM k loc p.w p.r p.racy)
  case first =>
    go_region_held3 (fun w' => w'.cell? ⟨X, 0, none⟩ = some (.int .i64 p.w)) (first | exact q1 | go_keep) (first | (go_at_call 58; refine Calls.mono (HPar.out _ (Keeps.drew None _)) ?_; rintro _ w3 ⟨rfl, q1, q2⟩))
    all_goals (go_wp2_with fail; go_meet)
    all_goals exact ⟨rfl, q2.out⟩
  case rest =>
  obtain ⟨rfl, hT2⟩ := hcut
  obtain ⟨W2, hW2⟩ : ∃ W2, W2 = wc := ⟨_, rfl⟩
  rw [← hW2] at hT2 ⊢
  clear hW2 x0 HPar HT1
  have e0 : W2.cell? ⟨D, 0, none⟩ = some (.int .i64 k) := cell_of_heap hT2.bd 0
  have v0 : W2.cell? ⟨X, 0, none⟩ = some (.int .i64 p.w) := cell_of_heap hT2.bx 0
  have v1 : W2.cell? ⟨X, 1, none⟩ = some (.int .i64 p.r) := cell_of_heap hT2.bx 1
  have HT2 : Hid _ := hT2
  clear hT2
  rcases hk with rfl | rfl
  · skip
    go_upto_region 7 with (go_at_call 63; refine Calls.mono (HT2.out.both (x := p.r) (y := t) HX.out.2.2.2.1 HX.out.2.2.2.2.1) ?_; rintro _ w3 ⟨rfl, hT3⟩; have z1 := cell_of_heap hT3.bx 1; have z2 := blk_free hT3.bx 1; have HT3 : Hid _ := hT3; clear hT3)
    have hk3 : Keeps (· = X) w3 (w3.setCell ⟨X, 1, none⟩ (.int .i64 (bothT M rt p.r t : Nat))) := keeps_one (Keeps.refl _ _) _
    obtain ⟨U4, g1, g2, g3, g4, g5, g6⟩ := HT3.out.putX HX.out.1 1 (.int .i64 (bothT M rt p.r t : Nat)) hk3
    have hT4 : Tch w (w3.setCell ⟨X, 1, none⟩ (.int .i64 (bothT M rt p.r t : Nat))) base S gu cu gm cm gl cl ga ca mb D X T act dn M A vd dv rt d PM 3 loc (p.w) (bothT M rt p.r t) p.racy := ⟨⟨U4, g1, g2, g3⟩, g4, g5, blk_set (i := 1) HT3.out.bx _, g6⟩
    obtain ⟨W4, hW4⟩ : ∃ W4, W4 = w3.setCell ⟨X, 1, none⟩ (.int .i64 (bothT M rt p.r t : Nat)) := ⟨_, rfl⟩
    rw [← hW4] at hT4 ⊢
    clear hW4 hk3 g1 g2 g3 g4 g5 g6 HT3 z1 z2
    have s6 : W4.cell? ⟨S, 6, none⟩ = some (.map (some mb)) := by obtain ⟨U', g1, _⟩ := hT4.sw; exact g1.b6
    have e1 : W4.cell? ⟨D, 1, none⟩ = some (.int .i64 loc) := cell_of_heap hT4.bd 1
    have y0 := cell_of_heap hT4.bx 0
    have y1 := cell_of_heap hT4.bx 1
    have y2 := cell_of_heap hT4.bx 2
    have y0' : W4.cell? ⟨X, 0, none⟩ = some (.int .i64 ((p.w) : Nat)) := y0
    have y1' : W4.cell? ⟨X, 1, none⟩ = some (.int .i64 ((bothT M rt p.r t) : Nat)) := y1
    have y2' : W4.cell? ⟨X, 2, none⟩ = some (.bool p.racy) := y2
    obtain ⟨W5, hup, hP5, hk5⟩ := (hT4.pl.more (Keeps.drew None W4)).put loc ⟨(p.w), (bothT M rt p.r t), p.racy⟩
    have hup' : (Instr.mapUpdate 78 (.map (some mb)) (.int .i64 loc) (.agg #[.int .i64 ((p.w) : Nat), .int .i64 ((bothT M rt p.r t) : Nat), .bool p.racy])).run Try.prog W4.drew = .ok () W5 := hup
    have HFin : Hid ((∃ U', SwM W5 base S U' M A gu cu gm cm gl cl act ga ca dn vd dv (.map (some mb)) ∧ Fo U' rt d ∧ U'.length = U.length) ∧ IsPl W5 mb (putP PM loc (newP M rt PM 3 loc t)) ∧ Keeps (Fp w base) w W5) := by
      have hT5 := hT4.more (Keeps.drew None W4)
      obtain ⟨U', g1, g2, g3⟩ := hT5.sw
      have hmbne : ∀ (b : Nat) (c : Array Value) (ty : TypeId) (f : Nat × Nat), W4.drew.heap[b]? = some (.cells c ty f) → b ≠ mb := fun b c ty f hb e => by
        obtain ⟨es, cl', hm, _⟩ := hT5.pl
        rw [← e, hb] at hm
        cases hm
      obtain ⟨_, hu⟩ := g1.sets.ublk
      obtain ⟨_, hl⟩ := g1.sets.lblk
      obtain ⟨_, hm⟩ := g1.sets.mblk
      obtain ⟨_, ha⟩ := own_block g1.ra (g := ga) rfl
      obtain ⟨_, _, hSb, _⟩ := g1.sets.blk
      have hS := hmbne S _ _ _ hSb
      refine ⟨⟨U', ⟨g1.sets.kept hk5 hS (hmbne _ _ _ _ hu) (hmbne _ _ _ _ hm) (hmbne _ _ _ _ hl), hk5.cell g1.b0 hS, hk5.cell g1.b4 hS, hk5.cell g1.b5 hS, hk5.cell g1.b6 hS, g1.ra.kept hk5 (fun g e => by simp [Value.ownBlock] at e; subst e; exact hmbne _ _ _ _ ha), g1.rd.kept hk5 (fun g e => by obtain ⟨_, hd⟩ := own_block g1.rd e; exact hmbne _ _ _ _ hd), g1.n1, g1.n2, g1.n3, g1.n4, g1.n5⟩, g2, g3.trans HX.out.2.1⟩, ?_, Fp.trans hT5.kp hk5 (fun i e _ => by rw [e]; exact ⟨hmb, by obtain ⟨es, cl2, hm2, _⟩ := hT5.pl; exact not_bk_map hm2⟩)⟩
      have e : newP M rt PM 3 loc t = ⟨(p.w), (bothT M rt p.r t), p.racy⟩ := by rw [HX.out.2.2.2.2.2]; rfl
      rw [e]
      exact hP5
    clear hT4 hup hP5 hk5 y0 y1 y2
    go_wp2_with fail
    go_cut [8] (fun s8 wx => s8 = .bool (M.getD (rt p.w) false) ∧ wx = W5)
    case first =>
      go_region
      all_goals (go_wp2_with fail; go_meet)
      all_goals exact ⟨rfl, rfl⟩
    case rest =>
    obtain ⟨rfl, hwc⟩ := hcut
    have hwc' := hwc.symm
    subst hwc'
    go_wp2
    go_ret
    refine ⟨?_, HFin.out⟩
    rw [show raceT M rt PM 3 loc = M.getD (rt p.w) false by rw [HX.out.2.2.2.2.2]; rfl]
    rfl
  · skip
    go_upto_region 4 with fail
    have HPr : Hid (∀ w2, Keeps None W2 w2 → Calls Try.prog 58 #[.pointer (some ⟨S, 1, none⟩), .int .i64 p.r] w2 fun e w' => e = .returned (.bool (M.getD (rt p.r) false)) ∧ w'.cell? ⟨X, 1, none⟩ = some (.int .i64 p.r) ∧ Hid (Tch w w' base S gu cu gm cm gl cl ga ca mb D X T act dn M A vd dv rt d PM 4 loc p.w p.r p.racy)) := fun w2 hk2 => ((HT2.out.more hk2).par HX.out.2.2.2.1 HX.out.2.2.2.2.1).mono fun e w' hp => ⟨hp.1, cell_of_heap hp.2.bx 1, hp.2⟩
    go_cut [8] (fun s8 wx => s8 = .bool (M.getD (rt p.w) false || M.getD (rt p.r) false) ∧ Tch w wx base S gu cu gm cm gl cl ga ca mb D X T act dn M A vd dv rt d PM 4 loc p.w p.r p.racy)
    case first =>
      cases hmw : M.getD (rt p.w) false with
      | true =>
        go_region
        all_goals (go_wp2_with fail; go_meet)
        all_goals exact ⟨by rw [hmw]; rfl, HT2.out.more (Keeps.drew None _)⟩
      | false =>
        go_region_held3 (fun w' => w'.cell? ⟨X, 1, none⟩ = some (.int .i64 p.r)) (first | exact q1 | go_keep) (first | (go_at_call 58; refine Calls.mono (HPr.out _ (Keeps.drew None _)) ?_; rintro _ w3 ⟨rfl, q1, q2⟩))
        all_goals (go_wp2_with fail; go_meet)
        all_goals exact ⟨by rw [hmw]; rfl, q2.out⟩
    case rest =>
    obtain ⟨rfl, hT2⟩ := hcut
    clear HT2 e0 v0 v1 HPr
    obtain ⟨W3, hW3⟩ : ∃ W3, W3 = wc := ⟨_, rfl⟩
    rw [← hW3] at hT2 ⊢
    clear hW3
    have v0 : W3.cell? ⟨X, 0, none⟩ = some (.int .i64 p.w) := cell_of_heap hT2.bx 0
    have HT2 : Hid _ := hT2
    clear hT2
    go_upto_region 7 with (go_at_call 63; refine Calls.mono (HT2.out.both (x := p.w) (y := t) HX.out.2.2.1 HX.out.2.2.2.2.1) ?_; rintro _ w3 ⟨rfl, hT3⟩; have z1 := cell_of_heap hT3.bx 0; have z2 := blk_free hT3.bx 0; have HT3 : Hid _ := hT3; clear hT3)
    have hk3 : Keeps (· = X) w3 (w3.setCell ⟨X, 0, none⟩ (.int .i64 (bothT M rt p.w t : Nat))) := keeps_one (Keeps.refl _ _) _
    obtain ⟨U4, g1, g2, g3, g4, g5, g6⟩ := HT3.out.putX HX.out.1 0 (.int .i64 (bothT M rt p.w t : Nat)) hk3
    have hT4 : Tch w (w3.setCell ⟨X, 0, none⟩ (.int .i64 (bothT M rt p.w t : Nat))) base S gu cu gm cm gl cl ga ca mb D X T act dn M A vd dv rt d PM 4 loc (bothT M rt p.w t) (p.r) p.racy := ⟨⟨U4, g1, g2, g3⟩, g4, g5, blk_set (i := 0) HT3.out.bx _, g6⟩
    obtain ⟨W4, hW4⟩ : ∃ W4, W4 = w3.setCell ⟨X, 0, none⟩ (.int .i64 (bothT M rt p.w t : Nat)) := ⟨_, rfl⟩
    rw [← hW4] at hT4 ⊢
    clear hW4 hk3 g1 g2 g3 g4 g5 g6 HT3 z1 z2
    have s6 : W4.cell? ⟨S, 6, none⟩ = some (.map (some mb)) := by obtain ⟨U', g1, _⟩ := hT4.sw; exact g1.b6
    have e1 : W4.cell? ⟨D, 1, none⟩ = some (.int .i64 loc) := cell_of_heap hT4.bd 1
    have y0 := cell_of_heap hT4.bx 0
    have y1 := cell_of_heap hT4.bx 1
    have y2 := cell_of_heap hT4.bx 2
    have y0' : W4.cell? ⟨X, 0, none⟩ = some (.int .i64 ((bothT M rt p.w t) : Nat)) := y0
    have y1' : W4.cell? ⟨X, 1, none⟩ = some (.int .i64 ((p.r) : Nat)) := y1
    have y2' : W4.cell? ⟨X, 2, none⟩ = some (.bool p.racy) := y2
    obtain ⟨W5, hup, hP5, hk5⟩ := (hT4.pl.more (Keeps.drew None W4)).put loc ⟨(bothT M rt p.w t), (p.r), p.racy⟩
    have hup' : (Instr.mapUpdate 78 (.map (some mb)) (.int .i64 loc) (.agg #[.int .i64 ((bothT M rt p.w t) : Nat), .int .i64 ((p.r) : Nat), .bool p.racy])).run Try.prog W4.drew = .ok () W5 := hup
    have HFin : Hid ((∃ U', SwM W5 base S U' M A gu cu gm cm gl cl act ga ca dn vd dv (.map (some mb)) ∧ Fo U' rt d ∧ U'.length = U.length) ∧ IsPl W5 mb (putP PM loc (newP M rt PM 4 loc t)) ∧ Keeps (Fp w base) w W5) := by
      have hT5 := hT4.more (Keeps.drew None W4)
      obtain ⟨U', g1, g2, g3⟩ := hT5.sw
      have hmbne : ∀ (b : Nat) (c : Array Value) (ty : TypeId) (f : Nat × Nat), W4.drew.heap[b]? = some (.cells c ty f) → b ≠ mb := fun b c ty f hb e => by
        obtain ⟨es, cl', hm, _⟩ := hT5.pl
        rw [← e, hb] at hm
        cases hm
      obtain ⟨_, hu⟩ := g1.sets.ublk
      obtain ⟨_, hl⟩ := g1.sets.lblk
      obtain ⟨_, hm⟩ := g1.sets.mblk
      obtain ⟨_, ha⟩ := own_block g1.ra (g := ga) rfl
      obtain ⟨_, _, hSb, _⟩ := g1.sets.blk
      have hS := hmbne S _ _ _ hSb
      refine ⟨⟨U', ⟨g1.sets.kept hk5 hS (hmbne _ _ _ _ hu) (hmbne _ _ _ _ hm) (hmbne _ _ _ _ hl), hk5.cell g1.b0 hS, hk5.cell g1.b4 hS, hk5.cell g1.b5 hS, hk5.cell g1.b6 hS, g1.ra.kept hk5 (fun g e => by simp [Value.ownBlock] at e; subst e; exact hmbne _ _ _ _ ha), g1.rd.kept hk5 (fun g e => by obtain ⟨_, hd⟩ := own_block g1.rd e; exact hmbne _ _ _ _ hd), g1.n1, g1.n2, g1.n3, g1.n4, g1.n5⟩, g2, g3.trans HX.out.2.1⟩, ?_, Fp.trans hT5.kp hk5 (fun i e _ => by rw [e]; exact ⟨hmb, by obtain ⟨es, cl2, hm2, _⟩ := hT5.pl; exact not_bk_map hm2⟩)⟩
      have e : newP M rt PM 4 loc t = ⟨(bothT M rt p.w t), (p.r), p.racy⟩ := by rw [HX.out.2.2.2.2.2]; rfl
      rw [e]
      exact hP5
    clear hT4 hup hP5 hk5 y0 y1 y2
    go_wp2_with fail
    go_cut [8] (fun s8 wx => s8 = .bool ((M.getD (rt p.w) false || M.getD (rt p.r) false)) ∧ wx = W5)
    case first =>
      go_region
      all_goals (go_wp2_with fail; go_meet)
      all_goals exact ⟨rfl, rfl⟩
    case rest =>
    obtain ⟨rfl, hwc⟩ := hcut
    have hwc' := hwc.symm
    subst hwc'
    go_wp2
    go_ret
    refine ⟨?_, HFin.out⟩
    rw [show raceT M rt PM 4 loc = (M.getD (rt p.w) false || M.getD (rt p.r) false) by rw [HX.out.2.2.2.2.2]; rfl]
    rfl
end Go.Proofs.Ytolhojagbiaamaa
/-! Where a list of deeds without a fault stands behind its first n deeds, plainly. -/
namespace Go.Proofs.Ytolhojagbiaamaa
set_option linter.unusedVariables false
set_option maxRecDepth 20000
set_option linter.unusedSimpArgs false

structure Now (ds : List Dd) (n : Nat) : Prop where
  inv : Inv ds n
  bin : BInv ds n
  ne : stN ds n ≠ []
  all : ∀ x, x < cntB ds n → x ∈ allB (bgN ds n)
  cnt : cntB ds n ≤ n + 1
theorem Fine.kind {ds : List Dd} (h : Fine ds) {n : Nat} (hn : n < ds.length) : 0 ≤ kdN ds n ∧ kdN ds n ≤ 4 ∧ (kdN ds n = 1 → 2 ≤ (stN ds n).length) := by
  obtain ⟨d, h1, h2, h3⟩ := h.at n (by omega)
  obtain ⟨x, hx⟩ : ∃ x, ds[n]? = some x := ⟨ds[n]'(by omega), by simp⟩
  rw [chkL_step hx] at h2
  have hb : badK x.k d = false := by
    cases hb : badK x.k d with
    | false => rfl
    | true => rw [hb] at h2; simp at h2
  unfold kdN
  rw [getD_of hx]
  unfold badK at hb
  simp at hb
  obtain ⟨⟨b1, b2⟩, b3⟩ := hb
  refine ⟨b1, b2, fun e => ?_⟩
  have := b3 e
  omega
theorem all_step {ds : List Dd} {n : Nat} (hb : BInv ds n) (hk : kdN ds n = 1 → 2 ≤ (stN ds n).length) (h : ∀ x, x < cntB ds n → x ∈ allB (bgN ds n)) : ∀ x, x < cntB ds (n + 1) → x ∈ allB (bgN ds (n + 1)) := by
  have hb' : bgN ds (n + 1) = stepB (kdN ds n) (cntB ds n) (bgN ds n) := rfl
  have hc' : cntB ds (n + 1) = if kdN ds n = 0 then cntB ds n + 1 else cntB ds n := rfl
  have hl := Prs.len hb.prs
  intro x hx
  rw [hb']
  rw [hc'] at hx
  cases hbg : bgN ds n with
  | nil => obtain ⟨A, e, hA, _⟩ := hb.bot; rw [hbg] at hA; simp at hA
  | cons b bs =>
    rw [hbg] at h hl
    by_cases k0 : kdN ds n = 0
    · rw [if_pos k0] at hx
      rw [k0, sb0, allB_cons]
      by_cases e : x = cntB ds n
      · subst e; simp
      · have := h x (by omega)
        simp [this]
    · rw [if_neg k0] at hx
      have hm := h x hx
      by_cases k1 : kdN ds n = 1
      · have h2 := hk k1
        obtain ⟨u, br, rfl⟩ : ∃ u br, bs = u :: br := by
          cases bs with
          | nil => simp at hl; omega
          | cons u br => exact ⟨u, br, rfl⟩
        rw [k1, sb1, allB_cons]
        rw [allB_cons, allB_cons] at hm
        simp only [List.mem_append] at hm ⊢
        rcases hm with (hm | hm) | (hm | hm) | hm
        · exact .inl (.inr (.inl (.inl hm)))
        · exact .inl (.inr (.inl (.inr hm)))
        · exact .inl (.inl hm)
        · exact .inl (.inr (.inr hm))
        · exact .inr hm
      · by_cases k2 : kdN ds n = 2
        · rw [k2, sb2, allB_cons]
          rw [allB_cons] at hm
          simpa using hm
        · rw [sb3 _ _ _ _ k0 k1 k2]
          exact hm
theorem Fine.now {ds : List Dd} (h : Fine ds) : ∀ n, n ≤ ds.length → Now ds n := by
  intro n
  induction n with
  | zero =>
    intro _
    obtain ⟨d, h1, _, h3⟩ := h.at 0 (by omega)
    refine ⟨h3, binv_zero ds, fun e => by rw [e] at h1; simp at h1, fun x hx => ?_, Nat.le_refl _⟩
    have hx' : x < 1 := hx
    have : x = 0 := by omega
    subst this
    show 0 ∈ allB [⟨0, [0], []⟩]
    simp [allB]
  | succ n ih =>
    intro hn
    have hN := ih (by omega)
    obtain ⟨k1, k2, k3⟩ := h.kind (n := n) (by omega)
    obtain ⟨d, h1, _, h3⟩ := h.at (n + 1) hn
    refine ⟨h3, binv_step hN.inv hN.bin hN.ne k3, fun e => by rw [e] at h1; simp at h1, all_step hN.bin k3 hN.all, ?_⟩
    have hc' : cntB ds (n + 1) = if kdN ds n = 0 then cntB ds n + 1 else cntB ds n := rfl
    have := hN.cnt
    rw [hc']
    split <;> omega
/-- The tasks that have not returned, the root first; whose each deed is. -/
def actN (ds : List Dd) (n : Nat) : List Nat := ((bgN ds n).map Bg.id).reverse
def dnN (ds : List Dd) (m : Nat) : List Nat := (List.range m).map (doer ds)
theorem dnN_succ (ds : List Dd) (m : Nat) : dnN ds (m + 1) = dnN ds m ++ [doer ds m] := by simp [dnN, List.range_succ]
theorem dnN_len (ds : List Dd) (m : Nat) : (dnN ds m).length = m := by simp [dnN]
theorem act_top {ds : List Dd} {n : Nat} {t : Bg} {r : List Bg} (h : bgN ds n = t :: r) : actN ds n = (r.map Bg.id).reverse ++ [t.id] := by simp [actN, h]
theorem Now.top {ds : List Dd} {n : Nat} (h : Now ds n) : ∃ t r, bgN ds n = t :: r ∧ t.id ∈ t.P ∧ doer ds n = t.id := bg_top h.bin h.ne
theorem allB_len : ∀ (B : List Bg), (∀ b ∈ B, b.id ∈ b.P) → B.length ≤ (allB B).length
  | [], _ => Nat.le_refl _
  | b :: B, h => by
    have h1 := allB_len B (fun c hc => h c (by simp [hc]))
    have h2 : 1 ≤ b.P.length := by
      have := h b (by simp)
      cases hp : b.P with
      | nil => rw [hp] at this; simp at this
      | cons _ _ => simp
    rw [allB_cons]
    simp
    omega
theorem nodup_bound : ∀ (T : Nat) (l : List Nat), l.Nodup → (∀ x ∈ l, x < T) → l.length ≤ T := by
  intro T l hn hl
  have := List.Nodup.length_le_of_subset (l₂ := List.range T) hn (fun x hx => List.mem_range.2 (hl x hx))
  simpa using this
end Go.Proofs.Ytolhojagbiaamaa
