import Derived.Test.YtbdpdojeaahpjaaGreatDoorPkBJ
import Derived.Test.YtbdpdojeaahpjaaGreatDoorShelf
import Derived.Lib.SlKeysI
import Derived.Test.YtbdpdojeaahpjaaGreatDoorPkBH
import Derived.Deep.RegionLaw
import Derived.Deep.CutBlock
import Derived.Deep.QuietTactic
import Derived.BigQuiet
/-! What is done to dag's trace, in memory. -/
namespace Go.Proofs.YtbdpdojeaahpjaaGreatDoor
set_option linter.unusedVariables false
set_option maxRecDepth 20000
open Go.RowKit Go.HeapKit Go.PlainOps Go.Shelf Go.Sort

theorem own_putL {w : World} {lo : Nat} {e : TypeId} {z n c g : Nat} {X : List Value} {i : Nat} (y : Value) (h : w.ownsRow lo e z (.slice (some ⟨g, 0, none⟩) n c) n X) : (w.setCell ⟨g, i, none⟩ y).ownsRow lo e z (.slice (some ⟨g, 0, none⟩) n c) n (X.set i y) := by
  rcases h.2 with ⟨e1, _⟩ | ⟨g', cap, cur, he, hb0, hg, hnc, hcm, hcs, htk⟩
  · cases e1
  · have he2 := he
    injection he with e1 e2 e3
    injection e1 with e1
    injection e1 with e1
    subst e1
    refine ⟨by rw [List.length_set]; exact h.1, .inr ⟨g, cap, _, he2, hb0, blk_set hg _, hnc, hcm, by simpa using hcs, ?_⟩⟩
    rw [Array.toList_setIfInBounds, List.take_set, htk]
/-- What a row's cell holds. -/
theorem own_cell1 {w : World} {lo : Nat} {e : TypeId} {n c g : Nat} {X : List Value} (h : w.ownsRow lo e 1 (.slice (some ⟨g, 0, none⟩) n c) n X) {k : Nat} {v : Value} (hv : X[k]? = some v) : w.cell? ⟨g, k, none⟩ = some v ∧ (∀ j, w.frozen? ⟨g, j, none⟩ = false) ∧ lo ≤ g ∧ ∃ cur, w.heap[g]? = some (.cells cur e (0, 0)) := by
  rcases h.2 with ⟨e1, _⟩ | ⟨g', cap, cur, he, hb0, hg, hnc, hcm, hcs, htk⟩
  · cases e1
  · injection he with e1 e2 e3
    injection e1 with e1
    injection e1 with e1
    subst e1
    refine ⟨?_, fun j => blk_free hg j, hb0, cur, hg⟩
    rw [blk_cell hg, ← Array.getElem?_toList]
    rw [← htk, List.getElem?_take] at hv
    split at hv
    · exact hv
    · cases hv
theorem own_some {w : World} {lo : Nat} {e : TypeId} {z n : Nat} {v : Value} {X : List Value} (h : w.ownsRow lo e z v n X) (hn : 0 < n) : ∃ g c, v = .slice (some ⟨g, 0, none⟩) n c := by
  rcases h.2 with ⟨_, h0⟩ | ⟨g, cap, cur, he, _⟩
  · omega
  · exact ⟨g, cap, he⟩
theorem row_R {w w' : World} {lo R : Nat} {e : TypeId} {z n : Nat} {v : Value} {Y : List Value} (ho : w.ownsRow lo e z v n Y) (he : 73 ≠ e) {cs : Array Value} (hR : w.heap[R]? = some (.cells cs 73 (0, 0))) (hk : Keeps (· = R) w w') : w'.ownsRow lo e z v n Y :=
  hk.own ho (fun q eq hq => own_not ho (hq ▸ hR) he eq)
section
variable {lo : Nat} {w : World} {R : Nat} {T : Trc} {ev lv xv : Value} {vs : List Value}
/-- The block of the trace itself is written. -/
theorem IsTr.setR {w' : World} (h : IsTr lo w R T ev lv xv vs) (hk : Keeps (· = R) w w') {n : Nat} (hb : w'.heap[R]? = some (.cells #[.int .i64 (n : Int), ev, lv, xv] 73 (0, 0))) : IsTr lo w' R { T with n := n } ev lv xv vs ∧ Keeps (TyS lo w) w w' :=
  ⟨⟨hb, h.low, row_R h.es (by decide) h.blk hk, row_R h.las (by decide) h.blk hk, row_R h.out (by decide) h.blk hk, fun k e v he hv => row_R (h.inn k e v he hv) (by decide) h.blk hk, h.ndl, h.nd⟩, TyS.one hk h.low h.blk (.inl rfl)⟩
/-- A task that is shown for the first time. -/
theorem IsTr.opened {w1 w2 w3 w4 w' : World} (h : IsTr lo w R T ev lv xv vs) (k1 : Keeps None w w1) {lv' xv' : Value} (rl : w2.ownsRow lo 3 1 lv' (T.lasts.length + 1) (natV (T.lasts ++ [0]))) (kl : Keeps (fun k => lv.ownBlock = some k) w1 w2) (ml : lv'.ownBlock = lv.ownBlock ∨ ∀ b, lv'.ownBlock = some b → w1.heap.size ≤ b)
    (k3 : Keeps None w2 w3) (rx : w4.ownsRow lo 70 1 xv' (T.ends.length + 1) (vs ++ [.slice none 0 0])) (kx : Keeps (fun k => xv.ownBlock = some k) w3 w4) (kR : Keeps (· = R) w4 w') (hb : w'.heap[R]? = some (.cells #[.int .i64 (T.n : Int), ev, lv', xv'] 73 (0, 0))) :
    IsTr lo w' R { T with lasts := T.lasts ++ [0], ends := T.ends ++ [[]] } ev lv' xv' (vs ++ [.slice none 0 0]) ∧ Keeps (TyS lo w) w w' := by
  have h1 := h.more k1
  have hR2 := blk_kept h1.blk kl (fun e => own_not h1.las h1.blk (by decide) e)
  have x2 : w2.ownsRow lo 70 1 xv T.ends.length vs := kl.own h1.out (fun q e e2 => own_not2 h1.las h1.out (by decide) e2 e)
  have e2 : w2.ownsRow lo 39 2 ev T.es.length (edV T.es) := kl.own h1.es (fun q e e2 => own_not2 h1.las h1.es (by decide) e2 e)
  have i2 : ∀ (k : Nat) e v, T.ends[k]? = some e → vs[k]? = some v → w2.ownsRow lo 3 1 v e.length (natV e) := fun k e v he hv => kl.own (h1.inn k e v he hv) (fun q eq e2 => h1.ndl k v q hv eq e2)
  have hR3 := blk_kept hR2 k3 (fun f => f)
  have x3 := k3.own x2 (fun _ _ f => f)
  have e3 := k3.own e2 (fun _ _ f => f)
  have l3 := k3.own rl (fun _ _ f => f)
  have i3 := fun (k : Nat) e v he hv => k3.own (i2 k e v he hv) (fun _ _ f => f)
  have hR4 := blk_kept hR3 kx (fun e => own_not x3 hR3 (by decide) e)
  have e4 : w4.ownsRow lo 39 2 ev T.es.length (edV T.es) := kx.own e3 (fun q e e2 => own_not2 x3 e3 (by decide) e2 e)
  have l4 : w4.ownsRow lo 3 1 lv' (T.lasts.length + 1) (natV (T.lasts ++ [0])) := kx.own l3 (fun q e e2 => own_not2 x3 l3 (by decide) e2 e)
  have i4 : ∀ (k : Nat) e v, T.ends[k]? = some e → vs[k]? = some v → w4.ownsRow lo 3 1 v e.length (natV e) := fun k e v he hv => kx.own (i3 k e v he hv) (fun q eq e2 => own_not2 x3 (i3 k e v he hv) (by decide) e2 eq)
  have hlen := h.len
  have tellv : ∀ (k : Nat) v, (vs ++ [Value.slice none 0 0])[k]? = some v → (k < vs.length ∧ vs[k]? = some v) ∨ (k = vs.length ∧ v = .slice none 0 0) := fun k v hv => by
    by_cases hk : k < vs.length
    · rw [List.getElem?_append_left hk] at hv; exact .inl ⟨hk, hv⟩
    · have hlt := (List.getElem?_eq_some_iff.1 hv).1
      simp at hlt
      have ek : k = vs.length := by omega
      rw [List.getElem?_append_right (by omega), ek, Nat.sub_self] at hv
      simp at hv
      exact .inr ⟨ek, hv.symm⟩
  refine ⟨⟨hb, h.low, row_R e4 (by decide) hR4 kR, row_R (by simpa using l4) (by decide) hR4 kR, row_R (by simpa using rx) (by decide) hR4 kR, fun k e v he hv => ?_, fun k v b hv eb => ?_, fun j k v u b hv hu e1 e2 => ?_⟩, ?_⟩
  · rcases tellv k v hv with ⟨hk, hv⟩ | ⟨hk, rfl⟩
    · rw [List.getElem?_append_left (by omega)] at he
      exact row_R (i4 k e v he hv) (by decide) hR4 kR
    · rw [List.getElem?_append_right (by omega), show k - T.ends.length = 0 by omega] at he
      simp at he
      subst he
      exact ⟨rfl, .inl ⟨rfl, rfl⟩⟩
  · rcases tellv k v hv with ⟨hk, hv⟩ | ⟨hk, rfl⟩
    · intro e2
      rcases ml with ml | ml
      · exact h.ndl k v b hv eb (ml ▸ e2)
      · have a1 := ml b e2
        obtain ⟨e, he⟩ : ∃ e, T.ends[k]? = some e := ⟨T.ends[k]'(by omega), by simp⟩
        have a2 := (low_of (h.inn k e v he hv) eb).2
        have := k1.size
        omega
    · simp [Value.ownBlock] at eb
  · rcases tellv j v hv with ⟨hj, hv⟩ | ⟨hj, rfl⟩
    · rcases tellv k u hu with ⟨hk, hu⟩ | ⟨hk, rfl⟩
      · exact h.nd j k v u b hv hu e1 e2
      · simp [Value.ownBlock] at e2
    · simp [Value.ownBlock] at e1
  · have q1 : Keeps (TyS lo w) w w1 := TyS.new k1
    have q2 : Keeps (TyS lo w1) w1 w2 := TyS.row h1.las (.inr (.inr (.inl rfl))) kl
    have q4 : Keeps (TyS lo w3) w3 w4 := TyS.row x3 (.inr (.inr (.inr rfl))) kx
    exact TyS.trans (TyS.trans (TyS.trans (TyS.trans q1 q2) (TyS.new k3)) q4) (TyS.one kR h.low hR4 (.inl rfl))
/-- A task has waited for its children. -/
theorem IsTr.cleared {num gx cx : Nat} (h : IsTr lo w R T ev lv (.slice (some ⟨gx, 0, none⟩) T.ends.length cx) vs) (hn : num < T.ends.length) :
    IsTr lo (w.setCell ⟨gx, num, none⟩ (.slice none 0 0)) R { T with ends := T.ends.set num [] } ev lv (.slice (some ⟨gx, 0, none⟩) T.ends.length cx) (vs.set num (.slice none 0 0)) ∧ Keeps (TyS lo w) w (w.setCell ⟨gx, num, none⟩ (.slice none 0 0)) := by
  have kS : Keeps (· = gx) w (w.setCell ⟨gx, num, none⟩ (.slice none 0 0)) := Keeps.setCell (S := (· = gx)) w (a := ⟨gx, num, none⟩) rfl _
  have hlen := h.len
  obtain ⟨c1, c2, c3, cur, hg⟩ := own_cell1 h.out (k := num) (v := vs[num]'(by omega)) (by simp)
  have hno : ∀ {e : TypeId} {z n : Nat} {v : Value} {Y : List Value}, w.ownsRow lo e z v n Y → 70 ≠ e → (w.setCell ⟨gx, num, none⟩ (.slice none 0 0)).ownsRow lo e z v n Y := fun ho hne => kS.own ho (fun q eq hq => own_not ho (hq ▸ hg) hne eq)
  have tell : ∀ (k : Nat) v, (vs.set num (Value.slice none 0 0))[k]? = some v → (k = num ∧ v = .slice none 0 0) ∨ (k ≠ num ∧ vs[k]? = some v) := fun k v hv => by
    by_cases hk : num = k
    · subst hk; rw [List.getElem?_set_self (by omega)] at hv; exact .inl ⟨rfl, (Option.some.inj hv).symm⟩
    · rw [List.getElem?_set_ne hk] at hv; exact .inr ⟨fun e => hk e.symm, hv⟩
  refine ⟨⟨blk_kept h.blk kS (fun e => by subst e; have := h.blk; rw [hg] at this; injection this with this; injection this with _ t; exact absurd t (by decide)), h.low, hno h.es (by decide), hno h.las (by decide), ?_, fun k e v he hv => ?_, fun k v b hv eb => ?_, fun j k v u b hv hu e1 e2 => ?_⟩, TyS.one kS c3 hg (.inr (.inr (.inr rfl)))⟩
  · have := own_putL (i := num) (.slice none 0 0) h.out
    simpa using this
  · rcases tell k v hv with ⟨rfl, rfl⟩ | ⟨hk, hv⟩
    · rw [List.getElem?_set_self hn] at he
      obtain rfl := Option.some.inj he
      exact ⟨rfl, .inl ⟨rfl, rfl⟩⟩
    · rw [List.getElem?_set_ne (fun e => hk e.symm)] at he
      exact hno (h.inn k e v he hv) (by decide)
  · rcases tell k v hv with ⟨rfl, rfl⟩ | ⟨hk, hv⟩
    · simp [Value.ownBlock] at eb
    · exact h.ndl k v b hv eb
  · rcases tell j v hv with ⟨_, rfl⟩ | ⟨hj, hv⟩
    · simp [Value.ownBlock] at e1
    · rcases tell k u hu with ⟨_, rfl⟩ | ⟨hk, hu⟩
      · simp [Value.ownBlock] at e2
      · exact h.nd j k v u b hv hu e1 e2
/-- One more edge. -/
theorem IsTr.edged {w1 w2 : World} (h : IsTr lo w R T ev lv xv vs) (k1 : Keeps None w w1) {ev' : Value} {x : Nat × Nat} (re : w2.ownsRow lo 39 2 ev' (T.es.length + 1) (edV (T.es ++ [x]))) (ke : Keeps (fun k => ev.ownBlock = some k) w1 w2) :
    w2.cell? ⟨R, 1, none⟩ = some ev ∧ w2.frozen? ⟨R, 1, none⟩ = false ∧ IsTr lo (w2.setCell ⟨R, 1, none⟩ ev') R { T with es := T.es ++ [x] } ev' lv xv vs ∧ Keeps (TyS lo w) w (w2.setCell ⟨R, 1, none⟩ ev') := by
  have h1 := h.more k1
  have hR2 := blk_kept h1.blk ke (fun e => own_not h1.es h1.blk (by decide) e)
  have kR : Keeps (· = R) w2 (w2.setCell ⟨R, 1, none⟩ ev') := Keeps.setCell (S := (· = R)) w2 (a := ⟨R, 1, none⟩) rfl _
  have x2 : w2.ownsRow lo 70 1 xv T.ends.length vs := ke.own h1.out (fun q e e2 => own_not2 h1.es h1.out (by decide) e2 e)
  have l2 : w2.ownsRow lo 3 1 lv T.lasts.length (natV T.lasts) := ke.own h1.las (fun q e e2 => own_not2 h1.es h1.las (by decide) e2 e)
  have i2 : ∀ (k : Nat) e v, T.ends[k]? = some e → vs[k]? = some v → w2.ownsRow lo 3 1 v e.length (natV e) := fun k e v he hv => ke.own (h1.inn k e v he hv) (fun q eq e2 => own_not2 h1.es (h1.inn k e v he hv) (by decide) e2 eq)
  refine ⟨(blk_cell hR2 1).trans rfl, blk_free hR2 1, ⟨by rw [blk_set hR2]; rfl, h.low, row_R (by simpa using re) (by decide) hR2 kR, row_R l2 (by decide) hR2 kR, row_R x2 (by decide) hR2 kR, fun k e v he hv => row_R (i2 k e v he hv) (by decide) hR2 kR, h.ndl, h.nd⟩, ?_⟩
  exact TyS.trans (TyS.trans (TyS.new k1) (TyS.row h1.es (.inr (.inl rfl)) ke)) (TyS.one kR h.low hR2 (.inl rfl))
theorem natV_set (l : List Nat) (k x : Nat) : (natV l).set k (.int .i64 (x : Int)) = natV (l.set k x) := by simp [natV, List.map_set]
/-- A task's last node. -/
theorem IsTr.lasted {num node gl cl : Nat} (h : IsTr lo w R T ev (.slice (some ⟨gl, 0, none⟩) T.lasts.length cl) xv vs) (hn : num < T.lasts.length) :
    IsTr lo (w.setCell ⟨gl, num, none⟩ (.int .i64 (node : Int))) R { T with lasts := T.lasts.set num node } ev (.slice (some ⟨gl, 0, none⟩) T.lasts.length cl) xv vs ∧ Keeps (TyS lo w) w (w.setCell ⟨gl, num, none⟩ (.int .i64 (node : Int))) := by
  have kS : Keeps (· = gl) w (w.setCell ⟨gl, num, none⟩ (.int .i64 (node : Int))) := Keeps.setCell (S := (· = gl)) w (a := ⟨gl, num, none⟩) rfl _
  obtain ⟨c1, c2, c3, cur, hg⟩ := own_cell1 h.las (k := num) (natV_at (x := T.lasts[num]'hn) (by simp))
  have hno : ∀ {e : TypeId} {z n : Nat} {v : Value} {Y : List Value}, w.ownsRow lo e z v n Y → 3 ≠ e → (w.setCell ⟨gl, num, none⟩ (.int .i64 (node : Int))).ownsRow lo e z v n Y := fun ho hne => kS.own ho (fun q eq hq => own_not ho (hq ▸ hg) hne eq)
  refine ⟨⟨blk_kept h.blk kS (fun e => by subst e; have := h.blk; rw [hg] at this; injection this with this; injection this with _ t; exact absurd t (by decide)), h.low, hno h.es (by decide), ?_, hno h.out (by decide), fun k e v he hv => kS.own (h.inn k e v he hv) (fun q eq hq => h.ndl k v q hv eq (by simp [Value.ownBlock]; exact hq.symm)), h.ndl, h.nd⟩, TyS.one kS c3 hg (.inr (.inr (.inl rfl)))⟩
  have := own_putL (i := num) (.int .i64 (node : Int)) h.las
  rw [natV_set] at this
  simpa using this
/-- A child's return, at its parent's place. -/
theorem IsTr.ended {w1 w2 : World} {p gx cx : Nat} (h : IsTr lo w R T ev lv (.slice (some ⟨gx, 0, none⟩) T.ends.length cx) vs) (k1 : Keeps None w w1) {e0 : List Nat} {v0 v' : Value} {node : Nat} (he0 : T.ends[p]? = some e0) (hv0 : vs[p]? = some v0)
    (rv : w2.ownsRow lo 3 1 v' (e0.length + 1) (natV (e0 ++ [node]))) (kv : Keeps (fun k => v0.ownBlock = some k) w1 w2) (mv : v'.ownBlock = v0.ownBlock ∨ ∀ b, v'.ownBlock = some b → w1.heap.size ≤ b) :
    w2.cell? ⟨gx, p, none⟩ = some v0 ∧ w2.frozen? ⟨gx, p, none⟩ = false ∧ IsTr lo (w2.setCell ⟨gx, p, none⟩ v') R { T with ends := T.ends.set p (e0 ++ [node]) } ev lv (.slice (some ⟨gx, 0, none⟩) T.ends.length cx) (vs.set p v') ∧ Keeps (TyS lo w) w (w2.setCell ⟨gx, p, none⟩ v') := by
  have h1 := h.more k1
  have hlen := h.len
  have hpl := (List.getElem?_eq_some_iff.1 he0).1
  have r1 := h1.inn p e0 v0 he0 hv0
  have hR2 := blk_kept h1.blk kv (fun e => own_not r1 h1.blk (by decide) e)
  have x2 : w2.ownsRow lo 70 1 (.slice (some ⟨gx, 0, none⟩) T.ends.length cx) T.ends.length vs := kv.own h1.out (fun q e e2 => own_not2 r1 h1.out (by decide) e2 e)
  have es2 : w2.ownsRow lo 39 2 ev T.es.length (edV T.es) := kv.own h1.es (fun q e e2 => own_not2 r1 h1.es (by decide) e2 e)
  have l2 : w2.ownsRow lo 3 1 lv T.lasts.length (natV T.lasts) := kv.own h1.las (fun q e e2 => h1.ndl p v0 q hv0 e2 e)
  have i2 : ∀ (k : Nat) e v, k ≠ p → T.ends[k]? = some e → vs[k]? = some v → w2.ownsRow lo 3 1 v e.length (natV e) := fun k e v hk he hv => kv.own (h1.inn k e v he hv) (fun q eq e2 => hk (h1.nd k p v v0 q hv hv0 eq e2))
  obtain ⟨c1, c2, c3, cur, hg⟩ := own_cell1 x2 hv0
  have kS : Keeps (· = gx) w2 (w2.setCell ⟨gx, p, none⟩ v') := Keeps.setCell (S := (· = gx)) w2 (a := ⟨gx, p, none⟩) rfl _
  have hno : ∀ {e : TypeId} {z n : Nat} {v : Value} {Y : List Value}, w2.ownsRow lo e z v n Y → 70 ≠ e → (w2.setCell ⟨gx, p, none⟩ v').ownsRow lo e z v n Y := fun ho hne => kS.own ho (fun q eq hq => own_not ho (hq ▸ hg) hne eq)
  have tell : ∀ (k : Nat) v, (vs.set p v')[k]? = some v → (k = p ∧ v = v') ∨ (k ≠ p ∧ vs[k]? = some v) := fun k v hv => by
    by_cases hk : p = k
    · subst hk; rw [List.getElem?_set_self (by omega)] at hv; exact .inl ⟨rfl, (Option.some.inj hv).symm⟩
    · rw [List.getElem?_set_ne hk] at hv; exact .inr ⟨fun e => hk e.symm, hv⟩
  have hnew : ∀ (k : Nat) v b, k ≠ p → vs[k]? = some v → v.ownBlock = some b → v'.ownBlock ≠ some b := fun k v b hk hv eb e2 => by
    rcases mv with mv | mv
    · exact hk (h.nd k p v v0 b hv hv0 eb (mv ▸ e2))
    · have a1 := mv b e2
      obtain ⟨e, he⟩ : ∃ e, T.ends[k]? = some e := ⟨T.ends[k]'(by have := (List.getElem?_eq_some_iff.1 hv).1; omega), by simp⟩
      have a2 := (low_of (h.inn k e v he hv) eb).2
      have := k1.size
      omega
  refine ⟨c1, c2 p, ⟨blk_kept hR2 kS (fun e => by subst e; rw [hg] at hR2; injection hR2 with t; injection t with _ t; exact absurd t (by decide)), h.low, hno es2 (by decide), hno l2 (by decide), ?_, fun k e v he hv => ?_, fun k v b hv eb => ?_, fun j k v u b hv hu e1 e2 => ?_⟩, ?_⟩
  · have := own_putL (i := p) v' x2
    simpa using this
  · rcases tell k v hv with ⟨rfl, rfl⟩ | ⟨hk, hv⟩
    · rw [List.getElem?_set_self hpl] at he
      obtain rfl := Option.some.inj he
      exact hno (by simpa using rv) (by decide)
    · rw [List.getElem?_set_ne (fun e => hk e.symm)] at he
      exact hno (i2 k e v hk he hv) (by decide)
  · rcases tell k v hv with ⟨rfl, rfl⟩ | ⟨hk, hv⟩
    · intro e2
      rcases mv with mv | mv
      · exact h.ndl k v0 b hv0 (mv ▸ eb) e2
      · have a1 := mv b eb
        have a2 := (low_of h.las e2).2
        have := k1.size
        omega
    · exact h.ndl k v b hv eb
  · rcases tell j v hv with ⟨rfl, rfl⟩ | ⟨hj, hvj⟩
    · rcases tell k u hu with ⟨rfl, rfl⟩ | ⟨hk, hu⟩
      · rfl
      · exact absurd e1 (hnew k u b hk hu e2)
    · rcases tell k u hu with ⟨rfl, rfl⟩ | ⟨hk, hu⟩
      · exact absurd e2 (hnew j v b hj hvj e1)
      · exact h.nd j k v u b hvj hu e1 e2
  · exact TyS.trans (TyS.trans (TyS.new k1) (TyS.row r1 (.inr (.inr (.inl rfl))) kv)) (TyS.one kS c3 hg (.inr (.inr (.inr rfl))))
end
/-- 'append(s, l...)'. -/
theorem row_cat (w : World) (lo : Nat) (ty : TypeId) (s v : Value) (X Y : List Nat) (h : w.ownsRow lo 3 1 s X.length (natV X)) (hv : w.ownsRow lo 3 1 v Y.length (natV Y)) (hb : lo ≤ w.heap.size) (hl : X.length + Y.length ≤ 100000) :
    ∃ s' w', (Builtin.append_ #[70, 70] ty #[s, v]).run Tryz.prog w = .ok s' w' ∧ w'.ownsRow lo 3 1 s' (X ++ Y).length (natV (X ++ Y)) ∧ Keeps (fun k => s.ownBlock = some k) w w' ∧ (s'.ownBlock = s.ownBlock ∨ ∀ b, s'.ownBlock = some b → w.heap.size ≤ b) := by
  obtain ⟨i0, hi, hz0, hz1, hz2⟩ := info_parts Tryz.twInt
  rcases hv.2 with ⟨rfl, h0⟩ | ⟨g, cap, cur, rfl, hlo, hg, hnc, hcm, hcs, htk⟩
  · have hY : Y = [] := List.eq_nil_of_length_eq_zero h0
    subst hY
    refine ⟨s, w, ?_, by simpa using h, Keeps.refl _ _, .inl rfl⟩
    rcases h.2 with ⟨rfl, h1⟩ | ⟨g, cap, cur, rfl, _, _, hnc, _⟩
    · simp [Builtin.append_, run_underlying Tryz.underlying70, sizeOf, typeInfo, zeroValue, hi, hz0, Builtin.lenOf, Builtin.firstCells]
    · simp [Builtin.append_, run_underlying Tryz.underlying70, sizeOf, typeInfo, zeroValue, hi, hz0, Builtin.lenOf, Builtin.firstCells, storeCells, hnc]
  · obtain ⟨v', w1, hr, ho, hgr, hm, -⟩ := run_append_moved (P := Tryz.prog) w lo 70 ty 3 i0 _ 1 8 Tryz.underlying70 hi hz0 hz1 hz2 rfl (by decide) s X.length _ h
      ⟨g, 0, none⟩ Y.length cap (natV Y) (by rw [natV_len]; omega) (by
        intro j u hu
        rw [show (⟨g, 0, none⟩ : Addr).add j = ⟨g, j, none⟩ by unfold Addr.add; split <;> simp_all, blk_cell hg, ← Array.getElem?_toList]
        rw [← htk, List.getElem?_take] at hu
        split at hu
        · exact hu
        · cases hu) (by
        intro u hu
        simp [natV] at hu
        obtain ⟨k, _, rfl⟩ := hu
        rfl) (by unfold maxLen; omega) (by omega) hb
    refine ⟨v', w1, hr, by rw [List.length_append]; simpa [natV] using ho, (Keeps.refl _ w).andGrown hgr (fun k e => .inl e), ?_⟩
    rcases hm with hm | ⟨g', e, hg'⟩
    · exact .inl hm
    · exact .inr (fun b hb => by rw [e] at hb; obtain rfl := Option.some.inj hb; exact hg')
theorem sort_nat (l : List Nat) : (l.map (fun k : Nat => (k : Int))).mergeSort (fun x y => decide (x ≤ y)) = (sortN l).map (fun k : Nat => (k : Int)) := by
  unfold sortN
  rw [List.map_mergeSort (s := fun (x y : Int) => decide (x ≤ y)) (fun a _ b _ => by simp)]
/-- slices.Sort of a row of numbers. -/
theorem sort_row (v : Value) (l : List Nat) (lo : Nat) (w : World) (h : w.ownsRow lo 3 1 v l.length (natV l)) (hl : l.length ≤ 100000) :
    Calls Tryz.prog 45 #[v] w fun e w' => e = .returned (.tuple #[]) ∧ w'.ownsRow lo 3 1 v l.length (natV (sortN l)) ∧ Keeps (fun k => v.ownBlock = some k) w w' := by
  rcases h.2 with ⟨rfl, h0⟩ | ⟨g, cap, cur, rfl, hlo, hg, hnc, hcm, hcs, htk⟩
  · have hY : l = [] := List.eq_nil_of_length_eq_zero h0
    subst hY
    have := AnyM.slices_Sort_int_none Tryz.sortA none 0 w
    refine this.mono ?_
    rintro e w' ⟨rfl, rfl⟩
    exact ⟨rfl, by simpa [sortN] using h, Keeps.refl _ _⟩
  · have hz : natV l = (l.map (fun k : Nat => (k : Int))).map (Value.int .i64) := by simp [natV]
    have hH : Holds (Value.int .i64) w g 0 (l.map (fun k : Nat => (k : Int))).toArray := holds_of_block_i hg (by rw [List.length_map, ← hz]; simpa using htk)
    have hc := AnyM.slices_Sort_int Tryz.sortA g 0 cap (l.map (fun k : Nat => (k : Int))) w hH (blk_lt hg) (by rw [List.length_map]; omega)
    rw [List.length_map] at hc
    refine hc.mono ?_
    rintro e w' ⟨rfl, nn, os, rfl⟩
    refine ⟨rfl, ?_, (Keeps.refl _ w).andGrown (grownBy_sorted_i _) (fun k e => .inl e)⟩
    have := ownsRow_sorted_i (n := nn) (os := os) (ss := l.map (fun k : Nat => (k : Int))) (ts := (l.map (fun k : Nat => (k : Int))).mergeSort fun x y => decide (x ≤ y)) (by simp) hlo hg (by rw [List.length_map]; exact hnc) hcm hcs
    rw [List.length_map, sort_nat] at this
    have e2 : ((sortN l).map (fun k : Nat => (k : Int))).map encZ = natV (sortN l) := by simp [natV]
    rw [sort_nat]
    rw [e2] at this
    exact this
end Go.Proofs.YtbdpdojeaahpjaaGreatDoor
/-! dag's trace: froms. -/
namespace Go.Proofs.YtbdpdojeaahpjaaGreatDoor
set_option linter.unusedVariables false
set_option maxRecDepth 20000
open Go.RowKit Go.HeapKit Go.PlainOps

/-- What a task's instruction waits for, its children aside. -/
def froW (T : Trc) (num : Nat) (work : Int) (par : Option Nat) : List Nat := if work = 0 then (match par with | some p => [T.lasts.getD p 0] | none => []) else [T.lasts.getD num 0]
theorem froms_fr (T : Trc) (num : Nat) (work : Int) (par : Option Nat) (i : Ins) : fromsV T num work par i = if i.kind = 6 then sortN (froW T num work par ++ T.ends.getD num []) else froW T num work par := rfl
theorem froW_one (T : Trc) (num : Nat) (work : Int) (par : Option Nat) : (froW T num work par).length ≤ 1 := by
  unfold froW
  cases par <;> simp only <;> split <;> simp
theorem turn_no : ¬ trT 97 := by unfold trT; decide
/-- A task as it is shown: its number, its work, its parent's number. -/
structure Sh (w : World) (X num : Nat) (work : Int) (par : Option Nat) : Prop where
  num : w.cell? ⟨X, 30, none⟩ = some (.int .i64 (num : Int))
  work : w.cell? ⟨X, 31, none⟩ = some (.int .i64 work)
  blk : ∃ cs, w.heap[X]? = some (.cells cs 97 (0, 0))
  non : par = none → w.cell? ⟨X, 28, none⟩ = some (.pointer none)
  som : ∀ p, par = some p → ∃ P, w.cell? ⟨X, 28, none⟩ = some (.pointer (some ⟨P, 0, none⟩)) ∧ w.cell? ⟨P, 30, none⟩ = some (.int .i64 (p : Int)) ∧ ∃ cs, w.heap[P]? = some (.cells cs 97 (0, 0))
theorem Sh.kept {w w' : World} {lo X num : Nat} {work : Int} {par : Option Nat} (h : Sh w X num work par) (hk : Keeps (TyS lo w) w w') : Sh w' X num work par := by
  obtain ⟨cs, hb⟩ := h.blk
  have hX : ¬ TyS lo w X := TyS.other hb turn_no
  refine ⟨hk.cell h.num hX, hk.cell h.work hX, ⟨cs, blk_kept hb hk hX⟩, fun e => hk.cell (h.non e) hX, fun p e => ?_⟩
  obtain ⟨P, h1, h2, cs2, hb2⟩ := h.som p e
  have hP : ¬ TyS lo w P := TyS.other hb2 turn_no
  exact ⟨P, hk.cell h1 hX, hk.cell h2 hP, cs2, blk_kept hb2 hk hP⟩
section
variable {lo : Nat} {w : World} {R : Nat} {T : Trc} {ev lv xv : Value} {vs : List Value}
/-- All blocks of a trace lie below N. -/
structure Far (N R : Nat) (ev lv xv : Value) (vs : List Value) : Prop where
  r : R < N
  e : ∀ b, ev.ownBlock = some b → b < N
  l : ∀ b, lv.ownBlock = some b → b < N
  x : ∀ b, xv.ownBlock = some b → b < N
  v : ∀ (k : Nat) v b, vs[k]? = some v → v.ownBlock = some b → b < N
theorem IsTr.far (h : IsTr lo w R T ev lv xv vs) : Far w.heap.size R ev lv xv vs :=
  ⟨blk_lt h.blk, fun b e => (low_of h.es e).2, fun b e => (low_of h.las e).2, fun b e => (low_of h.out e).2, fun k v b hv e => by
    have hlt := (List.getElem?_eq_some_iff.1 hv).1
    have := h.len
    exact (low_of (h.inn k (T.ends[k]'(by omega)) v (by simp) hv) e).2⟩
theorem Far.clear {N R : Nat} {ev lv xv : Value} {vs : List Value} (h : Far N R ev lv xv vs) (num : Nat) : Far N R ev lv xv (vs.set num (.slice none 0 0)) :=
  ⟨h.r, h.e, h.l, h.x, fun k v b hv e => by
    by_cases hk : num = k
    · subst hk
      by_cases hl : num < vs.length
      · rw [List.getElem?_set_self hl] at hv
        obtain rfl := Option.some.inj hv
        simp [Value.ownBlock] at e
      · rw [List.getElem?_eq_none (by simp; omega)] at hv
        cases hv
    · rw [List.getElem?_set_ne hk] at hv
      exact h.v k v b hv e⟩
theorem IsTr.keptF {w' : World} {N : Nat} {S : Nat → Prop} (h : IsTr lo w R T ev lv xv vs) (hf : Far N R ev lv xv vs) (hk : Keeps S w w') (hS : ∀ b, b < N → ¬ S b) : IsTr lo w' R T ev lv xv vs :=
  ⟨blk_kept h.blk hk (hS R hf.r), h.low, hk.own h.es (fun q e => hS q (hf.e q e)), hk.own h.las (fun q e => hS q (hf.l q e)), hk.own h.out (fun q e => hS q (hf.x q e)), fun k e v he hv => hk.own (h.inn k e v he hv) (fun q eq => hS q (hf.v k v q hv eq)), h.ndl, h.nd⟩
end
section
variable {lo : Nat} {w : World} {R : Nat} {T : Trc} {ev lv xv : Value} {vs : List Value}
theorem IsTr.openC {w1 : World} (h : IsTr lo w R T ev lv xv vs) (k1 : Keeps None w w1) {gA : Nat} (ty : TypeId) (hA : w1.heap[gA]? = some (.cells #[.int .i64 0] 3 (0, 0))) (hlo : lo ≤ w.heap.size) (hb : T.lasts.length ≤ 10000) :
    ∃ gl cl w2, (Builtin.append_ #[70, 70] ty #[lv, .slice (some ⟨gA, 0, none⟩) 1 1]).run Tryz.prog w1 = .ok (.slice (some ⟨gl, 0, none⟩) (T.lasts.length + 1) cl) w2 ∧ w2.ownsRow lo 3 1 (.slice (some ⟨gl, 0, none⟩) (T.lasts.length + 1) cl) (T.lasts.length + 1) (natV (T.lasts ++ [0])) ∧ Keeps (fun k => lv.ownBlock = some k) w1 w2 ∧ ((Value.slice (some ⟨gl, 0, none⟩) (T.lasts.length + 1) cl).ownBlock = lv.ownBlock ∨ ∀ b, (Value.slice (some ⟨gl, 0, none⟩) (T.lasts.length + 1) cl).ownBlock = some b → w1.heap.size ≤ b) ∧ w2.cell? ⟨R, 3, none⟩ = some xv ∧ ∀ (g : Nat) o, w1.heap[g]? = some (.cells o 70 (0, 0)) → w2.heap[g]? = some (.cells o 70 (0, 0)) := by
  have h1 := h.more k1
  obtain ⟨g, c, w2, hr, ho, hk, hm⟩ := row_app w1 lo 70 ty 3 1 8 _ Tryz.underlying70 Tryz.twInt rfl (by decide) lv T.lasts.length (natV T.lasts) h1.las gA _ hA rfl (fun u hu => by simp at hu; subst hu; rfl) (by have := k1.size; omega) (by omega) (by unfold maxLen; omega)
  refine ⟨_, _, w2, hr, by simpa [natV] using ho, hk, ?_, ?_, fun g o hg => blk_kept hg hk (own_not h1.las hg (by decide))⟩
  · rcases hm with hm | hm
    · exact .inl hm.symm
    · exact .inr (fun b hb => by simp [Value.ownBlock] at hb; omega)
  · exact (blk_cell (blk_kept h1.blk hk (own_not h1.las h1.blk (by decide))) 3).trans rfl
theorem IsTr.openD {w1 w2 w3 : World} (h : IsTr lo w R T ev lv xv vs) (k1 : Keeps None w w1) {lv' : Value} (rl : w2.ownsRow lo 3 1 lv' (T.lasts.length + 1) (natV (T.lasts ++ [0]))) (kl : Keeps (fun k => lv.ownBlock = some k) w1 w2) (ml : lv'.ownBlock = lv.ownBlock ∨ ∀ b, lv'.ownBlock = some b → w1.heap.size ≤ b)
    (k3 : Keeps None w2 w3) {gB : Nat} (ty : TypeId) (hB : w3.heap[gB]? = some (.cells #[.slice none 0 0] 70 (0, 0))) (hlo : lo ≤ w.heap.size) (hb : T.ends.length ≤ 10000) :
    ∃ gx cx w4, (Builtin.append_ #[71, 71] ty #[xv, .slice (some ⟨gB, 0, none⟩) 1 1]).run Tryz.prog w3 = .ok (.slice (some ⟨gx, 0, none⟩) (T.ends.length + 1) cx) w4 ∧ w4.cell? ⟨R, 2, none⟩ = some lv ∧ w4.cell? ⟨R, 3, none⟩ = some xv ∧ w4.frozen? ⟨R, 2, none⟩ = false ∧ w4.frozen? ⟨R, 3, none⟩ = false ∧
      IsTr lo ((w4.setCell ⟨R, 2, none⟩ lv').setCell ⟨R, 3, none⟩ (.slice (some ⟨gx, 0, none⟩) (T.ends.length + 1) cx)) R { T with lasts := T.lasts ++ [0], ends := T.ends ++ [[]] } ev lv' (.slice (some ⟨gx, 0, none⟩) (T.ends.length + 1) cx) (vs ++ [.slice none 0 0]) ∧ Keeps (TyS lo w) w ((w4.setCell ⟨R, 2, none⟩ lv').setCell ⟨R, 3, none⟩ (.slice (some ⟨gx, 0, none⟩) (T.ends.length + 1) cx)) ∧
      IsTr lo ((w4.setCell ⟨R, 3, none⟩ (.slice (some ⟨gx, 0, none⟩) (T.ends.length + 1) cx)).setCell ⟨R, 2, none⟩ lv') R { T with lasts := T.lasts ++ [0], ends := T.ends ++ [[]] } ev lv' (.slice (some ⟨gx, 0, none⟩) (T.ends.length + 1) cx) (vs ++ [.slice none 0 0]) ∧ Keeps (TyS lo w) w ((w4.setCell ⟨R, 3, none⟩ (.slice (some ⟨gx, 0, none⟩) (T.ends.length + 1) cx)).setCell ⟨R, 2, none⟩ lv') := by
  have h1 := h.more k1
  have hR2 := blk_kept h1.blk kl (own_not h1.las h1.blk (by decide))
  have x2 : w2.ownsRow lo 70 1 xv T.ends.length vs := kl.own h1.out (fun q e e2 => own_not2 h1.las h1.out (by decide) e2 e)
  have hR3 := blk_kept hR2 k3 (fun f => f)
  have x3 := k3.own x2 (fun _ _ f => f)
  obtain ⟨g, c, w4, hr, ho, hk, hm⟩ := row_app w3 lo 71 ty 70 1 24 _ Tryz.underlying71 Tryz.twInts rfl (by decide) xv T.ends.length vs x3 gB _ hB rfl (fun u hu => by simp at hu; subst hu; rfl) (by have := k1.size; have := kl.size; have := k3.size; omega) (by omega) (by unfold maxLen; omega)
  have hR4 := blk_kept hR3 hk (own_not x3 hR3 (by decide))
  have kA : Keeps (· = R) w4 ((w4.setCell ⟨R, 2, none⟩ lv').setCell ⟨R, 3, none⟩ (.slice (some ⟨g, 0, none⟩) (T.ends.length + 1) c)) := ((Keeps.refl (· = R) w4).andSet (x := ⟨R, 2, none⟩) (.inl rfl) _).andSet (x := ⟨R, 3, none⟩) (.inl rfl) _
  have kB : Keeps (· = R) w4 ((w4.setCell ⟨R, 3, none⟩ (.slice (some ⟨g, 0, none⟩) (T.ends.length + 1) c)).setCell ⟨R, 2, none⟩ lv') := ((Keeps.refl (· = R) w4).andSet (x := ⟨R, 3, none⟩) (.inl rfl) _).andSet (x := ⟨R, 2, none⟩) (.inl rfl) _
  have qA := h.opened k1 rl kl ml k3 ho hk kA (by rw [blk_set (blk_set hR4 _) _]; rfl)
  have qB := h.opened k1 rl kl ml k3 ho hk kB (by rw [blk_set (blk_set hR4 _) _]; rfl)
  exact ⟨_, _, w4, hr, (blk_cell hR4 2).trans rfl, (blk_cell hR4 3).trans rfl, blk_free hR4 2, blk_free hR4 3, qA.1, qA.2, qB.1, qB.2⟩
end
set_option maxHeartbeats 8000000 in
theorem froms_any (lo R X num : Nat) (work : Int) (par : Option Nat) (i : Ins) (T : Trc) (w : World) (hT : Tr lo w R T) (hs : Sh w X num work par) (hlo : lo ≤ w.heap.size) (hw : 0 ≤ work) (hn : num < (openT T work).lasts.length) (h2 : T.lasts.length = T.ends.length) (hp : ∀ p, par = some p → p < T.lasts.length) (hb : T.lasts.length ≤ 10000) (hbe : ∀ e ∈ T.ends, e.length ≤ 10000) :
    Calls Tryz.prog 34 #[.pointer (some ⟨R, 0, none⟩), .pointer (some ⟨X, 0, none⟩), .agg #[.int .i64 i.kind, .int .i64 i.a, .int .i64 i.b, .int .i64 i.c, .int .i64 i.k]] w fun e w' => ∃ v, e = .returned v ∧ Tr lo w' R (clearT (openT T work) num i) ∧ w'.ownsRow lo 3 1 v (fromsV (openT T work) num work par i).length (natV (fromsV (openT T work) num work par i)) ∧ Keeps (TyS lo w) w w' := by
  obtain ⟨J, hJ⟩ : ∃ J, J = w.heap.size := ⟨_, rfl⟩
  have hal := Keeps.alloc None w (.cells #[.int .i64 i.kind, .int .i64 i.a, .int .i64 i.b, .int .i64 i.c, .int .i64 i.k] 37)
  have bJ := heap_alloc_new w (.cells #[.int .i64 i.kind, .int .i64 i.a, .int .i64 i.b, .int .i64 i.c, .int .i64 i.k] 37)
  obtain ⟨W, hW⟩ : ∃ W, W = w.alloc (.cells #[.int .i64 i.kind, .int .i64 i.a, .int .i64 i.b, .int .i64 i.c, .int .i64 i.k] 37) := ⟨_, rfl⟩
  rw [← hW] at hal bJ
  rw [← hJ] at bJ
  obtain ⟨ev, lv, xv, vs, hT⟩ := hT
  have hTW := hT.more hal
  have hsW := hs.kept (TyS.new (lo := lo) hal)
  have HC : Hid (Keeps None w W ∧ lo ≤ W.heap.size ∧ num < (openT T work).lasts.length ∧ T.lasts.length = T.ends.length ∧ (∀ p, par = some p → p < T.lasts.length) ∧ T.lasts.length ≤ 10000 ∧ (∀ e ∈ T.ends, e.length ≤ 10000)) := ⟨hal, by have := hal.size; omega, hn, h2, hp, hb, hbe⟩
  have HW : Hid (IsTr lo W R T ev lv xv vs ∧ Sh W X num work par ∧ W.heap[J]? = some (.cells #[.int .i64 i.kind, .int .i64 i.a, .int .i64 i.b, .int .i64 i.c, .int .i64 i.k] 37 (0, 0))) := ⟨hTW, hsW, bJ⟩
  have cw : W.cell? ⟨X, 31, none⟩ = some (.int .i64 work) := hsW.work
  clear hT hs hal bJ hTW hsW hn h2 hp hb hbe hlo
  go_enter Tryz.func34, Tryz.ntmps34
  go_upto_region 1 with fail
  rw [← hW, ← hJ]
  clear hW hJ
  go_upto_if 12 with fail
  go_cut [] (fun wx => ∃ ev lv xv vs, IsTr lo wx R (openT T work) ev lv xv vs ∧ Keeps (TyS lo W) W wx)
  case first =>
    by_cases hw0 : work = 0
    · have t0 : (work == 0) = true := by simp [hw0]
      obtain ⟨h1, h2, h3⟩ := HW.out
      have r2 : W.cell? ⟨R, 2, none⟩ = some lv := (blk_cell h1.blk 2).trans rfl
      have r3 : W.cell? ⟨R, 3, none⟩ = some xv := (blk_cell h1.blk 3).trans rfl
      obtain ⟨hlo, hb2, hbx⟩ : lo ≤ W.heap.size ∧ T.lasts.length ≤ 10000 ∧ T.ends.length ≤ 10000 := ⟨HC.out.2.1, HC.out.2.2.2.2.2.1, by have := HC.out.2.2.2.1; have := HC.out.2.2.2.2.2.1; omega⟩
      have eT : openT T work = { T with lasts := T.lasts ++ [0], ends := T.ends ++ [[]] } := by unfold openT; rw [if_pos hw0]
      obtain ⟨S, hS⟩ : ∃ S, S = W.heap.size := ⟨_, rfl⟩
      have dW := Keeps.drew None W
      -- first A, then B, then both appends
      have k1 : Keeps None W ((W.drew.alloc (.cells #[.int .i64 0] 3)).alloc (.cells #[.slice none 0 0] 70)) := (dW.andAlloc _).andAlloc _
      have a1 : ((W.drew.alloc (.cells #[.int .i64 0] 3)).alloc (.cells #[.slice none 0 0] 70)).heap[S]? = some (.cells #[.int .i64 0] 3 (0, 0)) := by
        have := (two_boxes W.drew #[.int .i64 0] #[.slice none 0 0] 3 70).1
        rw [hS]; exact this
      have b1 : ((W.drew.alloc (.cells #[.int .i64 0] 3)).alloc (.cells #[.slice none 0 0] 70)).heap[S + 1]? = some (.cells #[.slice none 0 0] 70 (0, 0)) := by
        have := (two_boxes W.drew #[.int .i64 0] #[.slice none 0 0] 3 70).2
        rw [hS]; exact this
      obtain ⟨gl1, cl1, c1, hc1, rl1, kl1, ml1, x1, bk1⟩ := h1.openC k1 70 a1 hlo hb2
      obtain ⟨gx1, cx1, d1, hd1, e11, e12, e13, e14, p1, p2, p3, p4⟩ := h1.openD k1 rl1 kl1 ml1 (Keeps.refl None c1) 71 (bk1 _ _ b1) hlo hbx
      -- A, append, B, append
      have k2 : Keeps None W (W.drew.alloc (.cells #[.int .i64 0] 3)) := dW.andAlloc _
      have a2 : (W.drew.alloc (.cells #[.int .i64 0] 3)).heap[S]? = some (.cells #[.int .i64 0] 3 (0, 0)) := by rw [hS]; exact heap_alloc_new W.drew _
      obtain ⟨gl2, cl2, c2, hc2, rl2, kl2, ml2, x2, bk2⟩ := h1.openC k2 70 a2 hlo hb2
      have x2a := (Keeps.alloc None c2 (.cells #[.slice none 0 0] 70)).cell x2 (fun f => f)
      obtain ⟨gx2, cx2, d2, hd2, e21, e22, e23, e24, p5, p6, p7, p8⟩ := h1.openD k2 rl2 kl2 ml2 (Keeps.alloc None c2 (.cells #[.slice none 0 0] 70)) 71 (heap_alloc_new c2 _) hlo hbx
      -- B, A, both appends
      have k3 : Keeps None W ((W.drew.alloc (.cells #[.slice none 0 0] 70)).alloc (.cells #[.int .i64 0] 3)) := (dW.andAlloc _).andAlloc _
      have a3 : ((W.drew.alloc (.cells #[.slice none 0 0] 70)).alloc (.cells #[.int .i64 0] 3)).heap[S + 1]? = some (.cells #[.int .i64 0] 3 (0, 0)) := by
        have := (two_boxes W.drew #[.slice none 0 0] #[.int .i64 0] 70 3).2
        rw [hS]; exact this
      have b3 : ((W.drew.alloc (.cells #[.slice none 0 0] 70)).alloc (.cells #[.int .i64 0] 3)).heap[S]? = some (.cells #[.slice none 0 0] 70 (0, 0)) := by
        have := (two_boxes W.drew #[.slice none 0 0] #[.int .i64 0] 70 3).1
        rw [hS]; exact this
      obtain ⟨gl3, cl3, c3, hc3, rl3, kl3, ml3, x3, bk3⟩ := h1.openC k3 70 a3 hlo hb2
      obtain ⟨gx3, cx3, d3, hd3, e31, e32, e33, e34, p9, p10, p11, p12⟩ := h1.openD k3 rl3 kl3 ml3 (Keeps.refl None c3) 71 (bk3 _ _ b3) hlo hbx
      have sA2 := (Keeps.alloc None W (.cells #[.int .i64 0] 3)).cell r2 (fun f => f)
      have sA3 := (Keeps.alloc None W (.cells #[.int .i64 0] 3)).cell r3 (fun f => f)
      have sB2 := (Keeps.alloc None W (.cells #[.slice none 0 0] 70)).cell r2 (fun f => f)
      have sB3 := (Keeps.alloc None W (.cells #[.slice none 0 0] 70)).cell r3 (fun f => f)
      have sAB2 := (Keeps.alloc None (W.alloc (.cells #[.int .i64 0] 3)) (.cells #[.slice none 0 0] 70)).cell sA2 (fun f => f)
      have sAB3 := (Keeps.alloc None (W.alloc (.cells #[.int .i64 0] 3)) (.cells #[.slice none 0 0] 70)).cell sA3 (fun f => f)
      have sBA2 := (Keeps.alloc None (W.alloc (.cells #[.slice none 0 0] 70)) (.cells #[.int .i64 0] 3)).cell sB2 (fun f => f)
      have sBA3 := (Keeps.alloc None (W.alloc (.cells #[.slice none 0 0] 70)) (.cells #[.int .i64 0] 3)).cell sB3 (fun f => f)
      have HP : Hid (_ ∧ _ ∧ _ ∧ _) := And.intro p1 (And.intro p2 (And.intro p3 p4))
      have HP2 : Hid (_ ∧ _ ∧ _ ∧ _) := And.intro p5 (And.intro p6 (And.intro p7 p8))
      have HP3 : Hid (_ ∧ _ ∧ _ ∧ _) := And.intro p9 (And.intro p10 (And.intro p11 p12))
      rw [hS] at hc1 hd1 hc2 hc3 hd3
      clear p1 p2 p3 p4 p5 p6 p7 p8 p9 p10 p11 p12 h1 h2 h3 rl1 kl1 ml1 bk1 rl2 kl2 ml2 bk2 rl3 kl3 ml3 bk3 k1 k2 k3 a1 a2 a3 b1 b3 dW hS hlo hb2 hbx
      have ET : Hid _ := eT
      clear eT hw0
      go_wp2_with fail
      go_region_law (first
        | refine step_append_run rfl (.tmp 18) (.tmp 19) 70 70 rfl (by simp [Act.eval]) (by simp [Act.eval]) hc1 ?_
        | refine step_append_run rfl (.tmp 18) (.tmp 19) 70 70 rfl (by simp [Act.eval]) (by simp [Act.eval]) hc2 ?_
        | refine step_append_run rfl (.tmp 18) (.tmp 19) 70 70 rfl (by simp [Act.eval]) (by simp [Act.eval]) hc3 ?_
        | refine step_append_run rfl (.tmp 24) (.tmp 25) 71 71 rfl (by simp [Act.eval]) (by simp [Act.eval]) hd1 ?_
        | refine step_append_run rfl (.tmp 24) (.tmp 25) 71 71 rfl (by simp [Act.eval]) (by simp [Act.eval]) hd2 ?_
        | refine step_append_run rfl (.tmp 24) (.tmp 25) 71 71 rfl (by simp [Act.eval]) (by simp [Act.eval]) hd3 ?_)
      all_goals (go_wp2_with fail; go_meet)
      all_goals (rw [ET.out]; first
        | exact ⟨_, _, _, _, HP.out.1, HP.out.2.1⟩
        | exact ⟨_, _, _, _, HP.out.2.2.1, HP.out.2.2.2⟩
        | exact ⟨_, _, _, _, HP2.out.1, HP2.out.2.1⟩
        | exact ⟨_, _, _, _, HP2.out.2.2.1, HP2.out.2.2.2⟩
        | exact ⟨_, _, _, _, HP3.out.1, HP3.out.2.1⟩
        | exact ⟨_, _, _, _, HP3.out.2.2.1, HP3.out.2.2.2⟩)
    · have t0 : (work == 0) = false := by simp [hw0]
      have eT : openT T work = T := by unfold openT; rw [if_neg hw0]
      have ET : Hid _ := eT
      clear eT hw0
      go_wp2_with fail
      go_meet
      rw [ET.out]
      exact ⟨_, _, _, _, HW.out.1, Keeps.refl _ _⟩
  case rest =>
  obtain ⟨ev1, lv1, xv1, vs1, hT1, hk1⟩ := hcut
  obtain ⟨T1, eT1⟩ : ∃ T1, T1 = openT T work := ⟨_, rfl⟩
  have hl1 : T1.lasts.length = T1.ends.length ∧ T1.lasts.length ≤ 10001 ∧ (∀ e ∈ T1.ends, e.length ≤ 10000) ∧ num < T1.lasts.length ∧ ∀ p, par = some p → p < T1.lasts.length := by
    obtain ⟨q1, q2, q3, q4, q5, q6, q7⟩ := HC.out
    rw [← eT1] at q3
    rw [eT1] at q3 ⊢
    unfold openT at q3 ⊢
    split at q3
    · rename_i h0
      rw [if_pos h0]
      refine ⟨by simp; exact q4, by simp; exact q6, fun e he => ?_, q3, fun p hp => by have := q5 p hp; simp; omega⟩
      simp at he
      rcases he with he | rfl
      · exact q7 e he
      · simp
    · rename_i h0
      rw [if_neg h0]
      exact ⟨q4, by omega, q7, q3, q5⟩
  rw [← eT1] at hT1
  obtain ⟨l1, l2, l3, l4, l5⟩ := hl1
  obtain ⟨gl, cl, rfl⟩ := own_some hT1.las (by omega)
  obtain ⟨gx, cx, rfl⟩ := own_some hT1.out (by omega)
  have hs1 := HW.out.2.1.kept hk1
  have bJ1 := blk_kept HW.out.2.2 hk1 (TyS.other HW.out.2.2 (by unfold trT; decide))
  obtain ⟨u, hu⟩ : ∃ u, vs1[num]? = some u := ⟨vs1[num]'(by have := hT1.len; omega), by simp⟩
  obtain ⟨en, hen⟩ : ∃ e, T1.ends[num]? = some e := ⟨T1.ends[num]'(by omega), by simp⟩
  obtain ⟨x0, hx0⟩ : ∃ x, T1.lasts[num]? = some x := ⟨T1.lasts[num]'l4, by simp⟩
  have hlo1 : lo ≤ wc.heap.size := by have := hk1.size; have := HC.out.2.1; omega
  obtain ⟨fr, hfr⟩ : ∃ fr : List Nat, fr = froW T1 num work par := ⟨_, rfl⟩
  have cw1 := hs1.work
  have cn1 := hs1.num
  have r2 : wc.cell? ⟨R, 2, none⟩ = some (.slice (some ⟨gl, 0, none⟩) T1.lasts.length cl) := (blk_cell hT1.blk 2).trans rfl
  have H1 : Hid (IsTr lo wc R T1 ev1 (.slice (some ⟨gl, 0, none⟩) T1.lasts.length cl) (.slice (some ⟨gx, 0, none⟩) T1.ends.length cx) vs1 ∧ Keeps (TyS lo W) W wc ∧ Sh wc X num work par ∧ wc.heap[J]? = some (.cells #[.int .i64 i.kind, .int .i64 i.a, .int .i64 i.b, .int .i64 i.c, .int .i64 i.k] 37 (0, 0)) ∧ T1 = openT T work ∧ vs1[num]? = some u ∧ T1.ends[num]? = some en ∧ lo ≤ wc.heap.size ∧ en.length ≤ 10000 ∧ num < T1.ends.length) := ⟨hT1, hk1, hs1, bJ1, eT1, hu, hen, hlo1, l3 en (List.mem_of_getElem? hen), by omega⟩
  have HFR : Hid _ := hfr
  obtain ⟨n1, hn1⟩ : ∃ n1, n1 = T1.lasts.length := ⟨_, rfl⟩
  obtain ⟨W1, hW1⟩ : ∃ W1, W1 = wc := ⟨_, rfl⟩
  rw [← hW1] at hT1 hk1 hs1 bJ1 hlo1 cw1 cn1 r2 H1 ⊢
  clear hW1
  have fr1 : fr.length ≤ 1 := by rw [hfr]; exact froW_one _ _ _ _
  have HL : Hid (T1.lasts.length = T1.ends.length ∧ fr.length ≤ 1) := ⟨l1, fr1⟩
  clear l1 l2 l3 hn1 fr1 eT1 hen hu
  have empty : ∀ w : World, w.ownsRow lo 3 1 (.slice none 0 0) 0 (natV []) := fun w => ⟨rfl, .inl ⟨rfl, rfl⟩⟩
  have oneApp : ∀ (x : Nat), ∃ g c w2, (Builtin.append_ #[70, 70] 70 #[.slice none 0 0, .slice (some ⟨W1.heap.size, 0, none⟩) 1 1]).run Tryz.prog (W1.drew.alloc (.cells #[.int .i64 (x : Int)] 3)) = .ok (.slice (some ⟨g, 0, none⟩) 1 c) w2 ∧ w2.ownsRow lo 3 1 (.slice (some ⟨g, 0, none⟩) 1 c) 1 (natV [x]) ∧ Keeps None W1 w2 ∧ W1.heap.size ≤ g := fun x => by
    obtain ⟨g, c, w2, hr, ho, hk, hm⟩ := row_app (W1.drew.alloc (.cells #[.int .i64 (x : Int)] 3)) lo 70 70 3 1 8 _ Tryz.underlying70 Tryz.twInt rfl (by decide) (.slice none 0 0) 0 [] (empty _) W1.heap.size _ (heap_alloc_new W1.drew _) rfl (fun u hu => by simp at hu; subst hu; rfl) (by have := ((Keeps.drew None W1).andAlloc (.cells #[.int .i64 (x : Int)] 3)).size; omega) (by omega) (by unfold maxLen; omega)
    refine ⟨g, c, w2, hr, by simpa [natV] using ho, ((Keeps.drew None W1).andAlloc _).trans hk (fun i e hi => by simp [Value.ownBlock] at e), ?_⟩
    rcases hm with hm | hm
    · simp [Value.ownBlock] at hm
    · simp at hm; omega
  have HO : Hid _ := oneApp
  clear oneApp empty
  go_upto_block 0 with fail
  go_cut [7] (fun s7 wx => wx.ownsRow lo 3 1 s7 fr.length (natV fr) ∧ (∀ b, s7.ownBlock = some b → W1.heap.size ≤ b) ∧ Keeps None W1 wx)
  case first =>
    by_cases hw0 : work = 0
    · have t1 : ¬ (0 : Int) < work := by omega
      cases hpar : par with
      | none =>
        have c28 := hs1.non hpar
        have hz : fr = [] := by rw [hfr, hpar]; unfold froW; rw [if_pos hw0]
        have HZ : Hid _ := hz
        clear hz
        clear hT1 hs1 bJ1 hk1 hfr HFR hw0
        go_wp2_with fail
        go_meet
        rw [HZ.out]
        exact ⟨⟨rfl, .inl ⟨rfl, rfl⟩⟩, fun b e => by simp [Value.ownBlock] at e, Keeps.refl _ _⟩
      | some p =>
        obtain ⟨P, c28, cP, csP, bP⟩ := hs1.som p hpar
        obtain ⟨xp, hxp⟩ : ∃ x, T1.lasts[p]? = some x := ⟨T1.lasts[p]'(l5 p hpar), by simp⟩
        have lp := (own_cell1 hT1.las (natV_at hxp)).1
        have hz : fr = [xp] := by rw [hfr, hpar]; unfold froW; rw [if_pos hw0]; simp [List.getD_eq_getElem?_getD, hxp]
        have HZ : Hid _ := hz
        clear hz
        obtain ⟨g, c, w2, hr, ho, hk, hg⟩ := HO.out xp
        have HG : Hid (w2.ownsRow lo 3 1 (.slice (some ⟨g, 0, none⟩) 1 c) 1 (natV [xp]) ∧ Keeps None W1 w2 ∧ W1.heap.size ≤ g) := ⟨ho, hk, hg⟩
        have i1 : (p : Int) < (T1.lasts.length : Int) := by have := l5 p hpar; omega
        have i2 : (0 : Int) ≤ (p : Int) := by omega
        clear hT1 hs1 bJ1 hk1 hfr HFR hw0 ho hk hg bP hxp hx0
        go_wp2_with fail
        go_region_law (refine step_append_run rfl (.tmp 56) (.tmp 70) 70 70 rfl (by simp [Act.eval]) (by simp [Act.eval]) hr ?_)
        all_goals (go_wp2_with fail; go_meet)
        all_goals (rw [HZ.out]; exact ⟨HG.out.1, fun b e => by simp [Value.ownBlock] at e; have := HG.out.2.2; omega, HG.out.2.1⟩)
    · have t1 : (0 : Int) < work := by omega
      have ln := (own_cell1 hT1.las (natV_at hx0)).1
      have hz : fr = [x0] := by rw [hfr]; unfold froW; rw [if_neg hw0]; simp [List.getD_eq_getElem?_getD, hx0]
      have HZ : Hid _ := hz
      clear hz
      obtain ⟨g, c, w2, hr, ho, hk, hg⟩ := HO.out x0
      have HG : Hid (w2.ownsRow lo 3 1 (.slice (some ⟨g, 0, none⟩) 1 c) 1 (natV [x0]) ∧ Keeps None W1 w2 ∧ W1.heap.size ≤ g) := ⟨ho, hk, hg⟩
      have i1 : (num : Int) < (T1.lasts.length : Int) := by omega
      have i2 : (0 : Int) ≤ (num : Int) := by omega
      clear hT1 hs1 bJ1 hk1 hfr HFR hw0 ho hk hg hx0
      go_wp2_with fail
      go_region_law (refine step_append_run rfl (.tmp 37) (.tmp 48) 70 70 rfl (by simp [Act.eval]) (by simp [Act.eval]) hr ?_)
      all_goals (go_wp2_with fail; go_meet)
      all_goals (rw [HZ.out]; exact ⟨HG.out.1, fun b e => by simp [Value.ownBlock] at e; have := HG.out.2.2; omega, HG.out.2.1⟩)
  case rest =>
  obtain ⟨v7, hv7⟩ : ∃ v7, v7 = u7 := ⟨_, rfl⟩
  rw [← hv7] at hcut ⊢
  clear hv7
  obtain ⟨ho7, hb7, hk7⟩ := hcut
  obtain ⟨W2, hW2⟩ : ∃ W2, W2 = wc := ⟨_, rfl⟩
  rw [← hW2] at ho7 hk7 ⊢
  clear hW2
  obtain ⟨hT1, hk1, hs1, bJ1, eT1, hu, hen, hlo1, hel, hne⟩ := H1.out
  have bJ2 := blk_kept bJ1 hk7 (fun f => f)
  have j0 : W2.cell? ⟨J, 0, none⟩ = some (.int .i64 i.kind) := (blk_cell bJ2 0).trans rfl
  have hkw2 : Keeps (TyS lo w) w W2 := TyS.trans (TyS.trans (TyS.new HC.out.1) hk1) (TyS.new hk7)
  have hfin := froms_fr T1 num work par i
  have HE : Hid (T1 = openT T work) := eT1
  clear cw1 cn1 r2
  by_cases h6 : i.kind = 6
  · have t6 : (i.kind == 6) = true := by simp [h6]
    rw [if_pos h6] at hfin
    have hT2 := hT1.more hk7
    have hs2 := hs1.kept (TyS.new (lo := lo) hk7)
    have hu2 := hT2.inn num en u hen hu
    have hD := Keeps.drew None W2
    obtain ⟨s9, w9, hr9, ho9, hk9, hm9⟩ := row_cat W2.drew lo 70 v7 u fr en (hD.own ho7 (fun _ _ f => f)) (hD.own hu2 (fun _ _ f => f)) (by have := hk7.size; show lo ≤ W2.heap.size; omega) (by have := HL.out.2; omega)
    have hb9 : ∀ b, s9.ownBlock = some b → W1.heap.size ≤ b := fun b e => by
      rcases hm9 with hm | hm
      · exact hb7 b (hm ▸ e)
      · have := hm b e; have := hk7.size; have e3 : W2.drew.heap.size = W2.heap.size := rfl; omega
    have k29 : Keeps (fun k => W1.heap.size ≤ k) W2 w9 := (hD.mono (fun _ f _ => f.elim)).trans hk9 (fun k e _ => hb7 k e)
    have hT9 : IsTr lo w9 R T1 ev1 (.slice (some ⟨gl, 0, none⟩) T1.lasts.length cl) (.slice (some ⟨gx, 0, none⟩) T1.ends.length cx) vs1 := hT2.keptF hT1.far k29 (fun b hb e => by have e' : W1.heap.size ≤ b := e; omega)
    have k19 : Keeps None W1 w9 := hk7.trans k29 (fun k e hk => by have e' : W1.heap.size ≤ k := e; omega)
    have hs9 := hs1.kept (TyS.new (lo := lo) k19)
    have r3 : W2.cell? ⟨R, 3, none⟩ = some (.slice (some ⟨gx, 0, none⟩) T1.ends.length cx) := (blk_cell hT2.blk 3).trans rfl
    have cn2 := hs2.num
    obtain ⟨cu, _, _, _⟩ := own_cell1 hT2.out hu
    have i1 : (num : Int) < (T1.ends.length : Int) := by omega
    have i2 : (0 : Int) ≤ (num : Int) := by omega
    have H9 : Hid (IsTr lo w9 R T1 ev1 (.slice (some ⟨gl, 0, none⟩) T1.lasts.length cl) (.slice (some ⟨gx, 0, none⟩) T1.ends.length cx) vs1 ∧ Keeps None W1 w9 ∧ Sh w9 X num work par ∧ w9.ownsRow lo 3 1 s9 (fr ++ en).length (natV (fr ++ en)) ∧ (∀ b, s9.ownBlock = some b → W1.heap.size ≤ b) ∧ vs1[num]? = some u ∧ num < T1.ends.length) := ⟨hT9, k19, hs9, ho9, hb9, hu, hne⟩
    have HR : Hid (fromsV T1 num work par i = sortN (fr ++ en) ∧ (fr ++ en).length ≤ 10001 ∧ clearT T1 num i = { T1 with ends := T1.ends.set num [] } ∧ Keeps (TyS lo w) w W1) := ⟨by rw [hfin, ← hfr, List.getD_eq_getElem?_getD, hen]; rfl, by have := HL.out.2; simp; omega, by unfold clearT; rw [if_pos h6], TyS.trans (TyS.new HC.out.1) hk1⟩
    clear hT2 hs2 hu2 hD ho9 hk9 hm9 hb9 k29 hT9 k19 hs9 hT1 hk1 hs1 bJ1 bJ2 hu hen hfin hkw2 ho7 hb7 hk7 h6 hfr HFR hx0 eT1
    go_upto_region 9 with fail
    go_cut [7] (fun s7 wx => s7 = s9 ∧ Keeps None w9 wx)
    case first =>
      go_region_law (refine step_append_run rfl (.tmp 75) (.tmp 85) 70 70 rfl (by simp [Act.eval]) (by simp [Act.eval]) hr9 ?_)
      all_goals (go_wp2_with fail; go_meet)
      all_goals exact ⟨rfl, by first | exact Keeps.refl _ _ | exact Keeps.drew _ _⟩
    case rest =>
    obtain ⟨e7, kA⟩ := hcut
    obtain ⟨WA, hWA⟩ : ∃ WA, WA = wc := ⟨_, rfl⟩
    rw [← hWA] at kA ⊢
    rw [e7]
    clear hWA e7 r3 cn2 cu hr9 j0
    obtain ⟨hT9, k19, hs9, ho9, hb9, hu, hne2⟩ := H9.out
    have hTA := hT9.more kA
    have hsA := hs9.kept (TyS.new (lo := lo) kA)
    have hoA := kA.own ho9 (fun _ _ f => f)
    have r3 : WA.cell? ⟨R, 3, none⟩ = some (.slice (some ⟨gx, 0, none⟩) T1.ends.length cx) := (blk_cell hTA.blk 3).trans rfl
    have cn2 := hsA.num
    obtain ⟨cu, cfr, cg, cur, hgx⟩ := own_cell1 hTA.out hu
    have cf := cfr num
    obtain ⟨hcl, hkc⟩ := hTA.cleared (num := num) hne2
    have kS : Keeps (· = gx) WA (WA.setCell ⟨gx, num, none⟩ (.slice none 0 0)) := Keeps.setCell (S := (· = gx)) WA (a := ⟨gx, num, none⟩) rfl _
    have hoB := kS.own hoA (fun q e hq => own_not hoA (hq ▸ hgx) (by decide) e)
    have HB : Hid (IsTr lo (WA.setCell ⟨gx, num, none⟩ (.slice none 0 0)) R { T1 with ends := T1.ends.set num [] } ev1 (.slice (some ⟨gl, 0, none⟩) T1.lasts.length cl) (.slice (some ⟨gx, 0, none⟩) T1.ends.length cx) (vs1.set num (.slice none 0 0)) ∧ Keeps (TyS lo WA) WA (WA.setCell ⟨gx, num, none⟩ (.slice none 0 0)) ∧ (WA.setCell ⟨gx, num, none⟩ (.slice none 0 0)).ownsRow lo 3 1 s9 (fr ++ en).length (natV (fr ++ en)) ∧ Keeps None W1 WA) := ⟨hcl, hkc, hoB, k19.trans kA (fun _ f _ => f)⟩
    clear hT9 k19 hs9 ho9 hb9 hu hTA hsA hoA cfr cg hgx hcl hkc kS hoB kA
    go_upto_region 10 with fail
    go_cut [] (fun wx => IsTr lo wx R { T1 with ends := T1.ends.set num [] } ev1 (.slice (some ⟨gl, 0, none⟩) T1.lasts.length cl) (.slice (some ⟨gx, 0, none⟩) T1.ends.length cx) (vs1.set num (.slice none 0 0)) ∧ Keeps (TyS lo WA) WA wx ∧ wx.ownsRow lo 3 1 s9 (fr ++ en).length (natV (fr ++ en)))
    case first =>
      go_region
      all_goals (go_wp2_with fail; go_meet)
      all_goals
        have hd := fun wx => Keeps.drew None wx
        first
        | exact ⟨HB.out.1.more (hd _), HB.out.2.1.andDrew, (hd _).own HB.out.2.2.1 (fun _ _ f => f)⟩
        | exact ⟨HB.out.1, HB.out.2.1, HB.out.2.2.1⟩
    case rest =>
    obtain ⟨hTC, hkC, hoC⟩ := hcut
    obtain ⟨WC, hWC⟩ : ∃ WC, WC = wc := ⟨_, rfl⟩
    rw [← hWC] at hTC hkC hoC ⊢
    clear hWC r3 cn2 cu cf
    have hso := sort_row s9 (fr ++ en) lo WC hoC (by have := HR.out.2.1; omega)
    have HD : Hid (IsTr lo WC R { T1 with ends := T1.ends.set num [] } ev1 (.slice (some ⟨gl, 0, none⟩) T1.lasts.length cl) (.slice (some ⟨gx, 0, none⟩) T1.ends.length cx) (vs1.set num (.slice none 0 0)) ∧ Keeps (TyS lo WA) WA WC ∧ WC.ownsRow lo 3 1 s9 (fr ++ en).length (natV (fr ++ en))) := ⟨hTC, hkC, hoC⟩
    clear hTC hkC hoC
    go_wp2_with fail
    refine hso.mono ?_
    rintro _ w12 ⟨rfl, ho12, hk12⟩
    obtain ⟨hTC, hkC, hoC⟩ := HD.out
    have hT12 := hTC.keptF (H1.out.1.far.clear num) hk12 (fun b hb e => by have := H9.out.2.2.2.2.1 b e; omega)
    have hkk : Keeps (TyS lo w) w w12 := TyS.trans (TyS.trans (TyS.trans HR.out.2.2.2 (TyS.new HB.out.2.2.2)) hkC) (TyS.row hoC (.inr (.inr (.inl rfl))) hk12)
    have HF : Hid (IsTr lo w12 R { T1 with ends := T1.ends.set num [] } ev1 (.slice (some ⟨gl, 0, none⟩) T1.lasts.length cl) (.slice (some ⟨gx, 0, none⟩) T1.ends.length cx) (vs1.set num (.slice none 0 0)) ∧ w12.ownsRow lo 3 1 s9 (fr ++ en).length (natV (sortN (fr ++ en))) ∧ Keeps (TyS lo w) w w12) := ⟨hT12, ho12, hkk⟩
    clear hso ho12 hk12 hTC hkC hoC hT12 hkk
    go_wp2_with fail
    go_ret
    rw [← HE.out]
    refine ⟨_, rfl, ?_, ?_, HF.out.2.2⟩
    · rw [HR.out.2.2.1]; exact ⟨_, _, _, _, HF.out.1⟩
    · rw [HR.out.1]
      have e : (sortN (fr ++ en)).length = (fr ++ en).length := by unfold sortN; simp
      rw [e]
      exact HF.out.2.1
  · have t6 : (i.kind == 6) = false := by simp [h6]
    rw [if_neg h6] at hfin
    have HR : Hid (fromsV T1 num work par i = fr ∧ clearT T1 num i = T1 ∧ IsTr lo W2 R T1 ev1 (.slice (some ⟨gl, 0, none⟩) T1.lasts.length cl) (.slice (some ⟨gx, 0, none⟩) T1.ends.length cx) vs1 ∧ W2.ownsRow lo 3 1 v7 fr.length (natV fr) ∧ Keeps (TyS lo w) w W2) := ⟨by rw [hfin, ← hfr], by unfold clearT; rw [if_neg h6], hT1.more hk7, ho7, hkw2⟩
    clear hT1 hk1 hs1 bJ1 bJ2 hu hen hfin hkw2 ho7 hb7 hk7 h6 hfr HFR hx0 eT1
    go_wp2_with fail
    go_ret
    rw [← HE.out]
    refine ⟨_, rfl, ?_, ?_, HR.out.2.2.2.2⟩
    · rw [HR.out.2.1]; exact ⟨_, _, _, _, HR.out.2.2.1⟩
    · rw [HR.out.1]; exact HR.out.2.2.2.1
end Go.Proofs.YtbdpdojeaahpjaaGreatDoor
