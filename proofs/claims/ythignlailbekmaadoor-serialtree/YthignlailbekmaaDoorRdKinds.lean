import Derived.Test.YthignlailbekmaaDoorRdLoop
/-! What a round of the document's task comes to, kind by kind. -/
namespace Go.Proofs.YthignlailbekmaaDoor
set_option linter.unusedVariables false
set_option maxRecDepth 20000
open Go.RowKit Go.HeapKit Go.PlainOps

def RTaskOk (fs : List Fn) (fa : Option Addr) (fn fc : Nat) (w0 : World) (R n : Nat) : Prop :=
  ∀ (g : Nat) (s : Rn) (t : Tk) (nv : Value) (M : List Nd) (aa : Option Addr) (an ac : Nat) (zs : List Int) (w : World), s.fuel < g → s.fuel ≤ n → IsRR w R (.slice fa fn fc) s.fuel 0 s.depth M nv → Env w0 w fa fn fs R nv → Begins fs true s t → ¬ 4096 < t.depth → M.length = s.nodes.length → NewT t zs → SeenA w aa an zs →
    Calls Tryd.prog 31 #[.pointer (some ⟨R, 0, none⟩), .agg #[.int .i64 t.node.parent, .int .i64 t.node.idx, .int .i64 t.node.func, .int .i64 0, .int .i64 t.node.ped, .int .i64 0, .int .i64 0], .slice aa an ac, .int .i64 t.depth] w (RTo R (.slice fa fn fc) nv w s.tasks M (loopV fs true g (enterS true s t) (enterT s t) 0))
/-- A round, behind what is paid. -/
structure Rnd (fs : List Fn) (b off fn fc : Nat) (w0 w : World) (R N0 : Nat) (nv : Value) (res : Res) (m n k0 : Nat) (M : List Nd) (wr : World) (at_ gg : Nat) (s' : Rn) (t' : Tk) (e : Int) (M' : List Nd) (nv' : Value) (V : World) (i : Ins) (M2 : List Nd) (N : Nat) : Prop where
  L : AtR fs (.slice (some ⟨b, off, none⟩) fn fc) w R (N0 + 1) N0 nv res m n k0 M wr at_ (gg + 1) s' t' e M' nv'
  hX : w.heap.size ≤ N0 + 1
  hw0 : w0.heap.size ≤ N0
  so : StepOk fs N at_ i
  ok : okI i.k
  code : (codeOf fs t'.node.func)[at_]? = some i
  len : (codeOf fs (m : Int)).length = N
  fuel0 : s'.fuel ≠ 0
  run : IsRR V R (.slice (some ⟨b, off, none⟩) fn fc) (payS s').fuel 0 s'.depth M2 nv'
  task : IsRT V (N0 + 1) ((at_ : Int) + 1) e (payT t')
  kept : Keeps (fun k => RFoot R nv' k ∨ k = N0 + 1) wr V
  env : Env w0 V (some ⟨b, off, none⟩) fn fs R nv'
  nblk : ∃ p i wk pd ag vv, V.heap[N0]? = some (.cells #[.int .i64 p, .int .i64 i, .int .i64 (m : Int), .int .i64 wk, .int .i64 pd, .int .i64 ag, .int .i64 vv] 41 (0, 0))
  hRN : R ≠ N0
  m1 : M2.length = s'.nodes.length
  m2 : M2[k0]? = some (payT t').node
  m3 : ∀ j, k0 < j → M2[j]? = s'.nodes[j]?
  m4 : ∀ j, j < k0 → M2[j]? = M'[j]?
  all : AllV fs
  IH : ∀ k, k < n → RTaskOk fs (some ⟨b, off, none⟩) fn fc w0 R k
section
variable {fs : List Fn} {b off fn fc : Nat} {w0 w : World} {R N0 : Nat} {nv : Value} {res : Res} {m n k0 : Nat} {M : List Nd} {wr : World} {at_ gg : Nat} {s' : Rn} {t' : Tk} {e : Int} {M' : List Nd} {nv' : Value} {V : World} {i : Ins} {M2 : List Nd} {N : Nat}
/-- What the loop goes on with. -/
def GoR (fs : List Fn) (b off fn fc : Nat) (w : World) (R N0 : Nat) (nv : Value) (res : Res) (m n k0 : Nat) (M : List Nd) (wy : World) : Prop :=
  (∃ (at_ g' : Nat) (s' : Rn) (t' : Tk) (e : Int) (M' : List Nd) (nv' : Value), AtR fs (.slice (some ⟨b, off, none⟩) fn fc) w R (N0 + 1) N0 nv res m n k0 M wy at_ g' s' t' e M' nv') ∨ OutR (.slice (some ⟨b, off, none⟩) fn fc) w R nv res wy
theorem Rnd.pf (h : Rnd fs b off fn fc w0 w R N0 nv res m n k0 M wr at_ gg s' t' e M' nv' V i M2 N) : ∃ m', s'.fuel = m' + 1 ∧ (payS s').fuel = m' ∧ t'.In fs (m' + 1) := by
  obtain ⟨m', hm'⟩ : ∃ m', s'.fuel = m' + 1 := ⟨s'.fuel - 1, by have := h.fuel0; omega⟩
  exact ⟨m', hm', by simp [payS, hm'], by have := h.L.tin; rw [hm'] at this; exact this⟩
theorem Rnd.back (h : Rnd fs b off fn fc w0 w R N0 nv res m n k0 M wr at_ gg s' t' e M' nv' V i M2 N) {wy : World} (ky : Keeps (fun k => RFoot R nv' k ∨ k = N0 + 1) V wy) : Keeps (RFoot R nv) w wy :=
  (h.L.kept.trans h.kept (foot_back h.L.moved h.hX)).trans ky (foot_back h.L.moved h.hX)
theorem Rnd.nb (h : Rnd fs b off fn fc w0 w R N0 nv res m n k0 M wr at_ gg s' t' e M' nv' V i M2 N) {wy : World} (ky : Keeps (fun k => RFoot R nv' k ∨ k = N0 + 1) V wy) : ∃ p i wk pd ag vv, wy.heap[N0]? = some (.cells #[.int .i64 p, .int .i64 i, .int .i64 (m : Int), .int .i64 wk, .int .i64 pd, .int .i64 ag, .int .i64 vv] 41 (0, 0)) := by
  obtain ⟨p, i, wk, pd, ag, vv, hb⟩ := h.nblk
  exact ⟨p, i, wk, pd, ag, vv, blk_kept hb ky (fun e => by
    rcases e with (e | e) | e
    · exact h.hRN e.symm
    · exact h.L.nn e
    · omega)⟩
theorem Rnd.deep (h : Rnd fs b off fn fc w0 w R N0 nv res m n k0 M wr at_ gg s' t' e M' nv' V i M2 N) (hk : i.kind = 5) (hdeep : 4096 ≤ (payT t').depth) {wy : World} (ry : IsRR wy R (.slice (some ⟨b, off, none⟩) fn fc) (payS s').fuel 63 s'.depth M2 nv') (ky : Keeps (· = R) V wy) :
    GoR fs b off fn fc w R N0 nv res m n k0 M wy ∧ muOf wy R < muOf wr R := by
  have hlpf := loop_spawn (L := true) (g := gg) h.fuel0 h.code hk
  rw [h.L.res] at hlpf
  have hpl : playV fs true gg (payS s') (childV fs (payT t') i) = .gave 63 := by
    unfold playV
    rw [if_pos (by show 4096 < (payT t').depth + 1; omega)]
  rw [hpl] at hlpf
  refine ⟨.inr ⟨63, _, _, _, _, hlpf, by decide, ry, h.back (ky.mono (fun _ e _ => .inl (.inl e))), h.L.moved⟩, ?_⟩
  rw [ry.mu0 (by decide), h.L.run.mu]
  omega
theorem Rnd.child (h : Rnd fs b off fn fc w0 w R N0 nv res m n k0 M wr at_ gg s' t' e M' nv' V i M2 N) (hk : i.kind = 5) {m2 np : Nat} (hm2 : i.b = m2) (hnp : parV fs i.b = np) : childV fs (payT t') i = childP (payT t') (m2 : Int) i.c np ∧ Begins fs true (payS s') (childP (payT t') (m2 : Int) i.c np) := by
  have hcv : childV fs (payT t') i = childP (payT t') (m2 : Int) i.c np := by
    unfold childV childP
    rw [hnp, hm2]
    rfl
  have hBg := child_begins h.L.sin h.L.tin h.fuel0 h.so hk
  rw [hcv] at hBg
  exact ⟨hcv, hBg⟩
theorem Rnd.plays (h : Rnd fs b off fn fc w0 w R N0 nv res m n k0 M wr at_ gg s' t' e M' nv' V i M2 N) (hk : i.kind = 5) (hdeep : ¬ 4096 ≤ (payT t').depth) {m2 np : Nat} (hm2 : i.b = m2) (hnp : parV fs i.b = np) (hnp8 : np ≤ 8) (wx : World) (aa : Option Addr) (ac : Nat) (hrx : IsRR wx R (.slice (some ⟨b, off, none⟩) fn fc) (payS s').fuel 0 s'.depth M2 nv') (hkx : Keeps None V wx) (hsx : SeenA wx aa np (argL (payT t').regs i.c.toNat np)) :
    Calls Tryd.prog 31 #[.pointer (some ⟨R, 0, none⟩), .agg #[.int .i64 (payT t').number, .int .i64 (payT t').spawned, .int .i64 m2, .int .i64 0, .int .i64 (pedV (payT t').node.ped (payT t').spawned), .int .i64 0, .int .i64 0], .slice aa np ac, .int .i64 ((payT t').depth + 1)] wx (RGot R (.slice (some ⟨b, off, none⟩) fn fc) nv' wx (ChildQ (playV fs true gg (payS s') (childP (payT t') (m2 : Int) i.c np)) s'.tasks M2)) := by
  obtain ⟨hcv, hBg⟩ := h.child hk hm2 hnp
  have hfg : (payS s').fuel < gg := by obtain ⟨m', h1, h2, _⟩ := h.pf; have := h.L.fuel; omega
  have hfn : (payS s').fuel < n := by obtain ⟨m', h1, h2, _⟩ := h.pf; have := h.L.most; omega
  have hdd : ¬ 4096 < (childP (payT t') (m2 : Int) i.c np).depth := by show ¬ 4096 < (payT t').depth + 1; omega
  have hcall := h.IH (payS s').fuel hfn gg (payS s') (childP (payT t') (m2 : Int) i.c np) nv' M2 aa np ac _ wx hfg (Nat.le_refl _) hrx (h.env.more hkx (fun _ f => f.elim) (Moved.refl _ _)) hBg hdd h.m1 (child_new (payT t') (m2 : Int) i.c np hnp8) hsx
  refine Calls.mono hcall (fun e0 w' hto => ?_)
  have hpl : playV fs true gg (payS s') (childP (payT t') (m2 : Int) i.c np) = loopV fs true gg (enterS true (payS s') (childP (payT t') (m2 : Int) i.c np)) (enterT (payS s') (childP (payT t') (m2 : Int) i.c np)) 0 := by
    unfold playV
    rw [if_neg hdd]
  rw [← hpl] at hto
  exact rto_got h.all hBg hto
theorem Rnd.got (h : Rnd fs b off fn fc w0 w R N0 nv res m n k0 M wr at_ gg s' t' e M' nv' V i M2 N) (hk : i.kind = 5) {m2 np a : Nat} (hm2 : i.b = m2) (hnp : parV fs i.b = np) (ha : i.a = a) {wy : World} {v sp : Int} {fuel' : Nat} {er' depth' : Int} {M'' : List Nd} {nv2 : Value}
    (ry : IsRR wy R (.slice (some ⟨b, off, none⟩) fn fc) fuel' er' depth' M'' nv2) (ty : IsRT wy (N0 + 1) ((at_ : Int) + 1) (imax e ((payT t').span + sp)) (gotT (spawnT (payT t')) a v sp)) (ky : Keeps (fun k => RFoot R nv' k ∨ k = N0 + 1) V wy) (my : Moved V nv' nv2) (hs0 : 0 ≤ sp)
    (hq : ChildQ (playV fs true gg (payS s') (childP (payT t') (m2 : Int) i.c np)) s'.tasks M2 v sp fuel' er' depth' M'') :
    GoR fs b off fn fc w R N0 nv res m n k0 M wy ∧ muOf wy R < muOf wr R := by
  obtain ⟨hcv, hBg⟩ := h.child hk hm2 hnp
  obtain ⟨m', hm', hpf, tin⟩ := h.pf
  have hlpf := loop_spawn (L := true) (g := gg) h.fuel0 h.code hk
  rw [h.L.res, hcv, ha] at hlpf
  cases hpl : playV fs true gg (payS s') (childP (payT t') (m2 : Int) i.c np) with
  | gave er =>
    rw [hpl] at hq hlpf
    obtain ⟨_, _, he⟩ := hq
    subst he
    have hne := gave_ne h.all hBg hpl
    refine ⟨.inr ⟨_, _, _, _, _, hlpf, hne, ry, h.back ky, h.L.moved.trans (my.back h.kept.size) h.L.kept.size⟩, ?_⟩
    rw [ry.mu0 hne, h.L.run.mu]
    omega
  | done v1 sp1 s2 =>
    rw [hpl] at hq hlpf
    obtain ⟨e1, e2, e3, e4, e5, q1, q2, q3⟩ := hq
    subst e1 e2 e3 e4 e5
    obtain ⟨d1, d2, d3, d4, d5, d6⟩ := child_done h.all hBg rfl hpl
    have hfront := play_front hpl h.L.sin
    have hspn := tin.span
    have hg := h.L.se.got a v1 sp1 hs0 hspn.1
    have hkn : k0 < s'.tasks := h.L.ltn
    have htk : s'.tasks ≤ s2.tasks := d6
    have nx := h.L.next h.hX (at' := at_ + 1) (t2 := gotT (spawnT (payT t')) a v1 sp1) (s2 := s2) (e2 := imax e ((payT t').span + sp1)) (M2 := M'') (nv2 := nv2) (wr' := wy) hlpf.symm (by omega) ry ty (h.nb ky) hg.2 d5 (tin.got d1 d2 (by omega)) (by rw [h.len]; exact h.so.next (by omega) (by omega)) rfl rfl htk q1
      (by rw [q3 k0 hkn]; exact h.m2)
      (fun j hj => by
        by_cases hj2 : s'.tasks ≤ j
        · exact q2 j hj2
        · rw [q3 j (by omega), h.m3 j hj, hfront j (by omega)])
      (fun j hj => by rw [q3 j (by omega)]; exact h.m4 j hj) (h.kept.trans ky (fun _ e _ => e)) (my.back h.kept.size)
    exact ⟨.inl ⟨_, _, _, _, _, _, _, nx.1⟩, nx.2⟩
theorem Rnd.sync (h : Rnd fs b off fn fc w0 w R N0 nv res m n k0 M wr at_ gg s' t' e M' nv' V i M2 N) (hk : i.kind = 6) {wy : World} (ry : IsRR wy R (.slice (some ⟨b, off, none⟩) fn fc) (payS s').fuel 0 s'.depth M2 nv') (ty : IsRT wy (N0 + 1) ((at_ : Int) + 1) 0 (waitT (payT t'))) (ky : Keeps (· = N0 + 1) V wy) :
    GoR fs b off fn fc w R N0 nv res m n k0 M wy ∧ muOf wy R < muOf wr R := by
  obtain ⟨m', hm', hpf, tin⟩ := h.pf
  have nx := h.L.next h.hX (at' := at_ + 1) (t2 := waitT (payT t')) (s2 := payS s') (e2 := 0) (M2 := M2) (nv2 := nv') (wr' := wy) (by rw [← h.L.res, loop_sync h.fuel0 h.code hk]) (by omega) ry ty (h.nb (ky.mono (fun _ e _ => .inr e))) h.L.se.wait.2 h.L.sin.pay (by rw [hpf]; exact tin.wait) (by rw [h.len]; exact h.so.next (by omega) (by omega)) rfl rfl (Nat.le_refl _) h.m1 h.m2 h.m3 h.m4 (h.kept.trans ky (fun _ e _ => .inr e)) (Moved.refl _ _)
  exact ⟨.inl ⟨_, _, _, _, _, _, _, nx.1⟩, nx.2⟩
theorem Rnd.plain (h : Rnd fs b off fn fc w0 w R N0 nv res m n k0 M wr at_ gg s' t' e M' nv' V i M2 N) (hk : i.kind = 0 ∨ i.kind = 1 ∨ i.kind = 2 ∨ i.kind = 3 ∨ i.kind = 4 ∨ i.kind = 7 ∨ i.kind = 8) {wy : World} (ry : IsRR wy R (.slice (some ⟨b, off, none⟩) fn fc) (payS s').fuel 0 s'.depth M2 nv') (ty : IsRT wy (N0 + 1) (nextAt ((at_ : Int) + 1) (payT t') i) e (computeT (payT t') i)) (ky : Keeps (· = N0 + 1) V wy) :
    GoR fs b off fn fc w R N0 nv res m n k0 M wy ∧ muOf wy R < muOf wr R := by
  obtain ⟨m', hm', hpf, tin⟩ := h.pf
  have hbd : 0 ≤ nextAt ((at_ : Int) + 1) (payT t') i ∧ nextAt ((at_ : Int) + 1) (payT t') i < N := by
    unfold nextAt
    by_cases k3 : i.kind = 3
    · rw [if_pos k3]; exact h.so.jump k3
    · rw [if_neg k3]
      have hnx := h.so.next k3 (by omega)
      by_cases k4 : i.kind = 4
      · rw [if_pos k4]
        have := h.so.branch k4
        split <;> omega
      · rw [if_neg k4]; omega
  have hld : loopV fs true (gg + 1) s' t' at_ = loopV fs true gg (payS s') (computeT (payT t') i) (nextAt ((at_ : Int) + 1) (payT t') i).toNat := by
    by_cases k7 : i.kind = 7
    · rw [loop_comp h.fuel0 h.code (by omega)]
      have e2 : nextAt ((at_ : Int) + 1) (payT t') i = (at_ : Int) + 1 := by unfold nextAt; rw [if_neg (by omega), if_neg (by omega)]
      rw [e2]
      rfl
    · exact loop_do h.fuel0 h.code (by omega)
  have e1 : (computeT (payT t') i).node = (payT t').node ∧ (computeT (payT t') i).number = (payT t').number := by
    unfold computeT setR
    repeat' split
    all_goals exact ⟨rfl, rfl⟩
  have nx := h.L.next h.hX (at' := (nextAt ((at_ : Int) + 1) (payT t') i).toNat) (t2 := computeT (payT t') i) (s2 := payS s') (e2 := e) (M2 := M2) (nv2 := nv') (wr' := wy) (by rw [← h.L.res, hld]) (by omega) ry (by rw [Int.toNat_of_nonneg hbd.1]; exact ty) (h.nb (ky.mono (fun _ e _ => .inr e))) (h.L.se.pay.comp i) h.L.sin.pay (by rw [hpf]; exact tin.pay.compute i h.ok) (by rw [h.len]; omega) (by rw [e1.1]; rfl) (by rw [e1.2]; rfl) (Nat.le_refl _) h.m1 (by rw [e1.1]; exact h.m2) h.m3 h.m4 (h.kept.trans ky (fun _ e _ => .inr e)) (Moved.refl _ _)
  exact ⟨.inl ⟨_, _, _, _, _, _, _, nx.1⟩, nx.2⟩
theorem Rnd.ret (h : Rnd fs b off fn fc w0 w R N0 nv res m n k0 M wr at_ gg s' t' e M' nv' V i M2 N) (hk : i.kind = 9) {a : Nat} (ha : i.a = a) {x : Int} (hx : t'.regs.getD a 0 = x) {wy : World} (ry : IsRR wy R (.slice (some ⟨b, off, none⟩) fn fc) (payS s').fuel 0 s'.depth (M2.set k0 (endT (payT t') x).node) nv') (ky : Keeps (fun k => RFoot R nv' k ∨ k = N0 + 1) V wy) :
    RTo R (.slice (some ⟨b, off, none⟩) fn fc) nv w k0 M res (.returned (.tuple #[.int .i64 x, .int .i64 (t'.span + 1)])) wy := by
  have hres : res = .done x (t'.span + 1) (leaveS true (payS s') (endT (payT t') x)) := by
    rw [← h.L.res, loop_ret h.fuel0 h.code hk, ha]
    have : (a : Int).toNat = a := rfl
    rw [this, hx]
  have hk0 : k0 < M2.length := (List.getElem?_eq_some_iff.1 h.m2).1
  have hl := h.m1
  have hnum : (endT (payT t') x).number.toNat = k0 := by
    have : (endT (payT t') x).number = t'.number := rfl
    rw [this, h.L.num]
    rfl
  have hnd : (leaveS true (payS s') (endT (payT t') x)).nodes = s'.nodes.set k0 (endT (payT t') x).node := by
    unfold leaveS
    rw [hnum]
    rfl
  rw [hres]
  refine ⟨M2.set k0 (endT (payT t') x).node, nv', rfl, ry, h.back ky, h.L.moved, ?_, fun j hj => ?_, fun j hj => ?_⟩
  · rw [hnd]; simpa using hl
  · rw [hnd]
    by_cases hjk : k0 = j
    · subst hjk
      rw [List.getElem?_set_self hk0, List.getElem?_set_self (by omega)]
    · rw [List.getElem?_set_ne hjk, List.getElem?_set_ne hjk]
      exact h.m3 j (by omega)
  · rw [List.getElem?_set_ne (by omega), h.m4 j hj]
    exact h.L.fro j hj
end
end Go.Proofs.YthignlailbekmaaDoor
