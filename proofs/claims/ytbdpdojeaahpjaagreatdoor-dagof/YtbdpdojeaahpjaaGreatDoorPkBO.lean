import Derived.Test.YtbdpdojeaahpjaaGreatDoorPkBN
import Derived.Deep.RegionHeld3
import Derived.WalkKit
import Derived.Test.YtbdpdojeaahpjaaGreatDoorPkBJ
/-! tasks.Walk's play, upon dag's trace. -/
namespace Go.Proofs.YtbdpdojeaahpjaaGreatDoor
set_option linter.unusedVariables false
set_option maxRecDepth 20000
open Go.RowKit Go.HeapKit Go.PlainOps

def wfV (R : Nat) : Value := .func (Fn.func 19) #[.pointer (some ⟨R, 0, none⟩)] #[]
def nOf (w : World) (R : Nat) : Nat := match w.cell? ⟨R, 0, none⟩ with | some v => (intOf v).toNat | none => 0
theorem nOf_tr {lo : Nat} {w : World} {R : Nat} {T : Trc} (h : Tr lo w R T) : nOf w R = T.n := by
  obtain ⟨ev, lv, xv, vs, h⟩ := h
  unfold nOf
  rw [(blk_cell h.blk 0).trans rfl]
  simp [intOf]
/-- What stands while a program's run is shown. -/
structure Wenv (fs : List Fn) (lo Q R : Nat) (fa : Option Addr) (fn : Nat) (w0 : World) : Prop where
  seen : SeenF w0 fa fn fs
  all : AllV fs
  low : w0.heap.size ≤ lo
  q : w0.heap.size ≤ Q
/-- At the loop of play. -/
structure AtW (fs : List Fn) (lo Q R X m N : Nat) (fv : Value) (w : World) (par : Option Nat) (pv : Value) (sl : Int) (v : Int) (k2 : Nat) (T2 : Trc) (wr : World) (at_ g k : Nat) (T : Trc) (t : Tk) : Prop where
  res : walkV fs g k T t par at_ = some (v, k2, T2)
  tr : Tr lo wr R T
  tsk : IsTsk wr X 97 (t.tk (at_ : Int)) (rst t pv sl)
  slots : t.slots.length = 8
  qb : wr.heap[Q]? = some (.cells #[fv, wfV R, .int .i64 (k : Int)] 93 (0, 0))
  jn : Jn T k t par
  en : EndsOk T
  sp : 0 ≤ t.spawned ∧ t.spawned ≤ t.node.work
  wk : t.node.work ≤ (T.n : Int)
  fn : t.node.func = (m : Int)
  lt : at_ < N
  keep : Keeps (TQ lo Q w) w wr
theorem walk_cases {fs : List Fn} {g k : Nat} {T : Trc} {t : Tk} {par : Option Nat} {at_ : Nat} {i : Ins} {r : Int × Nat × Trc} (hi : (codeOf fs t.node.func)[at_]? = some i) (h : walkV fs (g + 1) k T t par at_ = some r) :
    (i.kind = 3 → walkV fs g k (addV T t.number.toNat t.node.work par i) (payT t) par i.a.toNat = some r) ∧
    (i.kind = 4 → walkV fs g k (addV T t.number.toNat t.node.work par i) (payT t) par (if t.regs.getD i.a.toNat 0 = 0 then at_ + 1 else i.b.toNat) = some r) ∧
    (i.kind = 5 → ∃ v1 k1 T1, walkV fs g (k + 1) (addV T t.number.toNat t.node.work par i) (enterT ⟨0, k, 0, []⟩ (childV fs (payT t) i)) (some t.number.toNat) 0 = some (v1, k1, T1) ∧ walkV fs g k1 T1 (gotT (spawnT (payT t)) i.a.toNat v1 0) par (at_ + 1) = some r) ∧
    (i.kind = 9 → r = (t.regs.getD i.a.toNat 0, k, addV T t.number.toNat t.node.work par i)) ∧
    (i.kind ≠ 3 → i.kind ≠ 4 → i.kind ≠ 5 → i.kind ≠ 9 → walkV fs g k (addV T t.number.toNat t.node.work par i) (computeT (payT t) i) par (at_ + 1) = some r) := by
  unfold walkV at h
  rw [hi] at h
  simp only at h
  refine ⟨fun q => ?_, fun q => ?_, fun q => ?_, fun q => ?_, fun q1 q2 q3 q4 => ?_⟩
  · rw [if_pos q] at h; exact h
  · rw [if_neg (by omega), if_pos q] at h; exact h
  · rw [if_neg (by omega), if_neg (by omega), if_pos q] at h
    cases hr : walkV fs g (k + 1) (addV T t.number.toNat t.node.work par i) (enterT ⟨0, k, 0, []⟩ (childV fs (payT t) i)) (some t.number.toNat) 0 with
    | none => rw [hr] at h; cases h
    | some x =>
      obtain ⟨v1, k1, T1⟩ := x
      rw [hr] at h
      exact ⟨v1, k1, T1, rfl, h⟩
  · rw [if_neg (by omega), if_neg (by omega), if_neg (by omega), if_pos q] at h
    exact (Option.some.inj h).symm
  · rw [if_neg q1, if_neg q2, if_neg q3, if_neg q4] at h; exact h
theorem AtW.more {fs : List Fn} {lo Q R X m N : Nat} {fv : Value} {w : World} {par : Option Nat} {pv : Value} {sl v : Int} {k2 : Nat} {T2 : Trc} {wr wr' : World} {at_ g k : Nat} {T : Trc} {t : Tk} (h : AtW fs lo Q R X m N fv w par pv sl v k2 T2 wr at_ g k T t) (hk : Keeps None wr wr') : AtW fs lo Q R X m N fv w par pv sl v k2 T2 wr' at_ g k T t := by
  obtain ⟨ev, lv, xv, vs, hT⟩ := h.tr
  exact ⟨h.res, ⟨_, _, _, _, hT.more hk⟩, h.tsk.kept hk (fun f => f), h.slots, blk_kept h.qb hk (fun f => f), h.jn, h.en, h.sp, h.wk, h.fn, h.lt, h.keep.trans hk (fun _ f _ => f.elim)⟩
theorem comp_same (t : Tk) (i : Ins) : (computeT t i).slots = t.slots ∧ (computeT t i).number = t.number ∧ (computeT t i).node = t.node ∧ (computeT t i).spawned = t.spawned := by
  unfold computeT
  repeat' split
  all_goals exact ⟨rfl, rfl, rfl, rfl⟩
theorem AtW.go {fs : List Fn} {lo Q R X m N : Nat} {fv : Value} {w : World} {par : Option Nat} {pv : Value} {sl v : Int} {k2 : Nat} {T2 : Trc} {wr V' : World} {at_ at'' gg k' : Nat} {T' : Trc} {t' t'' : Tk} {i : Ins} (h : AtW fs lo Q R X m N fv w par pv sl v k2 T2 wr at_ (gg + 1) k' T' t')
    (res : walkV fs gg k' (addV T' t'.number.toNat t'.node.work par i) t'' par at'' = some (v, k2, T2)) (tr : Tr lo V' R (addV T' t'.number.toNat t'.node.work par i)) (tsk : IsTsk V' X 97 (t''.tk (at'' : Int)) (rst t'' pv sl)) (qb : V'.heap[Q]? = some (.cells #[fv, wfV R, .int .i64 (k' : Int)] 93 (0, 0)))
    (h1 : t''.node.work = t'.node.work + 1) (h2 : t''.number = t'.number) (h3 : t''.spawned = t'.spawned) (h4 : t''.node.func = t'.node.func) (h5 : t''.slots.length = 8) (lt : at'' < N) (keep : Keeps (TQ lo Q w) w V') (hb : T'.n < T2.n) (hb2 : T2.n ≤ 4096) :
    AtW fs lo Q R X m N fv w par pv sl v k2 T2 V' at'' gg k' (addV T' t'.number.toNat t'.node.work par i) t'' ∧ 5000 - nOf V' R < 5000 - nOf wr R := by
  have hn := (add_len T' t'.number.toNat t'.node.work par i).2.2
  refine ⟨⟨res, tr, tsk, h5, qb, h.jn.shown i h1 h2, ends_add h.en _ _ _ _, by rw [h3, h1]; have := h.sp; omega, by rw [h1, hn]; have := h.wk; omega, by rw [h4]; exact h.fn, lt, keep⟩, ?_⟩
  rw [nOf_tr tr, nOf_tr h.tr, hn]
  omega
def PlayT (fs : List Fn) (lo Q R : Nat) (fa : Option Addr) (fn fc : Nat) (w0 : World) (g : Nat) : Prop :=
  ∀ (k : Nat) (T : Trc) (t : Tk) (par : Option Nat) (pv : Value) (sl : Int) (v : Int) (k2 : Nat) (T2 : Trc) (w : World), walkV fs g (k + 1) T (enterT ⟨0, k, 0, []⟩ t) par 0 = some (v, k2, T2) → T2.n ≤ 4096 → T2.es.length ≤ 16384 → k2 ≤ 4096 →
    Tr lo w R T → Jn T (k + 1) (enterT ⟨0, k, 0, []⟩ t) par → EndsOk T → w.heap[Q]? = some (.cells #[.slice fa fn fc, wfV R, .int .i64 (k : Int)] 93 (0, 0)) → Par w par pv → Keeps None w0 w → lo ≤ w.heap.size →
    t.regs.length = 16 → t.slots = List.replicate 8 0 → t.node.work = 0 → t.spawned = 0 → 0 ≤ t.node.func ∧ t.node.func < fs.length →
    Calls Tryz.prog 33 #[.pointer (some ⟨Q, 0, none⟩), .agg (ints (t.tk 0).l ++ (ints (List.replicate 8 0) ++ [pv, Value.int .i64 sl, Value.int .i64 0, Value.int .i64 0])).toArray] w fun e w' => e = .returned (.int .i64 v) ∧ Tr lo w' R T2 ∧ w'.heap[Q]? = some (.cells #[.slice fa fn fc, wfV R, .int .i64 (k2 : Int)] 93 (0, 0)) ∧ Keeps (TQ lo Q w) w w'
set_option maxHeartbeats 8000000 in
theorem play_step7 (fs : List Fn) (lo Q R : Nat) (fa : Option Addr) (fn fc : Nat) (w0 : World) (hE : Wenv fs lo Q R fa fn w0) (g0 : Nat) (IH : ∀ g, g < g0 → PlayT fs lo Q R fa fn fc w0 g) : PlayT fs lo Q R fa fn fc w0 g0 := by
  intro k T t par pv sl v k2 T2 w hres hn2 he2 hk2 hT hJ hen hQ hP hw0 hlo hrl hsl hwk hsp hfn
  obtain ⟨f, hf, hfm, hcf, hV, hok⟩ := hE.all.fn hfn
  obtain ⟨m, hm⟩ : ∃ m : Nat, t.node.func = m := Int.eq_ofNat_of_zero_le hfn.1
  have hfm' : fs[m]? = some f := by rw [hm] at hf; simpa using hf
  have hml : m < fn := by have := (List.getElem?_eq_some_iff.1 hfm').1; have := hE.seen.len; omega
  have hvb := (valid_bounds hV).2.2.2
  -- the task's block
  obtain ⟨X, hX⟩ : ∃ X, X = w.heap.size := ⟨_, rfl⟩
  have hal := Keeps.alloc None w (.cells (ints (t.tk 0).l ++ (ints (List.replicate 8 0) ++ [pv, Value.int .i64 sl, Value.int .i64 0, Value.int .i64 0])).toArray 97)
  have bX := heap_alloc_new w (.cells (ints (t.tk 0).l ++ (ints (List.replicate 8 0) ++ [pv, Value.int .i64 sl, Value.int .i64 0, Value.int .i64 0])).toArray 97)
  rw [← hX] at bX
  obtain ⟨W, hW⟩ : ∃ W, W = w.alloc (.cells (ints (t.tk 0).l ++ (ints (List.replicate 8 0) ++ [pv, Value.int .i64 sl, Value.int .i64 0, Value.int .i64 0])).toArray 97) := ⟨_, rfl⟩
  rw [← hW] at hal bX
  have tX : IsTsk W X 97 (t.tk 0) (rst { t with number := 0 } pv sl) := ⟨by unfold rst; rw [hsl, hwk]; exact bX, hrl⟩
  have hQW := blk_kept hQ hal (fun f => f)
  have tX2 := tX.putBeh (j := 10) (v := .int .i64 (k : Int))
  rw [rst_num _ _ _ (by rw [hsl]; rfl)] at tX2
  have q2 : W.cell? ⟨Q, 2, none⟩ = some (.int .i64 (k : Int)) := (blk_cell hQW 2).trans rfl
  have x30 : W.cell? ⟨X, 30, none⟩ = some (.int .i64 0) := tX.beh (j := 10) (rst_at _ pv sl (by rw [hsl]; rfl)).2.1
  have zX := tX.free 30
  have kX : Keeps (· = X) W (W.setCell ⟨X, 30, none⟩ (.int .i64 (k : Int))) := Keeps.setCell (S := (· = X)) W (a := ⟨X, 30, none⟩) rfl _
  have hQX : Q ≠ X := by have := blk_lt hQ; omega
  have hQ1 := blk_kept hQW kX (fun e => hQX e)
  obtain ⟨V1, hV1⟩ : ∃ V1, V1 = W.setCell ⟨X, 30, none⟩ (.int .i64 (k : Int)) := ⟨_, rfl⟩
  have tX3 : IsTsk (W.setCell ⟨X, 30, none⟩ (.int .i64 (k : Int))) X 97 (t.tk 0) (rst (enterT ⟨0, k, 0, []⟩ t) pv sl) := tX2
  rw [← hV1] at kX hQ1 tX3
  have q21 : V1.cell? ⟨Q, 2, none⟩ = some (.int .i64 (k : Int)) := (blk_cell hQ1 2).trans rfl
  have zQ := blk_free hQ1 2
  have kQ : Keeps (· = Q) V1 (V1.setCell ⟨Q, 2, none⟩ (.int .i64 ((k : Int) + 1))) := Keeps.setCell (S := (· = Q)) V1 (a := ⟨Q, 2, none⟩) rfl _
  have hQ2 : (V1.setCell ⟨Q, 2, none⟩ (.int .i64 ((k : Int) + 1))).heap[Q]? = some (.cells #[.slice fa fn fc, wfV R, .int .i64 ((k : Int) + 1)] 93 (0, 0)) := by rw [blk_set hQ1]; rfl
  have tX4 := tX3.kept kQ (fun e => hQX e.symm)
  obtain ⟨ev, lv, xv, vs, hTr⟩ := hT
  have hTr1 := ((hTr.more hal).past kX bX turn_no).past kQ hQ1 (by unfold trT; decide)
  obtain ⟨V2, hV2⟩ : ∃ V2, V2 = V1.setCell ⟨Q, 2, none⟩ (.int .i64 ((k : Int) + 1)) := ⟨_, rfl⟩
  rw [← hV2] at kQ hQ2 tX4 hTr1
  have kwV2 : Keeps (TQ lo Q w) w V2 := (((hal.mono (T := TQ lo Q w) (fun _ f _ => f.elim)).trans kX (fun i e hi => by have e' : i = X := e; omega)).trans kQ (fun i e hi => .inr e))
  have k0V2 : Keeps None w0 V2 := hw0.trans kwV2 (fun i e hi => by
    rcases e with e | e
    · have := e.1; have := hE.low; omega
    · have := hE.q; omega)
  obtain ⟨b, off, f', ca, cc, hfa, ef, hat0⟩ := hE.seen.at hml
  have hat := hat0.more k0V2
  have HC : Hid (SeenI w0 ca f'.code.length f'.code) := hat0.seen
  clear hat0
  rw [hfm'] at ef
  obtain rfl := Option.some.inj ef
  subst hfa
  have c3 := hat.code
  have c2 := tX4.func
  have cq0 : V2.cell? ⟨Q, 0, none⟩ = some (.slice (some ⟨b, off, none⟩) fn fc) := (blk_cell hQ2 0).trans rfl
  obtain ⟨N, hN⟩ : ∃ N, N = f.code.length := ⟨_, rfl⟩
  rw [← hN] at c3 hvb
  have e2 : (t.tk 0).func = (m : Int) := hm
  rw [e2] at c2
  have HX : Hid (X = w.heap.size ∧ AllV fs ∧ Valid fs f ∧ f.Ok ∧ N = f.code.length ∧ codeOf fs (m : Int) = f.code ∧ fs[m]? = some f ∧ Keeps None w0 w ∧ lo ≤ w.heap.size ∧ Wenv fs lo Q R (some ⟨b, off, none⟩) fn w0 ∧ Par w par pv ∧ T2.n ≤ 4096 ∧ T2.es.length ≤ 16384 ∧ k2 ≤ 4096 ∧ w.heap[Q]? = some (.cells #[.slice (some ⟨b, off, none⟩) fn fc, wfV R, .int .i64 (k : Int)] 93 (0, 0)) ∧ Q < X) := ⟨hX, hE.all, hV, hok, hN, by rw [← hm]; exact hcf, hfm', hw0, hlo, hE, hP, hn2, he2, hk2, hQ, by have := blk_lt hQ; omega⟩
  have H0 : Hid (AtW fs lo Q R X m N (.slice (some ⟨b, off, none⟩) fn fc) w par pv sl v k2 T2 V2 0 g0 (k + 1) T (enterT ⟨0, k, 0, []⟩ t)) :=
    ⟨hres, ⟨_, _, _, _, hTr1⟩, tX4, by show t.slots.length = 8; rw [hsl]; rfl, by simpa using hQ2, hJ, hen, by show 0 ≤ t.spawned ∧ t.spawned ≤ t.node.work; rw [hsp, hwk]; omega, by show t.node.work ≤ _; rw [hwk]; omega, hm, by omega, kwV2⟩
  have HI : Hid (∀ g, g < g0 → PlayT fs lo Q R (some ⟨b, off, none⟩) fn fc w0 g) := IH
  have i1 : (m : Int) < (fn : Int) := by omega
  have i2 : (0 : Int) ≤ (m : Int) := by omega
  have i3 : (k : Int) ≤ 8388608 := by
    have := walk_len g0 (k + 1) T _ par 0 v k2 T2 hres hJ
    omega
  have HN : Hid _ := hN
  clear hX hE hV hok hN hcf hfm' hw0 hlo hP hn2 he2 hk2 hQ hres hJ hen hrl hsl hwk hsp hfn hf hfm hm e2 hal bX tX tX2 tX3 tX4 hQW kX hQX hQ1 hTr hTr1 kQ hQ2 kwV2 k0V2 hat IH hml hvb
  generalize (ints (t.tk 0).l ++ (ints (List.replicate 8 0) ++ [pv, Value.int .i64 sl, Value.int .i64 0, Value.int .i64 0])).toArray = cs at *
  go_enter Tryz.func33, Tryz.ntmps33
  go_upto_region 1 with fail
  rw [← hW, ← HX.out.1]
  clear hW
  go_upto_region 2 with fail
  rw [← hV1]
  clear hV1 q2 x30 zX
  go_upto_region 3 with fail
  rw [← hV2]
  clear hV2 q21 zQ
  go_quiet (fail)
  go_wp2_with fail
  clear c2 c3 cq0
  go_loopw [] (fun wr => ∃ (at_ g' k' : Nat) (T' : Trc) (t' : Tk), AtW fs lo Q R X m N (.slice (some ⟨b, off, none⟩) fn fc) w par pv sl v k2 T2 wr at_ g' k' T' t' ∧ g' ≤ g0) (fun wr => 5000 - nOf wr R)
  case atStart => exact ⟨0, g0, k + 1, T, _, H0.out.more (Keeps.drewN None V2 _), Nat.le_refl _⟩
  case round =>
    obtain ⟨at_, g', k', T', t', hL, hg⟩ := hrel
    clear H0
    obtain ⟨x1, x2, x3, x4, x5, x6, x7, x8, x9, x10, x11, x12, x13, x14, x15, x16⟩ := HX.out
    obtain ⟨gg, rfl⟩ : ∃ gg, g' = gg + 1 := by
      cases g' with
      | zero => have := hL.res; simp [walkV] at this
      | succ g => exact ⟨g, rfl⟩
    have k0r : Keeps None w0 wr := x8.trans hL.keep (fun i e hi => by
      rcases e with e | e
      · have := e.1; have := x10.low; omega
      · have := x10.q; omega)
    obtain ⟨cb, co, i, rfl, hi, hins⟩ := (HC.out.more k0r).at (k := at_) (by have := hL.lt; omega)
    obtain ⟨y0, y1, y2, y3, y4⟩ := hins
    have hcode : (codeOf fs t'.node.func)[at_]? = some i := by rw [hL.fn, x6]; exact hi
    have so := step_ok x3 hi
    have hik := (x4.code i (List.mem_of_getElem? hi)).k
    have cs' := walk_cases hcode hL.res
    obtain ⟨ml, mn, mk⟩ := walk_len (gg + 1) k' T' t' par at_ v k2 T2 hL.res hL.jn
    obtain ⟨n1, n2, n3⟩ := walk_mono (gg + 1) k' T' t' par at_ v k2 T2 hL.res
    obtain ⟨num, hnum⟩ : ∃ num : Nat, t'.number = (num : Int) := Int.eq_ofNat_of_zero_le (by rcases hL.jn.num with h | h <;> omega)
    have hal := Keeps.alloc None wr (.cells #[.int .i64 i.kind, .int .i64 i.a, .int .i64 i.b, .int .i64 i.c, .int .i64 i.k] 37)
    have bJ := heap_alloc_new wr (.cells #[.int .i64 i.kind, .int .i64 i.a, .int .i64 i.b, .int .i64 i.c, .int .i64 i.k] 37)
    obtain ⟨J, hJ⟩ : ∃ J, J = wr.heap.size := ⟨_, rfl⟩
    rw [← hJ] at bJ
    obtain ⟨V, hV⟩ : ∃ V, V = wr.alloc (.cells #[.int .i64 i.kind, .int .i64 i.a, .int .i64 i.b, .int .i64 i.c, .int .i64 i.k] 37) := ⟨_, rfl⟩
    rw [← hV] at hal bJ
    have xat : wr.cell? ⟨X, 1, none⟩ = some (.int .i64 (at_ : Int)) := hL.tsk.at
    have tV := hL.tsk.kept hal (fun f => f)
    have qV := blk_kept hL.qb hal (fun f => f)
    obtain ⟨ev, lv, xv, vs, hTr⟩ := hL.tr
    have hP := (x11.kept (lo := lo) x15 hL.keep).more hal
    have hsh := tV.shown hL.slots hnum hP
    have hopen : num < (openT T' t'.node.work).lasts.length := by
      unfold openT
      rcases hL.jn.num with ⟨a1, a2, a3⟩ | ⟨a1, a2, a3, a4⟩
      · rw [if_pos a1]; simp; omega
      · rw [if_neg (by omega)]; omega
    have hll : T'.lasts.length ≤ 4096 := by rcases hL.jn.num with ⟨a1, a2, a3⟩ | ⟨a1, a2, a3, a4⟩ <;> omega
    have hadd : ∀ w', Keeps None V w' → Calls Tryz.prog 19 #[.pointer (some ⟨R, 0, none⟩), .pointer (some ⟨X, 0, none⟩), .agg #[.int .i64 i.kind, .int .i64 i.a, .int .i64 i.b, .int .i64 i.c, .int .i64 i.k]] w' fun e w'' => e = .returned (.tuple #[]) ∧ Tr lo w'' R (addV T' num t'.node.work par i) ∧ Keeps (TyS lo w') w' w'' := fun w' hk =>
      add_any lo R X num t'.node.work par i T' w' ⟨_, _, _, _, (hTr.more hal).more hk⟩ (hsh.kept (TyS.new (lo := lo) hk)) (by have := hk.size; have := hal.size; have := hL.keep.size; omega) hL.jn.work hopen hL.jn.two hL.jn.par (by omega) (fun e he => by have := hL.en e he; omega) (by omega) (by omega)
    have HA : Hid _ := hadd
    have q1 : V.cell? ⟨Q, 1, none⟩ = some (wfV R) := (blk_cell qV 1).trans rfl
    have j0 : V.cell? ⟨J, 0, none⟩ = some (.int .i64 i.kind) := (blk_cell bJ 0).trans rfl
    have j1 : V.cell? ⟨J, 1, none⟩ = some (.int .i64 i.a) := (blk_cell bJ 1).trans rfl
    have j2 : V.cell? ⟨J, 2, none⟩ = some (.int .i64 i.b) := (blk_cell bJ 2).trans rfl
    have j3 : V.cell? ⟨J, 3, none⟩ = some (.int .i64 i.c) := (blk_cell bJ 3).trans rfl
    have j4 : V.cell? ⟨J, 4, none⟩ = some (.int .i64 i.k) := (blk_cell bJ 4).trans rfl
    unfold wfV at q1
    have hat5 : (at_ : Int) < (N : Int) := by have := hL.lt; omega
    have hat6 : (0 : Int) ≤ (at_ : Int) := by omega
    have hN5 : (N : Int) ≤ 512 := by have := (valid_bounds x3).2.2.2; omega
    have HL : Hid (AtW fs lo Q R X m N (.slice (some ⟨b, off, none⟩) fn fc) w par pv sl v k2 T2 wr at_ (gg + 1) k' T' t') := hL
    have HV : Hid (Keeps None wr V ∧ IsTsk V X 97 (t'.tk (at_ : Int)) (rst t' pv sl) ∧ V.heap[Q]? = some (.cells #[.slice (some ⟨b, off, none⟩) fn fc, wfV R, .int .i64 (k' : Int)] 93 (0, 0)) ∧ V.heap[J]? = some (.cells #[.int .i64 i.kind, .int .i64 i.a, .int .i64 i.b, .int .i64 i.c, .int .i64 i.k] 37 (0, 0)) ∧ t'.number = (num : Int) ∧ J = wr.heap.size ∧ Keeps None w0 wr) := ⟨hal, tV, qV, bJ, hnum, hJ, k0r⟩
    have HS : Hid (StepOk fs N at_ i ∧ okI i.k ∧ f.code[at_]? = some i) := ⟨by rw [x5]; exact so, hik, hi⟩
    have HCS : Hid _ := cs'
    have HB : Hid (T'.n < T2.n ∧ k' ≤ k2 ∧ gg + 1 ≤ g0) := ⟨n1, mk, hg⟩
    clear hi hcode so hik cs' ml mn mk n1 n2 n3 hnum hal bJ tV qV hTr hP hsh hopen hll hadd hL k0r x1 x2 x3 x4 x5 x6 x7 x8 x9 x10 x11 x12 x13 x14 x15 x16 hg
    go_upto_region 5 with fail
    rw [← hV, ← hJ]
    clear hV hJ y0 y1 y2 y3 y4 xat
    go_cut [] (fun wx => Tr lo wx R (addV T' num t'.node.work par i) ∧ Keeps (TyS lo V) V wx)
    case first =>
      go_region_held3 (fun w' => w'.cell? ⟨Q, 1, none⟩ = some (.func (Fn.func 19) #[.pointer (some ⟨R, 0, none⟩)] #[]) ∧ w'.cell? ⟨J, 0, none⟩ = some (.int .i64 i.kind) ∧ w'.cell? ⟨J, 1, none⟩ = some (.int .i64 i.a) ∧ w'.cell? ⟨J, 2, none⟩ = some (.int .i64 i.b) ∧ w'.cell? ⟨J, 3, none⟩ = some (.int .i64 i.c) ∧ w'.cell? ⟨J, 4, none⟩ = some (.int .i64 i.k)) (first | with_reducible exact hs2 | go_keep) (first
        | (go_at_call 19; refine (HA.out _ (Keeps.drew None V)).mono ?_; rintro _ w4 ⟨rfl, hT4, hk4⟩; have hJn : ¬ TyS lo V.drew J := TyS.other HV.out.2.2.2.1 (by unfold trT; decide); have hQn : ¬ TyS lo V.drew Q := TyS.other HV.out.2.2.1 (by unfold trT; decide); have hs2 := And.intro (hk4.cell q1 hQn) (And.intro (hk4.cell j0 hJn) (And.intro (hk4.cell j1 hJn) (And.intro (hk4.cell j2 hJn) (And.intro (hk4.cell j3 hJn) (hk4.cell j4 hJn)))))))
      all_goals (go_wp2_with fail; go_meet)
      all_goals exact ⟨hT4, TyS.trans (TyS.new (Keeps.drew None V)) hk4⟩
    case rest =>
    obtain ⟨hT4, k4⟩ := hcut
    obtain ⟨W4, hW4⟩ : ∃ W4, W4 = wc := ⟨_, rfl⟩
    rw [← hW4] at hT4 k4 ⊢
    clear hW4 q1 j0 j1 j2 j3 j4 hat5 hat6
    obtain ⟨v1, v2, v3, v4, v5, v6, v7⟩ := HV.out
    have hL := HL.out
    have t4 := v2.kept k4 (TyS.other v2.blk turn_no)
    have q4 := blk_kept v3 k4 (TyS.other v3 (by unfold trT; decide))
    have b4 := blk_kept v4 k4 (TyS.other v4 (by unfold trT; decide))
    have x31 : W4.cell? ⟨X, 31, none⟩ = some (.int .i64 t'.node.work) := t4.beh (j := 11) (rst_at t' pv sl hL.slots).2.2.1
    have z31 := t4.free 31
    have z1 := t4.free 1
    have t5 := t4.putBeh (j := 11) (v := .int .i64 (t'.node.work + 1))
    rw [rst_work _ _ _ hL.slots] at t5
    have xa : (W4.setCell ⟨X, 31, none⟩ (.int .i64 (t'.node.work + 1))).cell? ⟨X, 1, none⟩ = some (.int .i64 (at_ : Int)) := t5.at
    have za := t5.free 1
    have t6 : IsTsk ((W4.setCell ⟨X, 31, none⟩ (.int .i64 (t'.node.work + 1))).setCell ⟨X, 1, none⟩ (.int .i64 ((at_ : Int) + 1))) X 97 ((payT t').tk ((at_ : Int) + 1)) (rst (payT t') pv sl) := t5.putAt
    have kX : Keeps (· = X) W4 ((W4.setCell ⟨X, 31, none⟩ (.int .i64 (t'.node.work + 1))).setCell ⟨X, 1, none⟩ (.int .i64 ((at_ : Int) + 1))) := ((Keeps.refl (· = X) W4).andSet (x := ⟨X, 31, none⟩) (.inl rfl) _).andSet (x := ⟨X, 1, none⟩) (.inl rfl) _
    have hQX : ¬ Q = X := by have := HX.out.2.2.2.2.2.2.2.2.2.2.2.2.2.2.2; omega
    have hJX : ¬ J = X := by have := blk_lt hL.tsk.blk; omega
    obtain ⟨ev, lv, xv, vs, hTr4⟩ := hT4
    have hTr6 := hTr4.past kX t4.blk turn_no
    have q6 := blk_kept q4 kX hQX
    have b6 := blk_kept b4 kX hJX
    obtain ⟨V6, hV6⟩ : ∃ V6, V6 = (W4.setCell ⟨X, 31, none⟩ (.int .i64 (t'.node.work + 1))).setCell ⟨X, 1, none⟩ (.int .i64 ((at_ : Int) + 1)) := ⟨_, rfl⟩
    rw [← hV6] at t6 kX hTr6 q6 b6
    have hXw : X = w.heap.size := HX.out.1
    have kw6 : Keeps (TQ lo Q w) w V6 := ((TQ.trans hL.keep (TQ.trans (TQ.ty (TyS.new v1)) (TQ.ty k4)))).trans kX (fun i e hi => by have e' : i = X := e; omega)
    have enum : t'.number.toNat = num := by rw [v5]; rfl
    have hwk : t'.node.work ≤ 4096 := by have := hL.wk; have := HB.out.1; have := HX.out.2.2.2.2.2.2.2.2.2.2.2.1; omega
    have hwk0 := hL.jn.work
    have i6 : t'.node.work ≤ 4096 := hwk
    have i7 : 0 ≤ t'.node.work := hwk0
    have i8 : (at_ : Int) ≤ 512 := by have := hL.lt; omega
    rw [← enum] at hTr6
    have H6 : Hid (IsTsk V6 X 97 ((payT t').tk ((at_ : Int) + 1)) (rst (payT t') pv sl) ∧ IsTr lo V6 R (addV T' t'.number.toNat t'.node.work par i) ev lv xv vs ∧ V6.heap[Q]? = some (.cells #[.slice (some ⟨b, off, none⟩) fn fc, wfV R, .int .i64 (k' : Int)] 93 (0, 0)) ∧ V6.heap[J]? = some (.cells #[.int .i64 i.kind, .int .i64 i.a, .int .i64 i.b, .int .i64 i.c, .int .i64 i.k] 37 (0, 0)) ∧ Keeps (TQ lo Q w) w V6 ∧ ¬ Q = X ∧ ¬ J = X ∧ X = w.heap.size) := ⟨t6, hTr6, q6, b6, kw6, hQX, hJX, hXw⟩
    have j0 : V6.cell? ⟨J, 0, none⟩ = some (.int .i64 i.kind) := (blk_cell b6 0).trans rfl
    have j1 : V6.cell? ⟨J, 1, none⟩ = some (.int .i64 i.a) := (blk_cell b6 1).trans rfl
    have j2 : V6.cell? ⟨J, 2, none⟩ = some (.int .i64 i.b) := (blk_cell b6 2).trans rfl
    have j3 : V6.cell? ⟨J, 3, none⟩ = some (.int .i64 i.c) := (blk_cell b6 3).trans rfl
    have j4 : V6.cell? ⟨J, 4, none⟩ = some (.int .i64 i.k) := (blk_cell b6 4).trans rfl
    clear v1 v2 v3 v4 v5 v6 v7 hL t4 q4 b4 t5 t6 kX hQX hJX hTr4 hTr6 q6 b6 kw6 k4 enum hwk hwk0 hXw
    go_upto_region 8 with fail
    rw [← hV6]
    clear hV6 x31 z31 z1 xa za
    have so := HS.out.1
    have hcases : i.kind = 5 ∨ i.kind = 6 ∨ i.kind = 7 ∨ i.kind = 9 ∨ (i.kind = 0 ∨ i.kind = 1 ∨ i.kind = 2 ∨ i.kind = 3 ∨ i.kind = 4 ∨ i.kind = 8) := by have := so.kind; omega
    obtain ⟨cs3, cs4, cs5, cs9, csO⟩ := HCS.out
    have hb2 := HX.out.2.2.2.2.2.2.2.2.2.2.2.1
    rcases hcases with hk | hk | hk | hk | hk
    · -- ISpawn
      obtain ⟨a, ha⟩ := Int.eq_ofNat_of_zero_le (so.slot hk).1
      have ha8 : a < 8 := by have := (so.slot hk).2; omega
      obtain ⟨m2, hm2⟩ := Int.eq_ofNat_of_zero_le (so.fn hk).1
      have hm2l : m2 < fs.length := by have := (so.fn hk).2; omega
      obtain ⟨f2, hf2⟩ : ∃ f2, fs[m2]? = some f2 := ⟨fs[m2], by simp⟩
      obtain ⟨x1, x2, x3, x4, x5, x6, x7, x8, x9, x10, x11, x12, x13, x14, x15, x16⟩ := HX.out
      have hL := HL.out
      have k06 : Keeps None w0 V6 := x8.trans H6.out.2.2.2.2.1 (fun i e hi => by
        rcases e with e | e
        · have := e.1; have := x10.low; omega
        · have := x10.q; omega)
      have hm2n : m2 < fn := by have := x10.seen.len; omega
      obtain ⟨b2, off2, f2', ca2, cc2, hfa2, ef2, hat2⟩ := x10.seen.at hm2n
      injection hfa2 with hfa2
      injection hfa2 with eb eo
      subst eb eo
      rw [hf2] at ef2
      obtain rfl := Option.some.inj ef2
      have hbl : b < w0.heap.size := by
        obtain ⟨b3, o3, e3, h3, _⟩ := x10.seen.ex (by omega)
        injection e3 with e3
        injection e3 with e3
        omega
      have hpar : parV fs i.b = f2.params := by simp [parV, hm2, hf2]
      have hV2 := x2.all f2 (List.mem_of_getElem? hf2)
      obtain ⟨np, hnp⟩ := Int.eq_ofNat_of_zero_le (valid_bounds hV2).1.1
      have hnp8 : np ≤ 8 := by have := (valid_bounds hV2).1.2; omega
      have pc : V6.cell? ⟨b, off + m2 * 4, none⟩ = some (.int .i64 (np : Int)) := by rw [← hnp]; exact k06.cell hat2.params (fun f => f)
      have hargs : np = 0 ∨ (0 ≤ i.c ∧ i.c + np ≤ 16) := by
        have := so.args hk
        rw [hpar, hnp] at this
        omega
      have hcv : childV fs (payT t') i = childP (payT t') (m2 : Int) i.c np := by
        unfold childV childP
        rw [hpar, hnp, hm2]
        rfl
      obtain ⟨v1, k1, T1, hc1, hc2⟩ := cs5 hk
      have hjc := hL.jn.child (fs := fs) i
      rw [hcv] at hc1 hjc
      rw [ha] at hc2
      have hen := ends_add hL.en t'.number.toNat t'.node.work par i
      obtain ⟨l1, l2, l3⟩ := walk_len gg (k' + 1) _ _ _ 0 v1 k1 T1 hc1 hjc
      obtain ⟨o1, o2, o3⟩ := walk_mono gg (k' + 1) _ _ _ 0 v1 k1 T1 hc1
      have hw0' := hL.jn.work
      have hjb : Jn T1 k1 (gotT (spawnT (payT t')) a v1 0) par := hL.jn.back (by show 0 < t'.node.work + 1; omega) rfl l1 l2 (by omega)
      obtain ⟨p1, p2, p3⟩ := walk_len gg k1 T1 _ par (at_ + 1) v k2 T2 hc2 hjb
      obtain ⟨r1, r2, r3⟩ := walk_mono gg k1 T1 _ par (at_ + 1) v k2 T2 hc2
      have hadn := (add_len T' t'.number.toNat t'.node.work par i).2.2
      have hglt : gg < g0 := by have := HB.out.2.2; omega
      have hspn := hL.sp
      have hb6 : ∀ w', Keeps None V6 w' → Calls Tryz.prog 43 #[.pointer (some ⟨X, 0, none⟩), .agg #[.int .i64 5, .int .i64 (a : Int), .int .i64 (m2 : Int), .int .i64 i.c, .int .i64 i.k], .int .i64 (np : Int)] w' fun e w'' => e = .returned (.agg (ints (childK ((payT t').tk ((at_ : Int) + 1)) m2 i.c np).l).toArray) ∧ IsTsk w'' X 97 ((spawnT (payT t')).tk ((at_ : Int) + 1)) (rst (spawnT (payT t')) pv sl) ∧ Keeps (· = X) w' w'' := fun w' hk' =>
        tchild_any X 97 ((payT t').tk ((at_ : Int) + 1)) (rst (payT t') pv sl) 5 (a : Int) (m2 : Int) i.c i.k np w' (H6.out.1.kept hk' (fun f => f)) hnp8 (by show 0 ≤ t'.spawned ∧ t'.spawned ≤ 8388608; omega) hargs
      have HCH : Hid _ := hb6
      have hnX : ∀ {w' : World}, Keeps (· = X) V6 w' → Keeps (TQ lo Q w) w w' := fun hk' => H6.out.2.2.2.2.1.trans hk' (fun i e hi => by have e' : i = X := e; omega)
      have hpl : ∀ w', Keeps (· = X) V6 w' → IsTsk w' X 97 ((spawnT (payT t')).tk ((at_ : Int) + 1)) (rst (spawnT (payT t')) pv sl) → Calls Tryz.prog 33 #[.pointer (some ⟨Q, 0, none⟩), .agg (ints (childK ((payT t').tk ((at_ : Int) + 1)) m2 i.c np).l ++ (ints (List.replicate 8 0) ++ [Value.pointer (some ⟨X, 0, none⟩), Value.int .i64 (a : Int), Value.int .i64 0, Value.int .i64 0])).toArray] w' fun e w'' => e = .returned (.int .i64 v1) ∧ Tr lo w'' R T1 ∧ w''.heap[Q]? = some (.cells #[.slice (some ⟨b, off, none⟩) fn fc, wfV R, .int .i64 (k1 : Int)] 93 (0, 0)) ∧ Keeps (TQ lo Q w') w' w'' := fun w' hk' ht' => by
        have h30 : w'.cell? ⟨X, 30, none⟩ = some (.int .i64 (t'.number.toNat : Int)) := by
          have := ht'.beh (j := 10) (rst_at (spawnT (payT t')) pv sl hL.slots).2.1
          have e5 : (spawnT (payT t')).number = (t'.number.toNat : Int) := by show t'.number = _; have := HV.out.2.2.2.2.1; omega
          rw [e5] at this
          exact this
        refine HI.out gg hglt k' (addV T' t'.number.toNat t'.node.work par i) (childP (payT t') (m2 : Int) i.c np) (some t'.number.toNat) (.pointer (some ⟨X, 0, none⟩)) (a : Int) v1 k1 T1 w' hc1 (by omega) (by omega) (by omega) ⟨_, _, _, _, H6.out.2.1.past hk' H6.out.1.blk turn_no⟩ hjc hen (blk_kept H6.out.2.2.1 hk' H6.out.2.2.2.2.2.1) ⟨fun e => (by cases e), fun p e => ?_⟩ (x8.trans (hnX hk') (fun i e hi => by
          rcases e with e | e
          · have := e.1; have := x10.low; omega
          · have := x10.q; omega)) (by have := (hnX hk').size; omega) (args_len _ _ _) rfl rfl rfl ⟨by show (0 : Int) ≤ (m2 : Int); omega, by show (m2 : Int) < _; omega⟩
        obtain rfl := Option.some.inj e
        exact ⟨X, rfl, h30, _, ht'.blk⟩
      have HPL : Hid _ := hpl
      have hbt := built_turn (childK ((payT t').tk ((at_ : Int) + 1)) m2 i.c np) (args_len _ _ _) X (a : Int)
      have nJ : ¬ J = X := H6.out.2.2.2.2.2.2.1
      have nQ : ¬ Q = X := H6.out.2.2.2.2.2.1
      have nb : ¬ b = X := by have := x8.size; omega
      have q0 : V6.cell? ⟨Q, 0, none⟩ = some (.slice (some ⟨b, off, none⟩) fn fc) := (blk_cell H6.out.2.2.1 0).trans rfl
      rw [hk] at j0
      rw [ha] at j1
      rw [hm2] at j2
      have SV : ∀ w', Keeps (· = X) V6 w' → w'.cell? ⟨J, 0, none⟩ = some (.int .i64 5) ∧ w'.cell? ⟨J, 1, none⟩ = some (.int .i64 (a : Int)) ∧ w'.cell? ⟨J, 2, none⟩ = some (.int .i64 (m2 : Int)) ∧ w'.cell? ⟨J, 3, none⟩ = some (.int .i64 i.c) ∧ w'.cell? ⟨J, 4, none⟩ = some (.int .i64 i.k) ∧ w'.cell? ⟨Q, 0, none⟩ = some (.slice (some ⟨b, off, none⟩) fn fc) ∧ w'.cell? ⟨b, off + m2 * 4, none⟩ = some (.int .i64 (np : Int)) := fun w' hk' => ⟨hk'.cell j0 nJ, hk'.cell j1 nJ, hk'.cell j2 nJ, hk'.cell j3 nJ, hk'.cell j4 nJ, hk'.cell q0 nQ, hk'.cell pc nb⟩
      have SP : ∀ w' w'', Keeps (· = X) V6 w' → Keeps (TQ lo Q w') w' w'' → w''.heap[Q]? = some (.cells #[.slice (some ⟨b, off, none⟩) fn fc, wfV R, .int .i64 (k1 : Int)] 93 (0, 0)) → w''.cell? ⟨J, 0, none⟩ = some (.int .i64 5) ∧ w''.cell? ⟨J, 1, none⟩ = some (.int .i64 (a : Int)) ∧ w''.cell? ⟨J, 2, none⟩ = some (.int .i64 (m2 : Int)) ∧ w''.cell? ⟨J, 3, none⟩ = some (.int .i64 i.c) ∧ w''.cell? ⟨J, 4, none⟩ = some (.int .i64 i.k) ∧ w''.cell? ⟨Q, 0, none⟩ = some (.slice (some ⟨b, off, none⟩) fn fc) ∧ w''.cell? ⟨b, off + m2 * 4, none⟩ = some (.int .i64 (np : Int)) := fun w' w'' hk' hk'' hq'' => by
        obtain ⟨s0, s1, s2, s3, s4, s5, s6⟩ := SV w' hk'
        have bJ' := blk_kept H6.out.2.2.2.1 hk' nJ
        have hJn : ¬ TQ lo Q w' J := by
          rintro (h | h)
          · exact TyS.other bJ' (by unfold trT; decide) h
          · rw [h] at bJ'
            rw [blk_kept H6.out.2.2.1 hk' nQ] at bJ'
            injection bJ' with t
            injection t with _ t
            exact absurd t (by decide)
        have hbn : ¬ TQ lo Q w' b := by
          rintro (h | h)
          · have := h.1; have := x10.low; omega
          · have := x10.q; omega
        exact ⟨hk''.cell s0 hJn, hk''.cell s1 hJn, hk''.cell s2 hJn, hk''.cell s3 hJn, hk''.cell s4 hJn, (blk_cell hq'' 0).trans rfl, hk''.cell s6 hbn⟩
      have HSV : Hid _ := SV
      have HSP : Hid _ := SP
      have s00 := SV V6.drew (Keeps.drew _ V6)
      have fin : ∀ w' w'', Keeps (· = X) V6 w' → IsTsk w' X 97 ((spawnT (payT t')).tk ((at_ : Int) + 1)) (rst (spawnT (payT t')) pv sl) → Tr lo w'' R T1 → w''.heap[Q]? = some (.cells #[.slice (some ⟨b, off, none⟩) fn fc, wfV R, .int .i64 (k1 : Int)] 93 (0, 0)) → Keeps (TQ lo Q w') w' w'' →
          w''.frozen? ⟨X, 20 + a, none⟩ = false ∧ w''.cell? ⟨X, 20 + a, none⟩ = some (.int .i64 (t'.slots.getD a 0)) ∧ AtW fs lo Q R X m N (.slice (some ⟨b, off, none⟩) fn fc) w par pv sl v k2 T2 (w''.setCell ⟨X, 20 + a, none⟩ (.int .i64 v1)) (at_ + 1) gg k1 T1 (gotT (spawnT (payT t')) a v1 0) ∧ 5000 - nOf (w''.setCell ⟨X, 20 + a, none⟩ (.int .i64 v1)) R < 5000 - nOf wr R := fun w' w'' hk' ht' hT'' hq'' hk'' => by
        have hXn : ¬ TQ lo Q w' X := TQ.turn ht'.blk (blk_kept H6.out.2.2.1 hk' nQ)
        have ht'' := ht'.kept hk'' hXn
        have kS : Keeps (· = X) w'' (w''.setCell ⟨X, 20 + a, none⟩ (.int .i64 v1)) := Keeps.setCell (S := (· = X)) w'' (a := ⟨X, 20 + a, none⟩) rfl _
        have hp := ht''.putBeh (j := a) (v := .int .i64 v1)
        rw [rst_slot (spawnT (payT t')) pv sl hL.slots a ha8] at hp
        obtain ⟨ev', lv', xv', vs', hT'⟩ := hT''
        have hTs := hT'.past kS ht''.blk turn_no
        refine ⟨ht''.free _, ht''.beh (j := a) ((rst_at (spawnT (payT t')) pv sl hL.slots).2.2.2 a ha8), ⟨hc2, ⟨_, _, _, _, hTs⟩, hp, ?_, blk_kept hq'' kS nQ, hjb, o3 hen, ?_, ?_, hL.fn, ?_, (TQ.trans (hnX hk') hk'').trans kS (fun i e hi => by have e' : i = X := e; omega)⟩, ?_⟩
        · show (t'.slots.set a v1).length = 8
          rw [List.length_set]; exact hL.slots
        · show 0 ≤ t'.spawned + 1 ∧ t'.spawned + 1 ≤ t'.node.work + 1
          omega
        · show t'.node.work + 1 ≤ (T1.n : Int)
          have := hL.wk
          omega
        · have := so.next (by omega) (by omega)
          omega
        · rw [nOf_tr ⟨_, _, _, _, hTs⟩, nOf_tr hL.tr]
          omega
      have HF : Hid _ := fin
      have hg2 : gg ≤ g0 := by omega
      have HG : Hid _ := hg2
      generalize hcv1 : (ints (childK ((payT t').tk ((at_ : Int) + 1)) m2 i.c np).l).toArray = cv at HCH hbt
      generalize hcw : (ints (childK ((payT t').tk ((at_ : Int) + 1)) m2 i.c np).l ++ (ints (List.replicate 8 0) ++ [Value.pointer (some ⟨X, 0, none⟩), Value.int .i64 (a : Int), Value.int .i64 0, Value.int .i64 0])).toArray = cw at HPL hbt
      have HBT : Hid _ := hbt
      have i9 : (m2 : Int) < (fn : Int) := by omega
      have i10 : (0 : Int) ≤ (m2 : Int) := by omega
      have i11 : (a : Int) < 8 := by omega
      have i12 : (0 : Int) ≤ (a : Int) := by omega
      clear so cs3 cs4 cs5 cs9 csO hcv1 hcw hbt fin SV SP hpl hb6 hg2 hk ha hm2 hjc hc1 hc2 hen l1 l2 l3 o1 o2 o3 hjb p1 p2 p3 r1 r2 r3 hadn hspn hw0' hcv hpar hnp hV2 hat2 hf2 hargs k06 hL x1 x2 x3 x4 x5 x6 x7 x8 x9 x10 x11 x12 x13 x14 x15 x16 hnX
      go_wp2_with fail
      refine wp_region_held_drew (S := (fun w' => w'.cell? ⟨J, 0, none⟩ = some (.int .i64 5) ∧ w'.cell? ⟨J, 1, none⟩ = some (.int .i64 (a : Int)) ∧ w'.cell? ⟨J, 2, none⟩ = some (.int .i64 (m2 : Int)) ∧ w'.cell? ⟨J, 3, none⟩ = some (.int .i64 i.c) ∧ w'.cell? ⟨J, 4, none⟩ = some (.int .i64 i.k) ∧ w'.cell? ⟨Q, 0, none⟩ = some (.slice (some ⟨b, off, none⟩) fn fc) ∧ w'.cell? ⟨b, off + m2 * 4, none⟩ = some (.int .i64 (np : Int)))) (by kernel_rfl) ?_ (fun hHeld => ?_)
      · (try dsimp only); first | exact s00 | exact s14 | exact s18 | exact s21
      refine wpAnyH_take (i := 0) (oi := { dst := some 58, op := Op.fieldAddr 37 (Operand.tmp 6) 1, type := 0, pos := "walk.go:40", after := #[], guard := none }) (v := ?_) rfl (by kernel_rfl) (by kernel_rfl) (by kernel_rfl) (fun _ _ _ h => h) (Or.inl ⟨by rfl, ?_⟩) (by assumption) ?_
      rotate_left
      · (intro wz hSw; (try dsimp only at hSw); go_simp; try with_reducible rfl)
      simp only [Act.put, List.setIfInBounds_toArray, List.set_cons_zero, List.set_cons_succ]
      refine wpAnyH_take (i := 1) (oi := { dst := some 59, op := Op.load 3 (Operand.tmp 58), type := 3, pos := "walk.go:40", after := #[{ on := 0, ground := Ground.data }], guard := none }) (v := ?_) rfl (by kernel_rfl) (by kernel_rfl) (by kernel_rfl) (fun _ _ _ h => h) (Or.inl ⟨by rfl, ?_⟩) (by assumption) ?_
      rotate_left
      · (intro wz hSw; (try dsimp only at hSw); go_simp; try with_reducible rfl)
      simp only [Act.put, List.setIfInBounds_toArray, List.set_cons_zero, List.set_cons_succ]
      refine wpAnyH_take (i := 2) (oi := { dst := some 60, op := Op.move (Operand.tmp 0), type := 113, pos := "walk.go:40", after := #[], guard := none }) (v := ?_) rfl (by kernel_rfl) (by kernel_rfl) (by kernel_rfl) (fun _ _ _ h => h) (Or.inl ⟨by rfl, ?_⟩) (by assumption) ?_
      rotate_left
      · (intro wz hSw; (try dsimp only at hSw); go_simp; try with_reducible rfl)
      simp only [Act.put, List.setIfInBounds_toArray, List.set_cons_zero, List.set_cons_succ]
      refine wpAnyH_take (i := 3) (oi := { dst := some 61, op := Op.fieldAddr 97 (Operand.tmp 3) 0, type := 0, pos := "walk.go:40", after := #[], guard := none }) (v := ?_) rfl (by kernel_rfl) (by kernel_rfl) (by kernel_rfl) (fun _ _ _ h => h) (Or.inl ⟨by rfl, ?_⟩) (by assumption) ?_
      rotate_left
      · (intro wz hSw; (try dsimp only at hSw); go_simp; try with_reducible rfl)
      simp only [Act.put, List.setIfInBounds_toArray, List.set_cons_zero, List.set_cons_succ]
      refine wpAnyH_take (i := 4) (oi := { dst := some 62, op := Op.load 37 (Operand.tmp 6), type := 37, pos := "walk.go:40", after := #[], guard := none }) (v := ?_) rfl (by kernel_rfl) (by kernel_rfl) (by kernel_rfl) (fun _ _ _ h => h) (Or.inl ⟨by rfl, ?_⟩) (by assumption) ?_
      rotate_left
      · (intro wz hSw; (try dsimp only at hSw); go_simp; try with_reducible rfl)
      simp only [Act.put, List.setIfInBounds_toArray, List.set_cons_zero, List.set_cons_succ]
      refine wpAnyH_take (i := 5) (oi := { dst := some 63, op := Op.move (Operand.tmp 0), type := 113, pos := "walk.go:40", after := #[], guard := none }) (v := ?_) rfl (by kernel_rfl) (by kernel_rfl) (by kernel_rfl) (fun _ _ _ h => h) (Or.inl ⟨by rfl, ?_⟩) (by assumption) ?_
      rotate_left
      · (intro wz hSw; (try dsimp only at hSw); go_simp; try with_reducible rfl)
      simp only [Act.put, List.setIfInBounds_toArray, List.set_cons_zero, List.set_cons_succ]
      refine wpAnyH_take (i := 6) (oi := { dst := some 64, op := Op.nilCheck (Operand.tmp 63), type := 0, pos := "walk.go:40", after := #[{ on := 5, ground := Ground.data }], guard := none }) (v := ?_) rfl (by kernel_rfl) (by kernel_rfl) (by kernel_rfl) (fun _ _ _ h => h) (Or.inl ⟨by rfl, ?_⟩) (by assumption) ?_
      rotate_left
      · (intro wz hSw; (try dsimp only at hSw); go_simp; try with_reducible rfl)
      simp only [Act.put, List.setIfInBounds_toArray, List.set_cons_zero, List.set_cons_succ]
      refine wpAnyH_take (i := 7) (oi := { dst := some 65, op := Op.fieldAddr 93 (Operand.tmp 64) 0, type := 0, pos := "walk.go:40", after := #[{ on := 6, ground := Ground.data }], guard := none }) (v := ?_) rfl (by kernel_rfl) (by kernel_rfl) (by kernel_rfl) (fun _ _ _ h => h) (Or.inl ⟨by rfl, ?_⟩) (by assumption) ?_
      rotate_left
      · (intro wz hSw; (try dsimp only at hSw); go_simp; try with_reducible rfl)
      simp only [Act.put, List.setIfInBounds_toArray, List.set_cons_zero, List.set_cons_succ]
      refine wpAnyH_take (i := 8) (oi := { dst := some 66, op := Op.load 22 (Operand.tmp 65), type := 22, pos := "walk.go:40", after := #[{ on := 7, ground := Ground.data }], guard := none }) (v := ?_) rfl (by kernel_rfl) (by kernel_rfl) (by kernel_rfl) (fun _ _ _ h => h) (Or.inl ⟨by rfl, ?_⟩) (by assumption) ?_
      rotate_left
      · (intro wz hSw; (try dsimp only at hSw); go_simp; try with_reducible rfl)
      simp only [Act.put, List.setIfInBounds_toArray, List.set_cons_zero, List.set_cons_succ]
      refine wpAnyH_take (i := 9) (oi := { dst := some 67, op := Op.fieldAddr 37 (Operand.tmp 6) 2, type := 0, pos := "walk.go:40", after := #[], guard := none }) (v := ?_) rfl (by kernel_rfl) (by kernel_rfl) (by kernel_rfl) (fun _ _ _ h => h) (Or.inl ⟨by rfl, ?_⟩) (by assumption) ?_
      rotate_left
      · (intro wz hSw; (try dsimp only at hSw); go_simp; try with_reducible rfl)
      simp only [Act.put, List.setIfInBounds_toArray, List.set_cons_zero, List.set_cons_succ]
      refine wpAnyH_take (i := 10) (oi := { dst := some 68, op := Op.load 3 (Operand.tmp 67), type := 3, pos := "walk.go:40", after := #[{ on := 9, ground := Ground.data }], guard := none }) (v := ?_) rfl (by kernel_rfl) (by kernel_rfl) (by kernel_rfl) (fun _ _ _ h => h) (Or.inl ⟨by rfl, ?_⟩) (by assumption) ?_
      rotate_left
      · (intro wz hSw; (try dsimp only at hSw); go_simp; try with_reducible rfl)
      simp only [Act.put, List.setIfInBounds_toArray, List.set_cons_zero, List.set_cons_succ]
      refine wpAnyH_take (i := 11) (oi := { dst := some 69, op := Op.indexAddr 22 (Operand.tmp 66) (Operand.tmp 68), type := 0, pos := "walk.go:40", after := #[{ on := 8, ground := Ground.data }, { on := 10, ground := Ground.data }], guard := none }) (v := ?_) rfl (by kernel_rfl) (by kernel_rfl) (by kernel_rfl) (fun _ _ _ h => h) (Or.inl ⟨by rfl, ?_⟩) (by assumption) ?_
      rotate_left
      · (intro wz hSw; (try dsimp only at hSw); go_simp; try with_reducible rfl)
      simp only [Act.put, List.setIfInBounds_toArray, List.set_cons_zero, List.set_cons_succ]
      refine wpAnyH_take (i := 12) (oi := { dst := some 70, op := Op.fieldAddr 35 (Operand.tmp 69) 0, type := 0, pos := "walk.go:40", after := #[{ on := 11, ground := Ground.data }], guard := none }) (v := ?_) rfl (by kernel_rfl) (by kernel_rfl) (by kernel_rfl) (fun _ _ _ h => h) (Or.inl ⟨by rfl, ?_⟩) (by assumption) ?_
      rotate_left
      · (intro wz hSw; (try dsimp only at hSw); go_simp; try with_reducible rfl)
      simp only [Act.put, List.setIfInBounds_toArray, List.set_cons_zero, List.set_cons_succ]
      refine wpAnyH_take (i := 13) (oi := { dst := some 71, op := Op.load 3 (Operand.tmp 70), type := 3, pos := "walk.go:40", after := #[{ on := 12, ground := Ground.data }], guard := none }) (v := ?_) rfl (by kernel_rfl) (by kernel_rfl) (by kernel_rfl) (fun _ _ _ h => h) (Or.inl ⟨by rfl, ?_⟩) (by assumption) ?_
      rotate_left
      · (intro wz hSw; (try dsimp only at hSw); go_simp; try with_reducible rfl)
      simp only [Act.put, List.setIfInBounds_toArray, List.set_cons_zero, List.set_cons_succ]
      refine wpAnyH_take (i := 15) (oi := { dst := some 73, op := Op.fieldAddr 37 (Operand.tmp 6) 1, type := 0, pos := "walk.go:40", after := #[], guard := none }) (v := ?_) rfl (by kernel_rfl) (by kernel_rfl) (by kernel_rfl) (fun _ _ _ h => h) (Or.inl ⟨by rfl, ?_⟩) (by assumption) ?_
      rotate_left
      · (intro wz hSw; (try dsimp only at hSw); go_simp; try with_reducible rfl)
      simp only [Act.put, List.setIfInBounds_toArray, List.set_cons_zero, List.set_cons_succ]
      refine wpAnyH_take (i := 16) (oi := { dst := some 74, op := Op.load 3 (Operand.tmp 73), type := 3, pos := "walk.go:40", after := #[{ on := 15, ground := Ground.data }], guard := none }) (v := ?_) rfl (by kernel_rfl) (by kernel_rfl) (by kernel_rfl) (fun _ _ _ h => h) (Or.inl ⟨by rfl, ?_⟩) (by assumption) ?_
      rotate_left
      · (intro wz hSw; (try dsimp only at hSw); go_simp; try with_reducible rfl)
      simp only [Act.put, List.setIfInBounds_toArray, List.set_cons_zero, List.set_cons_succ]
      refine wpAnyH_take (i := 19) (oi := { dst := some 77, op := Op.fieldAddr 97 (Operand.tmp 3) 1, type := 0, pos := "walk.go:40", after := #[], guard := none }) (v := ?_) rfl (by kernel_rfl) (by kernel_rfl) (by kernel_rfl) (fun _ _ _ h => h) (Or.inl ⟨by rfl, ?_⟩) (by assumption) ?_
      rotate_left
      · (intro wz hSw; (try dsimp only at hSw); go_simp; try with_reducible rfl)
      simp only [Act.put, List.setIfInBounds_toArray, List.set_cons_zero, List.set_cons_succ]
      refine wpAnyH_ready (rs := [14]) (by kernel_rfl) (by simp) ?_
      refine AllReadyH.cons (o := { dst := some 72, op := Op.call { callee := Callee.value (Operand.func 43), args := #[Operand.tmp 61, Operand.tmp 62, Operand.tmp 71], argTypes := #[62, 37, 3] }, type := 62, pos := "walk.go:40", after := #[{ on := 3, ground := Ground.data }, { on := 4, ground := Ground.data }, { on := 13, ground := Ground.data }], guard := none }) rfl (fun K hK => ?_) ?_
      · go_simp
        refine (HCH.out _ (Keeps.drew None V6)).mono ?_
        rintro _ w14 ⟨rfl, ht14, hk14⟩
        have kk14 : Keeps (· = X) V6 w14 := (Keeps.drew _ V6).trans hk14 (fun _ e _ => e)
        have s14 := HSV.out w14 kk14
        refine hK.out _ _ ?_ (fun hHeld2 => ?_)
        · (try dsimp only); first | exact s00 | exact s14 | exact s18 | exact s21
        clear hK K
        try simp only [Act.put, List.setIfInBounds_toArray, List.set_cons_zero, List.set_cons_succ]
        refine wpAnyH_ready (rs := [17]) (by kernel_rfl) (by simp) ?_
        refine AllReadyH.cons (o := { dst := some 75, op := Op.build 97 #[(0, Operand.tmp 72), (2, Operand.tmp 3), (3, Operand.tmp 74)], type := 97, pos := "walk.go:40", after := #[{ on := 14, ground := Ground.data }, { on := 16, ground := Ground.data }], guard := none }) rfl (fun K hK => ?_) ?_
        · refine step_build (cells := cw) rfl 97 #[(0, .tmp 72), (2, .tmp 3), (3, .tmp 74)] rfl (by simpa [Act.eval] using HBT.out) ?_
          refine hK.out _ _ ?_ (fun hHeld2 => ?_)
          · (try dsimp only); first | exact s00 | exact s14 | exact s18 | exact s21
          clear hK K
          try simp only [Act.put, List.setIfInBounds_toArray, List.set_cons_zero, List.set_cons_succ]
          refine wpAnyH_ready (rs := [18]) (by kernel_rfl) (by simp) ?_
          refine AllReadyH.cons (o := { dst := some 76, op := Op.call { callee := Callee.value (Operand.func 33), args := #[Operand.tmp 60, Operand.tmp 75], argTypes := #[113, 97] }, type := 2, pos := "walk.go:40", after := #[{ on := 2, ground := Ground.data }, { on := 17, ground := Ground.data }, { on := 14, ground := Ground.chain }], guard := none }) rfl (fun K hK => ?_) ?_
          · go_simp
            refine (HPL.out _ kk14 ht14).mono ?_
            rintro _ w18 ⟨rfl, hT18, hq18, hk18⟩
            have s18 := HSP.out w14 w18 kk14 hk18 hq18
            obtain ⟨z1, z2, nx1, nx2⟩ := HF.out w14 w18 kk14 ht14 hT18 hq18 hk18
            have s21 : (w18.setCell ⟨X, 20 + a, none⟩ (.int .i64 v1)).cell? ⟨J, 0, none⟩ = some (.int .i64 5) ∧ (w18.setCell ⟨X, 20 + a, none⟩ (.int .i64 v1)).cell? ⟨J, 1, none⟩ = some (.int .i64 (a : Int)) ∧ (w18.setCell ⟨X, 20 + a, none⟩ (.int .i64 v1)).cell? ⟨J, 2, none⟩ = some (.int .i64 (m2 : Int)) ∧ (w18.setCell ⟨X, 20 + a, none⟩ (.int .i64 v1)).cell? ⟨J, 3, none⟩ = some (.int .i64 i.c) ∧ (w18.setCell ⟨X, 20 + a, none⟩ (.int .i64 v1)).cell? ⟨J, 4, none⟩ = some (.int .i64 i.k) ∧ (w18.setCell ⟨X, 20 + a, none⟩ (.int .i64 v1)).cell? ⟨Q, 0, none⟩ = some (.slice (some ⟨b, off, none⟩) fn fc) ∧ (w18.setCell ⟨X, 20 + a, none⟩ (.int .i64 v1)).cell? ⟨b, off + m2 * 4, none⟩ = some (.int .i64 (np : Int)) := by
              have kS : Keeps (· = X) w18 (w18.setCell ⟨X, 20 + a, none⟩ (.int .i64 v1)) := Keeps.setCell (S := (· = X)) w18 (a := ⟨X, 20 + a, none⟩) rfl _
              exact ⟨kS.cell s18.1 nJ, kS.cell s18.2.1 nJ, kS.cell s18.2.2.1 nJ, kS.cell s18.2.2.2.1 nJ, kS.cell s18.2.2.2.2.1 nJ, kS.cell s18.2.2.2.2.2.1 nQ, kS.cell s18.2.2.2.2.2.2 nb⟩
            have NX : Hid _ := And.intro nx1 nx2
            clear nx1 nx2
            refine hK.out _ _ ?_ (fun hHeld2 => ?_)
            · (try dsimp only); first | exact s00 | exact s14 | exact s18 | exact s21
            clear hK K
            try simp only [Act.put, List.setIfInBounds_toArray, List.set_cons_zero, List.set_cons_succ]
            refine wpAnyH_take (i := 20) (oi := { dst := some 78, op := Op.indexAddr 63 (Operand.tmp 77) (Operand.tmp 59), type := 0, pos := "walk.go:40", after := #[{ on := 19, ground := Ground.data }, { on := 1, ground := Ground.data }, { on := 0, ground := Ground.phase }, { on := 1, ground := Ground.phase }, { on := 2, ground := Ground.phase }, { on := 3, ground := Ground.phase }, { on := 4, ground := Ground.phase }, { on := 5, ground := Ground.phase }, { on := 6, ground := Ground.phase }, { on := 7, ground := Ground.phase }, { on := 8, ground := Ground.phase }, { on := 9, ground := Ground.phase }, { on := 10, ground := Ground.phase }, { on := 11, ground := Ground.phase }, { on := 12, ground := Ground.phase }, { on := 13, ground := Ground.phase }, { on := 14, ground := Ground.phase }, { on := 15, ground := Ground.phase }, { on := 16, ground := Ground.phase }, { on := 17, ground := Ground.phase }, { on := 18, ground := Ground.phase }], guard := none }) (v := ?_) rfl (by kernel_rfl) (by kernel_rfl) (by kernel_rfl) (fun _ _ _ h => h) (Or.inl ⟨by rfl, ?_⟩) (by assumption) ?_
            rotate_left
            · (intro wz hSw; (try dsimp only at hSw); go_simp; try with_reducible rfl)
            simp only [Act.put, List.setIfInBounds_toArray, List.set_cons_zero, List.set_cons_succ]
            refine wpAnyH_ready (rs := [21]) (by kernel_rfl) (by simp) ?_
            refine AllReadyH.cons (o := { dst := none, op := Op.store 2 (Operand.tmp 78) (Operand.tmp 76), type := 0, pos := "walk.go:40", after := #[{ on := 20, ground := Ground.data }, { on := 18, ground := Ground.data }, { on := 18, ground := Ground.chain }, { on := 0, ground := Ground.phase }, { on := 1, ground := Ground.phase }, { on := 2, ground := Ground.phase }, { on := 3, ground := Ground.phase }, { on := 4, ground := Ground.phase }, { on := 5, ground := Ground.phase }, { on := 6, ground := Ground.phase }, { on := 7, ground := Ground.phase }, { on := 8, ground := Ground.phase }, { on := 9, ground := Ground.phase }, { on := 10, ground := Ground.phase }, { on := 11, ground := Ground.phase }, { on := 12, ground := Ground.phase }, { on := 13, ground := Ground.phase }, { on := 14, ground := Ground.phase }, { on := 15, ground := Ground.phase }, { on := 16, ground := Ground.phase }, { on := 17, ground := Ground.phase }, { on := 18, ground := Ground.phase }], guard := none }) rfl (fun K hK => ?_) ?_
            · go_simp
              refine hK.out _ _ ?_ (fun hHeld2 => ?_)
              · (try dsimp only); first | exact s00 | exact s14 | exact s18 | exact s21
              clear hK K
              try simp only [Act.put, List.setIfInBounds_toArray, List.set_cons_zero, List.set_cons_succ]
              refine wpAnyH_done (by kernel_rfl) ?_ _
              go_wp2_with fail
              exact ⟨⟨at_ + 1, gg, _, _, _, NX.out.1, HG.out⟩, NX.out.2⟩
            exact AllReadyH.nil
          exact AllReadyH.nil
        exact AllReadyH.nil
      exact AllReadyH.nil
    · -- ISync
      have hd := do_six X 97 ((payT t').tk ((at_ : Int) + 1)) (rst (payT t') pv sl) i.a i.b i.c i.k V6 H6.out.1
      have ec : computeT (payT t') i = payT t' := by
        unfold computeT
        rw [if_neg (by omega), if_neg (by omega), if_neg (by omega), if_neg (by omega), if_neg (by omega)]
      have hr := csO (by omega) (by omega) (by omega) (by omega)
      rw [ec] at hr
      have nxt : ∀ wy, IsTsk wy X 97 ((payT t').tk ((at_ : Int) + 1)) (rst (payT t') pv sl) → Keeps (· = X) V6 wy → AtW fs lo Q R X m N (.slice (some ⟨b, off, none⟩) fn fc) w par pv sl v k2 T2 wy (at_ + 1) gg k' (addV T' t'.number.toNat t'.node.work par i) (payT t') ∧ 5000 - nOf wy R < 5000 - nOf wr R := fun wy ty ky =>
        HL.out.go hr ⟨_, _, _, _, H6.out.2.1.past ky H6.out.1.blk turn_no⟩ ty (blk_kept H6.out.2.2.1 ky H6.out.2.2.2.2.2.1) rfl rfl rfl rfl HL.out.slots (by have := so.next (by omega) (by omega); omega) (H6.out.2.2.2.2.1.trans ky (fun i e hi => by have e' : i = X := e; have := H6.out.2.2.2.2.2.2.2; omega)) HB.out.1 hb2
      have NX : Hid _ := nxt
      have hg2 : gg ≤ g0 := by have := HB.out.2.2; omega
      have HG : Hid _ := hg2
      clear hg2
      rw [hk] at j0
      clear so nxt cs3 cs4 cs5 cs9 csO hr ec hk
      go_wp2_with (go_at_call 31; refine hd.mono ?_; rintro _ wy ⟨rfl, ty, ky⟩)
      have nx := NX.out wy ty ky
      exact ⟨⟨at_ + 1, gg, _, _, _, nx.1, HG.out⟩, nx.2⟩
    · -- ILoad
      obtain ⟨a, ha⟩ := Int.eq_ofNat_of_zero_le (so.reg (by omega) (by omega) (by omega)).1
      have ha16 : a < 16 := by have := (so.reg (by omega) (by omega) (by omega)).2; omega
      obtain ⟨q, hq⟩ := Int.eq_ofNat_of_zero_le (so.load hk).1
      have hq8 : q < 8 := by have := (so.load hk).2; omega
      have cS : V6.cell? ⟨X, 20 + q, none⟩ = some (.int .i64 (t'.slots.getD q 0)) := H6.out.1.beh (j := q) ((rst_at (payT t') pv sl HL.out.slots).2.2.2 q hq8)
      have cR : V6.cell? ⟨X, 2 + a, none⟩ = some (.int .i64 (t'.regs.getD a 0)) := H6.out.1.reg ha16
      have zR := H6.out.1.free (2 + a)
      have i2' : (a : Int) < 16 := by omega
      have i3' : (q : Int) < 8 := by omega
      have hct : computeT (payT t') i = setR (payT t') a (t'.slots.getD q 0) := by
        unfold computeT
        rw [hk, ha, hq]
        rfl
      have hr := csO (by omega) (by omega) (by omega) (by omega)
      rw [hct] at hr
      have tL : IsTsk (V6.setCell ⟨X, 2 + a, none⟩ (.int .i64 (t'.slots.getD q 0))) X 97 ((setR (payT t') a (t'.slots.getD q 0)).tk ((at_ : Int) + 1)) (rst (setR (payT t') a (t'.slots.getD q 0)) pv sl) := H6.out.1.putReg (x := t'.slots.getD q 0) ha16
      have kL : Keeps (· = X) V6 (V6.setCell ⟨X, 2 + a, none⟩ (.int .i64 (t'.slots.getD q 0))) := Keeps.setCell (S := (· = X)) V6 (a := ⟨X, 2 + a, none⟩) rfl _
      have nx := HL.out.go hr ⟨_, _, _, _, (H6.out.2.1.past kL H6.out.1.blk turn_no).more (Keeps.drew None _)⟩ (tL.kept (Keeps.drew None _) (fun f => f)) (blk_kept (blk_kept H6.out.2.2.1 kL H6.out.2.2.2.2.2.1) (Keeps.drew None _) (fun f => f)) rfl rfl rfl rfl HL.out.slots (by have := so.next (by omega) (by omega); omega) ((H6.out.2.2.2.2.1.trans kL (fun i e hi => by have e' : i = X := e; have := H6.out.2.2.2.2.2.2.2; omega)).andDrew) HB.out.1 hb2
      have NX : Hid _ := nx
      have hg2 : gg ≤ g0 := by have := HB.out.2.2; omega
      have HG : Hid _ := hg2
      clear hg2
      rw [hk] at j0
      rw [ha] at j1
      rw [hq] at j2
      generalize t'.slots.getD q 0 = x at *
      generalize t'.regs.getD a 0 = x2 at *
      clear so nx hct tL kL cs3 cs4 cs5 cs9 csO hr hk ha hq
      go_wp2_with fail
      go_region
      all_goals go_wp2_with fail
      all_goals exact ⟨⟨at_ + 1, gg, _, _, _, NX.out.1, HG.out⟩, NX.out.2⟩
    · -- IReturn
      obtain ⟨a, ha⟩ := Int.eq_ofNat_of_zero_le (so.reg (by omega) (by omega) (by omega)).1
      have ha16 : a < 16 := by have := (so.reg (by omega) (by omega) (by omega)).2; omega
      have cR : V6.cell? ⟨X, 2 + a, none⟩ = some (.int .i64 (t'.regs.getD a 0)) := H6.out.1.reg ha16
      have i2' : (a : Int) < 16 := by omega
      have hr := cs9 hk
      injection hr with r1 r2
      injection r2 with r2 r3
      rw [ha] at r1
      have HF : Hid (v = t'.regs.getD a 0 ∧ Tr lo V6 R T2 ∧ V6.heap[Q]? = some (.cells #[.slice (some ⟨b, off, none⟩) fn fc, wfV R, .int .i64 (k2 : Int)] 93 (0, 0)) ∧ Keeps (TQ lo Q w) w V6) := ⟨r1, by rw [r3]; exact ⟨_, _, _, _, H6.out.2.1⟩, by rw [r2]; exact H6.out.2.2.1, H6.out.2.2.2.2.1⟩
      generalize t'.regs.getD a 0 = x at *
      rw [hk] at j0
      rw [ha] at j1
      clear so cs3 cs4 cs5 cs9 csO r1 r2 r3 hk ha
      go_wp2_with fail
      go_ret
      exact ⟨by rw [HF.out.1]; rfl, HF.out.2.1, HF.out.2.2.1, HF.out.2.2.2⟩
    · -- the others
      have hd := do_any X 97 ((payT t').tk ((at_ : Int) + 1)) (rst (payT t') pv sl) i V6 H6.out.1 hk (fun h => so.reg h (by omega) (by omega)) (fun h => so.regb h) (fun h => so.regc h) (fun h => so.op h)
      obtain ⟨d1, d2, d3, d4⟩ := do_tk ((at_ : Int) + 1) (payT t') i (by omega)
      obtain ⟨e1, e2, e3, e4⟩ := comp_same (payT t') i
      rw [d1] at hd
      have er : rst (payT t') pv sl = rst (computeT (payT t') i) pv sl := by unfold rst; rw [e1, e2, e3]
      rw [er] at hd
      have hbd : 0 ≤ nextAt ((at_ : Int) + 1) (payT t') i ∧ nextAt ((at_ : Int) + 1) (payT t') i < N := by
        unfold nextAt
        by_cases k3 : i.kind = 3
        · rw [if_pos k3]; exact so.jump k3
        · rw [if_neg k3]
          have hnx := so.next k3 (by omega)
          by_cases k4 : i.kind = 4
          · rw [if_pos k4]
            have := so.branch k4
            split <;> omega
          · rw [if_neg k4]; omega
      obtain ⟨at2, hat2⟩ := Int.eq_ofNat_of_zero_le hbd.1
      rw [hat2] at hd hbd
      have hr : walkV fs gg k' (addV T' t'.number.toNat t'.node.work par i) (computeT (payT t') i) par at2 = some (v, k2, T2) := by
        unfold nextAt at hat2
        by_cases k3 : i.kind = 3
        · rw [if_pos k3] at hat2
          have ec : computeT (payT t') i = payT t' := by unfold computeT; rw [if_neg (by omega), if_neg (by omega), if_neg (by omega), if_neg (by omega), if_neg (by omega)]
          rw [ec, show at2 = i.a.toNat by omega]
          exact cs3 k3
        · rw [if_neg k3] at hat2
          by_cases k4 : i.kind = 4
          · rw [if_pos k4] at hat2
            have ec : computeT (payT t') i = payT t' := by unfold computeT; rw [if_neg (by omega), if_neg (by omega), if_neg (by omega), if_neg (by omega), if_neg (by omega)]
            have e5 : (payT t').regs = t'.regs := rfl
            rw [e5] at hat2
            have e6 : at2 = if t'.regs.getD i.a.toNat 0 = 0 then at_ + 1 else i.b.toNat := by split at hat2 <;> rename_i hz <;> simp only [hz, if_true, if_false] <;> omega
            rw [ec, e6]
            exact cs4 k4
          · rw [if_neg k4] at hat2
            rw [show at2 = at_ + 1 by omega]
            exact csO k3 k4 (by omega) (by omega)
      have nxt : ∀ wy, IsTsk wy X 97 ((computeT (payT t') i).tk (at2 : Int)) (rst (computeT (payT t') i) pv sl) → Keeps (· = X) V6 wy → AtW fs lo Q R X m N (.slice (some ⟨b, off, none⟩) fn fc) w par pv sl v k2 T2 wy at2 gg k' (addV T' t'.number.toNat t'.node.work par i) (computeT (payT t') i) ∧ 5000 - nOf wy R < 5000 - nOf wr R := fun wy ty ky =>
        HL.out.go hr ⟨_, _, _, _, H6.out.2.1.past ky H6.out.1.blk turn_no⟩ ty (blk_kept H6.out.2.2.1 ky H6.out.2.2.2.2.2.1) (by rw [e3]; rfl) (by rw [e2]; rfl) (by rw [e4]; rfl) (by rw [e3]; rfl) (by rw [e1]; exact HL.out.slots) (by omega) (H6.out.2.2.2.2.1.trans ky (fun i e hi => by have e' : i = X := e; have := H6.out.2.2.2.2.2.2.2; omega)) HB.out.1 hb2
      have NX : Hid _ := nxt
      have hg2 : gg ≤ g0 := by have := HB.out.2.2; omega
      have HG : Hid _ := hg2
      clear hg2
      have n5 : (i.kind == 5) = false := by simp; omega
      have n7 : (i.kind == 7) = false := by simp; omega
      have n9 : (i.kind == 9) = false := by simp; omega
      clear so nxt cs3 cs4 cs5 cs9 csO hr d1 d2 d3 d4 e1 e2 e3 e4 er hbd hat2 hk
      generalize computeT (payT t') i = tc at *
      go_wp2_with (go_at_call 31; refine hd.mono ?_; rintro _ wy ⟨rfl, ty, ky⟩)
      have nx := NX.out wy ty ky
      exact ⟨⟨at2, gg, _, _, _, nx.1, HG.out⟩, nx.2⟩
end Go.Proofs.YtbdpdojeaahpjaaGreatDoor
/-! Dags, plainly: what is one, longest paths. -/
namespace Go.Proofs.YtbdpdojeaahpjaaGreatDoor.Dg
set_option linter.unusedVariables false
set_option maxRecDepth 20000

structure Ed where
  f : Int
  t : Int
def edBad (n : Int) (e : Ed) : Bool := decide (e.f < 0) || decide (e.t ≤ e.f) || decide (n ≤ e.t)
def checkV (n : Int) (l : List Ed) : Int :=
  if n < 0 ∨ 4096 < n then 70 else if 16384 < l.length then 2 else if l.any (edBad n) then 71 else 0
/-- Those that a node is ahead of; those that are ahead of a node; as often as an edge stands there. -/
def flw (l : List Ed) (k : Nat) : List Int := (l.filter (fun e => decide (e.f = (k : Int)))).map Ed.t
/-- The longest path to j whose last step comes from a node below k. -/
def rk (l : List Ed) : Nat → Nat → Int
  | 0, _ => 1
  | k + 1, j => if (j : Int) ∈ flw l k then max (rk l k j) (rk l k k + 1) else rk l k j
def R (l : List Ed) (j : Nat) : Int := rk l j j
end Go.Proofs.YtbdpdojeaahpjaaGreatDoor.Dg
/-! A longest path, plainly. -/
namespace Go.Proofs.YtbdpdojeaahpjaaGreatDoor.Dg
set_option linter.unusedVariables false
set_option maxRecDepth 20000

end Go.Proofs.YtbdpdojeaahpjaaGreatDoor.Dg
/-! The dag of a run as a dag of stage 7 (its texts stand in a namespace of their own: DGSUB=1). -/
namespace Go.Proofs.YtbdpdojeaahpjaaGreatDoor
set_option linter.unusedVariables false
set_option maxRecDepth 20000
open Go.RowKit Go.PlainOps

end Go.Proofs.YtbdpdojeaahpjaaGreatDoor
