import Derived.Test.YtbdpdojeaahpjaaGreatDoorPkAS
import Derived.BigQuiet
import Derived.Deep.QuietTactic
/-! play. -/
namespace Go.Proofs.YtbdpdojeaahpjaaGreatDoor
set_option linter.unusedVariables false
set_option maxRecDepth 20000
open Go.RowKit Go.HeapKit Go.PlainOps

def PlayOk (fs : List Fn) (L : Bool) (fa : Option Addr) (fn fc : Nat) (w0 : World) (R n : Nat) : Prop :=
  ∀ (g : Nat) (s : Rn) (t : Tk) (nv : Value) (w : World), s.fuel < g → s.fuel ≤ n → IsRn w R (.slice fa fn fc) L s nv → Env w0 w fa fn fs R nv → Begins fs L s t →
    Calls Tryz.prog 16 #[.pointer (some ⟨R, 0, none⟩), tkV t] w (PlaysTo R (.slice fa fn fc) L nv w (playV fs L g s t))
set_option maxHeartbeats 1000000 in
theorem play_step (fs : List Fn) (hA : AllV fs) (L : Bool) (fa : Option Addr) (fn fc : Nat) (w0 : World) (R n : Nat) (IH : ∀ k, k < n → PlayOk fs L fa fn fc w0 R k) : PlayOk fs L fa fn fc w0 R n := by
  intro g s t nv w hg hn hr hE hB
  have hal := Keeps.alloc None w (.cells (ints (t.l 0 0 0)).toArray 67)
  have bX := heap_alloc_new w (.cells (ints (t.l 0 0 0)).toArray 67)
  obtain ⟨W, hW⟩ : ∃ W, W = w.alloc (.cells (ints (t.l 0 0 0)).toArray 67) := ⟨_, rfl⟩
  obtain ⟨X, hX⟩ : ∃ X, X = w.heap.size := ⟨_, rfl⟩
  rw [← hW] at hal bX
  rw [← hX] at bX
  have t1 : IsTkN W X 0 0 0 t := IsTkN.of bX hB.regs hB.slots
  have r1 := hr.kept hal (fun _ _ f => f)
  have E1 := hE.more hal (fun _ f => f.elim) (Moved.refl _ _)
  by_cases hd : 4096 < t.depth
  · have hres : playV fs L g s t = .gave 63 := by unfold playV; rw [if_pos hd]
    rw [hres]
    have hen := enter_deep R X t W t1 hd
    have HK : Hid (Keeps None w W) := hal
    clear hal bX t1 r1 E1 hB hE hr IH hA hres
    unfold tkV
    generalize (ints (t.l 0 0 0)).toArray = cs at *
    go_enter Tryz.func16, Tryz.ntmps16
    go_upto_region 1 with fail
    rw [← hW, ← hX]
    clear hW hX
    go_wp2_with (go_at_call 26; refine hen.mono ?_; rintro _ w2 ⟨rfl, hw2⟩; have hw3 := hw2.symm; subst hw3)
    exact ⟨rfl, rfl, HK.out.mono (fun _ f _ => f.elim)⟩
  · have hres : playV fs L g s t = loopV fs L g (enterS L s t) (enterT s t) 0 := by unfold playV; rw [if_neg hd]
    have hsin := hB.sin hd
    have htin := hB.tin hd
    have htk := hB.tasks
    have hln : s.nodes.length ≤ 8388608 := by have := hB.nodes; split at this <;> omega
    have hen := enter_any R X (.slice fa fn fc) nv L s t W r1 t1 hd (by omega) hln
    obtain ⟨f, hf, _, hcf, hV, hok⟩ := hA.fn htin.func
    obtain ⟨m, hm⟩ : ∃ m : Nat, t.node.func = m := Int.eq_ofNat_of_zero_le htin.func.1
    have hfm : fs[m]? = some f := by
      have : (enterT s t).node.func.toNat = m := by show t.node.func.toNat = m; rw [hm]; rfl
      rw [← this]; exact hf
    obtain ⟨b, off, ca, cc, hfa, hmn, hb0, hat⟩ := E1.fn hfm
    subst hfa
    have hXw : w0.heap.size ≤ X := by rw [hX]; exact hE.kept.size
    have HX : Hid (X = w.heap.size ∧ w0.heap.size ≤ X ∧ Keeps None w W ∧ Env w0 W (some ⟨b, off, none⟩) fn fs R nv ∧ b < w0.heap.size ∧ fs[m]? = some f ∧ Valid fs f ∧ f.Ok ∧ AllV fs ∧ t.node.func = m ∧ Env w0 w (some ⟨b, off, none⟩) fn fs R nv) := ⟨hX, hXw, hal, E1, hb0, hfm, hV, hok, hA, hm, hE⟩
    have HI : Hid (∀ k, k < n → PlayOk fs L (some ⟨b, off, none⟩) fn fc w0 R k) := IH
    have HR : Hid (playV fs L g s t = loopV fs L g (enterS L s t) (enterT s t) 0 ∧ (enterS L s t).In L ∧ (enterT s t).In fs s.fuel ∧ s.fuel < g ∧ s.fuel ≤ n ∧ codeOf fs m = f.code) := ⟨hres, hsin, htin, hg, hn, by have : codeOf fs (m : Int) = f.code := code_of f (by simpa using hfm); exact this⟩
    clear hX hal E1 hb0 hfm hV hok hA hm hE IH hsin htin htk hln hf hcf hXw bX t1 r1 hr hB hat hres
    generalize playV fs L g s t = res at *
    unfold tkV
    generalize (ints (t.l 0 0 0)).toArray = cs at *
    go_enter Tryz.func16, Tryz.ntmps16
    go_upto_region 1 with fail
    rw [← hW, ← HX.out.1]
    clear hW
    go_upto_region 2 with (go_at_call 26; refine hen.mono ?_; rintro _ w2 ⟨rfl, nv2, hr2, ht2, hk2, hm2⟩)
    have hk2' : Keeps (RFoot R nv) w w2 := (HX.out.2.2.1.mono (T := RFoot R nv) (fun _ f _ => f.elim)).trans hk2 (fun i e hi => by rcases e with e | e; exact e; have := HX.out.1; omega)
    have hm2' : Moved w nv nv2 := hm2.back HX.out.2.2.1.size
    have E2 : Env w0 w2 (some ⟨b, off, none⟩) fn fs R nv2 := HX.out.2.2.2.1.more hk2 (fun k e => by rcases e with e | e; exact HX.out.2.2.2.1.foot k e; rw [e]; exact HX.out.2.1) hm2
    have E00 := HX.out.2.2.2.2.2.2.2.2.2.2
    obtain ⟨b2, off2, hfa2, hb2, hat0⟩ := E00.seen.ex (by omega)
    obtain ⟨rfl, rfl⟩ : b = b2 ∧ off = off2 := by injection hfa2 with e; injection e with e1 e2; exact ⟨e1, e2⟩
    obtain ⟨ca, cc, hat0⟩ := hat0 m f HX.out.2.2.2.2.2.1
    have hat := hat0.more E2.kept
    have c1 : w2.cell? ⟨R, 0, none⟩ = some (.slice (some ⟨b, off, none⟩) fn fc) := (blk_cell hr2.blk 0).trans rfl
    have c2 : w2.cell? ⟨X, 0, none⟩ = some (.int .i64 (m : Int)) := by
      have := ht2.tsk.func
      rw [← HX.out.2.2.2.2.2.2.2.2.2.1]
      exact this
    have c3 := hat.code
    have i1 : (m : Int) < (fn : Int) := by omega
    have HC : Hid (SeenI w0 ca f.code.length f.code) := hat0.seen
    have H2 : Hid (IsRn w2 R (.slice (some ⟨b, off, none⟩) fn fc) L (enterS L s t) nv2 ∧ IsTk w2 X 0 (enterT s t) ∧ Keeps (RFoot R nv) w w2 ∧ Moved w nv nv2 ∧ Env w0 w2 (some ⟨b, off, none⟩) fn fs R nv2) := ⟨hr2, ht2, hk2', hm2', E2⟩
    have hcl : f.code.length ≤ 512 := by have := (valid_bounds HX.out.2.2.2.2.2.2.1).2.2.2; omega
    have hcl0 : 1 ≤ f.code.length := by have := (valid_bounds HX.out.2.2.2.2.2.2.1).2.2.2; omega
    obtain ⟨N, hN⟩ : ∃ N, N = f.code.length := ⟨_, rfl⟩
    rw [← hN] at c3 hcl hcl0
    have HN : Hid _ := hN
    clear hr2 ht2 hk2 hm2 hk2' hm2' E2 hat hat0 E00 hfa2 hb2 hen hN
    go_quiet (fail)
    go_wp2_with fail
    go_loopw [] (fun wr => ∃ (at_ g' : Nat) (s' : Rn) (t' : Tk) (nv' : Value), AtLoop fs L (.slice (some ⟨b, off, none⟩) fn fc) w R X nv res m n wr at_ g' s' t' nv') (fun wr => fuelOf wr R)
    case atStart =>
      refine ⟨0, g, enterS L s t, enterT s t, nv2, ?_⟩
      have kd := Keeps.drewN None w2 8
      exact ⟨HR.out.1.symm, HR.out.2.2.2.1, HR.out.2.2.2.2.1, H2.out.1.kept (Keeps.drewN None w2 _) (fun _ _ f => f), H2.out.2.1.kept (Keeps.drewN None w2 _) (fun f => f), HR.out.2.1, HR.out.2.2.1, by rw [HR.out.2.2.2.2.2]; have := HN.out; omega, HX.out.2.2.2.2.2.2.2.2.2.1, by show (s.tasks : Int) < ((s.tasks + 1 : Nat) : Int); omega, H2.out.2.2.1.trans (Keeps.drewN None w2 _) (fun _ f _ => f.elim), H2.out.2.2.2.1⟩
    case round =>
      obtain ⟨at_, g', s', t', nv', hL⟩ := hrel
      clear c1 c2 c3
      have E0 := HX.out.2.2.2.2.2.2.2.2.2.2
      have Er := E0.more hL.kept (fun k e => E0.foot k e) hL.moved
      have hXs : w.heap.size ≤ X := by rw [HX.out.1]; exact Nat.le_refl _
      obtain ⟨gg, rfl⟩ : ∃ gg, g' = gg + 1 := ⟨g' - 1, by have := hL.fuel; omega⟩
      by_cases h0 : s'.fuel = 0
      · have hp := pay_out R X (.slice (some ⟨b, off, none⟩) fn fc) nv' L s' wr hL.run h0
        have hres : res = .gave 62 := by rw [← hL.res]; exact loop_out h0
        have HKK : Hid (Keeps (RFoot R nv) w wr ∧ res = .gave 62) := ⟨hL.kept, hres⟩
        clear hL Er E0 hres h0
        go_wp2_with (go_at_call 27; refine hp.mono ?_; rintro _ w5 ⟨rfl, hw⟩; have hw2 := hw.symm; subst hw2)
        refine ⟨rfl, ?_⟩
        rw [HKK.out.2]
        exact ⟨rfl, HKK.out.1⟩
      · have tin := hL.tin
        have sin := hL.sin
        have hp := pay_any R X (.slice (some ⟨b, off, none⟩) fn fc) nv' L s' at_ t' wr hL.run hL.task h0 (by have := sin.tasks; omega) (by have := tin.work; omega) (by have := tin.span; omega)
        have hlt : at_ < N := by have := hL.lt; rw [HR.out.2.2.2.2.2] at this; rw [HN.out]; exact this
        have hlen : N = f.code.length := HN.out
        have HL : Hid _ := hL
        have HE : Hid (Env w0 wr (some ⟨b, off, none⟩) fn fs R nv' ∧ w.heap.size ≤ X ∧ w0.heap.size ≤ X ∧ s'.fuel ≠ 0) := ⟨Er, hXs, HX.out.2.1, h0⟩
        clear hL Er E0 tin sin h0 hXs hlen
        go_upto_region 4 with (go_at_call 27; refine hp.mono ?_; rintro _ w5 ⟨rfl, hr5, ht5, hk5⟩)
        have hk5' : Keeps (fun k => RFoot R nv' k ∨ k = X) wr w5 := hk5.mono (fun i e _ => by rcases e with e | e; exact .inl (.inl e); exact .inr e)
        have E5 := HE.out.1.more hk5' (fun k e => by rcases e with e | e; exact HE.out.1.foot k e; rw [e]; exact HE.out.2.2.1) (Moved.refl _ _)
        obtain ⟨cb, co, i, rfl, hi, hins⟩ := (HC.out.more E5.kept).at (k := at_) (by rw [← HN.out]; exact hlt)
        obtain ⟨y0, y1, y2, y3, y4⟩ := hins
        have hcode : (codeOf fs t'.node.func)[at_]? = some i := by rw [HL.out.func, HR.out.2.2.2.2.2]; exact hi
        have so := step_ok HX.out.2.2.2.2.2.2.1 hi
        have hik := (HX.out.2.2.2.2.2.2.2.1.code i (List.mem_of_getElem? hi)).k
        have hat5 : (at_ : Int) < (N : Int) := by omega
        have hat6 : (at_ : Int) ≤ 512 := by omega
        have hal := Keeps.alloc None w5 (.cells #[.int .i64 i.kind, .int .i64 i.a, .int .i64 i.b, .int .i64 i.c, .int .i64 i.k] 37)
        have bJ0 := heap_alloc_new w5 (.cells #[.int .i64 i.kind, .int .i64 i.a, .int .i64 i.b, .int .i64 i.c, .int .i64 i.k] 37)
        obtain ⟨J, hJ⟩ : ∃ J, J = w5.heap.size := ⟨_, rfl⟩
        rw [← hJ] at bJ0
        have htA := ht5.kept hal (fun f => f)
        have xat : w5.cell? ⟨X, 1, none⟩ = some (.int .i64 (at_ : Int)) := ht5.tsk.at
        have xat2 : (w5.alloc (.cells #[.int .i64 i.kind, .int .i64 i.a, .int .i64 i.b, .int .i64 i.c, .int .i64 i.k] 37)).cell? ⟨X, 1, none⟩ = some (.int .i64 (at_ : Int)) := htA.tsk.at
        have xfr := htA.free 1
        have hkA : Keeps (· = X) (w5.alloc (.cells #[.int .i64 i.kind, .int .i64 i.a, .int .i64 i.b, .int .i64 i.c, .int .i64 i.k] 37)) ((w5.alloc (.cells #[.int .i64 i.kind, .int .i64 i.a, .int .i64 i.b, .int .i64 i.c, .int .i64 i.k] 37)).setCell ⟨X, 1, none⟩ (.int .i64 ((at_ : Int) + 1))) := Keeps.setCell (S := (· = X)) _ (a := ⟨X, 1, none⟩) rfl _
        have htV := htA.putAt (x := (at_ : Int) + 1)
        have hJX : J ≠ X := by have := blk_lt ht5.blk; omega
        have bJ := blk_kept bJ0 hkA hJX
        have hrA := hr5.kept hal (fun _ _ f => f)
        have hrV := hrA.kept hkA (fun k hk e => by subst e; rcases hk with hk | hk; exact (hrA.ne htA) hk.symm; exact hrA.nX htA hk)
        have hkV := (hk5'.trans hal (fun _ f _ => f.elim)).trans hkA (fun _ e _ => .inr e)
        have hEV := (E5.more hal (fun _ f => f.elim) (Moved.refl _ _)).more hkA (fun k e => by rw [e]; exact HE.out.2.2.1) (Moved.refl _ _)
        obtain ⟨V, hV⟩ : ∃ V, V = (w5.alloc (.cells #[.int .i64 i.kind, .int .i64 i.a, .int .i64 i.b, .int .i64 i.c, .int .i64 i.k] 37)).setCell ⟨X, 1, none⟩ (.int .i64 ((at_ : Int) + 1)) := ⟨_, rfl⟩
        rw [← hV] at bJ hrV htV hkV hEV
        have HV : Hid (IsRn V R (.slice (some ⟨b, off, none⟩) fn fc) L (payS s') nv' ∧ IsTk V X ((at_ : Int) + 1) (payT t') ∧ Keeps (fun k => RFoot R nv' k ∨ k = X) wr V ∧ Env w0 V (some ⟨b, off, none⟩) fn fs R nv' ∧ (codeOf fs t'.node.func)[at_]? = some i ∧ StepOk fs N at_ i ∧ okI i.k) :=
          ⟨hrV, htV, hkV, hEV, hcode, by rw [HN.out]; exact so, hik⟩
        clear hr5 ht5 hk5 hk5' E5 hi hcode so hik hal hp bJ0 htA hkA htV hrA hrV hkV hEV hJX
        go_upto_region 6 with fail
        rw [← hV, ← hJ]
        clear hV hJ y0 y1 y2 y3 y4 xat xat2 xfr
        have hL := HL.out
        obtain ⟨m', hm'⟩ : ∃ m', s'.fuel = m' + 1 := ⟨s'.fuel - 1, by have := HE.out.2.2.2; omega⟩
        have hpf : (payS s').fuel = m' := by simp [payS, hm']
        have tin := hL.tin
        rw [hm'] at tin
        have HP : Hid ((payS s').fuel < s'.fuel ∧ (payT t').In fs (payS s').fuel ∧ (waitT (payT t')).In fs (payS s').fuel ∧ (payS s').In L ∧ (computeT (payT t') i).In fs (payS s').fuel ∧ codeOf fs (m : Int) = f.code ∧ N = f.code.length ∧ t'.In fs (m' + 1) ∧ (payS s').fuel = m') :=
          ⟨by omega, by rw [hpf]; exact tin.pay, by rw [hpf]; exact tin.wait, hL.sin.pay, by rw [hpf]; exact tin.pay.compute i HV.out.2.2.2.2.2.2, HR.out.2.2.2.2.2, HN.out, tin, hpf⟩
        have so := HV.out.2.2.2.2.2.1
        have cJ0 : V.cell? ⟨J, 0, none⟩ = some (.int .i64 i.kind) := (blk_cell bJ 0).trans rfl
        have cJ1 : V.cell? ⟨J, 1, none⟩ = some (.int .i64 i.a) := (blk_cell bJ 1).trans rfl
        have cJ2 : V.cell? ⟨J, 2, none⟩ = some (.int .i64 i.b) := (blk_cell bJ 2).trans rfl
        have cJ3 : V.cell? ⟨J, 3, none⟩ = some (.int .i64 i.c) := (blk_cell bJ 3).trans rfl
        have cJ4 : V.cell? ⟨J, 4, none⟩ = some (.int .i64 i.k) := (blk_cell bJ 4).trans rfl
        clear hm' hpf tin hL bJ
        have hcases : i.kind = 5 ∨ i.kind = 6 ∨ i.kind = 7 ∨ i.kind = 9 ∨ (i.kind = 0 ∨ i.kind = 1 ∨ i.kind = 2 ∨ i.kind = 3 ∨ i.kind = 4 ∨ i.kind = 8) := by have := so.kind; omega
        rcases hcases with hk | hk | hk | hk | hk
        · -- ISpawn
          obtain ⟨a, ha⟩ := Int.eq_ofNat_of_zero_le (so.slot hk).1
          have ha8 : a < 8 := by have := (so.slot hk).2; omega
          obtain ⟨m2, hm2⟩ := Int.eq_ofNat_of_zero_le (so.fn hk).1
          have hm2l : m2 < fs.length := by have := (so.fn hk).2; omega
          obtain ⟨f2, hf2⟩ : ∃ f2, fs[m2]? = some f2 := ⟨fs[m2], by simp⟩
          obtain ⟨b2, off2, ca2, cc2, hfa2, hmn2, hb2, hat2⟩ := HV.out.2.2.2.1.fn hf2
          obtain ⟨rfl, rfl⟩ : b = b2 ∧ off = off2 := by injection hfa2 with e; injection e with e1 e2; exact ⟨e1, e2⟩
          have hpar : parV fs i.b = f2.params := by simp [parV, hm2, hf2]
          have hV2 := HX.out.2.2.2.2.2.2.2.2.1.all f2 (List.mem_of_getElem? hf2)
          obtain ⟨np, hnp⟩ := Int.eq_ofNat_of_zero_le (valid_bounds hV2).1.1
          have hnp8 : np ≤ 8 := by have := (valid_bounds hV2).1.2; omega
          have hpc : V.cell? ⟨b, off + m2 * 4, none⟩ = some (.int .i64 (np : Int)) := by rw [← hnp]; exact hat2.params
          have hargs : np = 0 ∨ (0 ≤ i.c ∧ i.c + np ≤ 16) := by
            have := so.args hk
            rw [hpar, hnp] at this
            omega
          have hcv : childV fs (payT t') i = childP (payT t') (m2 : Int) i.c np := by
            unfold childV childP
            rw [hpar, hnp, hm2]
            rfl
          have hBg := child_begins HL.out.sin HL.out.tin HE.out.2.2.2 so hk
          rw [hcv] at hBg
          have hnb : ¬ RFoot R nv' b ∧ b ≠ X := ⟨fun e => by have := HV.out.2.2.2.1.foot b e; omega, by have := HE.out.2.2.1; omega⟩
          have hlpf := loop_spawn (L := L) (g := gg) HE.out.2.2.2 HV.out.2.2.2.2.1 hk
          rw [HL.out.res, hcv, ha] at hlpf
          have hfg : (payS s').fuel < gg := by have := HL.out.fuel; have := HP.out.1; omega
          have hfn : (payS s').fuel < n := by have := HL.out.most; have := HP.out.1; omega
          have hIH := fun wx (hrx : IsRn wx R (.slice (some ⟨b, off, none⟩) fn fc) L (payS s') nv') (hkx : Keeps (· = X) V wx) =>
            HI.out (payS s').fuel hfn gg (payS s') (childP (payT t') (m2 : Int) i.c np) nv' wx hfg (Nat.le_refl _) hrx (HV.out.2.2.2.1.more hkx (fun k e => by rw [e]; exact HE.out.2.2.1) (Moved.refl _ _)) hBg
          have tdp := HP.out.2.1.depth
          have tsp := HP.out.2.1.spawned
          have tspan := HP.out.2.1.span
          have tdue := HP.out.2.1.due
          cases hpl : playV fs L gg (payS s') (childP (payT t') (m2 : Int) i.c np) with
          | gave er =>
            rw [hpl] at hIH hlpf
            have hsp := spawn_gave R X (some ⟨b, off, none⟩) fn fc L (payS s') nv' ((at_ : Int) + 1) (payT t') 5 (a : Int) i.c i.k m2 np b off er V HV.out.1 HV.out.2.1 hmn2 rfl hnb hpc hnp8 (by omega) (by omega) hargs hIH
            have HQ : Hid (∀ wy, Keeps (fun k => RFoot R nv' k ∨ k = X) V wy → PlaysTo R (.slice (some ⟨b, off, none⟩) fn fc) L nv w res (.panicked (thrownE er)) wy) := by
              intro wy ky
              rw [hlpf]
              exact ⟨rfl, (HL.out.kept.trans HV.out.2.2.1 (foot_back HL.out.moved HE.out.2.1)).trans ky (foot_back HL.out.moved HE.out.2.1)⟩
            rw [hk] at cJ0 ⊢
            rw [hm2] at cJ2 ⊢
            rw [ha] at cJ1 ⊢
            clear ha hm2 hk so hlpf hIH hpl hBg hcv hat2 tdp tsp tspan tdue hargs hpar hV2
            go_wp2_with (go_at_call 28; refine hsp.mono ?_; rintro _ wy ⟨rfl, ky⟩)
            exact ⟨rfl, HQ.out wy ky⟩
          | done v sp s2 =>
            obtain ⟨d1, d2, d3, d4, d5, d6⟩ := child_done HX.out.2.2.2.2.2.2.2.2.1 hBg rfl hpl
            rw [hpl] at hIH hlpf
            have hsp := spawn_done R X (some ⟨b, off, none⟩) fn fc L (payS s') nv' ((at_ : Int) + 1) (payT t') 5 (a : Int) i.c i.k m2 np b off v sp s2 V HV.out.1 HV.out.2.1 hmn2 rfl hnb hpc hnp8 (by omega) (by omega) hargs a rfl ha8 (by omega) (by omega) (by have := HL.out.sin.tasks; have := HP.out.1; omega) hIH
            have nxt : ∀ wy nv2, IsRn wy R (.slice (some ⟨b, off, none⟩) fn fc) L s2 nv2 → IsTk wy X ((at_ : Int) + 1) (gotT (spawnT (payT t')) a v sp) → Keeps (fun k => RFoot R nv' k ∨ k = X) V wy → Moved V nv' nv2 → AtLoop fs L (.slice (some ⟨b, off, none⟩) fn fc) w R X nv res m n wy (at_ + 1) gg s2 (gotT (spawnT (payT t')) a v sp) nv2 ∧ fuelOf wy R < fuelOf wr R := by
              intro wy nv2 ry ty ky my
              refine HL.out.next HE.out.2.1 (at' := at_ + 1) hlpf.symm (by have := HP.out.1; omega) ry ty d5 (HP.out.2.2.2.2.2.2.2.1.got d1 d2 (by have := HP.out.2.2.2.2.2.2.2.2; omega)) ?_ rfl rfl (by have : (payS s').tasks = s'.tasks := rfl; omega) (HV.out.2.2.1.trans ky (fun _ e _ => e)) (my.back HV.out.2.2.1.size)
              rw [HP.out.2.2.2.2.2.1, ← HP.out.2.2.2.2.2.2.1]
              exact so.next (by omega) (by omega)
            have NX : Hid _ := nxt
            rw [hk] at cJ0 ⊢
            rw [hm2] at cJ2 ⊢
            rw [ha] at cJ1 ⊢
            clear ha hm2 hk so hlpf hIH hpl hBg hcv hat2 tdp tsp tspan tdue hargs hpar hV2 nxt d1 d2 d3 d4 d5 d6
            go_wp2_with (go_at_call 28; refine hsp.mono ?_; rintro _ wy ⟨rfl, nv2', ry, ty, ky, my⟩)
            have nx := NX.out wy nv2' ry ty ky my
            exact ⟨⟨at_ + 1, gg, _, _, _, nx.1⟩, nx.2⟩
        · -- ISync
          have hw := wait_any X ((at_ : Int) + 1) (payT t') V HV.out.2.1 (by have := HP.out.2.1.due; omega) (by have := HP.out.2.1.span; omega)
          have nxt : ∀ wy, IsTk wy X ((at_ : Int) + 1) (waitT (payT t')) → Keeps (· = X) V wy → AtLoop fs L (.slice (some ⟨b, off, none⟩) fn fc) w R X nv res m n wy (at_ + 1) gg (payS s') (waitT (payT t')) nv' ∧ fuelOf wy R < fuelOf wr R := by
            intro wy ty ky
            refine HL.out.next HE.out.2.1 (at' := at_ + 1) ?_ HP.out.1 (HV.out.1.kept ky (fun k hk e => by subst e; rcases hk with hk | hk; exact (HV.out.1.ne HV.out.2.1) hk.symm; exact HV.out.1.nX HV.out.2.1 hk)) ty HP.out.2.2.2.1 HP.out.2.2.1 ?_ rfl rfl (Nat.le_refl _) (HV.out.2.2.1.trans ky (fun _ e _ => .inr e)) (Moved.refl _ _)
            · rw [← HL.out.res, loop_sync HE.out.2.2.2 HV.out.2.2.2.2.1 hk]
            · rw [HP.out.2.2.2.2.2.1, ← HP.out.2.2.2.2.2.2.1]
              exact so.next (by omega) (by omega)
          have NX : Hid _ := nxt
          rw [hk] at cJ0 ⊢
          clear so nxt
          go_wp2_with (go_at_call 29; refine hw.mono ?_; rintro _ wy ⟨rfl, ty, ky⟩)
          have nx := NX.out wy ty ky
          exact ⟨⟨at_ + 1, gg, _, _, _, nx.1⟩, nx.2⟩
        · -- ILoad
          obtain ⟨a, ha⟩ := Int.eq_ofNat_of_zero_le (so.reg (by omega) (by omega) (by omega)).1
          have ha16 : a < 16 := by have := (so.reg (by omega) (by omega) (by omega)).2; omega
          obtain ⟨q, hq⟩ := Int.eq_ofNat_of_zero_le (so.load hk).1
          have hq8 : q < 8 := by have := (so.load hk).2; omega
          have cS : V.cell? ⟨X, 20 + q, none⟩ = some (.int .i64 (t'.slots.getD q 0)) := HV.out.2.1.slot hq8
          have cR : V.cell? ⟨X, 2 + a, none⟩ = some (.int .i64 (t'.regs.getD a 0)) := HV.out.2.1.reg ha16
          have zR := HV.out.2.1.free (2 + a)
          have i2 : (a : Int) < 16 := by omega
          have i3 : (q : Int) < 8 := by omega
          have hct : computeT (payT t') i = setR (payT t') a (t'.slots.getD q 0) := by
            unfold computeT
            rw [hk, ha, hq]
            rfl
          have tL := HV.out.2.1.putReg (x := t'.slots.getD q 0) ha16
          rw [← hct] at tL
          have kL : Keeps (· = X) V _ := Keeps.setCell (S := (· = X)) V (a := ⟨X, 2 + a, none⟩) rfl (.int .i64 (t'.slots.getD q 0))
          have rL := HV.out.1.kept kL (fun k hk e => by subst e; rcases hk with hk | hk; exact (HV.out.1.ne HV.out.2.1) hk.symm; exact HV.out.1.nX HV.out.2.1 hk)
          have nx := HL.out.next HE.out.2.1 (at' := at_ + 1) (by rw [← HL.out.res, loop_comp HE.out.2.2.2 HV.out.2.2.2.2.1 (by omega)]) HP.out.1 (rL.kept (Keeps.drew None _) (fun _ _ f => f)) (by have hnode : (computeT (payT t') i).node = (payT t').node := by { rw [hct]; rfl }; have := tL.kept (Keeps.drew None _) (fun f => f); unfold IsTk; rw [hnode]; exact this) HP.out.2.2.2.1 HP.out.2.2.2.2.1 (by rw [HP.out.2.2.2.2.2.1, ← HP.out.2.2.2.2.2.2.1]; exact so.next (by omega) (by omega)) (by rw [hct]; rfl) (by rw [hct]; rfl) (Nat.le_refl _) ((HV.out.2.2.1.trans kL (fun _ e _ => .inr e)).andDrew) (Moved.refl _ _)
          have NX : Hid _ := nx
          rw [hk] at cJ0 ⊢
          rw [ha] at cJ1
          rw [hq] at cJ2
          generalize t'.slots.getD q 0 = x at *
          generalize t'.regs.getD a 0 = x2 at *
          clear so nx hct tL kL rL
          go_wp2_with fail
          go_region
          all_goals go_wp2_with fail
          all_goals exact ⟨⟨at_ + 1, gg, _, _, _, NX.out.1⟩, NX.out.2⟩
        · -- IReturn
          obtain ⟨a, ha⟩ := Int.eq_ofNat_of_zero_le (so.reg (by omega) (by omega) (by omega)).1
          have ha16 : a < 16 := by have := (so.reg (by omega) (by omega) (by omega)).2; omega
          have cR : V.cell? ⟨X, 2 + a, none⟩ = some (.int .i64 (t'.regs.getD a 0)) := HV.out.2.1.reg ha16
          have cV := HV.out.2.1.tail 6 rfl
          have zV := HV.out.2.1.free 34
          have i2 : (a : Int) < 16 := by omega
          have hres : res = .done (t'.regs.getD a 0) (t'.span + 1) (leaveS L (payS s') (endT (payT t') (t'.regs.getD a 0))) := by
            rw [← HL.out.res, loop_ret HE.out.2.2.2 HV.out.2.2.2.2.1 hk, ha]
            rfl
          generalize hx : t'.regs.getD a 0 = x at *
          have tE := HV.out.2.1.putTail (nf' := t'.node.func) (np' := t'.node.ped) (t' := endT (payT t') x) (j := 6) (x := x) rfl rfl rfl
          have kE : Keeps (· = X) V _ := Keeps.setCell (S := (· = X)) V (a := ⟨X, 34, none⟩) rfl (.int .i64 x)
          have rE := HV.out.1.kept kE (fun k hk e => by subst e; rcases hk with hk | hk; exact (HV.out.1.ne HV.out.2.1) hk.symm; exact HV.out.1.nX HV.out.2.1 hk)
          have hlv := leave_any R X (.slice (some ⟨b, off, none⟩) fn fc) nv' L (payS s') ((at_ : Int) + 1) (endT (payT t') x) _ rE tE (fun hLt => by
            have h1 := HL.out.num
            have h2 := HL.out.sin.nodes
            have h3 := HL.out.tin.number
            rw [hLt] at h2
            have e1 : (endT (payT t') x).number = t'.number := rfl
            have e2 : (payS s').nodes = s'.nodes := rfl
            rw [e1, e2]
            simp at h2
            omega)
          have HQ : Hid (∀ wy, IsRn wy R (.slice (some ⟨b, off, none⟩) fn fc) L (leaveS L (payS s') (endT (payT t') x)) nv' → Keeps (RFoot R nv') (V.setCell ⟨X, 34, none⟩ (.int .i64 x)) wy → PlaysTo R (.slice (some ⟨b, off, none⟩) fn fc) L nv w res (.returned (.tuple #[.int .i64 x, .int .i64 (t'.span + 1)])) wy) := by
            intro wy ry ky
            rw [hres]
            exact ⟨rfl, nv', ry, ((HL.out.kept.trans HV.out.2.2.1 (foot_back HL.out.moved HE.out.2.1)).trans kE (fun i e hi => by have := HE.out.2.1; omega)).trans ky (fun i e hi => foot_back HL.out.moved HE.out.2.1 i (.inl e) hi), HL.out.moved⟩
          rw [hk] at cJ0 ⊢
          rw [ha] at cJ1
          clear so hres tE kE rE hx
          go_upto_region 16 with fail
          go_upto_region 17 with (go_at_call 30; refine hlv.mono ?_; rintro _ wy ⟨rfl, ry, ty, ky⟩)
          have g1 : wy.cell? ⟨X, 34, none⟩ = some (.int .i64 x) := ty.tail 6 rfl
          have g2 : wy.cell? ⟨X, 37, none⟩ = some (.int .i64 (t'.span + 1)) := ty.tail 9 rfl
          have HY : Hid _ := And.intro ry ky
          clear ry ky ty hlv
          go_quiet (fail)
          go_wp2_with fail
          go_ret2
          exact HQ.out _ (HY.out.1.kept (Keeps.drewN None wy _) (fun _ _ f => f)) (HY.out.2.trans (Keeps.drewN None wy _) (fun _ f _ => f.elim))
        · -- the others
          have hcm := sdo_any X ((at_ : Int) + 1) (payT t') i V HV.out.2.1 hk (fun h => so.reg h (by omega) (by omega)) (fun h => so.regb h) (fun h => so.regc h) (fun h => so.op h)
          have hld := loop_do (L := L) (g := gg) HE.out.2.2.2 HV.out.2.2.2.2.1 hk
          have hbd : 0 ≤ nextAt ((at_ : Int) + 1) (payT t') i ∧ nextAt ((at_ : Int) + 1) (payT t') i < N := by
            unfold nextAt
            by_cases k3 : i.kind = 3
            · rw [if_pos k3]; exact so.jump k3
            · rw [if_neg k3]
              have hnx := so.next k3 (by omega)
              by_cases k4 : i.kind = 4
              · rw [if_pos k4]
                have := so.branch k4
                split <;> omega
              · rw [if_neg k4]; omega
          have nxt : ∀ wy, IsTk wy X (nextAt ((at_ : Int) + 1) (payT t') i) (computeT (payT t') i) → Keeps (· = X) V wy → AtLoop fs L (.slice (some ⟨b, off, none⟩) fn fc) w R X nv res m n wy (nextAt ((at_ : Int) + 1) (payT t') i).toNat gg (payS s') (computeT (payT t') i) nv' ∧ fuelOf wy R < fuelOf wr R := by
            intro wy ty ky
            have e1 : (computeT (payT t') i).node = (payT t').node ∧ (computeT (payT t') i).number = (payT t').number := by
              unfold computeT setR
              repeat' split
              all_goals exact ⟨rfl, rfl⟩
            refine HL.out.next HE.out.2.1 (at' := (nextAt ((at_ : Int) + 1) (payT t') i).toNat) ?_ HP.out.1 (HV.out.1.kept ky (fun k hk e => by subst e; rcases hk with hk | hk; exact (HV.out.1.ne HV.out.2.1) hk.symm; exact HV.out.1.nX HV.out.2.1 hk)) ?_ HP.out.2.2.2.1 HP.out.2.2.2.2.1 ?_ (by rw [e1.1]; rfl) (by rw [e1.2]; rfl) (Nat.le_refl _) (HV.out.2.2.1.trans ky (fun _ e _ => .inr e)) (Moved.refl _ _)
            · rw [← HL.out.res, hld]
            · rw [Int.toNat_of_nonneg hbd.1]; exact ty
            · rw [HP.out.2.2.2.2.2.1, ← HP.out.2.2.2.2.2.2.1]
              omega
          have NX : Hid _ := nxt
          have q5 : (i.kind == 5) = false := by simp; omega
          have q6 : (i.kind == 6) = false := by simp; omega
          have q7 : (i.kind == 7) = false := by simp; omega
          have q9 : (i.kind == 9) = false := by simp; omega
          clear so nxt hk hld hbd
          go_wp2_with (go_at_call 31; refine hcm.mono ?_; rintro _ wy ⟨rfl, ty, ky⟩)
          have nx := NX.out wy ty ky
          exact ⟨⟨_, gg, _, _, _, nx.1⟩, nx.2⟩
theorem play_any (fs : List Fn) (hA : AllV fs) (L : Bool) (fa : Option Addr) (fn fc : Nat) (w0 : World) (R : Nat) : ∀ n, PlayOk fs L fa fn fc w0 R n := fun n =>
  Nat.strongRecOn n fun n IH => play_step fs hA L fa fn fc w0 R n IH
end Go.Proofs.YtbdpdojeaahpjaaGreatDoor
