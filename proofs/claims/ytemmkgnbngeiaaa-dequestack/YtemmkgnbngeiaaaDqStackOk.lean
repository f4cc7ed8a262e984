import Derived.Test.YtemmkgnbngeiaaaDqStack
import Derived.Deep.CutBlock
namespace Go.Proofs.Ytemmkgnbngeiaaa
open Go.RowKit Go.HeapKit Go.IntWalk Go.PlainOps

def Twos (w : World) (ao : Option Addr) (len : Nat) (M : Nat → Nat → Int) : Prop := 0 < len → ∃ b off, ao = some ⟨b, off, none⟩ ∧ b < w.heap.size ∧ ∀ i, i < len → w.cell? ⟨b, off + i * 2, none⟩ = some (.int .i64 (M i 0)) ∧ w.cell? ⟨b, off + i * 2 + 1, none⟩ = some (.int .i64 (M i 1))
theorem sk_start {w w1 w2 : World} {p f m : Nat} {F1 : Nat → Prop} (hf : 1 ≤ f) (hm : f ≤ m) (hm2 : m ≤ 4096) (hk1 : Keeps None w w1) (hf1 : ∀ k, F1 k → w.heap.size ≤ k) (hA : AA w1 w2 p F1 ((Ar.new (cellsFrom m f (4 + f))).laid f)) :
    ∃ F, Sk w (w2.alloc (.cells #[.int .i64 0, .int .i64 m] 32)) p w2.heap.size m (.slice none 0 0) [] [] F ((Ar.new (cellsFrom m f (4 + f))).laid f) 0 3 f := by
  obtain ⟨F, hF, hk, hfo⟩ := NewA.step hk1 hf1 hA
  have hka := Keeps.alloc None w2 (.cells #[.int .i64 0, .int .i64 m] 32)
  have hd := dq_start f m hf hm hm2
  refine ⟨F, (hk.mono (fun _ f _ => f.elim)).trans hka (fun _ f _ => f.elim), hF.kept hka (fun _ _ f => f), hd, ?_, hfo, World.ownsRow_nil _ _ _ _, fun k e => by simp [Value.ownBlock] at e, new_at w2 _ _ rfl, fun f => by have := hF.lt f; omega⟩
  rw [← hd.room]
  exact le_cellsFrom _ _ _
theorem Sk.box {w wr wy : World} {p gd most tt aa cc g : Nat} {lv : Value} {r l : List Int} {F : Nat → Prop} {B : Ar} (h : Sk w wr p gd most lv r l F B tt aa cc) (hk : Keeps (· = g) wr wy) (hF : ¬ F g) (hgd : gd ≠ g) (hl : ∀ k, lv.ownBlock = some k → k ≠ g) (hg : w.heap.size ≤ g) : Sk w wy p gd most lv r l F B tt aa cc :=
  ⟨h.kp.trans hk (fun i e _ => by omega), h.ar.kept hk (fun k f e => hF (e ▸ f)), h.dq, h.fits, h.fo, hk.own h.row (fun k e e2 => hl k e e2), h.ro, (hk.block gd h.lt hgd).trans h.db, h.dn⟩
theorem Sk.init2 {w wr : World} {p gd most tt aa cc lc rn : Nat} {lo : Option Addr} {q r l : List Int} {x : Int} {F : Nat → Prop} {B : Ar} (h : Sk w wr p gd most (.slice lo q.length lc) q l F B tt aa cc) (e : q = r ++ [x]) (hr : r.length = rn) : Sk w wr p gd most (.slice lo rn lc) r l F B tt aa cc := by
  subst e hr
  exact h.init
theorem ocells {w1 : World} {g : Nat} {t : TypeId} {x0 x1 x2 x3 x4 x5 x6 x7 x8 x9 x10 x11 x12 : Int} (hb : w1.heap[g]? = some (.cells (OpS.mk x0 x1 x2 x3 x4 x5 x6 x7 x8 x9 x10 x11 x12).vals t (0, 0))) : w1.cell? ⟨g, 0, none⟩ = some (.int .i64 x0) ∧ w1.cell? ⟨g, 1, none⟩ = some (.int .i64 x1) ∧ w1.cell? ⟨g, 2, none⟩ = some (.int .i64 x2) ∧ w1.cell? ⟨g, 3, none⟩ = some (.int .i64 x3) ∧ w1.cell? ⟨g, 4, none⟩ = some (.int .i64 x4) ∧ w1.cell? ⟨g, 5, none⟩ = some (.int .i64 x5) ∧ w1.cell? ⟨g, 6, none⟩ = some (.int .i64 x6) ∧ w1.cell? ⟨g, 7, none⟩ = some (.int .i64 x7) ∧ w1.cell? ⟨g, 8, none⟩ = some (.int .i64 x8) ∧ w1.cell? ⟨g, 9, none⟩ = some (.int .i64 x9) ∧ w1.cell? ⟨g, 10, none⟩ = some (.int .i64 x10) ∧ w1.cell? ⟨g, 11, none⟩ = some (.int .i64 x11) ∧ w1.cell? ⟨g, 12, none⟩ = some (.int .i64 x12) :=
  ⟨cell_of_block hb 0, cell_of_block hb 1, cell_of_block hb 2, cell_of_block hb 3, cell_of_block hb 4, cell_of_block hb 5, cell_of_block hb 6, cell_of_block hb 7, cell_of_block hb 8, cell_of_block hb 9, cell_of_block hb 10, cell_of_block hb 11, cell_of_block hb 12⟩
theorem ans_ended (code v : Int) : (OpS.ended code v).ans = (code, v) := by
  unfold OpS.ans
  rw [if_neg (by intro e; have := congrArg OpS.at_ e; simp [OpS.ended, OpS.zero] at this), if_pos (by simp [OpS.ended])]
  rfl
theorem seq_code (most : Nat) (l : List Int) (kind v : Int) : ((seqAns most l kind v).1 != 0) = true := by
  unfold seqAns
  split
  · split <;> rfl
  · split
    · split <;> rfl
    · split
      · split <;> rfl
      · split <;> rfl
/-- 'whole' on the machine of a call. -/
theorem whole_seq {w wx : World} {p gd most tt aa cc : Nat} {lv : Value} {r l : List Int} {F : Nat → Prop} {B : Ar} (kind v : Int) (h : Sk w wx p gd most lv r l F B tt aa cc) (hb : tt + l.length < 1125899906842624) (hr : r = (seqAns most l kind v).2.2) :
    Calls Try.prog 26 #[.pointer (some ⟨p, 0, none⟩), (seqOp most kind v).value, .int .i64 (9 + 2 * l.length : Nat)] wx fun e w' =>
      e = .returned (.tuple #[.int .i64 (seqAns most l kind v).1, .int .i64 (seqAns most l kind v).2.1, .bool true]) ∧ ∃ F' B' t' a' c', Sk w w' p gd most lv r r F' B' t' a' c' ∧ t' + r.length ≤ tt + l.length + 1 := by
  obtain ⟨A', t', a', c', n, hn, hg, hd, hf, ht⟩ := seq_any kind v h.dq h.fits hb
  have hlen := h.dq.len
  have hcm := h.dq.cm
  have hm1 := h.dq.m1
  obtain ⟨he, hfit⟩ := hg.ends rfl (ended_fit _ _) (by rw [hd.log]; exact Nat.zero_lt_succ _) (9 + 2 * l.length) hn
  refine (whole_any p F B (seqOp most kind v) (9 + 2 * l.length) wx h.ar (by omega) hfit).mono ?_
  rintro e w' ⟨rfl, hA⟩
  rw [he] at hA ⊢
  rw [ans_ended]
  refine ⟨by rw [seq_code], ?_⟩
  obtain ⟨F', hS⟩ := h.acc hA hd hf
  subst hr
  exact ⟨F', A', t', a', c', hS, ht⟩
set_option maxHeartbeats 1600000 in
set_option maxRecDepth 100000 in
theorem stack_ok (f m : Nat) (ao : Option Addr) (len cap : Nat) (M : Nat → Nat → Int) (w : World) (h : CapOK f m) (hM : Twos w ao len M) (hlen : len ≤ 562949953421312) : Calls Try.prog 4 #[.int .i64 f, .int .i64 m, .slice ao len cap] w fun e w' => e = .returned (.bool true) ∧ Below w.heap.size w w' := by
  have hc := lawcaps_ok f m w h
  have hd := dcells_ok f m w h
  obtain ⟨h1, h2, h3⟩ := h
  have hsz : cellsFrom m f (4 + f) ≤ 1048576 := by have := cellsFrom_le m f (4 + f) (by omega) (by omega); omega
  have hle := le_cellsFrom m f (4 + f)
  have hnew := newA_new (cellsFrom m f (4 + f)) w hsz
  have hdn := fun w1 F hF => dnew_ok w.heap.size F (Ar.new (cellsFrom m f (4 + f))) f m w1 ⟨h1, h2, h3⟩ hF (by simp [Ar.new]; exact hle) hsz (by simp [Ar.new])
  have HS : Hid (∀ w1 w2 F1, Keeps None w w1 → (∀ k, F1 k → w.heap.size ≤ k) → AA w1 w2 w.heap.size F1 ((Ar.new (cellsFrom m f (4 + f))).laid f) → ∃ F, Sk w (w2.alloc (.cells #[.int .i64 0, .int .i64 m] 32)) w.heap.size w2.heap.size m (.slice none 0 0) [] [] F ((Ar.new (cellsFrom m f (4 + f))).laid f) 0 3 f) := fun w1 w2 F1 a b c => sk_start (by omega) (by omega) (by omega) a b c
  generalize hB : (Ar.new (cellsFrom m f (4 + f))).laid f = B0 at hdn HS
  generalize hA0 : Ar.new (cellsFrom m f (4 + f)) = A0 at hnew hdn
  have hl0 : A0.cells.length = 0 := by rw [← hA0]; rfl
  simp only [hl0, show ((0 : Nat) : Int) = 0 from rfl] at hdn
  generalize cellsFrom m f (4 + f) = size at hd hnew hsz
  have HM : Hid _ := hM
  clear hB hA0 hM hle hl0
  go_enter Try.func4, Try.ntmps4
  go_wp2_with fail
  refine hc.mono ?_
  rintro e w' ⟨rfl, hw⟩
  have hw2 := hw.symm
  subst hw2
  clear hw hc
  go_wp2_with fail
  refine hd.mono ?_
  rintro e w' ⟨rfl, hw⟩
  have hw2 := hw.symm
  subst hw2
  clear hw hd
  go_wp2_with fail
  refine hnew.mono ?_
  rintro e w1 ⟨rfl, hN⟩
  obtain ⟨F1, hF1, hk1, hf1⟩ := hN
  have hdn1 := hdn w1 F1 hF1
  have HN : Hid _ := And.intro hF1 (And.intro hk1 hf1)
  clear hF1 hk1 hf1 hnew hdn
  go_wp2_with fail
  refine hdn1.mono ?_
  rintro e w2 ⟨rfl, hA2⟩
  have HK0 : Hid _ := HS.out w1 w2 F1 HN.out.2.1 HN.out.2.2 hA2
  clear hA2 HN HS hdn1
  go_wp2_with fail
  go_loopw [13, 14, 15, 16, 17, 18, 19] (fun s13 s14 _ _ _ _ _ wr => ∃ k : Nat, k ≤ len ∧ s14 = .int .i64 k ∧ ∃ l F B tt aa cc, Sk w wr w.heap.size w2.heap.size m s13 l l F B tt aa cc ∧ tt + l.length ≤ k) (fun _ s14 _ _ _ _ _ _ => len - (intOf s14).toNat)
  case atStart =>
    obtain ⟨F, hF⟩ := HK0.out
    exact ⟨0, Nat.zero_le _, rfl, [], F, _, 0, 3, f, hF, Nat.le_refl _⟩
  case round =>
    obtain ⟨k, hk, rfl, l, F, B, tt, aa, cc, hS, htt⟩ := hrel
    obtain ⟨lo, lc, rfl⟩ := hS.shape
    by_cases hkn : k < len
    · obtain ⟨bm, off, rfl, hbm, hcs⟩ := HM.out (by omega)
      obtain ⟨c0, c1⟩ := hcs k hkn
      have d0 := hS.kp.cell c0 (by simp; omega)
      have d1 := hS.kp.cell c1 (by simp; omega)
      have i1 : (k : Int) < (len : Int) := by omega
      generalize M k 0 = kind at d0
      generalize M k 1 = v at d1
      have e0 := (cell_of_block hS.db 0).trans rfl
      have e1 := (cell_of_block hS.db 1).trans rfl
      have hgd := hS.lt
      have ne1 : ¬ w2.heap.size = wr.heap.size := by omega
      have ne2 : ¬ w2.heap.size = wr.heap.size + 1 := by omega
      have H : Hid _ := And.intro hS htt
      clear c0 c1 hcs HM HK0 hS htt
      go_upto_block 2 with fail
      go_cut [13, 17, 18] (fun s13 s17 s18 wx => ∃ r, r = (seqAns m l kind v).2.2 ∧ Sk w wx w.heap.size w2.heap.size m s13 r l F B tt aa cc ∧ s17 = .int .i64 (seqAns m l kind v).1 ∧ s18 = .int .i64 (seqAns m l kind v).2.1 ∧ wx.heap[wr.heap.size + 1]? = some (.cells (seqOp m kind v).vals 53 (0, 0)))
      case first =>
        have hm : 1 ≤ (m : Int) ∧ (m : Int) ≤ 4096 := by omega
        have hl4 : l.length ≤ 4096 := by have h5 := H.out.1.dq.len; have h6 := H.out.1.dq.cm; have h7 := H.out.1.dq.m1; omega
        by_cases k0 : kind = 0
        · subst k0
          go_upto_region 25 with fail
          go_cut [77] (fun _ wx => Sk w wx w.heap.size w2.heap.size m (.slice lo l.length lc) l l F B tt aa cc ∧ wx.heap[wr.heap.size + 1]? = some (.cells (OpS.mk 0 m 2 0 v 0 0 0 0 0 0 0 0).vals 53 (0, 0)) ∧ wx.heap[wr.heap.size]? = some (.cells #[.int .i64 0, .int .i64 v] 50 (0, 0)))
          case first =>
            have hp := newPush 0 m v hm
            simp only [OpS.value, OpS.vals] at hp
            go_wp2_with fail
            refine (hp _).mono ?_
            rintro e w4 ⟨rfl, hk4⟩
            have hS4 := ((H.out.1.kept (Keeps.alloc None _ (.cells #[.int .i64 0, .int .i64 v] 50))).kept (Keeps.alloc None _ (.cells OpS.zero.vals 53))).kept hk4
            have hb4 : w4.heap[wr.heap.size + 1]? = some (.cells OpS.zero.vals 53 (0, 0)) := (hk4.block (wr.heap.size + 1) (by simp) (fun f => f)).trans (new_at _ _ _ (by simp))
            have ht4 : w4.heap[wr.heap.size]? = some (.cells #[.int .i64 0, .int .i64 v] 50 (0, 0)) := (hk4.block wr.heap.size (by simp; omega) (fun f => f)).trans ((Below.heap_alloc _ _ _ (by simp)).trans (new_at wr _ _ rfl))
            have hlt : ∀ k, F k → k < wr.heap.size := fun k f => H.out.1.ar.lt f
            have hlo : ∀ k, (Value.slice lo l.length lc).ownBlock = some k → k < wr.heap.size := fun k e => own_lt H.out.1.row e
            have hsz := H.out.1.kp.size
            obtain ⟨o1, o2⟩ := op_set (w1 := w4) (g := wr.heap.size + 1) (c := OpS.zero.vals) rfl hb4 (.int .i64 0) (.int .i64 m) (.int .i64 2) (.int .i64 0) (.int .i64 v) (.int .i64 0) (.int .i64 0) (.int .i64 0) (.int .i64 0) (.int .i64 0) (.int .i64 0) (.int .i64 0) (.int .i64 0)
            have HX : Hid _ := And.intro (hS4.box o2 (fun f => by have := hlt _ f; omega) (by omega) (fun k e => by have := hlo k e; omega) (by omega)) (And.intro o1 ((o2.block wr.heap.size (Array.getElem?_eq_some_iff.1 ht4).1 (by omega)).trans ht4))
            obtain ⟨r0, r1, r2, r3, r4, r5, r6, r7, r8, r9, r10, r11, r12⟩ := zcells hb4
            have s0 := free_of_block hb4 0
            have s1 := free_of_block hb4 1
            have s2 := free_of_block hb4 2
            have s3 := free_of_block hb4 3
            have s4 := free_of_block hb4 4
            have s5 := free_of_block hb4 5
            have s6 := free_of_block hb4 6
            have s7 := free_of_block hb4 7
            have s8 := free_of_block hb4 8
            have s9 := free_of_block hb4 9
            have s10 := free_of_block hb4 10
            have s11 := free_of_block hb4 11
            have s12 := free_of_block hb4 12
            clear hS4 hb4 ht4 hlt hlo hsz o1 o2 hk4 hp
            go_wp2_with fail
            go_meet
            exact HX.out
          case rest =>
            obtain ⟨hS5, hob, htd⟩ := hcut
            have tv := (cell_of_block htd 1).trans rfl
            by_cases hf : l.length = m
            · have hq : ((l.length : Int) == (m : Int)) = true := by simp [hf]
              have HZ : Hid _ := And.intro hS5 hob
              clear hS5 hob htd
              go_wp2_with fail
              go_meet
              exact ⟨l, by simp [seqAns, hf], HZ.out.1, by simp [seqAns, hf], by simp [seqAns, hf], HZ.out.2⟩
            · have hq : ((l.length : Int) == (m : Int)) = false := by simp; omega
              obtain ⟨lv', wy, hrun, hS6, hk6⟩ := hS5.append v hl4
              have hlo : ∀ k, (Value.slice lo l.length lc).ownBlock = some k → k < wr.heap.size := fun k e => own_lt H.out.1.row e
              have HZ : Hid _ := And.intro hS6 ((hk6.block (wr.heap.size + 1) (Array.getElem?_eq_some_iff.1 hob).1 (fun e => by have := hlo _ e; omega)).trans hob)
              obtain ⟨lo6, lc6, rfl⟩ := hS6.shape
              clear hS5 hob htd hS6 hk6 hlo
              go_wp2_with (at_builtin; refine wpList_append_run rfl (.tmp 81) (.tmp 84) 22 22 rfl rfl rfl hrun ?_)
              go_meet
              exact ⟨l ++ [v], by simp [seqAns, hf], by have e := HZ.out.1; rw [show (l ++ [v]).length = l.length + 1 from by simp] at e; exact e, by simp [seqAns, hf], by simp [seqAns, hf], HZ.out.2⟩
        by_cases k1 : kind = 1
        · subst k1
          go_upto_region 31 with fail
          go_cut [89] (fun _ wx => Sk w wx w.heap.size w2.heap.size m (.slice lo l.length lc) l l F B tt aa cc ∧ wx.heap[wr.heap.size + 1]? = some (.cells (OpS.mk 0 m 13 0 0 0 0 0 0 0 0 0 0).vals 53 (0, 0)) ∧ wx.heap[wr.heap.size]? = some (.cells #[.int .i64 1, .int .i64 v] 50 (0, 0)))
          case first =>
            have hp := newPop 0 m hm
            simp only [OpS.value, OpS.vals] at hp
            go_wp2_with fail
            refine (hp _).mono ?_
            rintro e w4 ⟨rfl, hk4⟩
            have hS4 := ((H.out.1.kept (Keeps.alloc None _ (.cells #[.int .i64 1, .int .i64 v] 50))).kept (Keeps.alloc None _ (.cells OpS.zero.vals 53))).kept hk4
            have hb4 : w4.heap[wr.heap.size + 1]? = some (.cells OpS.zero.vals 53 (0, 0)) := (hk4.block (wr.heap.size + 1) (by simp) (fun f => f)).trans (new_at _ _ _ (by simp))
            have ht4 : w4.heap[wr.heap.size]? = some (.cells #[.int .i64 1, .int .i64 v] 50 (0, 0)) := (hk4.block wr.heap.size (by simp; omega) (fun f => f)).trans ((Below.heap_alloc _ _ _ (by simp)).trans (new_at wr _ _ rfl))
            have hlt : ∀ k, F k → k < wr.heap.size := fun k f => H.out.1.ar.lt f
            have hlo : ∀ k, (Value.slice lo l.length lc).ownBlock = some k → k < wr.heap.size := fun k e => own_lt H.out.1.row e
            have hsz := H.out.1.kp.size
            obtain ⟨o1, o2⟩ := op_set (w1 := w4) (g := wr.heap.size + 1) (c := OpS.zero.vals) rfl hb4 (.int .i64 0) (.int .i64 m) (.int .i64 13) (.int .i64 0) (.int .i64 0) (.int .i64 0) (.int .i64 0) (.int .i64 0) (.int .i64 0) (.int .i64 0) (.int .i64 0) (.int .i64 0) (.int .i64 0)
            have HX : Hid _ := And.intro (hS4.box o2 (fun f => by have := hlt _ f; omega) (by omega) (fun k e => by have := hlo k e; omega) (by omega)) (And.intro o1 ((o2.block wr.heap.size (Array.getElem?_eq_some_iff.1 ht4).1 (by omega)).trans ht4))
            obtain ⟨r0, r1, r2, r3, r4, r5, r6, r7, r8, r9, r10, r11, r12⟩ := zcells hb4
            have s0 := free_of_block hb4 0
            have s1 := free_of_block hb4 1
            have s2 := free_of_block hb4 2
            have s3 := free_of_block hb4 3
            have s4 := free_of_block hb4 4
            have s5 := free_of_block hb4 5
            have s6 := free_of_block hb4 6
            have s7 := free_of_block hb4 7
            have s8 := free_of_block hb4 8
            have s9 := free_of_block hb4 9
            have s10 := free_of_block hb4 10
            have s11 := free_of_block hb4 11
            have s12 := free_of_block hb4 12
            clear hS4 hb4 ht4 hlt hlo hsz o1 o2 hk4 hp
            go_wp2_with fail
            go_meet
            exact HX.out
          case rest =>
            obtain ⟨hS5, hob, htd⟩ := hcut
            have HZ : Hid _ := And.intro hS5 hob
            by_cases he : l = []
            · have hn : l.length = 0 := by rw [he]; rfl
              have hq : ¬ (0 : Int) < (l.length : Int) := by omega
              have HE : Hid (l = []) := he
              clear he hn hS5 hob htd
              go_wp2_with fail
              go_meet
              exact ⟨l, by simp [seqAns, HE.out], HZ.out.1, by simp [seqAns, HE.out], by simp [seqAns, HE.out], HZ.out.2⟩
            · have hn : 0 < l.length := List.length_pos_iff.2 he
              have hq : (0 : Int) < (l.length : Int) := by omega
              obtain ⟨g, lc', hlv, hlc, hcell⟩ := hS5.at hn
              obtain ⟨rfl, rfl⟩ : lo = some ⟨g, 0, none⟩ ∧ lc = lc' := by injection hlv with a b c; exact ⟨a, c⟩
              obtain ⟨rn, hrn⟩ : ∃ rn, l.length = rn + 1 := ⟨l.length - 1, by omega⟩
              obtain ⟨x, hx⟩ : ∃ x, l.getLast? = some x := by
                cases hh : l.getLast? with
                | none => exact absurd (by simpa using hh) he
                | some x => exact ⟨x, rfl⟩
              obtain ⟨r, hrx⟩ := List.getLast?_eq_some_iff.1 hx
              have hrl : r.length = rn := by rw [hrx] at hrn; simpa using hrn
              have cx : wc.cell? ⟨g, rn, none⟩ = some (.int .i64 x) := by
                rw [hcell rn (by omega), hrx, ← hrl]
                simp [List.getD]
              have j1 : (l.length : Int) - 1 = (rn : Int) := by omega
              have j2 : (rn : Int) < (l.length : Int) := by omega
              have j3 : (0 : Int) ≤ (rn : Int) := by omega
              have j4 : (rn : Int) ≤ (lc : Int) := by omega
              have j5 : (1 : Int) ≤ (l.length : Int) := by omega
              have HI : Hid (Sk w wc w.heap.size w2.heap.size m (.slice (some ⟨g, 0, none⟩) rn lc) r l F B tt aa cc) := HZ.out.1.init2 hrx hrl
              have HA : Hid (seqAns m l 1 v = (4, x, r)) := by
                have e : seqAns m l 1 v = (match l.getLast? with | none => (5, 0, l) | some x => (4, x, l.dropLast)) := rfl
                have e2 : l.dropLast = r := by rw [hrx, List.dropLast_concat]
                have e3 : seqAns m l 1 v = (4, x, r) := by rw [e, hx, e2]
                exact e3
              clear hS5 hob htd hlv hcell hrx hrl hrn he hn hx
              go_wp2_with fail
              go_meet
              rw [HA.out]
              exact ⟨r, rfl, HI.out, rfl, rfl, HZ.out.2⟩
        by_cases k2 : kind = 2
        · subst k2
          go_upto_region 38 with fail
          go_cut [104] (fun _ wx => Sk w wx w.heap.size w2.heap.size m (.slice lo l.length lc) l l F B tt aa cc ∧ wx.heap[wr.heap.size + 1]? = some (.cells (OpS.mk 0 m 22 0 0 0 0 0 0 0 0 0 0).vals 53 (0, 0)) ∧ wx.heap[wr.heap.size]? = some (.cells #[.int .i64 2, .int .i64 v] 50 (0, 0)))
          case first =>
            have hp := newSteal 0 m hm
            simp only [OpS.value, OpS.vals] at hp
            go_wp2_with fail
            refine (hp _).mono ?_
            rintro e w4 ⟨rfl, hk4⟩
            have hS4 := ((H.out.1.kept (Keeps.alloc None _ (.cells #[.int .i64 2, .int .i64 v] 50))).kept (Keeps.alloc None _ (.cells OpS.zero.vals 53))).kept hk4
            have hb4 : w4.heap[wr.heap.size + 1]? = some (.cells OpS.zero.vals 53 (0, 0)) := (hk4.block (wr.heap.size + 1) (by simp) (fun f => f)).trans (new_at _ _ _ (by simp))
            have ht4 : w4.heap[wr.heap.size]? = some (.cells #[.int .i64 2, .int .i64 v] 50 (0, 0)) := (hk4.block wr.heap.size (by simp; omega) (fun f => f)).trans ((Below.heap_alloc _ _ _ (by simp)).trans (new_at wr _ _ rfl))
            have hlt : ∀ k, F k → k < wr.heap.size := fun k f => H.out.1.ar.lt f
            have hlo : ∀ k, (Value.slice lo l.length lc).ownBlock = some k → k < wr.heap.size := fun k e => own_lt H.out.1.row e
            have hsz := H.out.1.kp.size
            obtain ⟨o1, o2⟩ := op_set (w1 := w4) (g := wr.heap.size + 1) (c := OpS.zero.vals) rfl hb4 (.int .i64 0) (.int .i64 m) (.int .i64 22) (.int .i64 0) (.int .i64 0) (.int .i64 0) (.int .i64 0) (.int .i64 0) (.int .i64 0) (.int .i64 0) (.int .i64 0) (.int .i64 0) (.int .i64 0)
            have HX : Hid _ := And.intro (hS4.box o2 (fun f => by have := hlt _ f; omega) (by omega) (fun k e => by have := hlo k e; omega) (by omega)) (And.intro o1 ((o2.block wr.heap.size (Array.getElem?_eq_some_iff.1 ht4).1 (by omega)).trans ht4))
            obtain ⟨r0, r1, r2, r3, r4, r5, r6, r7, r8, r9, r10, r11, r12⟩ := zcells hb4
            have s0 := free_of_block hb4 0
            have s1 := free_of_block hb4 1
            have s2 := free_of_block hb4 2
            have s3 := free_of_block hb4 3
            have s4 := free_of_block hb4 4
            have s5 := free_of_block hb4 5
            have s6 := free_of_block hb4 6
            have s7 := free_of_block hb4 7
            have s8 := free_of_block hb4 8
            have s9 := free_of_block hb4 9
            have s10 := free_of_block hb4 10
            have s11 := free_of_block hb4 11
            have s12 := free_of_block hb4 12
            clear hS4 hb4 ht4 hlt hlo hsz o1 o2 hk4 hp
            go_wp2_with fail
            go_meet
            exact HX.out
          case rest =>
            obtain ⟨hS5, hob, htd⟩ := hcut
            have HZ : Hid _ := And.intro hS5 hob
            by_cases he : l = []
            · have hn : l.length = 0 := by rw [he]; rfl
              have hq : ¬ (0 : Int) < (l.length : Int) := by omega
              have HE : Hid (l = []) := he
              clear he hn hS5 hob htd
              go_wp2_with fail
              go_meet
              exact ⟨l, by simp [seqAns, HE.out], HZ.out.1, by simp [seqAns, HE.out], by simp [seqAns, HE.out], HZ.out.2⟩
            · have hn : 0 < l.length := List.length_pos_iff.2 he
              have hq : (0 : Int) < (l.length : Int) := by omega
              obtain ⟨g, lc', hlv, hlc, hcell⟩ := hS5.at hn
              obtain ⟨rfl, rfl⟩ : lo = some ⟨g, 0, none⟩ ∧ lc = lc' := by injection hlv with a b c; exact ⟨a, c⟩
              obtain ⟨x, r, hrx⟩ : ∃ x r, l = x :: r := by
                cases l with
                | nil => exact absurd rfl he
                | cons x r => exact ⟨x, r, rfl⟩
              have hrl : r.length = l.length - 1 := by rw [hrx]; simp
              have cx : wc.cell? ⟨g, 0, none⟩ = some (.int .i64 x) := by
                rw [hcell 0 hn, hrx]
                simp [List.getD]
              have hgw : g < wc.heap.size := own_lt hS5.row (g := g) rfl
              have HA : Hid (seqAns m l 2 v = (4, x, r)) := by
                rw [hrx]
                rfl
              have j1 : (1 : Int) ≤ (l.length : Int) := by omega
              have j2 : (l.length : Int) ≤ (lc : Int) := by omega
              have j3 : (1 : Int) ≤ (lc : Int) := by omega
              by_cases hl1 : lc = 1
              · have hI : Ints wc (some ⟨g, 0, none⟩) r := fun hp => by omega
                obtain ⟨v', wy, hrun, ho, hk, hv⟩ := copy_begin (some ⟨g, 0, none⟩) (lc - 1) r wc hI (fun h => by cases h) (by omega)
                have HI : Hid _ := And.intro (HZ.out.1.fresh ho hk hv) ((hk.block (wr.heap.size + 1) (Array.getElem?_eq_some_iff.1 HZ.out.2).1 (fun f => f)).trans HZ.out.2)
                obtain ⟨vo, vc, rfl⟩ := own_shape ho
                rw [hrl] at hrun
                clear hS5 hob htd hlv hcell hrx he hn ho hk hv hI
                go_wp2_with (at_builtin; refine wpList_append_run rfl (.tmp 110) (.tmp 112) 22 22 rfl rfl rfl hrun ?_)
                go_meet
                rw [HA.out]
                exact ⟨r, rfl, by rw [← hrl]; exact HI.out.1, rfl, rfl, HI.out.2⟩
              · have hI : Ints wc (some ⟨g, 1, none⟩) r := fun hp => ⟨g, 1, rfl, hgw, fun i hi => by
                  rw [show 1 + i = i + 1 from Nat.add_comm 1 i, hcell (i + 1) (by omega), hrx]
                  simp [List.getD]⟩
                obtain ⟨v', wy, hrun, ho, hk, hv⟩ := copy_begin (some ⟨g, 1, none⟩) (lc - 1) r wc hI (fun h => by cases h) (by omega)
                have HI : Hid _ := And.intro (HZ.out.1.fresh ho hk hv) ((hk.block (wr.heap.size + 1) (Array.getElem?_eq_some_iff.1 HZ.out.2).1 (fun f => f)).trans HZ.out.2)
                obtain ⟨vo, vc, rfl⟩ := own_shape ho
                rw [hrl] at hrun
                clear hS5 hob htd hlv hcell hrx he hn ho hk hv hI
                go_wp2_with (at_builtin; refine wpList_append_run rfl (.tmp 110) (.tmp 112) 22 22 rfl rfl rfl hrun ?_)
                go_meet
                rw [HA.out]
                exact ⟨r, rfl, by rw [← hrl]; exact HI.out.1, rfl, rfl, HI.out.2⟩
        · have kb0 : (kind == 0) = false := by simpa using k0
          have kb1 : (kind == 1) = false := by simpa using k1
          have kb2 : (kind == 2) = false := by simpa using k2
          go_upto_region 20 with fail
          go_cut [69] (fun _ wx => Sk w wx w.heap.size w2.heap.size m (.slice lo l.length lc) l l F B tt aa cc ∧ wx.heap[wr.heap.size + 1]? = some (.cells (OpS.mk 0 m 28 0 0 0 0 0 0 0 0 0 0).vals 53 (0, 0)) ∧ wx.heap[wr.heap.size]? = some (.cells #[.int .i64 kind, .int .i64 v] 50 (0, 0)))
          case first =>
            have hp := newLook 0 m hm
            simp only [OpS.value, OpS.vals] at hp
            go_wp2_with fail
            refine (hp _).mono ?_
            rintro e w4 ⟨rfl, hk4⟩
            have hS4 := ((H.out.1.kept (Keeps.alloc None _ (.cells #[.int .i64 kind, .int .i64 v] 50))).kept (Keeps.alloc None _ (.cells OpS.zero.vals 53))).kept hk4
            have hb4 : w4.heap[wr.heap.size + 1]? = some (.cells OpS.zero.vals 53 (0, 0)) := (hk4.block (wr.heap.size + 1) (by simp) (fun f => f)).trans (new_at _ _ _ (by simp))
            have ht4 : w4.heap[wr.heap.size]? = some (.cells #[.int .i64 kind, .int .i64 v] 50 (0, 0)) := (hk4.block wr.heap.size (by simp; omega) (fun f => f)).trans ((Below.heap_alloc _ _ _ (by simp)).trans (new_at wr _ _ rfl))
            have hlt : ∀ k, F k → k < wr.heap.size := fun k f => H.out.1.ar.lt f
            have hlo : ∀ k, (Value.slice lo l.length lc).ownBlock = some k → k < wr.heap.size := fun k e => own_lt H.out.1.row e
            have hsz := H.out.1.kp.size
            obtain ⟨o1, o2⟩ := op_set (w1 := w4) (g := wr.heap.size + 1) (c := OpS.zero.vals) rfl hb4 (.int .i64 0) (.int .i64 m) (.int .i64 28) (.int .i64 0) (.int .i64 0) (.int .i64 0) (.int .i64 0) (.int .i64 0) (.int .i64 0) (.int .i64 0) (.int .i64 0) (.int .i64 0) (.int .i64 0)
            have HX : Hid _ := And.intro (hS4.box o2 (fun f => by have := hlt _ f; omega) (by omega) (fun k e => by have := hlo k e; omega) (by omega)) (And.intro o1 ((o2.block wr.heap.size (Array.getElem?_eq_some_iff.1 ht4).1 (by omega)).trans ht4))
            obtain ⟨r0, r1, r2, r3, r4, r5, r6, r7, r8, r9, r10, r11, r12⟩ := zcells hb4
            have s0 := free_of_block hb4 0
            have s1 := free_of_block hb4 1
            have s2 := free_of_block hb4 2
            have s3 := free_of_block hb4 3
            have s4 := free_of_block hb4 4
            have s5 := free_of_block hb4 5
            have s6 := free_of_block hb4 6
            have s7 := free_of_block hb4 7
            have s8 := free_of_block hb4 8
            have s9 := free_of_block hb4 9
            have s10 := free_of_block hb4 10
            have s11 := free_of_block hb4 11
            have s12 := free_of_block hb4 12
            clear hS4 hb4 ht4 hlt hlo hsz o1 o2 hk4 hp
            go_wp2_with fail
            go_meet
            exact HX.out
          case rest =>
            obtain ⟨hS5, hob, htd⟩ := hcut
            have HZ : Hid _ := And.intro hS5 hob
            clear hS5 hob htd
            by_cases he : l = []
            · have hn : l.length = 0 := by rw [he]; rfl
              have hq : ¬ (0 : Int) < (l.length : Int) := by omega
              clear hn
              have HE : Hid (l = []) := he
              clear he
              go_wp2_with fail
              go_meet
              exact ⟨l, by simp [seqAns, k0, k1, k2, HE.out], HZ.out.1, by simp [seqAns, k0, k1, k2, HE.out], by simp [seqAns, k0, k1, k2, HE.out], by rw [show seqOp m kind v = _ by simp only [seqOp, if_neg k0, if_neg k1, if_neg k2]; rfl]; exact HZ.out.2⟩
            · have hn : 0 < l.length := List.length_pos_iff.2 he
              have hq : (0 : Int) < (l.length : Int) := by omega
              have HE : Hid (¬ l = []) := he
              clear he hn
              go_wp2_with fail
              go_meet
              exact ⟨l, by simp [seqAns, k0, k1, k2, HE.out], HZ.out.1, by simp [seqAns, k0, k1, k2, HE.out], by simp [seqAns, k0, k1, k2, HE.out], by rw [show seqOp m kind v = _ by simp only [seqOp, if_neg k0, if_neg k1, if_neg k2]; rfl]; exact HZ.out.2⟩
      case rest =>
        obtain ⟨r, hr, hS, rfl, rfl, hob⟩ := hcut
        have hw := whole_seq kind v hS (by have := H.out.2; omega) hr
        generalize seqAns m l kind v = an at hw
        obtain ⟨a1, a2, a3⟩ := an
        generalize hop : seqOp m kind v = so at hw hob
        obtain ⟨m0, m1, m2, m3, m4, m5, m6, m7, m8, m9, m10, m11, m12⟩ := so
        obtain ⟨q0, q1, q2, q3, q4, q5, q6, q7, q8, q9, q10, q11, q12⟩ := ocells hob
        simp only [OpS.value, OpS.vals] at hw
        have hl4 : l.length ≤ 4096 := by have h5 := H.out.1.dq.len; have h6 := H.out.1.dq.cm; have h7 := H.out.1.dq.m1; omega
        have hl5 : (l.length : Int) ≤ 4096 := by omega
        have e9 : (((9 + 2 * l.length : Nat)) : Int) = 9 + 2 * (l.length : Int) := by omega
        rw [e9] at hw
        clear hop hr hS hob e9
        go_wp2_with fail
        refine hw.mono ?_
        rintro e w5 ⟨rfl, F5, B5, t5, a5, c5, hS5, ht5⟩
        have HE : Hid _ := And.intro hS5 ht5
        clear hS5 ht5 hw
        go_wp2_with fail
        go_roundw
        case rel => exact ⟨k + 1, by omega, by simp, _, F5, B5, t5, a5, c5, HE.out.1, by have := HE.out.2; have := H.out.2; omega⟩
        case measure => simp only [intOf]; omega
    · have i1 : ¬ (k : Int) < (len : Int) := by omega
      have H : Hid _ := hS.kp
      clear hS htt HM HK0
      go_wp2_with fail
      go_ret
      exact ⟨rfl, H.out.below _ (Nat.le_refl _) (fun _ f => f)⟩
theorem stack_walk (f m : Int) (ao : Option Addr) (len cap : Nat) (M : Nat → Nat → Int) (w : World) (hM : Twos w ao len M) (hlen : len ≤ 562949953421312) : Calls Try.prog 4 #[.int .i64 f, .int .i64 m, .slice ao len cap] w fun e w' => e = .returned (.bool true) ∧ Below w.heap.size w w' := by
  by_cases h : CapOK f m
  · obtain ⟨f', rfl⟩ : ∃ f' : Nat, f = f' := ⟨f.toNat, by unfold CapOK at h; omega⟩
    obtain ⟨m', rfl⟩ : ∃ m' : Nat, m = m' := ⟨m.toNat, by unfold CapOK at h; omega⟩
    exact stack_ok f' m' ao len cap M w h hM hlen
  · exact stack_bad f m ao len cap w h
end Go.Proofs.Ytemmkgnbngeiaaa
