import Derived.Test.YtheginjjncnheaaHiTodo
/-! A plain run: the program's and the document's. -/
namespace Go.Proofs.Ytheginjjncnheaa
set_option linter.unusedVariables false
set_option maxRecDepth 20000
open Go.RowKit Go.HeapKit

def serS (most : Nat) (l : List (Int × Int)) : Nat → List Cl × List Int
  | 0 => ([], [])
  | k + 1 => ((serS most l k).1 ++ [clS most k (serS most l k).2 (l.getD k (0, 0))], (ansD most (serS most l k).2 (l.getD k (0, 0)).1 (argOf (l.getD k (0, 0)))).2)
theorem ansD_length (most : Nat) (zs : List Int) (kind arg : Int) : (ansD most zs kind arg).2.length ≤ zs.length + 1 := by
  unfold ansD
  split
  · split <;> simp
  · split
    · split <;> simp; omega
    · split <;> simp
      omega
theorem serS_length (most : Nat) (l : List (Int × Int)) (k : Nat) : (serS most l k).1.length = k ∧ (serS most l k).2.length ≤ k := by
  induction k with
  | zero => exact ⟨rfl, Nat.le_refl _⟩
  | succ k ih => exact ⟨by simp [serS, ih.1], by have := ansD_length most (serS most l k).2 (l.getD k (0, 0)).1 (argOf (l.getD k (0, 0))); simp only [serS]; omega⟩
theorem serS_more (most : Nat) {l : List (Int × Int)} {k : Nat} {x : Int × Int} (hx : l[k]? = some x) :
    serS most l (k + 1) = ((serS most l k).1 ++ [clS most k (serS most l k).2 x], (ansD most (serS most l k).2 x.1 (argOf x)).2) := by
  have : l.getD k (0, 0) = x := by simp [List.getD, hx]
  rw [serS, this]
def serC (l : List (Int × Int)) (most : Int) : List Cl := if errS l most = 0 then (serS most.toNat l l.length).1 else []
def serZ (l : List (Int × Int)) (most : Int) : List Int := if errS l most = 0 then (serS most.toNat l l.length).2 else []
theorem errS_zero {l : List (Int × Int)} {most : Int} (h : errS l most = 0) : l.length ≤ 40 ∧ (∃ m : Nat, most = m ∧ 1 ≤ m ∧ m ≤ 4096) ∧ l.all todoOk = true := by
  unfold errS at h
  split at h
  · omega
  · split at h
    · rename_i h1 h2
      refine ⟨by omega, ⟨most.toNat, by omega, by omega, by omega⟩, ?_⟩
      unfold kindErr at h
      split at h
      · assumption
      · omega
    · omega
theorem ok_at {l : List (Int × Int)} {k : Nat} {x : Int × Int} (h : l.all todoOk = true) (hx : l[k]? = some x) : todoOk x = true := List.all_eq_true.1 h x (List.mem_of_getElem? hx)

structure SerOut (w w' : World) (l : List (Int × Int)) (most : Int) (vc vr : Value) : Prop where
  row : w'.ownsRow w.heap.size 49 7 vc (serC l most).length (clVals (serC l most))
  held : Held w' vr (serZ l most)
  low : ∀ g, vr.ownBlock = some g → w.heap.size ≤ g
  kp : Keeps None w w'
def SerPost (w : World) (l : List (Int × Int)) (most : Int) (e : Ending) (w' : World) : Prop := ∃ vc vr, e = .returned (.tuple #[vc, vr, .int .i64 (errS l most)]) ∧ SerOut w w' l most vc vr
theorem ser_err {w w' : World} {l : List (Int × Int)} {most : Int} (h : ¬ errS l most = 0) (hk : Keeps None w w') : SerOut w w' l most (.slice none 0 0) (.slice none 0 0) := by
  have e1 : serC l most = [] := by simp [serC, h]
  have e2 : serZ l most = [] := by simp [serZ, h]
  refine ⟨by rw [e1]; exact row_nil _ _ _ _, by rw [e2]; exact .inl ⟨rfl, rfl⟩, fun g e => by simp [Value.ownBlock] at e, hk⟩
theorem make_calls (n : Nat) (w : World) (hn : n ≤ 40) : ∃ M : Array Value, M.size = n * 7 ∧ (Instr.makeSlice 27 (.int .i64 0) (.int .i64 n)).run Try.prog w = .ok (.slice (some ⟨w.heap.size, 0, none⟩) 0 n) (w.alloc (.cells M 49)) := by
  obtain ⟨i0, hi, hz0, hz1, hz2⟩ := info_parts Try.infoCall
  have h := run_make (P := Try.prog) w 27 49 i0 _ Try.underlying27 hi hz0 .i64 .i64 0 n (by omega) (by omega) (by rw [hz2]; omega) (by omega)
  rw [hz1] at h
  refine ⟨_, ?_, by simpa using h⟩
  exact size_madeCells _ _

set_option maxHeartbeats 8000000 in
set_option maxRecDepth 100000 in
theorem serial_ok (a : Option Addr) (n c : Nat) (l : List (Int × Int)) (most : Int) (w : World) (hS : SeenT w a n l) (hn : n * 16 ≤ 140737488355328) :
    Calls Try.prog 6 #[.slice a n c, .int .i64 most] w (SerPost w l most) := by
  have hf := fault_ok a n c l most w hS hn
  by_cases he : errS l most = 0
  · obtain ⟨h40, ⟨m, rfl, hm1, hm2⟩, hall⟩ := errS_zero he
    have HL : Hid (n = l.length) := hS.len
    have HA : Hid (l.all todoOk = true) := hall
    have HS : Hid (SeenT w a n l) := hS
    have HE : Hid (errS l m = 0) := he
    have hn40 : n ≤ 40 := by have := HL.out; omega
    rw [he] at hf
    clear hS hall h40 he
    go_enter Try.func6, Try.ntmps6
    go_wp2_with fail
    refine hf.mono ?_
    rintro e w1 ⟨rfl, hk1⟩
    have HK1 : Hid (Keeps None w w1) := hk1
    obtain ⟨M, hM, hmk⟩ := make_calls n (w1.alloc (.cells #[.int .i64 m, .slice none 0 0] 47)) hn40
    have HM : Hid (M.size = n * 7) := hM
    simp only [World.size_alloc] at hmk
    clear hf hk1 hM
    go_wp2_with (first | (at_make; refine wpList_make_run rfl (.const (.int .i64 0)) (.tmp 22) 27 rfl rfl rfl hmk ?_) | fail)
    obtain ⟨p, hp⟩ : ∃ p, p = w1.heap.size := ⟨_, rfl⟩
    have HP0 : Hid (p = w1.heap.size) := hp
    rw [← hp]
    clear hp hmk
    go_loopw [9, 10, 11, 12, 26] (fun s _ _ _ i wr => ∃ k : Nat, k ≤ n ∧ i = .int .i64 k ∧ wr.ownsRow w.heap.size 49 7 s k (clVals (serS m l k).1) ∧ (∃ vh, IsPlain wr p m vh (serS m l k).2 ∧ ∀ g, vh.ownBlock = some g → w.heap.size ≤ g) ∧ Keeps None w wr) (fun _ _ _ _ i _ => n - (intOf i).toNat)
    case atStart =>
      refine ⟨0, Nat.zero_le _, rfl, ⟨rfl, .inr ⟨_, _, M, rfl, ?_, blk_new _ _ _ (by simp [HP0.out]), Nat.zero_le _, ?_, HM.out, by simp [serS, clVals]⟩⟩, ⟨.slice none 0 0, ⟨?_, .inl ⟨rfl, rfl⟩⟩, fun g e => by simp [Value.ownBlock] at e⟩, (HK1.out.andAlloc _).andAlloc _⟩
      · have := HK1.out.size; have := HP0.out; omega
      · unfold maxLen; omega
      · rw [Below.heap_alloc _ _ _ (by simp [HP0.out])]
        exact blk_new _ _ _ HP0.out.symm
    case round =>
      obtain ⟨k, hk, rfl, hrow, ⟨vh, hP, hlow⟩, hkp⟩ := hrel
      obtain ⟨sa, cs, rfl⟩ := row_shape hrow
      have hpw : w.heap.size ≤ p := by have := HP0.out; have := HK1.out.size; omega
      have HR : Hid (wr.ownsRow w.heap.size 49 7 (.slice sa k cs) k (clVals (serS m l k).1)) := hrow
      have HV : Hid (∀ g, vh.ownBlock = some g → w.heap.size ≤ g) := hlow
      have HK : Hid (Keeps None w wr) := hkp
      have hlen2 := (serS_length m l k).2
      obtain ⟨row, hrw⟩ : ∃ row, row = (serS m l k).2 := ⟨_, rfl⟩
      rw [← hrw] at hP hlen2
      have HRW : Hid (row = (serS m l k).2) := hrw
      have HP : Hid (IsPlain wr p m vh row) := hP
      clear hrow hlow hkp hrw hP
      by_cases hkn : k < n
      · have hS := HS.out.more HK.out
        obtain ⟨b, off, rfl, hb, hcl⟩ := hS.ex (by omega)
        obtain ⟨x, hx⟩ : ∃ x, l[k]? = some x := ⟨l[k]'(by have := HL.out; omega), by simp⟩
        obtain ⟨y0, y1⟩ := hcl k x hx
        have i2 : (k : Int) < (n : Int) := by omega
        have hok := ok_at HA.out hx
        have HXX : Hid (l[k]? = some x) := hx
        clear hcl hS hx HM HP0 HK1
        obtain ⟨kd, tv⟩ := x
        simp only [todoOk, decide_eq_true_eq] at *
        rcases hok with rfl | rfl | rfl
        · have ht : argOf (0, tv) = tv := rfl
          have hc := answer_ok p m vh row 0 tv ((wr.alloc (.cells #[.int .i64 0, .int .i64 tv] 26)).alloc (.cells #[.int .i64 0, .int .i64 0, .int .i64 tv, .int .i64 k, .int .i64 k, .int .i64 0, .int .i64 0] 49)) ((HP.out.kept (Keeps.alloc None wr _) (fun _ _ f => f)).kept (Keeps.alloc None _ _) (fun _ _ f => f)) (by omega)
          have HX : Hid (clS m k row (0, tv) = ⟨0, 0, tv, k, k, (ansD m row 0 tv).1.1, (ansD m row 0 tv).1.2⟩ ∧ (ansD m row 0 (argOf (0, tv))).2 = (ansD m row 0 tv).2) := ⟨rfl, rfl⟩
          clear ht
          generalize (ansD m row 0 tv).1.1 = code at hc HX
          generalize (ansD m row 0 tv).1.2 = val at hc HX
          generalize (ansD m row 0 tv).2 = row2 at hc HX
          go_wp2_with fail
          refine hc.mono ?_
          rintro e w2 ⟨rfl, vh2, hP2, hK2, hM2⟩
          have hcb : w2.heap[wr.heap.size + 1]? = some (.cells #[.int .i64 0, .int .i64 0, .int .i64 tv, .int .i64 k, .int .i64 k, .int .i64 0, .int .i64 0] 49 (0, 0)) := by
            refine (hK2.block _ (by simp) (fun e => ?_)).trans (blk_new _ _ _ (by simp))
            rcases e with e | e
            · have := HP.out.lt; omega
            · have := HP.out.held.lt e; omega
          have d0 : w2.cell? ⟨wr.heap.size + 1, 0, none⟩ = some (.int .i64 0) := by rw [blk_cell hcb]; rfl
          have d1 : w2.cell? ⟨wr.heap.size + 1, 1, none⟩ = some (.int .i64 0) := by rw [blk_cell hcb]; rfl
          have d2 : w2.cell? ⟨wr.heap.size + 1, 2, none⟩ = some (.int .i64 tv) := by rw [blk_cell hcb]; rfl
          have d3 : w2.cell? ⟨wr.heap.size + 1, 3, none⟩ = some (.int .i64 k) := by rw [blk_cell hcb]; rfl
          have d4 : w2.cell? ⟨wr.heap.size + 1, 4, none⟩ = some (.int .i64 k) := by rw [blk_cell hcb]; rfl
          have d5 : w2.cell? ⟨wr.heap.size + 1, 5, none⟩ = some (.int .i64 0) := by rw [blk_cell hcb]; rfl
          have d6 : w2.cell? ⟨wr.heap.size + 1, 6, none⟩ = some (.int .i64 0) := by rw [blk_cell hcb]; rfl
          have f5 : w2.frozen? ⟨wr.heap.size + 1, 5, none⟩ = false := blk_free hcb 5
          have f6 : w2.frozen? ⟨wr.heap.size + 1, 6, none⟩ = false := blk_free hcb 6
          have hs2 : wr.heap.size + 2 ≤ w2.heap.size := by have := hK2.size; simp at this; omega
          have hKs : Keeps (fun i => i = wr.heap.size + 1) w2 ((w2.setCell ⟨wr.heap.size + 1, 5, none⟩ (.int .i64 code)).setCell ⟨wr.heap.size + 1, 6, none⟩ (.int .i64 val)) := keeps_one (keeps_one (Keeps.refl _ w2) _) _
          have hkall : Keeps None w w2 := (HK.out.andAlloc _).andAlloc _ |>.trans hK2 (fun i e hi => by
            rcases e with e | e
            · omega
            · have := HV.out i e; omega)
          have hrow2 : w2.ownsRow w.heap.size 49 7 (.slice sa k cs) k (clVals (serS m l k).1) := by
            refine row_kept (row_kept (row_kept HR.out (Keeps.alloc None wr _) (fun _ _ f => f)) (Keeps.alloc None _ _) (fun _ _ f => f)) hK2 (fun g e e2 => ?_)
            rcases e2 with e2 | e2
            · subst e2; exact absurd (own_type HR.out e HP.out.blk) (by decide)
            · obtain ⟨cur, hcur⟩ := HP.out.held.type e2
              exact absurd (own_type HR.out e hcur) (by decide)
          have hlow2 : ∀ g, vh2.ownBlock = some g → w.heap.size ≤ g := by
            intro g e
            rcases hM2 with hM | ⟨g', e', hg'⟩
            · exact HV.out g (hM.symm.trans e)
            · rw [e'] at e; injection e with e; have := HK.out.size; simp at hg'; omega
          obtain ⟨g, cp, w4, hr, ho, hk4, hm4⟩ := call_more w.heap.size (.slice sa k cs) (serS m l k).1 ⟨0, 0, tv, k, k, code, val⟩ k 27 ((w2.setCell ⟨wr.heap.size + 1, 5, none⟩ (.int .i64 code)).setCell ⟨wr.heap.size + 1, 6, none⟩ (.int .i64 val)) (serS_length m l k).1.symm
            (row_kept hrow2 hKs (fun g e e2 => by have := own_lt HR.out e; omega)) (by have := hkall.size; simpa using this) (by omega)
          have hP4 : IsPlain w4 p m vh2 row2 := by
            refine (hP2.kept hKs (fun i e e2 => ?_)).kept hk4 (fun i e e2 => ?_)
            · rcases e with e | e
              · have := HP.out.lt; omega
              · rcases hM2 with hM | ⟨g', e', hg'⟩
                · have := HP.out.held.lt (hM.symm.trans e); omega
                · rw [e'] at e; injection e with e; simp at hg'; omega
            · rcases e with e | e
              · subst e; exact absurd (own_type HR.out e2 HP.out.blk) (by decide)
              · obtain ⟨cur, hcur⟩ := hP2.held.type e
                exact absurd (own_type hrow2 e2 hcur) (by decide)
          have HN : Hid (w4.ownsRow w.heap.size 49 7 (.slice (some ⟨g, 0, none⟩) (k + 1) cp) (k + 1) (clVals (serS m l (k + 1)).1) ∧ (∃ vh', IsPlain w4 p m vh' (serS m l (k + 1)).2 ∧ ∀ g, vh'.ownBlock = some g → w.heap.size ≤ g) ∧ Keeps None w w4) := by
            rw [serS_more m HXX.out]
            simp only
            rw [← HRW.out, HX.out.1, HX.out.2]
            exact ⟨ho, ⟨vh2, hP4, hlow2⟩, (hkall.trans hKs (fun i e hi => by have := HK.out.size; omega)).trans hk4 (fun i e hi => by have := row_low HR.out e; omega)⟩
          simp only [World.size_setCell] at hr
          clear ho hk4 hm4 hP4 hP2 hK2 hM2 hcb hs2 hKs hkall hrow2 hlow2 hc HX
          go_wp2_with (at_builtin; refine wpList_append_run rfl (.tmp 56) (.tmp 58) 27 27 rfl rfl rfl hr ?_)
          exact ⟨⟨k + 1, by omega, by go_num, HN.out⟩, by simp [intOf]; omega⟩
        · have ht : argOf (1, tv) = 0 := rfl
          have hc := answer_ok p m vh row 1 0 ((wr.alloc (.cells #[.int .i64 1, .int .i64 tv] 26)).alloc (.cells #[.int .i64 0, .int .i64 1, .int .i64 0, .int .i64 k, .int .i64 k, .int .i64 0, .int .i64 0] 49)) ((HP.out.kept (Keeps.alloc None wr _) (fun _ _ f => f)).kept (Keeps.alloc None _ _) (fun _ _ f => f)) (by omega)
          have HX : Hid (clS m k row (1, tv) = ⟨0, 1, 0, k, k, (ansD m row 1 0).1.1, (ansD m row 1 0).1.2⟩ ∧ (ansD m row 1 (argOf (1, tv))).2 = (ansD m row 1 0).2) := ⟨rfl, rfl⟩
          clear ht
          generalize (ansD m row 1 0).1.1 = code at hc HX
          generalize (ansD m row 1 0).1.2 = val at hc HX
          generalize (ansD m row 1 0).2 = row2 at hc HX
          go_wp2_with fail
          refine hc.mono ?_
          rintro e w2 ⟨rfl, vh2, hP2, hK2, hM2⟩
          have hcb : w2.heap[wr.heap.size + 1]? = some (.cells #[.int .i64 0, .int .i64 1, .int .i64 0, .int .i64 k, .int .i64 k, .int .i64 0, .int .i64 0] 49 (0, 0)) := by
            refine (hK2.block _ (by simp) (fun e => ?_)).trans (blk_new _ _ _ (by simp))
            rcases e with e | e
            · have := HP.out.lt; omega
            · have := HP.out.held.lt e; omega
          have d0 : w2.cell? ⟨wr.heap.size + 1, 0, none⟩ = some (.int .i64 0) := by rw [blk_cell hcb]; rfl
          have d1 : w2.cell? ⟨wr.heap.size + 1, 1, none⟩ = some (.int .i64 1) := by rw [blk_cell hcb]; rfl
          have d2 : w2.cell? ⟨wr.heap.size + 1, 2, none⟩ = some (.int .i64 0) := by rw [blk_cell hcb]; rfl
          have d3 : w2.cell? ⟨wr.heap.size + 1, 3, none⟩ = some (.int .i64 k) := by rw [blk_cell hcb]; rfl
          have d4 : w2.cell? ⟨wr.heap.size + 1, 4, none⟩ = some (.int .i64 k) := by rw [blk_cell hcb]; rfl
          have d5 : w2.cell? ⟨wr.heap.size + 1, 5, none⟩ = some (.int .i64 0) := by rw [blk_cell hcb]; rfl
          have d6 : w2.cell? ⟨wr.heap.size + 1, 6, none⟩ = some (.int .i64 0) := by rw [blk_cell hcb]; rfl
          have f5 : w2.frozen? ⟨wr.heap.size + 1, 5, none⟩ = false := blk_free hcb 5
          have f6 : w2.frozen? ⟨wr.heap.size + 1, 6, none⟩ = false := blk_free hcb 6
          have hs2 : wr.heap.size + 2 ≤ w2.heap.size := by have := hK2.size; simp at this; omega
          have hKs : Keeps (fun i => i = wr.heap.size + 1) w2 ((w2.setCell ⟨wr.heap.size + 1, 5, none⟩ (.int .i64 code)).setCell ⟨wr.heap.size + 1, 6, none⟩ (.int .i64 val)) := keeps_one (keeps_one (Keeps.refl _ w2) _) _
          have hkall : Keeps None w w2 := (HK.out.andAlloc _).andAlloc _ |>.trans hK2 (fun i e hi => by
            rcases e with e | e
            · omega
            · have := HV.out i e; omega)
          have hrow2 : w2.ownsRow w.heap.size 49 7 (.slice sa k cs) k (clVals (serS m l k).1) := by
            refine row_kept (row_kept (row_kept HR.out (Keeps.alloc None wr _) (fun _ _ f => f)) (Keeps.alloc None _ _) (fun _ _ f => f)) hK2 (fun g e e2 => ?_)
            rcases e2 with e2 | e2
            · subst e2; exact absurd (own_type HR.out e HP.out.blk) (by decide)
            · obtain ⟨cur, hcur⟩ := HP.out.held.type e2
              exact absurd (own_type HR.out e hcur) (by decide)
          have hlow2 : ∀ g, vh2.ownBlock = some g → w.heap.size ≤ g := by
            intro g e
            rcases hM2 with hM | ⟨g', e', hg'⟩
            · exact HV.out g (hM.symm.trans e)
            · rw [e'] at e; injection e with e; have := HK.out.size; simp at hg'; omega
          obtain ⟨g, cp, w4, hr, ho, hk4, hm4⟩ := call_more w.heap.size (.slice sa k cs) (serS m l k).1 ⟨0, 1, 0, k, k, code, val⟩ k 27 ((w2.setCell ⟨wr.heap.size + 1, 5, none⟩ (.int .i64 code)).setCell ⟨wr.heap.size + 1, 6, none⟩ (.int .i64 val)) (serS_length m l k).1.symm
            (row_kept hrow2 hKs (fun g e e2 => by have := own_lt HR.out e; omega)) (by have := hkall.size; simpa using this) (by omega)
          have hP4 : IsPlain w4 p m vh2 row2 := by
            refine (hP2.kept hKs (fun i e e2 => ?_)).kept hk4 (fun i e e2 => ?_)
            · rcases e with e | e
              · have := HP.out.lt; omega
              · rcases hM2 with hM | ⟨g', e', hg'⟩
                · have := HP.out.held.lt (hM.symm.trans e); omega
                · rw [e'] at e; injection e with e; simp at hg'; omega
            · rcases e with e | e
              · subst e; exact absurd (own_type HR.out e2 HP.out.blk) (by decide)
              · obtain ⟨cur, hcur⟩ := hP2.held.type e
                exact absurd (own_type hrow2 e2 hcur) (by decide)
          have HN : Hid (w4.ownsRow w.heap.size 49 7 (.slice (some ⟨g, 0, none⟩) (k + 1) cp) (k + 1) (clVals (serS m l (k + 1)).1) ∧ (∃ vh', IsPlain w4 p m vh' (serS m l (k + 1)).2 ∧ ∀ g, vh'.ownBlock = some g → w.heap.size ≤ g) ∧ Keeps None w w4) := by
            rw [serS_more m HXX.out]
            simp only
            rw [← HRW.out, HX.out.1, HX.out.2]
            exact ⟨ho, ⟨vh2, hP4, hlow2⟩, (hkall.trans hKs (fun i e hi => by have := HK.out.size; omega)).trans hk4 (fun i e hi => by have := row_low HR.out e; omega)⟩
          simp only [World.size_setCell] at hr
          clear ho hk4 hm4 hP4 hP2 hK2 hM2 hcb hs2 hKs hkall hrow2 hlow2 hc HX
          go_wp2_with (at_builtin; refine wpList_append_run rfl (.tmp 56) (.tmp 58) 27 27 rfl rfl rfl hr ?_)
          exact ⟨⟨k + 1, by omega, by go_num, HN.out⟩, by simp [intOf]; omega⟩
        · have ht : argOf (2, tv) = 0 := rfl
          have hc := answer_ok p m vh row 2 0 ((wr.alloc (.cells #[.int .i64 2, .int .i64 tv] 26)).alloc (.cells #[.int .i64 1, .int .i64 2, .int .i64 0, .int .i64 k, .int .i64 k, .int .i64 0, .int .i64 0] 49)) ((HP.out.kept (Keeps.alloc None wr _) (fun _ _ f => f)).kept (Keeps.alloc None _ _) (fun _ _ f => f)) (by omega)
          have HX : Hid (clS m k row (2, tv) = ⟨1, 2, 0, k, k, (ansD m row 2 0).1.1, (ansD m row 2 0).1.2⟩ ∧ (ansD m row 2 (argOf (2, tv))).2 = (ansD m row 2 0).2) := ⟨rfl, rfl⟩
          clear ht
          generalize (ansD m row 2 0).1.1 = code at hc HX
          generalize (ansD m row 2 0).1.2 = val at hc HX
          generalize (ansD m row 2 0).2 = row2 at hc HX
          go_wp2_with fail
          refine hc.mono ?_
          rintro e w2 ⟨rfl, vh2, hP2, hK2, hM2⟩
          have hcb : w2.heap[wr.heap.size + 1]? = some (.cells #[.int .i64 1, .int .i64 2, .int .i64 0, .int .i64 k, .int .i64 k, .int .i64 0, .int .i64 0] 49 (0, 0)) := by
            refine (hK2.block _ (by simp) (fun e => ?_)).trans (blk_new _ _ _ (by simp))
            rcases e with e | e
            · have := HP.out.lt; omega
            · have := HP.out.held.lt e; omega
          have d0 : w2.cell? ⟨wr.heap.size + 1, 0, none⟩ = some (.int .i64 1) := by rw [blk_cell hcb]; rfl
          have d1 : w2.cell? ⟨wr.heap.size + 1, 1, none⟩ = some (.int .i64 2) := by rw [blk_cell hcb]; rfl
          have d2 : w2.cell? ⟨wr.heap.size + 1, 2, none⟩ = some (.int .i64 0) := by rw [blk_cell hcb]; rfl
          have d3 : w2.cell? ⟨wr.heap.size + 1, 3, none⟩ = some (.int .i64 k) := by rw [blk_cell hcb]; rfl
          have d4 : w2.cell? ⟨wr.heap.size + 1, 4, none⟩ = some (.int .i64 k) := by rw [blk_cell hcb]; rfl
          have d5 : w2.cell? ⟨wr.heap.size + 1, 5, none⟩ = some (.int .i64 0) := by rw [blk_cell hcb]; rfl
          have d6 : w2.cell? ⟨wr.heap.size + 1, 6, none⟩ = some (.int .i64 0) := by rw [blk_cell hcb]; rfl
          have f5 : w2.frozen? ⟨wr.heap.size + 1, 5, none⟩ = false := blk_free hcb 5
          have f6 : w2.frozen? ⟨wr.heap.size + 1, 6, none⟩ = false := blk_free hcb 6
          have hs2 : wr.heap.size + 2 ≤ w2.heap.size := by have := hK2.size; simp at this; omega
          have hKs : Keeps (fun i => i = wr.heap.size + 1) w2 ((w2.setCell ⟨wr.heap.size + 1, 5, none⟩ (.int .i64 code)).setCell ⟨wr.heap.size + 1, 6, none⟩ (.int .i64 val)) := keeps_one (keeps_one (Keeps.refl _ w2) _) _
          have hkall : Keeps None w w2 := (HK.out.andAlloc _).andAlloc _ |>.trans hK2 (fun i e hi => by
            rcases e with e | e
            · omega
            · have := HV.out i e; omega)
          have hrow2 : w2.ownsRow w.heap.size 49 7 (.slice sa k cs) k (clVals (serS m l k).1) := by
            refine row_kept (row_kept (row_kept HR.out (Keeps.alloc None wr _) (fun _ _ f => f)) (Keeps.alloc None _ _) (fun _ _ f => f)) hK2 (fun g e e2 => ?_)
            rcases e2 with e2 | e2
            · subst e2; exact absurd (own_type HR.out e HP.out.blk) (by decide)
            · obtain ⟨cur, hcur⟩ := HP.out.held.type e2
              exact absurd (own_type HR.out e hcur) (by decide)
          have hlow2 : ∀ g, vh2.ownBlock = some g → w.heap.size ≤ g := by
            intro g e
            rcases hM2 with hM | ⟨g', e', hg'⟩
            · exact HV.out g (hM.symm.trans e)
            · rw [e'] at e; injection e with e; have := HK.out.size; simp at hg'; omega
          obtain ⟨g, cp, w4, hr, ho, hk4, hm4⟩ := call_more w.heap.size (.slice sa k cs) (serS m l k).1 ⟨1, 2, 0, k, k, code, val⟩ k 27 ((w2.setCell ⟨wr.heap.size + 1, 5, none⟩ (.int .i64 code)).setCell ⟨wr.heap.size + 1, 6, none⟩ (.int .i64 val)) (serS_length m l k).1.symm
            (row_kept hrow2 hKs (fun g e e2 => by have := own_lt HR.out e; omega)) (by have := hkall.size; simpa using this) (by omega)
          have hP4 : IsPlain w4 p m vh2 row2 := by
            refine (hP2.kept hKs (fun i e e2 => ?_)).kept hk4 (fun i e e2 => ?_)
            · rcases e with e | e
              · have := HP.out.lt; omega
              · rcases hM2 with hM | ⟨g', e', hg'⟩
                · have := HP.out.held.lt (hM.symm.trans e); omega
                · rw [e'] at e; injection e with e; simp at hg'; omega
            · rcases e with e | e
              · subst e; exact absurd (own_type HR.out e2 HP.out.blk) (by decide)
              · obtain ⟨cur, hcur⟩ := hP2.held.type e
                exact absurd (own_type hrow2 e2 hcur) (by decide)
          have HN : Hid (w4.ownsRow w.heap.size 49 7 (.slice (some ⟨g, 0, none⟩) (k + 1) cp) (k + 1) (clVals (serS m l (k + 1)).1) ∧ (∃ vh', IsPlain w4 p m vh' (serS m l (k + 1)).2 ∧ ∀ g, vh'.ownBlock = some g → w.heap.size ≤ g) ∧ Keeps None w w4) := by
            rw [serS_more m HXX.out]
            simp only
            rw [← HRW.out, HX.out.1, HX.out.2]
            exact ⟨ho, ⟨vh2, hP4, hlow2⟩, (hkall.trans hKs (fun i e hi => by have := HK.out.size; omega)).trans hk4 (fun i e hi => by have := row_low HR.out e; omega)⟩
          simp only [World.size_setCell] at hr
          clear ho hk4 hm4 hP4 hP2 hK2 hM2 hcb hs2 hKs hkall hrow2 hlow2 hc HX
          go_wp2_with (at_builtin; refine wpList_append_run rfl (.tmp 56) (.tmp 58) 27 27 rfl rfl rfl hr ?_)
          exact ⟨⟨k + 1, by omega, by go_num, HN.out⟩, by simp [intOf]; omega⟩
      · have hkn2 : k = n := by omega
        subst hkn2
        have c1 := HP.out.c1
        have HN : Hid (∀ q, SerOut w (wr.drewN q) l m (.slice sa k cs) vh) := by
          intro q
          have hq : Keeps None wr (wr.drewN q) := ⟨rfl, rfl, rfl, Nat.le_refl _, fun _ _ _ => rfl⟩
          have e1 : serC l m = (serS m l k).1 := by unfold serC; rw [if_pos HE.out, HL.out]; rfl
          have e2 : serZ l m = row := by unfold serZ; rw [if_pos HE.out, HRW.out, HL.out]; rfl
          exact ⟨by rw [e1, (serS_length m l k).1]; exact row_kept HR.out hq (fun _ _ f => f), by rw [e2]; exact HP.out.held.kept hq (fun _ _ f => f), HV.out, HK.out.trans hq (fun _ f _ => f)⟩
        obtain ⟨ah, ch, rfl, -⟩ := HP.out.held.shape
        generalize row.length = nr at *
        clear HR HP HRW HV HK HM HP0 HK1 HS
        go_wp2
        go_quiet (fail)
        go_wp2
        go_ret3
        exact ⟨_, _, by rw [HE.out]; rfl, HN.out _⟩
  · have b0 : (errS l most == 0) = false := by simpa using he
    have HO : Hid (∀ w1, Keeps None w w1 → SerOut w w1 l most (.slice none 0 0) (.slice none 0 0)) := fun w1 hk => ser_err he hk
    unfold SerPost
    generalize errS l most = er at *
    clear hS he
    go_enter Try.func6, Try.ntmps6
    go_wp2_with fail
    refine hf.mono ?_
    rintro e w1 ⟨rfl, hk1⟩
    clear hf
    go_wp2
    go_ret3
    exact ⟨_, _, rfl, HO.out _ hk1⟩
end Go.Proofs.Ytheginjjncnheaa
