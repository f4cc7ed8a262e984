import Derived.Test.YtbdpdojeaahpjaaGreatDoorPkBJ
import Derived.Test.YtbdpdojeaahpjaaGreatDoorPkBI
import Derived.Test.YtbdpdojeaahpjaaGreatDoorPkAZ
/-! The document's walk over a run: the edges to a sync. -/
namespace Go.Proofs.YtbdpdojeaahpjaaGreatDoor
set_option linter.unusedVariables false
set_option maxRecDepth 20000
open Go.RowKit Go.HeapKit Go.PlainOps

theorem own_shape2 {w : World} {lo : Nat} {e : TypeId} {z n : Nat} {v : Value} {Y : List Value} (h : w.ownsRow lo e z v n Y) : ∃ a c, v = .slice a n c := by
  rcases h.2 with ⟨rfl, e2⟩ | ⟨g, cap, cur, rfl, hb, hr⟩
  · exact ⟨none, 0, by subst e2; rfl⟩
  · exact ⟨_, _, rfl⟩
structure JInv (lo Q : Nat) (pv : Value) (n : Nat) (es : List (Nat × Nat)) (sf : Nat) (fr : Option Nat) (en : List Nat) (a : Option Addr) (m c : Nat) (w wr : World) (j : Nat) (put : Bool) (P : List Nat) : Prop where
  isw : ∃ ev, IsW lo wr Q pv n (es ++ P.map (fun f => (f, sf))) ev
  own : wr.ownsRow lo 3 1 (.slice a m c) m (natV en)
  keep : Keeps (TyD lo w) w wr
  join : joinL fr en = P ++ (if put then en.drop j else joinL fr (en.drop j))
  sm : put = false → ∃ f, fr = some f
  len : P.length ≤ j + (if put then 1 else 0)
set_option maxHeartbeats 4000000 in
theorem joins_any (lo Q : Nat) (pv : Value) (n : Nat) (es : List (Nat × Nat)) (fr : Option Nat) (en : List Nat) (self : Nat) (a : Option Addr) (m c : Nat) (w : World) (h : ∃ ev, IsW lo w Q pv n es ev) (ho : w.ownsRow lo 3 1 (.slice a m c) m (natV en)) (hlo : lo ≤ w.heap.size) (hl : es.length ≤ 100000) (hm : m ≤ 10000) (hs : self ≤ 10000) (hf : ∀ f, fr = some f → f ≤ 10000) :
    Calls Tryz.prog 21 #[.pointer (some ⟨Q, 0, none⟩), .int .i64 (frI fr), .slice a m c, .int .i64 (self : Int)] w fun e w' => e = .returned (.tuple #[]) ∧ (∃ ev, IsW lo w' Q pv n (es ++ (joinL fr en).map (fun f => (f, self))) ev) ∧ Keeps (TyD lo w) w w' := by
  have hml : m = en.length := by have := ho.1; rw [natV_len] at this; omega
  have H0 : Hid ((∃ ev, IsW lo w Q pv n es ev) ∧ w.ownsRow lo 3 1 (.slice a m c) m (natV en) ∧ lo ≤ w.heap.size ∧ es.length ≤ 100000 ∧ (∀ f, fr = some f → f ≤ 10000) ∧ m = en.length) := ⟨h, ho, hlo, hl, hf, hml⟩
  clear h ho hlo hl hf hml
  obtain ⟨F, hF⟩ : ∃ F, F = frI fr := ⟨_, rfl⟩
  have hF1 : -1 ≤ F ∧ F ≤ 10000 := by
    rw [hF]
    cases hfr : fr with
    | none => show (-1 : Int) ≤ -1 ∧ (-1 : Int) ≤ 10000; omega
    | some f => have := H0.out.2.2.2.2.1 f hfr; show (-1 : Int) ≤ (f : Int) ∧ (f : Int) ≤ 10000; omega
  have HF : Hid (F = frI fr) := hF
  rw [← hF]
  clear hF
  go_enter Tryz.func21, Tryz.ntmps21
  go_wp2_with fail
  go_loopw [9, 8] (fun s9 s8 wr => ∃ (j : Nat) (put : Bool) (P : List Nat), s9 = .int .i64 j ∧ s8 = .bool put ∧ j ≤ m ∧ JInv lo Q pv n es self fr en a m c w wr j put P) (fun s9 _ _ => m - (intOf s9).toNat)
  case atStart =>
    refine ⟨0, decide (F < 0), [], rfl, by simp, Nat.zero_le _, by simpa using H0.out.1, H0.out.2.1, Keeps.refl _ _, ?_, fun hp => ?_, by simp⟩
    · rw [HF.out]
      cases fr with
      | none => simp [frI, joinL_none]
      | some f =>
        have h0 : ¬ ((f : Int) < 0) := by omega
        simp [frI, h0]
    · rw [HF.out] at hp
      cases fr with
      | none => simp [frI] at hp
      | some f => exact ⟨f, rfl⟩
  case round =>
    obtain ⟨j, put, P, rfl, rfl, hj, hJ⟩ := hrel
    obtain ⟨ev, hW⟩ := hJ.isw
    have ho := hJ.own
    have hk := hJ.keep
    have hjo := hJ.join
    have hpf := hJ.sm
    have hP : P.length ≤ j + 1 := by have := hJ.len; split at this <;> omega
    have hP2 : put = false → P.length ≤ j := fun e => by have := hJ.len; rw [if_neg (by simp [e])] at this; omega
    by_cases hjm : j < m
    · have i1 : (j : Int) < (m : Int) := by omega
      obtain ⟨x, hx⟩ : ∃ x, en[j]? = some x := ⟨en[j]'(by have := H0.out.2.2.2.2.2; omega), by simp⟩
      have hdr : en.drop j = x :: en.drop (j + 1) := by
        have hje : j < en.length := by have := H0.out.2.2.2.2.2; omega
        rw [List.drop_eq_getElem_cons hje]
        congr 1
        have := List.getElem?_eq_getElem hje
        rw [this] at hx
        exact Option.some.inj hx
      rw [hdr] at hjo
      obtain ⟨g2, c2', e2⟩ := own_some7 ho (by omega)
      injection e2 with e21 e22 e23
      subst e21
      subst e23
      have cx := (own_cell7 ho (natV_at hx)).1
      cases hput : put with
      | true =>
        subst hput
        have cx7 := cx
        have hWd := hW.more (Keeps.drew None wr)
        obtain ⟨ea, ec, eev⟩ := own_shape2 hWd.row
        subst eev
        obtain ⟨ge, ce, V, hr, s1, s2, hW5, hk5⟩ := hWd.edge (by have := H0.out.2.2.1; have := hk.size; have := (Keeps.drew None wr).size; omega) (by have := H0.out.2.2.2.1; simp; omega) x self
        have hod := TyD.keeps (TyD.keeps ho dw_int (TyD.new (lo := lo) (Keeps.drew None wr))) dw_int hk5
        have q1 : wr.drew.cell? ⟨Q, 2, none⟩ = some (.slice ea (es ++ (P).map (fun f => (f, self))).length ec) := (blk_cell hWd.blk 2).trans rfl
        have q2 : wr.drew.cell? ⟨g2, j, none⟩ = some (.int .i64 (x : Int)) := (Keeps.drew None wr).cell cx7 (fun f => f)
        have hal := Keeps.alloc None wr.drew (.cells #[.int .i64 (x : Int), .int .i64 (self : Int)] 39)
        have q3 := hal.cell q1 (fun f => f)
        have q4 := hal.cell q2 (fun f => f)
        have hal2 := Keeps.alloc None wr (.cells #[.int .i64 (x : Int), .int .i64 (self : Int)] 39)
        have q5 : (wr.alloc (.cells #[.int .i64 (x : Int), .int .i64 (self : Int)] 39)).cell? ⟨Q, 2, none⟩ = some (.slice ea (es ++ (P).map (fun f => (f, self))).length ec) := (blk_cell (blk_kept hW.blk hal2 (fun f => f)) 2).trans rfl
        have q6 := hal2.cell cx7 (fun f => f)
        have ek : es ++ (P ++ [x]).map (fun f => (f, self)) = (es ++ (P).map (fun f => (f, self))) ++ [(x, self)] := by simp
        obtain ⟨n5, hn5⟩ : ∃ n5, n5 = (es ++ (P).map (fun f => (f, self))).length := ⟨_, rfl⟩
        rw [← hn5] at hr s1 hW5 hk5 hod q1 q3 q5
        have HQ : Hid (JInv lo Q pv n es self fr en (some ⟨g2, 0, none⟩) m c w (V.setCell ⟨Q, 2, none⟩ (.slice (some ⟨ge, 0, none⟩) (n5 + 1) ce)) (j + 1) true (P ++ [x])) := ⟨by rw [ek]; exact ⟨_, hW5⟩, hod, TyD.trans (TyD.trans hk (TyD.new (Keeps.drew None wr))) hk5, (by rw [hjo]; simp), (fun e => by cases e), (by simp; omega)⟩
        have hr2 : (Builtin.append_ #[27, 27] 27 #[.slice ea n5 ec, .slice (some ⟨wr.heap.size, 0, none⟩) 1 1]).run Tryz.prog (wr.alloc (.cells #[.int .i64 (x : Int), .int .i64 (self : Int)] 39)).drew = .ok (.slice (some ⟨ge, 0, none⟩) (n5 + 1) ce) V := hr
        clear hWd hal hal2 hk5 hW5 hod hn5 ek hJ hjo hdr
        go_upto_region 7 with fail
        go_region_law (first | (with_reducible refine step_append_run rfl (.tmp 44) (.tmp 51) 27 27 rfl (by simp [Act.eval]) (by simp [Act.eval]) hr2 ?_) | (refine step_append_run rfl (.tmp 44) (.tmp 51) 27 27 rfl (by simp [Act.eval]) (by simp [Act.eval]) hr ?_))
        all_goals (go_wp2_with fail; exact ⟨⟨j + 1, true, P ++ [x], by go_num, rfl, by omega, HQ.out⟩, by simp [intOf]; omega⟩)
      | false =>
        subst hput
        have hP3 := hP2 rfl
        obtain ⟨f, hf⟩ := hpf rfl
        have hFf : F = (f : Int) := by rw [HF.out, hf]; rfl
        subst hFf
        rw [hf] at hjo
        by_cases hfx : f < x
        · rw [if_neg (by simp), join_lt hfx] at hjo
          have i5 : (f : Int) < (x : Int) := by omega
          obtain ⟨ea5, ec5, eev5⟩ := own_shape2 hW.row
          subst eev5
          obtain ⟨g5, c5, V5, r5, s51, s52, hW6, hk6⟩ := hW.edge (by have := H0.out.2.2.1; have := hk.size; omega) (by have := H0.out.2.2.2.1; simp; omega) f self
          have ho6 := TyD.keeps ho dw_int hk6
          have q51 : wr.cell? ⟨Q, 2, none⟩ = some (.slice ea5 (es ++ P.map (fun f => (f, self))).length ec5) := (blk_cell hW.blk 2).trans rfl
          have ek6 : es ++ (P ++ [f]).map (fun f => (f, self)) = (es ++ P.map (fun f => (f, self))) ++ [(f, self)] := by simp
          obtain ⟨n6, hn6⟩ : ∃ n6, n6 = (es ++ P.map (fun f => (f, self))).length := ⟨_, rfl⟩
          rw [← ek6] at hW6
          rw [← hn6] at r5 s51 hW6 hk6 ho6 q51
          obtain ⟨Wx, hWx⟩ : ∃ Wx, Wx = V5.setCell ⟨Q, 2, none⟩ (.slice (some ⟨g5, 0, none⟩) (n6 + 1) c5) := ⟨_, rfl⟩
          rw [← hWx] at hW6 hk6 ho6
          have hk7 := TyD.trans hk hk6
          have cx7 := (own_cell7 ho6 (natV_at hx)).1
          have HJJ : Hid (joinL fr en = P ++ f :: x :: en.drop (j + 1)) := by rw [hf]; exact hjo
          clear hJ hjo hdr hW ho hk hn6 ek6 hx
          go_upto_region 7 with (at_builtin; refine wpList_append_run rfl (.tmp 32) (.tmp 36) 27 27 rfl rfl rfl r5 ?_)
          rw [← hWx]
          clear hWx r5 s51 s52 q51 hk6 cx
          obtain ⟨ev6, hW6⟩ : ∃ ev, IsW lo Wx Q pv n (es ++ (P ++ [f]).map (fun f => (f, self))) ev := ⟨_, hW6⟩
          have hWd := hW6.more (Keeps.drew None Wx)
          obtain ⟨ea, ec, eev⟩ := own_shape2 hWd.row
          subst eev
          obtain ⟨ge, ce, V, hr, s1, s2, hW5, hk5⟩ := hWd.edge (by have := H0.out.2.2.1; have := hk7.size; have := (Keeps.drew None Wx).size; omega) (by have := H0.out.2.2.2.1; simp; omega) x self
          have hod := TyD.keeps (TyD.keeps ho6 dw_int (TyD.new (lo := lo) (Keeps.drew None Wx))) dw_int hk5
          have q1 : Wx.drew.cell? ⟨Q, 2, none⟩ = some (.slice ea (es ++ ((P ++ [f])).map (fun f => (f, self))).length ec) := (blk_cell hWd.blk 2).trans rfl
          have q2 : Wx.drew.cell? ⟨g2, j, none⟩ = some (.int .i64 (x : Int)) := (Keeps.drew None Wx).cell cx7 (fun f => f)
          have hal := Keeps.alloc None Wx.drew (.cells #[.int .i64 (x : Int), .int .i64 (self : Int)] 39)
          have q3 := hal.cell q1 (fun f => f)
          have q4 := hal.cell q2 (fun f => f)
          have hal2 := Keeps.alloc None Wx (.cells #[.int .i64 (x : Int), .int .i64 (self : Int)] 39)
          have q5 : (Wx.alloc (.cells #[.int .i64 (x : Int), .int .i64 (self : Int)] 39)).cell? ⟨Q, 2, none⟩ = some (.slice ea (es ++ ((P ++ [f])).map (fun f => (f, self))).length ec) := (blk_cell (blk_kept hW6.blk hal2 (fun f => f)) 2).trans rfl
          have q6 := hal2.cell cx7 (fun f => f)
          have ek : es ++ ((P ++ [f]) ++ [x]).map (fun f => (f, self)) = (es ++ ((P ++ [f])).map (fun f => (f, self))) ++ [(x, self)] := by simp
          obtain ⟨n5, hn5⟩ : ∃ n5, n5 = (es ++ ((P ++ [f])).map (fun f => (f, self))).length := ⟨_, rfl⟩
          rw [← hn5] at hr s1 hW5 hk5 hod q1 q3 q5
          have HQ : Hid (JInv lo Q pv n es self fr en (some ⟨g2, 0, none⟩) m c w (V.setCell ⟨Q, 2, none⟩ (.slice (some ⟨ge, 0, none⟩) (n5 + 1) ce)) (j + 1) true ((P ++ [f]) ++ [x])) := ⟨by rw [ek]; exact ⟨_, hW5⟩, hod, TyD.trans (TyD.trans hk7 (TyD.new (Keeps.drew None Wx))) hk5, (by rw [HJJ.out]; simp), (fun e => by cases e), (by simp; omega)⟩
          have hr2 : (Builtin.append_ #[27, 27] 27 #[.slice ea n5 ec, .slice (some ⟨Wx.heap.size, 0, none⟩) 1 1]).run Tryz.prog (Wx.alloc (.cells #[.int .i64 (x : Int), .int .i64 (self : Int)] 39)).drew = .ok (.slice (some ⟨ge, 0, none⟩) (n5 + 1) ce) V := hr
          clear hWd hal hal2 hk5 hW5 hod hn5 ek
          go_region_law (first | (with_reducible refine step_append_run rfl (.tmp 44) (.tmp 51) 27 27 rfl (by simp [Act.eval]) (by simp [Act.eval]) hr2 ?_) | (refine step_append_run rfl (.tmp 44) (.tmp 51) 27 27 rfl (by simp [Act.eval]) (by simp [Act.eval]) hr ?_))
          all_goals (go_wp2_with fail; exact ⟨⟨j + 1, true, (P ++ [f]) ++ [x], by go_num, rfl, by omega, HQ.out⟩, by simp [intOf]; omega⟩)
        · rw [if_neg (by simp), join_ge hfx] at hjo
          have i5 : ¬ (f : Int) < (x : Int) := by omega
          have cx7 := cx
          have hWd := hW.more (Keeps.drew None wr)
          obtain ⟨ea, ec, eev⟩ := own_shape2 hWd.row
          subst eev
          obtain ⟨ge, ce, V, hr, s1, s2, hW5, hk5⟩ := hWd.edge (by have := H0.out.2.2.1; have := hk.size; have := (Keeps.drew None wr).size; omega) (by have := H0.out.2.2.2.1; simp; omega) x self
          have hod := TyD.keeps (TyD.keeps ho dw_int (TyD.new (lo := lo) (Keeps.drew None wr))) dw_int hk5
          have q1 : wr.drew.cell? ⟨Q, 2, none⟩ = some (.slice ea (es ++ (P).map (fun f => (f, self))).length ec) := (blk_cell hWd.blk 2).trans rfl
          have q2 : wr.drew.cell? ⟨g2, j, none⟩ = some (.int .i64 (x : Int)) := (Keeps.drew None wr).cell cx7 (fun f => f)
          have hal := Keeps.alloc None wr.drew (.cells #[.int .i64 (x : Int), .int .i64 (self : Int)] 39)
          have q3 := hal.cell q1 (fun f => f)
          have q4 := hal.cell q2 (fun f => f)
          have hal2 := Keeps.alloc None wr (.cells #[.int .i64 (x : Int), .int .i64 (self : Int)] 39)
          have q5 : (wr.alloc (.cells #[.int .i64 (x : Int), .int .i64 (self : Int)] 39)).cell? ⟨Q, 2, none⟩ = some (.slice ea (es ++ (P).map (fun f => (f, self))).length ec) := (blk_cell (blk_kept hW.blk hal2 (fun f => f)) 2).trans rfl
          have q6 := hal2.cell cx7 (fun f => f)
          have ek : es ++ (P ++ [x]).map (fun f => (f, self)) = (es ++ (P).map (fun f => (f, self))) ++ [(x, self)] := by simp
          obtain ⟨n5, hn5⟩ : ∃ n5, n5 = (es ++ (P).map (fun f => (f, self))).length := ⟨_, rfl⟩
          rw [← hn5] at hr s1 hW5 hk5 hod q1 q3 q5
          have HQ : Hid (JInv lo Q pv n es self fr en (some ⟨g2, 0, none⟩) m c w (V.setCell ⟨Q, 2, none⟩ (.slice (some ⟨ge, 0, none⟩) (n5 + 1) ce)) (j + 1) false (P ++ [x])) := ⟨by rw [ek]; exact ⟨_, hW5⟩, hod, TyD.trans (TyD.trans hk (TyD.new (Keeps.drew None wr))) hk5, (by rw [hf, hjo]; simp), (fun e => ⟨f, hf⟩), (by simp; omega)⟩
          have hr2 : (Builtin.append_ #[27, 27] 27 #[.slice ea n5 ec, .slice (some ⟨wr.heap.size, 0, none⟩) 1 1]).run Tryz.prog (wr.alloc (.cells #[.int .i64 (x : Int), .int .i64 (self : Int)] 39)).drew = .ok (.slice (some ⟨ge, 0, none⟩) (n5 + 1) ce) V := hr
          clear hWd hal hal2 hk5 hW5 hod hn5 ek hJ hjo hdr
          go_upto_region 7 with fail
          go_region_law (first | (with_reducible refine step_append_run rfl (.tmp 44) (.tmp 51) 27 27 rfl (by simp [Act.eval]) (by simp [Act.eval]) hr2 ?_) | (refine step_append_run rfl (.tmp 44) (.tmp 51) 27 27 rfl (by simp [Act.eval]) (by simp [Act.eval]) hr ?_))
          all_goals (go_wp2_with fail; exact ⟨⟨j + 1, false, P ++ [x], by go_num, rfl, by omega, HQ.out⟩, by simp [intOf]; omega⟩)
    · have i1 : ¬ (j : Int) < (m : Int) := by omega
      obtain rfl : j = m := by omega
      rw [List.drop_eq_nil_of_le (by have := H0.out.2.2.2.2.2; omega)] at hjo
      cases hput : put with
      | true =>
        subst hput
        have hjo2 : joinL fr en = P := by rw [hjo]; simp
        have HE : Hid ((∃ ev, IsW lo wr Q pv n (es ++ (joinL fr en).map (fun f => (f, self))) ev) ∧ Keeps (TyD lo w) w wr) := ⟨by rw [hjo2]; exact ⟨_, hW⟩, hk⟩
        clear hJ hjo hjo2 hW ho hk
        go_wp2_with fail
        go_end0
        exact ⟨rfl, HE.out⟩
      | false =>
        subst hput
        obtain ⟨f, hf⟩ := hpf rfl
        have hFf : F = (f : Int) := by rw [HF.out, hf]; rfl
        subst hFf
        have hjo2 : joinL fr en = P ++ [f] := by rw [hjo, hf]; simp [joinL]
        obtain ⟨ea5, ec5, eev5⟩ := own_shape2 hW.row
        subst eev5
        obtain ⟨g5, c5, V5, r5, s51, s52, hW6, hk6⟩ := hW.edge (by have := H0.out.2.2.1; have := hk.size; omega) (by have := H0.out.2.2.2.1; simp; omega) f self
        have q51 : wr.cell? ⟨Q, 2, none⟩ = some (.slice ea5 (es ++ P.map (fun f => (f, self))).length ec5) := (blk_cell hW.blk 2).trans rfl
        have ek6 : es ++ (P ++ [f]).map (fun f => (f, self)) = (es ++ P.map (fun f => (f, self))) ++ [(f, self)] := by simp
        obtain ⟨n6, hn6⟩ : ∃ n6, n6 = (es ++ P.map (fun f => (f, self))).length := ⟨_, rfl⟩
        rw [← ek6] at hW6
        rw [← hn6] at r5 s51 hW6 hk6 q51
        have HE : Hid ((∃ ev, IsW lo (V5.setCell ⟨Q, 2, none⟩ (.slice (some ⟨g5, 0, none⟩) (n6 + 1) c5)) Q pv n (es ++ (joinL fr en).map (fun f => (f, self))) ev) ∧ Keeps (TyD lo w) w (V5.setCell ⟨Q, 2, none⟩ (.slice (some ⟨g5, 0, none⟩) (n6 + 1) c5))) := ⟨by rw [hjo2]; exact ⟨_, hW6⟩, TyD.trans hk hk6⟩
        clear hJ hjo hjo2 hW ho hk hn6 ek6 hW6 hk6 hf
        go_wp2_with (at_builtin; refine wpList_append_run rfl (.tmp 61) (.tmp 65) 27 27 rfl rfl rfl r5 ?_)
        go_end0
        exact ⟨rfl, HE.out⟩
end Go.Proofs.YtbdpdojeaahpjaaGreatDoor
/-! The document's walk over a run: what stands at a round of 'task'. -/
namespace Go.Proofs.YtbdpdojeaahpjaaGreatDoor
set_option linter.unusedVariables false
set_option maxRecDepth 20000
set_option linter.unusedSimpArgs false
open Go.RowKit Go.HeapKit Go.PlainOps

theorem made_one7 (z : Value) (hz : z.cells = #[z]) (n : Nat) : madeCells z.cells n = (List.replicate n z).toArray := by
  rw [hz]
  apply Array.ext
  · simp [madeCells]
  · intro i h1 h2
    simp [madeCells, Nat.mod_one]
theorem make_i64 (n : Nat) (w : World) (hn : n ≤ 4096) : (Instr.makeSlice 25 (.int .i64 n) (.int .i64 n)).run Tryz.prog w = .ok (.slice (some ⟨w.heap.size, 0, none⟩) n n) (w.alloc (.cells (ints (List.replicate n 0)).toArray 2)) := by
  obtain ⟨i0, hi, hz0, hz1, hz2⟩ := info_parts Tryz.infoI64
  obtain ⟨M, hM, _, hr⟩ := run_make_block (P := Tryz.prog) (w := w) 25 2 i0 _ 1 8 Tryz.underlying25 hi hz0 hz1 hz2 n (by omega) (by omega)
  rw [made_one7 _ rfl, Nat.mul_one] at hM
  rw [hr, hM]
  simp [ints]
/-- What is left of the rounds. -/
def nuOf (w : World) (Q : Nat) : Nat := 10000 - (match w.cell? ⟨Q, 1, none⟩ with | some (.int _ x) => x.toNat | _ => 0)
theorem nu_is {lo Q n : Nat} {w : World} {pv ev : Value} {es : List (Nat × Nat)} (h : IsW lo w Q pv n es ev) : nuOf w Q = 10000 - n := by
  unfold nuOf
  rw [show w.cell? ⟨Q, 1, none⟩ = some (.int .i64 (n : Int)) from (blk_cell h.blk 1).trans rfl]
  rfl
structure Tn (t : Tk) (n : Nat) : Prop where
  regs : t.regs.length = 16
  slots : t.slots.length = 8
  okr : ∀ x ∈ t.regs, okI x
  oks : ∀ x ∈ t.slots, okI x
  okp : okI t.node.ped
  sp : 0 ≤ t.spawned ∧ t.spawned ≤ n
theorem Tn.pay {t : Tk} {n : Nat} (h : Tn t n) : Tn (payT t) (n + 1) := ⟨h.regs, h.slots, h.okr, h.oks, h.okp, by have := h.sp; show 0 ≤ t.spawned ∧ t.spawned ≤ ((n + 1 : Nat) : Int); omega⟩
theorem Tn.set {t : Tk} {n : Nat} (h : Tn t n) (a : Nat) {x : Int} (hx : okI x) : Tn (setR t a x) n := ⟨by show (t.regs.set a x).length = 16; simpa using h.regs, h.slots, set_ok h.okr a hx, h.oks, h.okp, h.sp⟩
theorem Tn.compute {t : Tk} {n : Nat} (h : Tn t n) (i : Ins) (hk : okI i.k) : Tn (computeT t i) n := by
  unfold computeT
  split
  · exact h.set _ hk
  · split
    · exact h.set _ (getD_ok h.okr _)
    · split
      · exact h.set _ (work_ok _ _ _ (getD_ok h.okr _) (getD_ok h.okr _))
      · split
        · exact h.set _ (getD_ok h.oks _)
        · split
          · exact h.set _ h.okp
          · exact h
/-- What a task has in memory beside the walk's own block. -/
structure DRest (f : Fn) (ca : Option Addr) (N cc nr ns : Nat) (w0 : World) (lo G H FB : Nat) (w : World) (wr : World) (t : Tk) (en : List Nat) (nv : Value) : Prop where
  regs : IsL wr G (t.regs.take nr)
  slots : IsL wr H (t.slots.take ns)
  ends : wr.ownsRow w.heap.size 3 1 nv en.length (natV en)
  fb : wr.heap[FB]? = some (.cells #[.int .i64 f.params, .int .i64 f.regs, .int .i64 f.slots, .slice ca N cc] 35 (0, 0))
  kept : Keeps (TyD lo w) w wr
  k0 : Keeps None w0 wr
section
variable {f : Fn} {ca : Option Addr} {N cc nr ns : Nat} {w0 : World} {lo G H FB : Nat} {w wr V : World} {t : Tk} {en : List Nat} {nv : Value}
theorem dw_fn : ¬ dwT 35 := by unfold dwT; decide
theorem dw_ins : ¬ dwT 37 := by unfold dwT; decide
theorem IsL.dw {w : World} {l : List Int} (h : IsL w G l) (hk : Keeps (TyD lo w) w V) : IsL V G l := h.kept hk (TyD.other h dw_i64)
theorem DRest.dw (h : DRest f ca N cc nr ns w0 lo G H FB w wr t en nv) (h0 : w0.heap.size ≤ lo) (hk : Keeps (TyD lo wr) wr V) : DRest f ca N cc nr ns w0 lo G H FB w V t en nv :=
  ⟨h.regs.dw hk, h.slots.dw hk, TyD.keeps h.ends dw_int hk, blk_kept h.fb hk (TyD.other h.fb dw_fn), TyD.trans h.kept hk, h.k0.trans hk (fun i e hi => by have := e.1; omega)⟩
theorem DRest.new (h : DRest f ca N cc nr ns w0 lo G H FB w wr t en nv) (hk : Keeps None wr V) : DRest f ca N cc nr ns w0 lo G H FB w V t en nv :=
  ⟨h.regs.kept hk (fun f => f), h.slots.kept hk (fun f => f), hk.own h.ends (fun _ _ f => f), blk_kept h.fb hk (fun f => f), h.kept.trans hk (fun _ f _ => f.elim), h.k0.trans hk (fun _ f _ => f)⟩
theorem DRest.reg (h : DRest f ca N cc nr ns w0 lo G H FB w wr t en nv) (hGH : G ≠ H) (hG : w.heap.size ≤ G) (h0 : w0.heap.size ≤ w.heap.size) {t' : Tk} (hr : IsL V G (t'.regs.take nr)) (hs : t'.slots = t.slots) (hk : Keeps (· = G) wr V) : DRest f ca N cc nr ns w0 lo G H FB w V t' en nv :=
  ⟨hr, by rw [hs]; exact h.slots.kept hk hGH.symm, hk.own h.ends (fun q eq hq => by subst hq; exact own_not h.ends h.regs (by decide) eq), blk_kept h.fb hk (fun e => by
      have hb := h.fb
      have hg := h.regs
      unfold IsL at hg
      rw [e, hg] at hb
      injection hb with hb
      injection hb with _ hb
      exact absurd hb (by decide)), h.kept.trans hk (fun i e hi => by omega), h.k0.trans hk (fun i e hi => by omega)⟩
theorem DRest.slot (h : DRest f ca N cc nr ns w0 lo G H FB w wr t en nv) (hGH : G ≠ H) (hH : w.heap.size ≤ H) (h0 : w0.heap.size ≤ w.heap.size) {t' : Tk} (hr : IsL V H (t'.slots.take ns)) (hs : t'.regs = t.regs) (hk : Keeps (· = H) wr V) : DRest f ca N cc nr ns w0 lo G H FB w V t' en nv :=
  ⟨by rw [hs]; exact h.regs.kept hk hGH, hr, hk.own h.ends (fun q eq hq => by subst hq; exact own_not h.ends h.slots (by decide) eq), blk_kept h.fb hk (fun e => by
      have hb := h.fb
      have hg := h.slots
      unfold IsL at hg
      rw [e, hg] at hb
      injection hb with hb
      injection hb with _ hb
      exact absurd hb (by decide)), h.kept.trans hk (fun i e hi => by omega), h.k0.trans hk (fun i e hi => by omega)⟩
theorem DRest.end_ (h : DRest f ca N cc nr ns w0 lo G H FB w wr t en nv) (h0 : w0.heap.size ≤ w.heap.size) {en' : List Nat} {nv' : Value} (hr : V.ownsRow w.heap.size 3 1 nv' en'.length (natV en')) (hk : Keeps (fun k => nv.ownBlock = some k) wr V) : DRest f ca N cc nr ns w0 lo G H FB w V t en' nv' := by
  have hlow : ∀ k, nv.ownBlock = some k → w.heap.size ≤ k := fun k e => by
    rcases h.ends.2 with ⟨h1, _⟩ | ⟨g, _, _, h1, hb, _⟩
    · rw [h1] at e; simp [Value.ownBlock] at e
    · rw [h1] at e; simp [Value.ownBlock] at e; omega
  exact ⟨h.regs.kept hk (fun e => own_not h.ends h.regs (by decide) e), h.slots.kept hk (fun e => own_not h.ends h.slots (by decide) e), hr, blk_kept h.fb hk (fun e => own_not h.ends h.fb (by decide) e), h.kept.trans hk (fun i e hi => by have := hlow i e; omega), h.k0.trans hk (fun i e hi => by have := hlow i e; omega)⟩
theorem DRest.cong (h : DRest f ca N cc nr ns w0 lo G H FB w wr t en nv) {t' : Tk} (hr : t'.regs = t.regs) (hs : t'.slots = t.slots) : DRest f ca N cc nr ns w0 lo G H FB w wr t' en nv :=
  ⟨by rw [hr]; exact h.regs, by rw [hs]; exact h.slots, h.ends, h.fb, h.kept, h.k0⟩
theorem DRest.low (h : DRest f ca N cc nr ns w0 lo G H FB w wr t en nv) (hl : lo ≤ w.heap.size) : wr.ownsRow lo 3 1 nv en.length (natV en) := by
  refine ⟨h.ends.1, ?_⟩
  rcases h.ends.2 with h1 | ⟨g, cap, cur, h1, hb, hr⟩
  · exact .inl h1
  · exact .inr ⟨g, cap, cur, h1, by omega, hr⟩
end
/-- What a task comes to. -/
def DPost (lo Q : Nat) (pv : Value) (w : World) (r : Nat × Int × Nat × Nat × List (Nat × Nat)) : Ending → World → Prop := fun e w' => e = .returned (.tuple #[.int .i64 (r.1 : Int), .int .i64 r.2.1]) ∧ (∃ ev, IsW lo w' Q pv r.2.2.2.1 r.2.2.2.2 ev) ∧ Keeps (TyD lo w) w w' ∧ okI r.2.1
structure NewD (t : Tk) (zs : List Int) : Prop where
  regs : t.regs = argsV zs 0 zs.length
  slots : t.slots = List.replicate 8 0
  spawned : t.spawned = 0
  okp : okI t.node.ped
  ok : ∀ x ∈ zs, okI x
def DTaskOk (fs : List Fn) (fa : Option Addr) (fn fc : Nat) (w0 : World) (lo Q g : Nat) : Prop :=
  ∀ (k n : Nat) (es : List (Nat × Nat)) (t : Tk) (fr : Option Nat) (aa : Option Addr) (an ac : Nat) (zs : List Int) (w : World) (r : Nat × Int × Nat × Nat × List (Nat × Nat)),
    docV fs g k n es t fr [] 0 = some r → r.2.2.2.1 ≤ 4096 → es.length ≤ 2 * n → (∀ q, fr = some q → q < n) → (∃ ev, IsW lo w Q (.slice fa fn fc) n es ev) → Keeps None w0 w → lo ≤ w.heap.size → NewD t zs → SeenA w aa an zs → 0 ≤ t.node.func ∧ t.node.func < fs.length → parV fs t.node.func = (zs.length : Int) →
    Calls Tryz.prog 12 #[.pointer (some ⟨Q, 0, none⟩), .int .i64 t.node.func, .slice aa an ac, .int .i64 t.node.ped, .int .i64 (frI fr)] w (DPost lo Q (.slice fa fn fc) w r)
theorem args_take (l : List Int) (c np : Nat) (h : np ≤ 16) : (argsV l c np).take np = argL l c np := by
  unfold argsV argL
  rw [← List.map_take, List.take_range, Nat.min_eq_left h]
  apply List.map_congr_left
  intro j hj
  rw [if_pos (List.mem_range.1 hj)]
theorem IsL.seen {w : World} {G : Nat} {l : List Int} (h : IsL w G l) (hl : l.length ≤ 4096) (hok : ∀ x ∈ l, okI x) : SeenA w (some ⟨G, 0, none⟩) l.length l := ⟨rfl, by omega, hok, fun _ => ⟨G, 0, rfl, blk_lt h, fun k x hx => by rw [Nat.zero_add]; exact h.cell hx⟩⟩
/-! ### A round, plainly -/
section
variable {fs : List Fn} {g k n : Nat} {es : List (Nat × Nat)} {t : Tk} {fr : Option Nat} {en : List Nat} {at_ : Nat} {i : Ins} {r : Nat × Int × Nat × Nat × List (Nat × Nat)}
theorem doc_some (h : docV fs g k n es t fr en at_ = some r) : ∃ g', g = g' + 1 := by
  cases g with
  | zero => simp [docV] at h
  | succ g' => exact ⟨g', rfl⟩
theorem doc_bound (h : docV fs g k n es t fr en at_ = some r) : n < r.2.2.2.1 := (doc_up g k n es t fr en at_ r.1 r.2.1 r.2.2.1 r.2.2.2.1 r.2.2.2.2 h).2.1
theorem doc_jump (h : docV fs (g + 1) k n es t fr en at_ = some r) (hc : (codeOf fs t.node.func)[at_]? = some i) (hk : i.kind = 3) : docV fs g k (n + 1) (es ++ fr.toList.map (fun f => (f, n))) (payT t) (some n) en i.a.toNat = some r := by
  unfold docV at h
  rw [hc] at h
  simp only at h
  rw [if_pos hk] at h
  exact h
theorem doc_branch (h : docV fs (g + 1) k n es t fr en at_ = some r) (hc : (codeOf fs t.node.func)[at_]? = some i) (hk : i.kind = 4) : docV fs g k (n + 1) (es ++ fr.toList.map (fun f => (f, n))) (payT t) (some n) en (if t.regs.getD i.a.toNat 0 = 0 then at_ + 1 else i.b.toNat) = some r := by
  unfold docV at h
  rw [hc] at h
  simp only at h
  rw [if_neg (by omega), if_pos hk] at h
  exact h
theorem doc_ret (h : docV fs (g + 1) k n es t fr en at_ = some r) (hc : (codeOf fs t.node.func)[at_]? = some i) (hk : i.kind = 9) : r = (n, t.regs.getD i.a.toNat 0, k, n + 1, es ++ fr.toList.map (fun f => (f, n))) := by
  unfold docV at h
  rw [hc] at h
  simp only at h
  rw [if_neg (by omega), if_neg (by omega), if_neg (by omega), if_pos hk] at h
  exact (Option.some.inj h).symm
theorem doc_comp (h : docV fs (g + 1) k n es t fr en at_ = some r) (hc : (codeOf fs t.node.func)[at_]? = some i) (h3 : i.kind ≠ 3) (h4 : i.kind ≠ 4) (h5 : i.kind ≠ 5) (h9 : i.kind ≠ 9) : docV fs g k (n + 1) (es ++ (if i.kind = 6 then joinL fr en else fr.toList).map (fun f => (f, n))) (computeT (payT t) i) (some n) (if i.kind = 6 then [] else en) (at_ + 1) = some r := by
  unfold docV at h
  rw [hc] at h
  simp only at h
  rw [if_neg h3, if_neg h4, if_neg h5, if_neg h9] at h
  exact h
theorem doc_spawn (h : docV fs (g + 1) k n es t fr en at_ = some r) (hc : (codeOf fs t.node.func)[at_]? = some i) (hk : i.kind = 5) : ∃ c : Nat × Int × Nat × Nat × List (Nat × Nat), docV fs g (k + 1) (n + 1) (es ++ fr.toList.map (fun f => (f, n))) (enterT ⟨0, k, 0, []⟩ (childV fs (payT t) i)) (some n) [] 0 = some c ∧ docV fs g c.2.2.1 c.2.2.2.1 c.2.2.2.2 (gotT (spawnT (payT t)) i.a.toNat c.2.1 0) (some n) (en ++ [c.1]) (at_ + 1) = some r := by
  unfold docV at h
  rw [hc] at h
  simp only at h
  rw [if_neg (by omega), if_neg (by omega), if_pos hk] at h
  split at h
  · cases h
  · rename_i e v k2 n2 es2 hx
    exact ⟨_, hx, h⟩
end
end Go.Proofs.YtbdpdojeaahpjaaGreatDoor
/-! The document's walk over a run: a round of 'task' and what it goes on with. -/
namespace Go.Proofs.YtbdpdojeaahpjaaGreatDoor
set_option linter.unusedVariables false
set_option maxRecDepth 20000
set_option linter.unusedSimpArgs false
open Go.RowKit Go.HeapKit Go.PlainOps

structure DAt (fs : List Fn) (f : Fn) (ca : Option Addr) (N cc nr ns : Nat) (w0 : World) (lo Q G H FB : Nat) (pv : Value) (w : World) (r : Nat × Int × Nat × Nat × List (Nat × Nat)) (m : Nat) (ped : Int) (gm : Nat) (wr : World) (g k n : Nat) (es : List (Nat × Nat)) (t : Tk) (fr : Option Nat) (en : List Nat) (at_ : Nat) (nv : Value) : Prop where
  res : docV fs g k n es t fr en at_ = some r
  gle : g ≤ gm
  isw : ∃ ev, IsW lo wr Q pv n es ev
  rest : DRest f ca N cc nr ns w0 lo G H FB w wr t en nv
  tn : Tn t n
  func : t.node.func = m
  ped : t.node.ped = ped
  lt : at_ < N
  len : es.length + en.length ≤ 2 * n
  frn : ∀ q, fr = some q → q < n
def DRel (fs : List Fn) (f : Fn) (ca : Option Addr) (N cc nr ns : Nat) (w0 : World) (lo Q G H FB : Nat) (pv : Value) (w : World) (r : Nat × Int × Nat × Nat × List (Nat × Nat)) (m : Nat) (ped : Int) (gm : Nat) (s4 s16 s17 s18 : Value) (wr : World) : Prop :=
  ∃ (g k n : Nat) (es : List (Nat × Nat)) (t : Tk) (fr : Option Nat) (en : List Nat) (at_ : Nat) (nv : Value), s4 = .int .i64 (frI fr) ∧ s16 = nv ∧ s17 = .int .i64 t.spawned ∧ s18 = .int .i64 (at_ : Int) ∧ DAt fs f ca N cc nr ns w0 lo Q G H FB pv w r m ped gm wr g k n es t fr en at_ nv
/-- The middle of a round: the node is there, and the edges to it. -/
structure DMid (fs : List Fn) (f : Fn) (ca : Option Addr) (N cc nr ns : Nat) (w0 : World) (lo Q G H FB J : Nat) (pv : Value) (w : World) (r : Nat × Int × Nat × Nat × List (Nat × Nat)) (m : Nat) (ped : Int) (gm : Nat) (V : World) (g k n : Nat) (es : List (Nat × Nat)) (t : Tk) (fr : Option Nat) (en : List Nat) (at_ : Nat) (nv : Value) (i : Ins) : Prop where
  isw : ∃ ev, IsW lo V Q pv (n + 1) (es ++ (if i.kind = 6 then joinL fr en else fr.toList).map (fun f => (f, n))) ev
  rest : DRest f ca N cc nr ns w0 lo G H FB w V t (if i.kind = 6 then [] else en) nv
  jb : V.heap[J]? = some (.cells #[.int .i64 i.kind, .int .i64 i.a, .int .i64 i.b, .int .i64 i.c, .int .i64 i.k] 37 (0, 0))
section
variable {fs : List Fn} {f : Fn} {ca : Option Addr} {N cc nr ns : Nat} {w0 : World} {lo Q G H FB J : Nat} {pv : Value} {w : World} {r : Nat × Int × Nat × Nat × List (Nat × Nat)} {m : Nat} {ped : Int} {gm : Nat} {wr V wy : World} {g k n : Nat} {es : List (Nat × Nat)} {t : Tk} {fr : Option Nat} {en : List Nat} {at_ : Nat} {nv nv1 : Value} {i : Ins}
theorem DAt.next (h : DAt fs f ca N cc nr ns w0 lo Q G H FB pv w r m ped gm wr (g + 1) k n es t fr en at_ nv) (hr : r.2.2.2.1 ≤ 4096) {k' n' : Nat} {es' : List (Nat × Nat)} {t' : Tk} {en' : List Nat} {at' : Nat} (hd : docV fs g k' n' es' t' (some n) en' at' = some r) (hn : n < n') (isw : ∃ ev, IsW lo wy Q pv n' es' ev) (rest : DRest f ca N cc nr ns w0 lo G H FB w wy t' en' nv1) (tn : Tn t' n') (func : t'.node.func = t.node.func) (hp : t'.node.ped = t.node.ped) (lt : at' < N) (len : es'.length + en'.length ≤ 2 * n') :
    DRel fs f ca N cc nr ns w0 lo Q G H FB pv w r m ped gm (.int .i64 (n : Int)) nv1 (.int .i64 t'.spawned) (.int .i64 (at' : Int)) wy ∧ nuOf wy Q < nuOf wr Q := by
  refine ⟨⟨g, k', n', es', t', some n, en', at', nv1, rfl, rfl, rfl, rfl, hd, by have := h.gle; omega, isw, rest, tn, by rw [func, h.func], by rw [hp, h.ped], lt, len, fun q hq => by obtain rfl := Option.some.inj hq; exact hn⟩, ?_⟩
  obtain ⟨ev, h1⟩ := h.isw
  obtain ⟨ev', h2⟩ := isw
  rw [nu_is h1, nu_is h2]
  have := doc_bound hd
  omega
theorem mid_len (h : DAt fs f ca N cc nr ns w0 lo Q G H FB pv w r m ped gm wr (g + 1) k n es t fr en at_ nv) (i : Ins) : (es ++ (if i.kind = 6 then joinL fr en else fr.toList).map (fun f => (f, n))).length + (if i.kind = 6 then [] else en).length ≤ 2 * n + 1 := by
  have hl := h.len
  rw [List.length_append, List.length_map]
  have hj := join_len fr en
  have hfr : fr.toList.length ≤ 1 := by cases fr <;> simp
  by_cases k6 : i.kind = 6
  · rw [if_pos k6, if_pos k6]
    simp only [List.length_nil]
    omega
  · rw [if_neg k6, if_neg k6]
    omega
end
end Go.Proofs.YtbdpdojeaahpjaaGreatDoor
