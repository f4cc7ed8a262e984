import Derived.Test.YtolhojagbiaamabPkAD
import Derived.Deep.RegionLaw
/-! The document's steps, walked. -/
namespace Go.Proofs.Ytolhojagbiaamab
set_option linter.unusedVariables false
set_option maxRecDepth 20000
set_option linter.unusedSimpArgs false
open Go.RowKit Go.HeapKit

theorem make_lists (n : Nat) (w : World) (hn : n ≤ 4096) : (Instr.makeSlice 41 (.int .i64 n) (.int .i64 n)).run Try.prog w = .ok (.slice (some ⟨w.heap.size, 0, none⟩) n n) (w.alloc (.cells ((List.range n).map (fun _ => Value.slice none 0 0)).toArray 35)) := by
  obtain ⟨i0, hi, hz0, hz1, hz2⟩ := info_parts Try.infoIntsR
  obtain ⟨M, hM, _, hr⟩ := run_make_block (P := Try.prog) (w := w) 41 35 i0 _ 1 24 Try.underlying41 hi hz0 hz1 hz2 n (by omega) (by omega)
  have hc : (Value.slice none 0 0).cells = #[.slice none 0 0] := by kernel_rfl
  have he : M = ((List.range n).map (fun _ => Value.slice none 0 0)).toArray := by
    rw [hM, hc, Nat.mul_one]
    apply Array.ext
    · simp [madeCells]
    · intro i h1 h2
      simp [madeCells, Nat.mod_one]
  rw [hr, he]
/-- A fresh box is none of the rows. -/
theorem Rs.fresh {w : World} {base : Nat} {K : Nat → Value} {L : Nat → List Nat} (h : Rs w base K L) {g : Nat} (hg : w.heap.size ≤ g) (j : Nat) : (K j).ownBlock ≠ some g := fun e => by
  have := own_lt (h.row j) e
  omega
theorem updF_same {α : Type} (K : Nat → α) (k : Nat) : updF K k (K k) = K := by
  funext j
  unfold updF
  split
  · rename_i h; rw [h]
  · rfl
def noK : Nat → Value := fun _ => .slice none 0 0
def noL : Nat → List Nat := fun _ => []
set_option maxHeartbeats 8000000 in
theorem steps_ok (a : Option Addr) (n c : Nat) (l : List Dd) (w : World) (hS : Seen w a n l) (hf : Fine l) (hn : n ≤ 4096) :
    Calls Try.prog 45 #[.slice a n c] w fun e w' => ∃ F K L, e = .returned (.slice (some ⟨F, 0, none⟩) n n) ∧ Rs w' w.heap.size K L ∧ w'.heap[F]? = some (.cells ((List.range n).map (fun k => K (2 * k))).toArray 35 (0, 0)) ∧ w.heap.size ≤ F ∧ (∀ k, k < n → L (2 * k) = frmN l k) ∧ Keeps None w w' := by
  have HS : Hid (Seen w a n l ∧ Fine l) := ⟨hS, hf⟩
  have HLen : Hid (n = l.length) := hS.len
  clear hS hf
  have hmk := make_lists n w hn
  have hk1 := Keeps.alloc None w (.cells ((List.range n).map (fun _ => Value.slice none 0 0)).toArray 35)
  have b1 := heap_alloc_new w (.cells ((List.range n).map (fun _ => Value.slice none 0 0)).toArray 35)
  obtain ⟨w1, hw1⟩ : ∃ w1, w1 = w.alloc (.cells ((List.range n).map (fun _ => Value.slice none 0 0)).toArray 35) := ⟨_, rfl⟩
  rw [← hw1] at hmk hk1 b1
  have s1 : w1.heap.size = w.heap.size + 1 := by rw [hw1]; simp
  have hk2 := Keeps.alloc None w1 (.cells #[.int .i64 (-1), .int .i64 (-1), .slice none 0 0] 102)
  have b2 := heap_alloc_new w1 (.cells #[.int .i64 (-1), .int .i64 (-1), .slice none 0 0] 102)
  have H2 : Hid (StM (w1.alloc (.cells #[.int .i64 (-1), .int .i64 (-1), .slice none 0 0] 102)) w.heap.size n w.heap.size (w.heap.size + 1) 1 noK noL [(-1, -1)] ∧ RelS l 0 [(-1, -1)] noL ∧ Keeps None w (w1.alloc (.cells #[.int .i64 (-1), .int .i64 (-1), .slice none 0 0] 102))) := by
    refine ⟨⟨⟨fun k => row_nil _ _ _ _, fun i j b _ e => by simp [noK, Value.ownBlock] at e⟩, blk_kept b1 hk2 (fun f => f), ⟨rfl, .inr ⟨_, _, _, rfl, by omega, by rw [← s1]; exact b2, Nat.le_refl _, by unfold maxLen; omega, rfl, rfl⟩⟩, Nat.le_refl _⟩, ⟨fun j hj => by omega, fun j _ => rfl, [], -1, -1, rfl, rfl, rfl, rfl⟩, hk1.trans hk2 (fun _ f _ => f)⟩
  clear hk1 hk2 b1 b2 hw1
  go_enter Try.func45, Try.ntmps45
  go_wp2_with (at_make; refine wpList_make_run rfl (.tmp 11) (.tmp 11) 41 rfl rfl rfl hmk ?_)
  clear hmk
  obtain ⟨F, hF⟩ : ∃ F, F = w.heap.size := ⟨_, rfl⟩
  have HF : Hid (F = w.heap.size) := hF
  go_loopw [4, 5, 6, 7, 8, 9] (fun s4 i _ _ _ _ wr => ∃ (k gO cap : Nat) (K : Nat → Value) (L : Nat → List Nat) (ts : List (Int × Int)), k ≤ n ∧ i = .int .i64 k ∧ s4 = .slice (some ⟨gO, 0, none⟩) ts.length cap ∧ StM wr w.heap.size n w.heap.size gO cap K L ts ∧ RelS l k ts L ∧ Keeps None w wr) (fun _ i _ _ _ _ _ => n - (intOf i).toNat)
  case atStart => exact ⟨0, _, _, noK, noL, [(-1, -1)], Nat.zero_le _, rfl, rfl, H2.out⟩
  case round =>
    clear H2
    obtain ⟨k, gO, cap, K, L, ts, hk, rfl, rfl, hM, hR, hkp⟩ := hrel
    rw [← hF] at hM
    rw [← hF]
    clear hF
    by_cases hkn : k < n
    · obtain ⟨b0, off, x, rfl, hb, hx, u0, u1⟩ := (HS.out.1.more hkp).elem hkn
      obtain ⟨d, hd1, hd2, hI⟩ := HS.out.2.at k (by rw [← HLen.out]; omega)
      rw [chkL_step hx] at hd2
      have hbad : badK x.k d = false := by
        cases hb : badK x.k d with
        | false => rfl
        | true => rw [if_pos hb] at hd2; cases hd2
      obtain ⟨t, r, hst⟩ : ∃ t r, stN l k = t :: r := by
        cases hs : stN l k with
        | nil => rw [hs] at hd1; simp at hd1
        | cons t r => exact ⟨t, r, rfl⟩
      have hrel := hR.rel
      rw [hst] at hrel
      obtain ⟨ts', la, by', e, hO, hp, hrr⟩ := id hrel
      subst e
      obtain ⟨c0, c1, c2, hfz, hcap⟩ := hM.at
      have hq : ts'.length ≤ 4097 := by have := hrel.len; have := st_le l k; rw [hst] at this; simp at *; omega
      have hol : t.Out.length ≤ 4096 := by have := out_le l k; rw [hst] at this; simp [outSum] at this; omega
      obtain ⟨q, hqe⟩ : ∃ q, q = ts'.length := ⟨_, rfl⟩
      have HQ : Hid (q = ts'.length) := hqe
      rw [← hqe] at c0 c1 c2 hcap hq
      have hl4 : (ts' ++ [(la, by')]).length = q + 1 := by simp [hqe]
      rw [hl4]
      have hw6 : wrap64 (((q + 1 : Nat) : Int) - 1) = (q : Int) := by unfold wrap64; omega
      have i1 : (k : Int) < (n : Int) := by omega
      have i2 : (q : Int) < ((q + 1 : Nat) : Int) := by omega
      obtain ⟨oa, oc, hv⟩ := row_shape (hM.rs.row (2 * q + 1))
      obtain ⟨ol, hol2⟩ : ∃ ol, ol = (L (2 * q + 1)).length := ⟨_, rfl⟩
      rw [← hol2] at hv
      have HV : Hid (K (2 * q + 1) = .slice oa ol oc ∧ ol = (L (2 * q + 1)).length) := ⟨hv, hol2⟩
      rw [hv] at c2
      have HM : Hid (StM wr F n F gO cap K L (ts' ++ [(la, by')]) ∧ RelS l k (ts' ++ [(la, by')]) L ∧ Keeps None w wr ∧ RelO (t :: r) (ts' ++ [(la, by')]) L ∧ L (2 * q + 1) = t.Out ∧ prO la by' = (Cof (t :: r)).getLast? ∧ stN l k = t :: r ∧ l[k]? = some x ∧ badK x.k d = false ∧ (t :: r).length = d + 1) := ⟨hM, hR, hkp, hrel, by rw [hqe]; exact hO, hp, hst, hx, hbad, by rw [← hst]; exact hd1⟩
      clear hM hR hkp hrel hO hp hst hx hbad hd1 hd2 hI hrr hfz hl4 hqe hv hol2
      go_upto_region 8 with fail
      have bB := heap_alloc_new wr (.cells #[.int .i64 la, .int .i64 by', .slice oa ol oc] 102)
      have kB := Keeps.alloc None wr (.cells #[.int .i64 la, .int .i64 by', .slice oa ol oc] 102)
      obtain ⟨W1, hW1⟩ : ∃ W1, W1 = wr.alloc (.cells #[.int .i64 la, .int .i64 by', .slice oa ol oc] 102) := ⟨_, rfl⟩
      obtain ⟨B, hB⟩ : ∃ B, B = wr.heap.size := ⟨_, rfl⟩
      rw [← hW1] at bB kB
      rw [← hB] at bB
      rw [← hW1, ← hB]
      have hBO : gO ≠ B := by have := blk_lt (HM.out.1.opb.choose_spec); omega
      have HB : Hid (W1.heap[B]? = some (.cells #[.int .i64 la, .int .i64 by', .slice oa ol oc] 102 (0, 0)) ∧ StM W1 F n F gO cap K L (ts' ++ [(la, by')]) ∧ Keeps None w W1 ∧ gO ≠ B ∧ w.heap.size ≤ B) := ⟨bB, HM.out.1.more kB, HM.out.2.2.1.trans kB (fun _ f _ => f), hBO, by have := HM.out.2.2.1.size; omega⟩
      clear c0 c1 c2 hW1 hB kB hBO u0 u1
      have t0 : W1.cell? ⟨B, 0, none⟩ = some (.int .i64 la) := cell_of_heap bB 0
      have t1 : W1.cell? ⟨B, 1, none⟩ = some (.int .i64 by') := cell_of_heap bB 1
      have HL0 : Hid (L (2 * k) = []) := HM.out.2.1.free k (Nat.le_refl _)
      have HApp : Hid (∀ z : Nat, ∃ g c w', (Builtin.append_ #[35, 35] 35 #[K (2 * k), .slice (some ⟨W1.heap.size, 0, none⟩) 1 1]).run Try.prog (W1.drew.alloc (.cells #[.int .i64 z] 3)) = .ok (.slice (some ⟨g, 0, none⟩) 1 c) w' ∧ w'.cell? ⟨F, k, none⟩ = some (K (2 * k)) ∧ w'.frozen? ⟨F, k, none⟩ = false ∧ Hid (StM (w'.setCell ⟨F, k, none⟩ (.slice (some ⟨g, 0, none⟩) 1 c)) F n F gO cap (updF K (2 * k) (.slice (some ⟨g, 0, none⟩) 1 c)) (updF L (2 * k) [z]) (ts' ++ [(la, by')]) ∧ Keeps None w (w'.setCell ⟨F, k, none⟩ (.slice (some ⟨g, 0, none⟩) 1 c)) ∧ (w'.setCell ⟨F, k, none⟩ (.slice (some ⟨g, 0, none⟩) 1 c)).heap[B]? = some (.cells #[.int .i64 la, .int .i64 by', .slice oa ol oc] 102 (0, 0)))) := by
        intro z
        have hkA : Keeps None W1 (W1.drew.alloc (.cells #[.int .i64 z] 3)) := (Keeps.drew None W1).andAlloc _
        have hMA := HB.out.2.1.more hkA
        obtain ⟨g, c', w', hr, hc, hfr, hM', hk'⟩ := hMA.from k z hkn (by have h1 := HB.out.2.2.1.size; have := hkA.size; have := HF.out; omega) (by rw [HL0.out]; simp) (heap_alloc_new W1.drew _) (fun j => HB.out.2.1.rs.fresh (Nat.le_refl _) j)
        simp only [HL0.out, List.length_nil, Nat.zero_add, List.nil_append] at hr hM' hk'
        refine ⟨g, c', w', hr, hc, hfr, hM', ?_, ?_⟩
        · refine (HB.out.2.2.1.trans hkA (fun _ f _ => f)).trans hk' (fun i e hi => ?_)
          rcases e with e | e
          · have := row_low (HB.out.2.1.rs.row _) e; have := HF.out; omega
          · have := HF.out; omega
        · refine blk_kept (blk_kept HB.out.1 hkA (fun f => f)) hk' (fun e => ?_)
          rcases e with e | e
          · exact HB.out.2.1.rs.ne e HB.out.1 (by decide) rfl
          · have := HB.out.2.2.2.2; have := HF.out
            have h2 := HB.out.2.1.fr
            rw [← e, HB.out.1] at h2
            injection h2 with h2
            injection h2 with _ h2
            revert h2
            decide
      have hcF : W1.cell? ⟨F, k, none⟩ = some (K (2 * k)) := (cell_of_heap HB.out.2.1.fr k).trans (range_getR _ _ _ hkn)
      clear bB
      go_upto_if 30 with fail
      go_cut [4, 5, 6, 7] (fun s4 s5 s6 s7 wx => s4 = .slice (some ⟨gO, 0, none⟩) (q + 1) cap ∧ s5 = .int .i64 k ∧ s6 = .int .i64 q ∧ s7 = .pointer (some ⟨B, 0, none⟩) ∧ ∃ vf, StM wx F n F gO cap (updF K (2 * k) vf) (updF L (2 * k) (prO la by').toList) (ts' ++ [(la, by')]) ∧ Keeps None w wx ∧ wx.heap[B]? = some (.cells #[.int .i64 la, .int .i64 by', .slice oa ol oc] 102 (0, 0)))
      case first =>
        by_cases hla : 0 ≤ la
        · obtain ⟨z, rfl⟩ := Int.eq_ofNat_of_zero_le hla
          obtain ⟨g, c', w', hr, hc, hfr, HN⟩ := HApp.out z
          clear HApp
          have j1 : (0 : Int) ≤ (z : Int) := by omega
          have hcF2 : (W1.alloc (.cells #[.int .i64 (z : Int)] 3)).cell? ⟨F, k, none⟩ = some (K (2 * k)) := (Keeps.alloc None W1 _).cell hcF (fun f => f)
          go_wp2_with fail
          go_region_law (refine step_append_run rfl (.tmp 36) (.tmp 39) 35 35 rfl (by simp [Act.eval]) (by simp [Act.eval]) hr ?_)
          all_goals (go_wp2_with fail; go_meet)
          all_goals (refine ⟨rfl, rfl, rfl, rfl, .slice (some ⟨g, 0, none⟩) 1 c', ?_⟩; rw [prO_k]; exact HN.out)
        · by_cases hby : 0 ≤ by'
          · obtain ⟨z, rfl⟩ := Int.eq_ofNat_of_zero_le hby
            obtain ⟨g, c', w', hr, hc, hfr, HN⟩ := HApp.out z
            clear HApp
            have j1 : (0 : Int) ≤ (z : Int) := by omega
            have j2 : ¬ (0 : Int) ≤ la := hla
            have hcF2 : (W1.alloc (.cells #[.int .i64 (z : Int)] 3)).cell? ⟨F, k, none⟩ = some (K (2 * k)) := (Keeps.alloc None W1 _).cell hcF (fun f => f)
            have HPR : Hid ((prO la (z : Int)).toList = [z]) := by
              have : prO la (z : Int) = some z := by unfold prO; rw [if_neg hla, if_pos j1]; simp
              rw [this]; rfl
            go_wp2_with fail
            go_region_law (refine step_append_run rfl (.tmp 50) (.tmp 53) 35 35 rfl (by simp [Act.eval]) (by simp [Act.eval]) hr ?_)
            all_goals (go_wp2_with fail; go_meet)
            all_goals (refine ⟨rfl, rfl, rfl, rfl, .slice (some ⟨g, 0, none⟩) 1 c', ?_⟩; rw [HPR.out]; exact HN.out)
          · have HPR : Hid ((prO la by').toList = []) := by
              have : prO la by' = none := by unfold prO; rw [if_neg hla, if_neg hby]
              rw [this]; rfl
            clear HApp
            go_wp2_with fail
            go_meet
            refine ⟨rfl, rfl, rfl, rfl, K (2 * k), ?_⟩
            rw [HPR.out, updF_same, ← HL0.out, updF_same]
            exact ⟨HB.out.2.1, HB.out.2.2.1, HB.out.1⟩
      case rest =>
      obtain ⟨rfl, rfl, rfl, rfl, vf, hM2, hk2, hb2⟩ := hcut
      obtain ⟨W2, hW2⟩ : ∃ W2, W2 = wc := ⟨_, rfl⟩
      rw [← hW2] at hM2 hk2 hb2 ⊢
      have hlow2 : w.heap.size ≤ B := HB.out.2.2.2.2
      have hgB : gO ≠ B := HB.out.2.2.2.1
      clear hW2 HApp t0 t1 hcF HB
      have hx := HM.out.2.2.2.2.2.2.2.1
      obtain ⟨bb, offb, xx, eb, _, hxx, uu0, uu1⟩ := (HS.out.1.more hk2).elem hkn
      rw [hx] at hxx
      injection hxx with hxx
      subst hxx
      injection eb with eb
      injection eb with eb1 eb2
      subst eb1 eb2
      clear uu1 hb
      have t0 : W2.cell? ⟨B, 0, none⟩ = some (.int .i64 la) := cell_of_heap hb2 0
      have t1 : W2.cell? ⟨B, 1, none⟩ = some (.int .i64 by') := cell_of_heap hb2 1
      have t2 : W2.cell? ⟨B, 2, none⟩ = some (.slice oa ol oc) := cell_of_heap hb2 2
      have tf0 := blk_free hb2 0
      have tf2 := blk_free hb2 2
      obtain ⟨K1, hK1⟩ : ∃ K1, K1 = updF K (2 * k) vf := ⟨_, rfl⟩
      obtain ⟨L1, hL1⟩ : ∃ L1, L1 = updF L (2 * k) (prO la by').toList := ⟨_, rfl⟩
      rw [← hK1, ← hL1] at hM2
      have H2 : Hid (StM W2 F n F gO cap K1 L1 (ts' ++ [(la, by')]) ∧ Keeps None w W2 ∧ W2.heap[B]? = some (.cells #[.int .i64 la, .int .i64 by', .slice oa ol oc] 102 (0, 0)) ∧ K1 = updF K (2 * k) vf ∧ L1 = updF L (2 * k) (prO la by').toList) := ⟨hM2, hk2, hb2, hK1, hL1⟩
      clear hM2 hk2 hb2 hK1 hL1 hx
      obtain ⟨xk, xl⟩ := x
      simp only at uu0
      by_cases k0 : xk = 0
      · subst k0
        obtain ⟨hM2, hkW, hb2, hK1, hL1⟩ := H2.out
        obtain ⟨_, hR, _, hrel, hLO, hp, hst, hx, hbad, hd1⟩ := HM.out
        have hKq : K1 (2 * q + 1) = .slice oa ol oc := by rw [hK1, updF_ne (by omega)]; exact HV.out.1
        have hLe : ∀ j, j ≠ 2 * k → L1 j = L j := fun j hj => by rw [hL1, updF_ne hj]
        have hLk : L1 (2 * k) = frmN l k := by rw [hL1, updF_eq]; exact (frm_no hst hx hp (by show ¬ (0 : Int) = 1; decide) (by show ¬ (0 : Int) = 2; decide)).symm
        have hrel1 : RelO (t :: r) (ts' ++ [(la, by')]) L1 := hrel.congr (fun j hj => hLe _ (by omega))
        have HP : Hid (RelS l (k + 1) (ts' ++ [((k : Int), by')] ++ [(-1, (k : Int))]) (updF L1 (2 * (ts'.length + 1) + 1) [])) := hR.next hst hx (by rw [updF_ne (by omega)]; exact hLk) (fun j hj => by rw [updF_ne (by omega)]; exact hLe _ (by omega)) (rel0 hrel1)
        clear hR hrel hLO hp hst hx hbad hd1 hK1 hL1 hLe hLk hrel1 H2
        have hM3 := hM2.box hb2 hgB 0 (.int .i64 k)
        have hb3 := blk_set (i := 0) hb2 (.int .i64 k)
        have hrs3 : Rs (W2.setCell ⟨B, 0, none⟩ (.int .i64 k)) F K1 L1 := by
          have hk3 : Keeps (· = B) W2 (W2.setCell ⟨B, 0, none⟩ (.int .i64 k)) := keeps_one (Keeps.refl _ _) _
          exact (hM2.rs).kept hk3 (fun j b hb' e => (hM2.rs).ne hb' hb2 (by decide) e)
        have kk3 : Keeps None w (W2.setCell ⟨B, 0, none⟩ (.int .i64 k)) := hkW.andSet (x := ⟨B, 0, none⟩) (.inr hlow2) _
        obtain ⟨W3, hW3⟩ : ∃ W3, W3 = W2.setCell ⟨B, 0, none⟩ (.int .i64 k) := ⟨_, rfl⟩
        go_upto_region 20 with fail
        rw [← hW3] at hM3 hb3 hrs3 kk3
        rw [← hW3]
        obtain ⟨c0, c1, c2, hfz, _⟩ := hM3.at
        rw [← HQ.out] at c0 c1 c2
        have fz0 := hfz (q * 3)
        have fz1 := hfz (q * 3 + 1)
        have fz2 := hfz (q * 3 + 2)
        have b0' : W3.cell? ⟨B, 0, none⟩ = some (.int .i64 k) := cell_of_heap hb3 0
        have b1' : W3.cell? ⟨B, 1, none⟩ = some (.int .i64 by') := cell_of_heap hb3 1
        have b2' : W3.cell? ⟨B, 2, none⟩ = some (.slice oa ol oc) := cell_of_heap hb3 2
        have hM4 := hM3.put ((k : Int), by') hrs3 (fun _ _ => rfl)
        have kk4 : Keeps None w (set3 W3 gO (q * 3) k by' (.slice oa ol oc)) := kk3.trans (keeps_set3 W3 gO (q * 3) k by' (.slice oa ol oc)) (fun i e hi => by have := hM3.lowO; have := HF.out; omega)
        rw [← HQ.out, hKq] at hM4
        simp only [set3] at hM4 kk4
        clear hM3 hb3 hrs3 kk3 hW3 hfz
        obtain ⟨W4, hW4⟩ : ∃ W4, W4 = ((W3.setCell ⟨gO, q * 3, none⟩ (.int .i64 k)).setCell ⟨gO, q * 3 + 1, none⟩ (.int .i64 by')).setCell ⟨gO, q * 3 + 2, none⟩ (.slice oa ol oc) := ⟨_, rfl⟩
        rw [← hW4] at hM4 kk4
        clear t0 t1 t2 tf0 tf2
        go_upto_region 21 with fail
        rw [← hW4]
        clear hW4 c0 c1 c2 fz0 fz1 fz2 b0' b1' b2'
        have kA := Keeps.alloc None W4 (.cells #[.int .i64 (-1), .int .i64 k, .slice none 0 0] 102)
        obtain ⟨g5, c5, w5, hr5, hM5, hk5⟩ := (hM4.more kA).push (-1, (k : Int)) (by have := kk4.size; have := HF.out; simp; omega) (by simp; have := HQ.out; omega) (g0 := W4.heap.size) (heap_alloc_new W4 _)
        have hl5 : (ts' ++ [((k : Int), by')]).length = q + 1 := by simp [HQ.out]
        rw [hl5] at hr5
        have HN : Hid (StM w5 F n F g5 c5 (updF K1 (2 * (ts'.length + 1) + 1) (.slice none 0 0)) (updF L1 (2 * (ts'.length + 1) + 1) []) (ts' ++ [((k : Int), by')] ++ [(-1, (k : Int))]) ∧ Keeps None w w5) := by
          refine ⟨by simpa using hM5, (kk4.trans kA (fun _ f _ => f)).trans hk5 (fun i e hi => by have := hM4.lowO; have := HF.out; omega)⟩
        clear hM4 kk4 kA hM5 hk5 HM hM2 hkW hb2 hKq
        go_wp2_with (at_builtin; refine wpList_append_run rfl (.tmp 97) (.tmp 100) 103 103 rfl rfl rfl hr5 ?_)
        exact ⟨⟨k + 1, g5, c5, _, _, ts' ++ [((k : Int), by')] ++ [(-1, (k : Int))], by omega, by go_num, by simp [HQ.out], HN.out.1, HP.out, HN.out.2⟩, by simp [intOf]; omega⟩
      · by_cases k2 : xk = 2
        · subst k2
          obtain ⟨hM2, hkW, hb2, hK1, hL1⟩ := H2.out
          obtain ⟨_, hR, _, hrel, hLO, hp, hst, hx, hbad, hd1⟩ := HM.out
          have hfw : frmN l k = (prO la by').toList ++ t.Out := frm_wait hst hx hp (by show (2 : Int) = 1 ∨ (2 : Int) = 2; decide)
          have HFW : Hid (frmN l k = (prO la by').toList ++ t.Out ∧ L (2 * q + 1) = t.Out ∧ ol = t.Out.length ∧ (prO la by').toList.length ≤ 1) := ⟨hfw, hLO, by rw [HV.out.2, hLO], by cases prO la by' <;> simp⟩
          have HP : Hid (∀ L2 : Nat → List Nat, L2 (2 * k) = frmN l k → (∀ j, j ≠ 2 * k → L2 j = L j) → RelS l (k + 1) (ts' ++ [((k : Int), by')]) (updF L2 (2 * q + 1) [])) := fun L2 g1 g2 => hR.next hst hx (by rw [updF_ne (by omega)]; exact g1) (fun j hj => by rw [updF_ne (by omega)]; exact g2 _ (by omega)) (by rw [HQ.out]; exact rel2 (hrel.congr (fun j hj => g2 _ (by omega))))
          have H0 : Hid (StM W2 F n F gO cap K1 L1 (ts' ++ [(la, by')]) ∧ Keeps None w W2 ∧ W2.heap[B]? = some (.cells #[.int .i64 la, .int .i64 by', .slice oa ol oc] 102 (0, 0)) ∧ L1 (2 * k) = (prO la by').toList ++ t.Out.take 0 ∧ (∀ i, i ≠ 2 * k → L1 i = L i ∧ K1 i = K i)) := ⟨hM2, hkW, hb2, by rw [hL1, updF_eq]; simp, fun i hi => ⟨by rw [hL1, updF_ne hi], by rw [hK1, updF_ne hi]⟩⟩
          clear hM2 hkW hb2 hK1 hL1 hR hrel hLO hp hst hx hbad hd1 hfw H2 t0 t1 t2 tf0 tf2 HM
          go_wp2_with fail
          go_loopw [9] (fun s9 wj => ∃ (j : Nat) (K2 : Nat → Value) (L2 : Nat → List Nat), j ≤ ol ∧ s9 = .int .i64 j ∧ StM wj F n F gO cap K2 L2 (ts' ++ [(la, by')]) ∧ Keeps None w wj ∧ wj.heap[B]? = some (.cells #[.int .i64 la, .int .i64 by', .slice oa ol oc] 102 (0, 0)) ∧ L2 (2 * k) = (prO la by').toList ++ t.Out.take j ∧ (∀ i, i ≠ 2 * k → L2 i = L i ∧ K2 i = K i)) (fun s9 _ => ol - (intOf s9).toNat)
          case atStart => exact ⟨0, K1, L1, Nat.zero_le _, rfl, H0.out⟩
          case round =>
            clear H0
            obtain ⟨j, K2, L2, hj, rfl, hM2, hkW, hb2, hLk, hoth⟩ := hrel
            obtain ⟨hfw, hLO, holt, hpl⟩ := HFW.out
            obtain ⟨ho1, ho2⟩ := hoth (2 * q + 1) (by omega)
            have row' : wr.ownsRow F 3 1 (.slice oa ol oc) ol (ivN t.Out) := by
              have := hM2.rs.row (2 * q + 1)
              rw [ho2, ho1, HV.out.1, hLO, ← holt] at this
              exact this
            by_cases hjo : j < ol
            · obtain ⟨go, hgo⟩ : ∃ go, oa = some ⟨go, 0, none⟩ := by
                rcases row'.2 with ⟨_, h0⟩ | ⟨g', cap', cur, he, _⟩
                · omega
                · injection he with e1; exact ⟨g', e1⟩
              subst hgo
              obtain ⟨z, hz⟩ : ∃ z, t.Out[j]? = some z := ⟨t.Out[j]'(by omega), by simp⟩
              have cz := ints_at row' hz
              have t2 : wr.cell? ⟨B, 2, none⟩ = some (.slice (some ⟨go, 0, none⟩) ol oc) := cell_of_heap hb2 2
              have hcF : wr.cell? ⟨F, k, none⟩ = some (K2 (2 * k)) := (cell_of_heap hM2.fr k).trans (range_getR _ _ _ hkn)
              have hcF2 : (wr.alloc (.cells #[.int .i64 (z : Int)] 3)).cell? ⟨F, k, none⟩ = some (K2 (2 * k)) := (Keeps.alloc None wr _).cell hcF (fun f => f)
              have hlm : (L2 (2 * k)).length ≤ 4097 := by rw [hLk]; simp; omega
              have hkA : Keeps None wr (wr.drew.alloc (.cells #[.int .i64 z] 3)) := (Keeps.drew None wr).andAlloc _
              obtain ⟨g, c', w', hr, hc, hfr, hM', hk'⟩ := (hM2.more hkA).from k z hkn (by have h1 := hkW.size; have := hkA.size; have := HF.out; omega) (by omega) (heap_alloc_new wr.drew _) (fun j => hM2.rs.fresh (Nat.le_refl _) j)
              obtain ⟨m2, hm2⟩ : ∃ m2, m2 = (L2 (2 * k)).length := ⟨_, rfl⟩
              rw [← hm2] at hr hM' hk'
              have HN : Hid (StM (w'.setCell ⟨F, k, none⟩ (.slice (some ⟨g, 0, none⟩) (m2 + 1) c')) F n F gO cap (updF K2 (2 * k) (.slice (some ⟨g, 0, none⟩) (m2 + 1) c')) (updF L2 (2 * k) (L2 (2 * k) ++ [z])) (ts' ++ [(la, by')]) ∧ Keeps None w (w'.setCell ⟨F, k, none⟩ (.slice (some ⟨g, 0, none⟩) (m2 + 1) c')) ∧ (w'.setCell ⟨F, k, none⟩ (.slice (some ⟨g, 0, none⟩) (m2 + 1) c')).heap[B]? = some (.cells #[.int .i64 la, .int .i64 by', .slice (some ⟨go, 0, none⟩) ol oc] 102 (0, 0)) ∧ updF L2 (2 * k) (L2 (2 * k) ++ [z]) (2 * k) = (prO la by').toList ++ t.Out.take (j + 1) ∧ (∀ i, i ≠ 2 * k → updF L2 (2 * k) (L2 (2 * k) ++ [z]) i = L i ∧ updF K2 (2 * k) (.slice (some ⟨g, 0, none⟩) (m2 + 1) c') i = K i)) := by
                refine ⟨hM', (hkW.trans hkA (fun _ f _ => f)).trans hk' (fun i e hi => ?_), blk_kept (blk_kept hb2 hkA (fun f => f)) hk' (fun e => ?_), ?_, fun i hi => ⟨by rw [updF_ne hi]; exact (hoth i hi).1, by rw [updF_ne hi]; exact (hoth i hi).2⟩⟩
                · rcases e with e | e
                  · have := row_low (hM2.rs.row _) e; have := HF.out; omega
                  · have := HF.out; omega
                · rcases e with e | e
                  · exact hM2.rs.ne e hb2 (by decide) rfl
                  · have h2 := hM2.fr
                    rw [← e, hb2] at h2
                    injection h2 with h2
                    injection h2 with _ h2
                    revert h2
                    decide
                · rw [updF_eq, hLk, List.append_assoc]
                  congr 1
                  rw [List.take_add_one, hz]
                  rfl
              have j1 : (j : Int) < (ol : Int) := by omega
              have j2 : ol ≤ 4096 := by omega
              clear hfw hLO holt hpl ho1 ho2 row' hz hlm hkA hM' hk' hm2 hM2 hkW hb2 hLk hoth
              go_wp2_with fail
              go_region_law (refine step_append_run rfl (.tmp 79) (.tmp 85) 35 35 rfl (by simp [Act.eval]) (by simp [Act.eval]) hr ?_)
              all_goals (go_wp2_with fail; go_roundw)
              all_goals first
                | exact ⟨j + 1, _, _, by omega, by go_num, HN.out⟩
                | (simp [intOf]; omega)
            · have hjo2 : j = ol := by omega
              subst hjo2
              rw [List.take_of_length_le (by omega)] at hLk
              have hLf : L2 (2 * k) = frmN l k := hLk.trans hfw.symm
              have t0 : wr.cell? ⟨B, 0, none⟩ = some (.int .i64 la) := cell_of_heap hb2 0
              have t2 : wr.cell? ⟨B, 2, none⟩ = some (.slice oa j oc) := cell_of_heap hb2 2
              have tf2 := blk_free hb2 2
              have hM5 := hM2.box hb2 hgB 2 (.slice none 0 0)
              have hb5 := blk_set (i := 2) hb2 (.slice none 0 0)
              have hkW5 : Keeps None w (wr.setCell ⟨B, 2, none⟩ (.slice none 0 0)) := hkW.andSet (x := ⟨B, 2, none⟩) (.inr hlow2) _
              obtain ⟨W5, hW5⟩ : ∃ W5, W5 = wr.setCell ⟨B, 2, none⟩ (.slice none 0 0) := ⟨_, rfl⟩
              have hj4 : j ≤ 4096 := by omega
              clear hfw hLO holt hpl ho1 ho2 row' hLk hM2 hkW hb2
              go_upto_region 19 with fail
              rw [← hW5] at hM5 hb5 hkW5
              rw [← hW5]
              clear hW5 t0 t2 tf2
              have hkW := hkW5
              have hb2 : W5.heap[B]? = some (.cells #[.int .i64 la, .int .i64 by', .slice none 0 0] 102 (0, 0)) := hb5
              clear hkW5 hb5
              have t0 : W5.cell? ⟨B, 0, none⟩ = some (.int .i64 la) := cell_of_heap hb2 0
              have t1 : W5.cell? ⟨B, 1, none⟩ = some (.int .i64 by') := cell_of_heap hb2 1
              have t2 : W5.cell? ⟨B, 2, none⟩ = some (.slice none 0 0) := cell_of_heap hb2 2
              have tf0 := blk_free hb2 0
              have tf2 := blk_free hb2 2
              have hrsP := hM5.rs.clear (2 * q + 1)
              obtain ⟨KP, hKP⟩ : ∃ KP, KP = updF K2 (2 * q + 1) (.slice none 0 0) := ⟨_, rfl⟩
              obtain ⟨LP, hLP⟩ : ∃ LP, LP = updF L2 (2 * q + 1) [] := ⟨_, rfl⟩
              rw [← hKP, ← hLP] at hrsP
              have hKq : KP (2 * q + 1) = .slice none 0 0 := by rw [hKP, updF_eq]
              have hKo : ∀ j, j ≠ 2 * ts'.length + 1 → KP j = K2 j := fun j hj => by rw [hKP, updF_ne (by rw [HQ.out]; exact hj)]
              have hLo : ∀ j, j ≠ 2 * q + 1 → LP j = L2 j := fun j hj => by rw [hLP, updF_ne hj]
              have hM3 := hM5.box hb2 hgB 0 (.int .i64 k)
              have hb3 := blk_set (i := 0) hb2 (.int .i64 k)
              have hrs3 : Rs (W5.setCell ⟨B, 0, none⟩ (.int .i64 k)) F KP LP := by
                have hk3 : Keeps (· = B) W5 (W5.setCell ⟨B, 0, none⟩ (.int .i64 k)) := keeps_one (Keeps.refl _ _) _
                exact (hrsP).kept hk3 (fun j b hb' e => (hrsP).ne hb' hb2 (by decide) e)
              have kk3 : Keeps None w (W5.setCell ⟨B, 0, none⟩ (.int .i64 k)) := hkW.andSet (x := ⟨B, 0, none⟩) (.inr hlow2) _
              obtain ⟨W3, hW3⟩ : ∃ W3, W3 = W5.setCell ⟨B, 0, none⟩ (.int .i64 k) := ⟨_, rfl⟩
              go_upto_region 20 with fail
              rw [← hW3] at hM3 hb3 hrs3 kk3
              rw [← hW3]
              obtain ⟨c0, c1, c2, hfz, _⟩ := hM3.at
              rw [← HQ.out] at c0 c1 c2
              have fz0 := hfz (q * 3)
              have fz1 := hfz (q * 3 + 1)
              have fz2 := hfz (q * 3 + 2)
              have b0' : W3.cell? ⟨B, 0, none⟩ = some (.int .i64 k) := cell_of_heap hb3 0
              have b1' : W3.cell? ⟨B, 1, none⟩ = some (.int .i64 by') := cell_of_heap hb3 1
              have b2' : W3.cell? ⟨B, 2, none⟩ = some (.slice none 0 0) := cell_of_heap hb3 2
              have hM4 := hM3.put ((k : Int), by') hrs3 (hKo)
              have kk4 : Keeps None w (set3 W3 gO (q * 3) k by' (.slice none 0 0)) := kk3.trans (keeps_set3 W3 gO (q * 3) k by' (.slice none 0 0)) (fun i e hi => by have := hM3.lowO; have := HF.out; omega)
              rw [← HQ.out, hKq] at hM4
              simp only [set3] at hM4 kk4
              clear hM3 hb3 hrs3 kk3 hW3 hfz
              obtain ⟨W4, hW4⟩ : ∃ W4, W4 = ((W3.setCell ⟨gO, q * 3, none⟩ (.int .i64 k)).setCell ⟨gO, q * 3 + 1, none⟩ (.int .i64 by')).setCell ⟨gO, q * 3 + 2, none⟩ (.slice none 0 0) := ⟨_, rfl⟩
              rw [← hW4] at hM4 kk4
              clear t0 t1 t2 tf0 tf2
              go_upto_region 21 with fail
              rw [← hW4]
              clear hW4 c0 c1 c2 fz0 fz1 fz2 b0' b1' b2'
              have HPP : Hid (RelS l (k + 1) (ts' ++ [((k : Int), by')]) LP) := by rw [hLP]; exact HP.out L2 hLf (fun j hj => (hoth j hj).1)
              have HN : Hid (StM W4 F n F gO cap KP LP (ts' ++ [((k : Int), by')]) ∧ Keeps None w W4) := ⟨hM4, kk4⟩
              clear hM4 kk4 hM5 hb2 hrsP hkW hKP hLP hKq hKo hLo hLf hoth
              go_wp2
              go_roundw
              case rel => exact ⟨k + 1, gO, cap, KP, LP, ts' ++ [((k : Int), by')], by omega, by go_num, by simp [HQ.out], HN.out.1, HPP.out, HN.out.2⟩
              case measure => simp [intOf]; omega
        · by_cases k1 : xk = 1
          · subst k1
            obtain ⟨hM2, hkW, hb2, hK1, hL1⟩ := H2.out
            obtain ⟨_, hR, _, hrel, hLO, hp, hst, hx, hbad, hd1⟩ := HM.out
            have hfw : frmN l k = (prO la by').toList ++ t.Out := frm_wait hst hx hp (by show (1 : Int) = 1 ∨ (1 : Int) = 2; decide)
            have HFW : Hid (frmN l k = (prO la by').toList ++ t.Out ∧ L (2 * q + 1) = t.Out ∧ ol = t.Out.length ∧ (prO la by').toList.length ≤ 1) := ⟨hfw, hLO, by rw [HV.out.2, hLO], by cases prO la by' <;> simp⟩
            obtain ⟨u, r', hru⟩ : ∃ u r', r = u :: r' := by
              cases hr' : r with
              | nil =>
                have hd0 : d = 0 := by rw [hr'] at hd1; simp at hd1; omega
                subst hd0
                exact absurd hbad (by show ¬ badK 1 0 = false; decide)
              | cons u r' => exact ⟨u, r', rfl⟩
            subst hru
            have HR1 : Hid (∃ ts2 la2 b2, ts' = ts2 ++ [(la2, b2)] ∧ L (2 * ts2.length + 1) = u.Out ∧ u.Out.length ≤ 4096 ∧ ∀ L2 : Nat → List Nat, L2 (2 * k) = frmN l k → (∀ j, j ≠ k → L2 (2 * j) = L (2 * j)) → L2 (2 * ts2.length + 1) = u.Out ++ [k] → (∀ j, j < ts2.length → L2 (2 * j + 1) = L (2 * j + 1)) → RelS l (k + 1) ts' L2) := by
              obtain ⟨ts2, la2, b2, e1, e2, e3⟩ := rel1 (k := k) hrel
              refine ⟨ts2, la2, b2, e1, e2, ?_, fun L2 g1 g2 g3 g4 => hR.next hst hx g1 g2 (e3 L2 g3 g4)⟩
              have := out_le l k
              rw [hst] at this
              simp [outSum] at this
              omega
            have H0 : Hid (StM W2 F n F gO cap K1 L1 (ts' ++ [(la, by')]) ∧ Keeps None w W2 ∧ W2.heap[B]? = some (.cells #[.int .i64 la, .int .i64 by', .slice oa ol oc] 102 (0, 0)) ∧ L1 (2 * k) = (prO la by').toList ++ t.Out.take 0 ∧ (∀ i, i ≠ 2 * k → L1 i = L i ∧ K1 i = K i)) := ⟨hM2, hkW, hb2, by rw [hL1, updF_eq]; simp, fun i hi => ⟨by rw [hL1, updF_ne hi], by rw [hK1, updF_ne hi]⟩⟩
            clear hM2 hkW hb2 hK1 hL1 hR hrel hLO hp hst hx hbad hd1 hfw H2 t0 t1 t2 tf0 tf2 HM
            go_wp2_with fail
            go_loopw [9] (fun s9 wj => ∃ (j : Nat) (K2 : Nat → Value) (L2 : Nat → List Nat), j ≤ ol ∧ s9 = .int .i64 j ∧ StM wj F n F gO cap K2 L2 (ts' ++ [(la, by')]) ∧ Keeps None w wj ∧ wj.heap[B]? = some (.cells #[.int .i64 la, .int .i64 by', .slice oa ol oc] 102 (0, 0)) ∧ L2 (2 * k) = (prO la by').toList ++ t.Out.take j ∧ (∀ i, i ≠ 2 * k → L2 i = L i ∧ K2 i = K i)) (fun s9 _ => ol - (intOf s9).toNat)
            case atStart => exact ⟨0, K1, L1, Nat.zero_le _, rfl, H0.out⟩
            case round =>
              clear H0
              obtain ⟨j, K2, L2, hj, rfl, hM2, hkW, hb2, hLk, hoth⟩ := hrel
              obtain ⟨hfw, hLO, holt, hpl⟩ := HFW.out
              obtain ⟨ho1, ho2⟩ := hoth (2 * q + 1) (by omega)
              have row' : wr.ownsRow F 3 1 (.slice oa ol oc) ol (ivN t.Out) := by
                have := hM2.rs.row (2 * q + 1)
                rw [ho2, ho1, HV.out.1, hLO, ← holt] at this
                exact this
              by_cases hjo : j < ol
              · obtain ⟨go, hgo⟩ : ∃ go, oa = some ⟨go, 0, none⟩ := by
                  rcases row'.2 with ⟨_, h0⟩ | ⟨g', cap', cur, he, _⟩
                  · omega
                  · injection he with e1; exact ⟨g', e1⟩
                subst hgo
                obtain ⟨z, hz⟩ : ∃ z, t.Out[j]? = some z := ⟨t.Out[j]'(by omega), by simp⟩
                have cz := ints_at row' hz
                have t2 : wr.cell? ⟨B, 2, none⟩ = some (.slice (some ⟨go, 0, none⟩) ol oc) := cell_of_heap hb2 2
                have hcF : wr.cell? ⟨F, k, none⟩ = some (K2 (2 * k)) := (cell_of_heap hM2.fr k).trans (range_getR _ _ _ hkn)
                have hcF2 : (wr.alloc (.cells #[.int .i64 (z : Int)] 3)).cell? ⟨F, k, none⟩ = some (K2 (2 * k)) := (Keeps.alloc None wr _).cell hcF (fun f => f)
                have hlm : (L2 (2 * k)).length ≤ 4097 := by rw [hLk]; simp; omega
                have hkA : Keeps None wr (wr.drew.alloc (.cells #[.int .i64 z] 3)) := (Keeps.drew None wr).andAlloc _
                obtain ⟨g, c', w', hr, hc, hfr, hM', hk'⟩ := (hM2.more hkA).from k z hkn (by have h1 := hkW.size; have := hkA.size; have := HF.out; omega) (by omega) (heap_alloc_new wr.drew _) (fun j => hM2.rs.fresh (Nat.le_refl _) j)
                obtain ⟨m2, hm2⟩ : ∃ m2, m2 = (L2 (2 * k)).length := ⟨_, rfl⟩
                rw [← hm2] at hr hM' hk'
                have HN : Hid (StM (w'.setCell ⟨F, k, none⟩ (.slice (some ⟨g, 0, none⟩) (m2 + 1) c')) F n F gO cap (updF K2 (2 * k) (.slice (some ⟨g, 0, none⟩) (m2 + 1) c')) (updF L2 (2 * k) (L2 (2 * k) ++ [z])) (ts' ++ [(la, by')]) ∧ Keeps None w (w'.setCell ⟨F, k, none⟩ (.slice (some ⟨g, 0, none⟩) (m2 + 1) c')) ∧ (w'.setCell ⟨F, k, none⟩ (.slice (some ⟨g, 0, none⟩) (m2 + 1) c')).heap[B]? = some (.cells #[.int .i64 la, .int .i64 by', .slice (some ⟨go, 0, none⟩) ol oc] 102 (0, 0)) ∧ updF L2 (2 * k) (L2 (2 * k) ++ [z]) (2 * k) = (prO la by').toList ++ t.Out.take (j + 1) ∧ (∀ i, i ≠ 2 * k → updF L2 (2 * k) (L2 (2 * k) ++ [z]) i = L i ∧ updF K2 (2 * k) (.slice (some ⟨g, 0, none⟩) (m2 + 1) c') i = K i)) := by
                  refine ⟨hM', (hkW.trans hkA (fun _ f _ => f)).trans hk' (fun i e hi => ?_), blk_kept (blk_kept hb2 hkA (fun f => f)) hk' (fun e => ?_), ?_, fun i hi => ⟨by rw [updF_ne hi]; exact (hoth i hi).1, by rw [updF_ne hi]; exact (hoth i hi).2⟩⟩
                  · rcases e with e | e
                    · have := row_low (hM2.rs.row _) e; have := HF.out; omega
                    · have := HF.out; omega
                  · rcases e with e | e
                    · exact hM2.rs.ne e hb2 (by decide) rfl
                    · have h2 := hM2.fr
                      rw [← e, hb2] at h2
                      injection h2 with h2
                      injection h2 with _ h2
                      revert h2
                      decide
                  · rw [updF_eq, hLk, List.append_assoc]
                    congr 1
                    rw [List.take_add_one, hz]
                    rfl
                have j1 : (j : Int) < (ol : Int) := by omega
                have j2 : ol ≤ 4096 := by omega
                clear hfw hLO holt hpl ho1 ho2 row' hz hlm hkA hM' hk' hm2 hM2 hkW hb2 hLk hoth
                go_wp2_with fail
                go_region_law (refine step_append_run rfl (.tmp 79) (.tmp 85) 35 35 rfl (by simp [Act.eval]) (by simp [Act.eval]) hr ?_)
                all_goals (go_wp2_with fail; go_roundw)
                all_goals first
                  | exact ⟨j + 1, _, _, by omega, by go_num, HN.out⟩
                  | (simp [intOf]; omega)
              · have hjo2 : j = ol := by omega
                subst hjo2
                rw [List.take_of_length_le (by omega)] at hLk
                have hLf : L2 (2 * k) = frmN l k := hLk.trans hfw.symm
                have t0 : wr.cell? ⟨B, 0, none⟩ = some (.int .i64 la) := cell_of_heap hb2 0
                have t2 : wr.cell? ⟨B, 2, none⟩ = some (.slice oa j oc) := cell_of_heap hb2 2
                have tf2 := blk_free hb2 2
                have hM5 := hM2.box hb2 hgB 2 (.slice none 0 0)
                have hb5 := blk_set (i := 2) hb2 (.slice none 0 0)
                have hkW5 : Keeps None w (wr.setCell ⟨B, 2, none⟩ (.slice none 0 0)) := hkW.andSet (x := ⟨B, 2, none⟩) (.inr hlow2) _
                obtain ⟨W5, hW5⟩ : ∃ W5, W5 = wr.setCell ⟨B, 2, none⟩ (.slice none 0 0) := ⟨_, rfl⟩
                have hj4 : j ≤ 4096 := by omega
                clear hfw hLO holt hpl ho1 ho2 row' hLk hM2 hkW hb2
                go_upto_region 19 with fail
                rw [← hW5] at hM5 hb5 hkW5
                rw [← hW5]
                clear hW5 t0 t2 tf2
                have hkW := hkW5
                have hb2 : W5.heap[B]? = some (.cells #[.int .i64 la, .int .i64 by', .slice none 0 0] 102 (0, 0)) := hb5
                clear hkW5 hb5
                have t0 : W5.cell? ⟨B, 0, none⟩ = some (.int .i64 la) := cell_of_heap hb2 0
                have t1 : W5.cell? ⟨B, 1, none⟩ = some (.int .i64 by') := cell_of_heap hb2 1
                have t2 : W5.cell? ⟨B, 2, none⟩ = some (.slice none 0 0) := cell_of_heap hb2 2
                have tf0 := blk_free hb2 0
                have tf2 := blk_free hb2 2
                have hrsP := hM5.rs.clear (2 * q + 1)
                obtain ⟨KP, hKP⟩ : ∃ KP, KP = updF K2 (2 * q + 1) (.slice none 0 0) := ⟨_, rfl⟩
                obtain ⟨LP, hLP⟩ : ∃ LP, LP = updF L2 (2 * q + 1) [] := ⟨_, rfl⟩
                rw [← hKP, ← hLP] at hrsP
                have hKq : KP (2 * q + 1) = .slice none 0 0 := by rw [hKP, updF_eq]
                have hKo : ∀ j, j ≠ 2 * ts'.length + 1 → KP j = K2 j := fun j hj => by rw [hKP, updF_ne (by rw [HQ.out]; exact hj)]
                have hLo : ∀ j, j ≠ 2 * q + 1 → LP j = L2 j := fun j hj => by rw [hLP, updF_ne hj]
                have hM3 := hM5.box hb2 hgB 0 (.int .i64 k)
                have hb3 := blk_set (i := 0) hb2 (.int .i64 k)
                have hrs3 : Rs (W5.setCell ⟨B, 0, none⟩ (.int .i64 k)) F KP LP := by
                  have hk3 : Keeps (· = B) W5 (W5.setCell ⟨B, 0, none⟩ (.int .i64 k)) := keeps_one (Keeps.refl _ _) _
                  exact (hrsP).kept hk3 (fun j b hb' e => (hrsP).ne hb' hb2 (by decide) e)
                have kk3 : Keeps None w (W5.setCell ⟨B, 0, none⟩ (.int .i64 k)) := hkW.andSet (x := ⟨B, 0, none⟩) (.inr hlow2) _
                obtain ⟨W3, hW3⟩ : ∃ W3, W3 = W5.setCell ⟨B, 0, none⟩ (.int .i64 k) := ⟨_, rfl⟩
                go_upto_region 20 with fail
                rw [← hW3] at hM3 hb3 hrs3 kk3
                rw [← hW3]
                obtain ⟨c0, c1, c2, hfz, _⟩ := hM3.at
                rw [← HQ.out] at c0 c1 c2
                have fz0 := hfz (q * 3)
                have fz1 := hfz (q * 3 + 1)
                have fz2 := hfz (q * 3 + 2)
                have b0' : W3.cell? ⟨B, 0, none⟩ = some (.int .i64 k) := cell_of_heap hb3 0
                have b1' : W3.cell? ⟨B, 1, none⟩ = some (.int .i64 by') := cell_of_heap hb3 1
                have b2' : W3.cell? ⟨B, 2, none⟩ = some (.slice none 0 0) := cell_of_heap hb3 2
                have hM4 := hM3.put ((k : Int), by') hrs3 (hKo)
                have kk4 : Keeps None w (set3 W3 gO (q * 3) k by' (.slice none 0 0)) := kk3.trans (keeps_set3 W3 gO (q * 3) k by' (.slice none 0 0)) (fun i e hi => by have := hM3.lowO; have := HF.out; omega)
                rw [← HQ.out, hKq] at hM4
                simp only [set3] at hM4 kk4
                clear hM3 hb3 hrs3 kk3 hW3 hfz
                obtain ⟨W4, hW4⟩ : ∃ W4, W4 = ((W3.setCell ⟨gO, q * 3, none⟩ (.int .i64 k)).setCell ⟨gO, q * 3 + 1, none⟩ (.int .i64 by')).setCell ⟨gO, q * 3 + 2, none⟩ (.slice none 0 0) := ⟨_, rfl⟩
                rw [← hW4] at hM4 kk4
                clear t0 t1 t2 tf0 tf2
                go_upto_region 21 with fail
                rw [← hW4]
                clear hW4 c0 c1 c2 fz0 fz1 fz2 b0' b1' b2'
                obtain ⟨ts2, la2, b2, e1, e2, e3, e4⟩ := HR1.out
                obtain ⟨p, hp⟩ : ∃ p, p = ts2.length := ⟨_, rfl⟩
                have hqp : q = p + 1 := by rw [HQ.out, e1, hp]; simp
                have hM6 := hM4.pop
                rw [e1] at hM6
                obtain ⟨_, _, d2, hfz2, _⟩ := hM6.at
                rw [← hp] at d2
                have hLPp : LP (2 * p + 1) = u.Out := by rw [hLo _ (by omega), (hoth _ (by omega)).1, hp]; exact e2
                have kA := Keeps.alloc None W4 (.cells #[.int .i64 k] 3)
                obtain ⟨g7, c7, w7, hr7, hc7, hf7, hM7, hk7⟩ := (hM6.more kA).out k (by have := kk4.size; have := HF.out; simp; omega) (by rw [← hp, hLPp]; omega) (g0 := W4.heap.size) (heap_alloc_new W4 _) (fun j => hM4.rs.fresh (Nat.le_refl _) j)
                rw [← hp] at hr7 hc7 hf7 hM7 hk7
                rw [hLPp] at hr7 hM7 hk7
                obtain ⟨u7, hu7⟩ : ∃ u7, u7 = u.Out.length := ⟨_, rfl⟩
                rw [← hu7] at hr7 hM7 hk7
                have HN : Hid (StM (w7.setCell ⟨gO, p * 3 + 2, none⟩ (.slice (some ⟨g7, 0, none⟩) (u7 + 1) c7)) F n F gO cap (updF KP (2 * p + 1) (.slice (some ⟨g7, 0, none⟩) (u7 + 1) c7)) (updF LP (2 * p + 1) (u.Out ++ [k])) ts' ∧ RelS l (k + 1) ts' (updF LP (2 * p + 1) (u.Out ++ [k])) ∧ Keeps None w (w7.setCell ⟨gO, p * 3 + 2, none⟩ (.slice (some ⟨g7, 0, none⟩) (u7 + 1) c7))) := by
                  refine ⟨by rw [e1]; exact hM7, e4 _ ?_ ?_ ?_ ?_, (kk4.trans kA (fun _ f _ => f)).trans hk7 (fun i e hi => by have := HF.out; omega)⟩
                  · rw [updF_ne (by omega), hLo _ (by omega)]; exact hLf
                  · intro j hj; rw [updF_ne (by omega), hLo _ (by omega)]; exact (hoth _ (by omega)).1
                  · rw [← hp, updF_eq]
                  · intro j hj; rw [updF_ne (by omega), hLo _ (by omega)]; exact (hoth _ (by omega)).1
                have hwp : wrap64 (((p + 1 : Nat) : Int) - 1) = (p : Int) := by unfold wrap64; omega
                have p1 : (p : Int) < ((p + 1 : Nat) : Int) := by omega
                have p2 : ((p + 1 : Nat) : Int) ≤ (cap : Int) := by omega
                clear hM4 kk4 hM5 hb2 hrsP hkW hKP hLP hKq hKo hLo hLf hoth hM6 hM7 hk7 kA hLPp hu7 hfz2 e1 e2 e3 e4 hp
                subst hqp
                go_wp2_with (at_builtin; refine wpList_append_run rfl (.tmp 115) (.tmp 117) 35 35 rfl rfl rfl hr7 ?_)
                exact ⟨⟨k + 1, gO, cap, _, _, ts', by omega, by go_num, by rw [← HQ.out], HN.out⟩, by simp [intOf]; omega⟩
          · skip
            obtain ⟨hM2, hkW, hb2, hK1, hL1⟩ := H2.out
            obtain ⟨_, hR, _, hrel, hLO, hp, hst, hx, hbad, hd1⟩ := HM.out
            have hKq : K1 (2 * q + 1) = .slice oa ol oc := by rw [hK1, updF_ne (by omega)]; exact HV.out.1
            have hLe : ∀ j, j ≠ 2 * k → L1 j = L j := fun j hj => by rw [hL1, updF_ne hj]
            have hLk : L1 (2 * k) = frmN l k := by rw [hL1, updF_eq]; exact (frm_no hst hx hp k1 k2).symm
            have hrel1 : RelO (t :: r) (ts' ++ [(la, by')]) L1 := hrel.congr (fun j hj => hLe _ (by omega))
            have x0 : (xk == 0) = false := by simp [k0]
            have x1 : (xk == 1) = false := by simp [k1]
            have x2 : (xk == 2) = false := by simp [k2]
            have HP : Hid (RelS l (k + 1) (ts' ++ [((k : Int), by')]) L1) := hR.next hst hx hLk (fun j hj => hLe _ (by omega)) (rel3 k0 k1 k2 hrel1)
            clear hR hrel hLO hp hst hx hbad hd1 hK1 hL1 hLe hLk hrel1 H2
            have hM3 := hM2.box hb2 hgB 0 (.int .i64 k)
            have hb3 := blk_set (i := 0) hb2 (.int .i64 k)
            have hrs3 : Rs (W2.setCell ⟨B, 0, none⟩ (.int .i64 k)) F K1 L1 := by
              have hk3 : Keeps (· = B) W2 (W2.setCell ⟨B, 0, none⟩ (.int .i64 k)) := keeps_one (Keeps.refl _ _) _
              exact (hM2.rs).kept hk3 (fun j b hb' e => (hM2.rs).ne hb' hb2 (by decide) e)
            have kk3 : Keeps None w (W2.setCell ⟨B, 0, none⟩ (.int .i64 k)) := hkW.andSet (x := ⟨B, 0, none⟩) (.inr hlow2) _
            obtain ⟨W3, hW3⟩ : ∃ W3, W3 = W2.setCell ⟨B, 0, none⟩ (.int .i64 k) := ⟨_, rfl⟩
            go_upto_region 20 with fail
            rw [← hW3] at hM3 hb3 hrs3 kk3
            rw [← hW3]
            obtain ⟨c0, c1, c2, hfz, _⟩ := hM3.at
            rw [← HQ.out] at c0 c1 c2
            have fz0 := hfz (q * 3)
            have fz1 := hfz (q * 3 + 1)
            have fz2 := hfz (q * 3 + 2)
            have b0' : W3.cell? ⟨B, 0, none⟩ = some (.int .i64 k) := cell_of_heap hb3 0
            have b1' : W3.cell? ⟨B, 1, none⟩ = some (.int .i64 by') := cell_of_heap hb3 1
            have b2' : W3.cell? ⟨B, 2, none⟩ = some (.slice oa ol oc) := cell_of_heap hb3 2
            have hM4 := hM3.put ((k : Int), by') hrs3 (fun _ _ => rfl)
            have kk4 : Keeps None w (set3 W3 gO (q * 3) k by' (.slice oa ol oc)) := kk3.trans (keeps_set3 W3 gO (q * 3) k by' (.slice oa ol oc)) (fun i e hi => by have := hM3.lowO; have := HF.out; omega)
            rw [← HQ.out, hKq] at hM4
            simp only [set3] at hM4 kk4
            clear hM3 hb3 hrs3 kk3 hW3 hfz
            obtain ⟨W4, hW4⟩ : ∃ W4, W4 = ((W3.setCell ⟨gO, q * 3, none⟩ (.int .i64 k)).setCell ⟨gO, q * 3 + 1, none⟩ (.int .i64 by')).setCell ⟨gO, q * 3 + 2, none⟩ (.slice oa ol oc) := ⟨_, rfl⟩
            rw [← hW4] at hM4 kk4
            clear t0 t1 t2 tf0 tf2
            go_upto_region 21 with fail
            rw [← hW4]
            clear hW4 c0 c1 c2 fz0 fz1 fz2 b0' b1' b2'
            have HN : Hid (StM W4 F n F gO cap K1 L1 (ts' ++ [((k : Int), by')]) ∧ Keeps None w W4) := ⟨hM4, kk4⟩
            clear hM4 kk4 HM
            go_wp2
            go_roundw
            case rel => exact ⟨k + 1, gO, cap, K1, L1, ts' ++ [((k : Int), by')], by omega, by go_num, by simp [HQ.out], HN.out.1, HP.out, HN.out.2⟩
            case measure => simp [intOf]; omega
    · have hkn2 : k = n := by omega
      subst hkn2
      have HN : Hid (Rs wr w.heap.size K L ∧ wr.heap[F]? = some (.cells ((List.range k).map (fun k => K (2 * k))).toArray 35 (0, 0)) ∧ w.heap.size ≤ F ∧ (∀ j, j < k → L (2 * j) = frmN l j) ∧ Keeps None w wr) := ⟨by rw [← HF.out]; exact hM.rs, hM.fr, by rw [← HF.out]; exact Nat.le_refl _, hR.done, hkp⟩
      clear hM hR hkp
      go_wp2
      go_ret
      exact ⟨F, K, L, rfl, HN.out⟩
end Go.Proofs.Ytolhojagbiaamab
