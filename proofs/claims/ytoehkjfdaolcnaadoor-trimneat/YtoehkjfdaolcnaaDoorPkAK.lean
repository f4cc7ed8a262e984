import Derived.Test.YtoehkjfdaolcnaaDoorPkAJ
/-! Which places are reached: the walk of the program's search. -/
namespace Go.Proofs.YtoehkjfdaolcnaaDoor
set_option linter.unusedVariables false
set_option maxRecDepth 20000
set_option linter.unusedSimpArgs false
open Go.RowKit Go.HeapKit

def natL (op : List Nat) : List Int := op.map (fun (k : Nat) => (k : Int))
theorem natL_app (op : List Nat) (k : Nat) : natL (op ++ [k]) = natL op ++ [(k : Int)] := by simp [natL]
theorem natL_len (op : List Nat) : (natL op).length = op.length := by simp [natL]
set_option maxHeartbeats 8000000 in
theorem reached_ok (ca : Option Addr) (n cc : Nat) (code : List Ins) (w : World) (hC : SeenI w ca n code) (hG : Gd code) :
    Calls Tryd.prog 58 #[.slice ca n cc] w fun e w' => ∃ g met, e = .returned (.slice (some ⟨g, 0, none⟩) n n) ∧ BoolsAt w' g n met ∧ (∀ k, met k = true ↔ Rc code k) ∧ Keeps None w w' ∧ w.heap.size ≤ g := by
  have hl := hC.len
  have h1 := hG.n1
  have h2 := hG.n2
  have hmk := make_boolsT n w (by omega)
  have HC : Hid (SeenI w ca n code ∧ Gd code ∧ n = code.length) := ⟨hC, hG, hl⟩
  have hst : BoolsAt (w.alloc (.cells ((List.range n).map (fun _ => Value.bool false)).toArray 4)) w.heap.size n (fun _ => false) := heap_alloc_new w _
  have kA := Keeps.alloc None w (.cells ((List.range n).map (fun _ => Value.bool false)).toArray 4)
  obtain ⟨W, hW⟩ : ∃ W, W = w.alloc (.cells ((List.range n).map (fun _ => Value.bool false)).toArray 4) := ⟨_, rfl⟩
  obtain ⟨G, hGG⟩ : ∃ G, G = w.heap.size := ⟨_, rfl⟩
  rw [← hW] at hmk hst kA
  rw [← hGG] at hmk hst
  have hGlt : G < W.heap.size := blk_lt hst
  have c0 := hst.cell (k := 0) (by omega)
  have f0 := blk_free hst 0
  have hn : n ≤ 512 := by omega
  have hn1 : 1 ≤ n := by omega
  have n1 : (0 : Int) < (n : Int) := by omega
  have kS : Keeps (· = G) W (W.setCell ⟨G, 0, none⟩ (.bool true)) := Keeps.setCell (S := (· = G)) W (a := ⟨G, 0, none⟩) rfl _
  have H0 : Hid (BoolsAt (W.setCell ⟨G, 0, none⟩ (.bool true)) G n (updT (fun _ => false) 0 true) ∧ Keeps None w (W.setCell ⟨G, 0, none⟩ (.bool true)) ∧ G = w.heap.size) := ⟨hst.put 0 true, kA.trans kS (fun i e hi => by omega), hGG⟩
  obtain ⟨W1, hW1⟩ : ∃ W1, W1 = W.setCell ⟨G, 0, none⟩ (.bool true) := ⟨_, rfl⟩
  rw [← hW1] at H0
  have kB := Keeps.alloc None W1 (.cells #[.int .i64 0] 3)
  have oB := own_one (w := W1) (base := W1.heap.size) (a := 0) (Nat.le_refl _)
  obtain ⟨W2, hW2⟩ : ∃ W2, W2 = W1.alloc (.cells #[.int .i64 0] 3) := ⟨_, rfl⟩
  rw [← hW2] at kB oB
  have hsz : W1.heap.size = W.heap.size := by rw [hW1]; simp
  obtain ⟨S0, hS0⟩ : ∃ S0, S0 = W.heap.size := ⟨_, rfl⟩
  rw [hsz, ← hS0] at oB
  have hrm : Rm code (updT (fun _ => false) 0 true) [0] := by
    refine ⟨by simp [updT], fun k hk => ?_, fun k hk => ?_, fun k k' i a1 a2 => ?_⟩
    · unfold updT at hk
      split at hk
      · rename_i e; subst e; exact ⟨by omega, .zero⟩
      · cases hk
    · rw [List.mem_singleton] at hk
      subst hk
      simp [updT]
    · unfold updT at a1
      split at a1
      · rename_i e; subst e; simp at a2
      · cases a1
  have H1 : Hid (BoolsAt W2 G n (updT (fun _ => false) 0 true) ∧ Keeps None w W2 ∧ OwnL W2 S0 (.slice (some ⟨S0, 0, none⟩) 1 1) (natL [0]) ∧ G < S0 ∧ w.heap.size ≤ G ∧ Rm code (updT (fun _ => false) 0 true) [0] ∧ S0 ≤ W2.heap.size) := ⟨blk_kept H0.out.1 kB (fun f => f), H0.out.2.1.trans kB (fun _ f _ => f), oB, by omega, by omega, hrm, by have := kB.size; omega⟩
  clear hC hG hl h1 h2 hst kA kS H0 kB oB hsz hrm hGlt hW hGG
  go_enter Tryd.func58, Tryd.ntmps58
  go_upto_block 0 with (at_make; refine wpList_make_run rfl (.tmp 9) (.tmp 9) 44 rfl rfl rfl hmk ?_)
  rw [← hW1, ← hW2, ← hS0]
  clear hmk hW1 hW2 hS0 c0 f0
  obtain ⟨n₀, hn₀⟩ : ∃ n₀ : Nat, n₀ = 2 * unM n (updT (fun _ => false) 0 true) + 1 := ⟨_, rfl⟩
  have HN : Hid (n₀ = 2 * unM n (updT (fun _ => false) 0 true) + 1) := hn₀
  clear hn₀
  go_wp2_with fail
  go_loopg [4] n₀ (fun gk s4 wr => ∃ (met : Nat → Bool) (op : List Nat), gk = 2 * unM n met + op.length ∧ gk ≤ 2 * n + 1 ∧ Rm code met op ∧ OwnL wr S0 s4 (natL op) ∧ BoolsAt wr G n met ∧ Keeps None w wr ∧ S0 ≤ wr.heap.size)
  case atStart => exact ⟨_, [0], HN.out, by rw [HN.out]; have := unM_le n (updT (fun _ => false) 0 true); omega, H1.out.2.2.2.2.2.1, H1.out.2.2.1, H1.out.1, H1.out.2.1, H1.out.2.2.2.2.2.2⟩
  case round =>
    have HX : Hid (G < S0 ∧ w.heap.size ≤ G) := ⟨H1.out.2.2.2.1, H1.out.2.2.2.2.1⟩
    clear HN H1
    obtain ⟨met, op, hgk, hgk2, hrm, hop, hbo, hkp, hS0⟩ := hrel
    rcases List.eq_nil_or_concat op with e | ⟨op0, k, e⟩
    · subst e
      obtain ⟨oa, oc, rfl⟩ := row_shapeT hop
      have HF : Hid (BoolsAt wr G n met ∧ (∀ k, met k = true ↔ Rc code k) ∧ Keeps None w wr) := ⟨hbo, hrm.full, hkp⟩
      clear hrm hop hbo hkp
      simp only [natL, List.map_nil, List.length_nil]
      go_wp2_with fail
      go_ret
      exact ⟨G, met, rfl, HF.out.1, HF.out.2.1, HF.out.2.2, HX.out.2⟩
    · rw [List.concat_eq_append] at e
      subst e
      have hkk := hrm.ok k (hrm.opn k (by simp))
      have hkn : k < n := by have := HC.out.2.2; omega
      obtain ⟨b, off, i, rfl, hi, hat⟩ := (HC.out.1.more hkp).at hkn
      rw [natL_app] at hop
      obtain ⟨og, oc, rfl, y9, hoc, hop2⟩ := own_pop hop
      obtain ⟨N0, hN0⟩ : ∃ N0, N0 = (natL op0).length := ⟨_, rfl⟩
      rw [← hN0] at y9 hoc hop2 ⊢
      have hN0b : N0 ≤ 2000 := by
        rw [natL_len] at hN0
        simp at hgk
        omega
      obtain ⟨y0, y1, y2, y3, y4⟩ := hat
      have H2 : Hid (Rmd code k [] met op0 ∧ OwnL wr S0 (.slice (some ⟨og, 0, none⟩) N0 oc) (natL op0) ∧ BoolsAt wr G n met ∧ Keeps None w wr ∧ S0 ≤ wr.heap.size ∧ code[k]? = some i ∧ gk = 2 * unM n met + op0.length + 1 ∧ gk ≤ 2 * n + 1 ∧ N0 = (natL op0).length) := ⟨Rmd.start hrm, hop2, hbo, hkp, hS0, hi, by simp at hgk; omega, hgk2, hN0⟩
      have i1 : (k : Int) < (n : Int) := by omega
      have i2 : ((N0 : Int) + 1 - 1) = (N0 : Int) := by omega
      obtain ⟨L, hLe⟩ : ∃ L, L = exitsV k i := ⟨_, rfl⟩
      have hLn : L.length ≤ 3 := by
        rw [hLe]
        unfold exitsV
        simp only [List.length_append]
        repeat' split
        all_goals simp
      obtain ⟨N, hN⟩ : ∃ N, N = L.length := ⟨_, rfl⟩
      have HL : Hid (L = exitsV k i ∧ N = L.length) := ⟨hLe, hN⟩
      obtain ⟨B0, hB0⟩ : ∃ B0, B0 = wr.heap.size := ⟨_, rfl⟩
      have HB0 : Hid (B0 = wr.heap.size) := hB0
      have HEX : Hid (Calls Tryd.prog 69 #[.int .i64 (k : Int), .agg #[.int .i64 i.kind, .int .i64 i.a, .int .i64 i.b, .int .i64 i.c, .int .i64 i.k]] wr fun e w' => ∃ a2 c2, e = .returned (.slice a2 N c2) ∧ OwnL w' B0 (.slice a2 N c2) L ∧ Keeps None wr w') := (exits_ok k i wr (HC.out.2.1.kind k i hi) (by omega)).mono fun e w' hp => by
        obtain ⟨v, rfl, h1, h2⟩ := hp
        rw [← hLe, ← hB0] at h1
        obtain ⟨a2, c2, rfl⟩ := row_shapeT h1
        rw [hN]
        exact ⟨a2, c2, rfl, h1, h2⟩
      rw [← hN] at hLn
      clear hB0
      clear hrm hop hop2 hbo hkp hi hgk hgk2 hN0 hLe hN hkk hS0
      go_upto_block 2 with (go_at_call 69; refine Calls.mono HEX.out ?_; rintro _ w2 ⟨a2, c2, rfl, ho2, hk2⟩; have H3 : Hid (OwnL w2 B0 (.slice a2 N c2) L ∧ Keeps None wr w2) := ⟨ho2, hk2⟩; clear ho2 hk2)
      clear y0 y1 y2 y3 y4 y9 HEX
      obtain ⟨n₁, hn₁⟩ : ∃ n₁ : Nat, n₁ = N := ⟨_, rfl⟩
      have HN1 : Hid (n₁ = N) := hn₁
      clear hn₁
      have HGK : Hid (gk ≤ 2 * n + 1) := H2.out.2.2.2.2.2.2.2.1
      obtain ⟨gk0, hgk0⟩ : ∃ gk0, gk0 = gk := ⟨_, rfl⟩
      rw [← hgk0] at HGK
      have H2b := H2.out.2.2.2.2.2.2.1
      have HGQ : Hid (gk0 = gk ∧ gk = 2 * unM n met + op0.length + 1) := ⟨hgk0, H2b⟩
      clear H2b
      go_wp2_with fail
      go_loopg [4, 35] n₁ (fun gj s4 s35 w3 => ∃ (j : Nat) (met' : Nat → Bool) (op' : List Nat), gj + j = N ∧ s35 = .int .i64 j ∧ Rmd code k (L.take j) met' op' ∧ OwnL w3 S0 s4 (natL op') ∧ BoolsAt w3 G n met' ∧ OwnL w3 B0 (.slice a2 N c2) L ∧ (∀ b, s4.ownBlock = some b → (Value.slice a2 N c2).ownBlock ≠ some b) ∧ 2 * unM n met' + op'.length + 1 ≤ gk0 ∧ Keeps None w w3 ∧ S0 ≤ w3.heap.size)
      case atStart =>
        refine ⟨0, met, op0, HN1.out, rfl, H2.out.1, row_keptT H2.out.2.1 H3.out.2 (fun _ _ f => f), blk_kept H2.out.2.2.1 H3.out.2 (fun f => f), H3.out.1, fun b e e2 => ?_, by have := HGQ.out; omega, H2.out.2.2.2.1.trans H3.out.2 (fun _ f _ => f), Nat.le_trans H2.out.2.2.2.2.1 H3.out.2.size⟩
        have h1 := own_lt H2.out.2.1 e
        have h2 := row_lowT H3.out.1 e2
        have h3 := HB0.out
        omega
      case round =>
        clear HN1 HB0
        have HI : Hid (code[k]? = some i) := H2.out.2.2.2.2.2.1
        clear H2 H3
        obtain ⟨j, met', op', hj, rfl, hmd, hop, hbo, hoL, hap, hms, hk3, hS3⟩ := hrel
        obtain ⟨sa, sc, rfl⟩ := row_shapeT hop
        have hopl : op'.length ≤ 2000 := by have := HGK.out; omega
        obtain ⟨P, hP⟩ : ∃ P, P = (natL op').length := ⟨_, rfl⟩
        rw [← hP] at hop hap ⊢
        by_cases hjN : j < N
        · have i5 : (j : Int) < (N : Int) := by omega
          obtain ⟨z, hz⟩ : ∃ z, L[j]? = some z := ⟨L[j]'(by have := HL.out.2; omega), by simp⟩
          have hzm : z ∈ exitsV k i := by rw [← HL.out.1]; exact List.mem_of_getElem? hz
          obtain ⟨hz0, hz1⟩ := HC.out.2.1.ways k i HI.out z hzm
          obtain ⟨t, rfl⟩ := Int.eq_ofNat_of_zero_le hz0
          have htn : t < n := by have := HC.out.2.2; omega
          have i6 : (t : Int) < (n : Int) := by omega
          obtain ⟨g2, c2', e2, hb2, hlt2, y0⟩ := own_elem hoL hz
          injection e2 with e2 e2b e2c
          subst e2
          clear e2b e2c
          have m0 := hbo.cell htn
          have htk : L.take (j + 1) = L.take j ++ [(t : Int)] := by rw [List.take_add_one, hz]; rfl
          cases hmt : met' t with
          | true =>
            rw [hmt] at m0
            have HF : Hid (Rmd code k (L.take (j + 1)) met' op' ∧ OwnL wr S0 (.slice sa P sc) (natL op') ∧ BoolsAt wr G n met' ∧ OwnL wr B0 (.slice (some ⟨g2, 0, none⟩) N c2) L ∧ (∀ b, (Value.slice sa P sc).ownBlock = some b → (Value.slice (some ⟨g2, 0, none⟩) N c2).ownBlock ≠ some b) ∧ 2 * unM n met' + op'.length + 1 ≤ gk0 ∧ Keeps None w wr ∧ S0 ≤ wr.heap.size) := ⟨by rw [htk]; exact hmd.skip hmt, hop, hbo, hoL, hap, hms, hk3, hS3⟩
            clear hmd hop hbo hoL hap hms hk3 hS3 hz hzm hz0 hz1 htk hmt hP
            go_wp2_with fail
            go_roundg (gk - 1)
            case measure => omega
            case rel => exact ⟨j + 1, met', op', by omega, by go_num, HF.out⟩
          | false =>
            rw [hmt] at m0
            have fz := blk_free hbo t
            have k4 : Keeps (· = G) wr (wr.setCell ⟨G, t, none⟩ (.bool true)) := Keeps.setCell (S := (· = G)) wr (a := ⟨G, t, none⟩) rfl _
            have b4 := hbo.put t true
            obtain ⟨W4, hW4⟩ : ∃ W4, W4 = wr.setCell ⟨G, t, none⟩ (.bool true) := ⟨_, rfl⟩
            rw [← hW4] at k4 b4
            have hnt : ∀ {base : Nat} {v : Value} {M : List Int}, OwnL wr base v M → v.ownBlock ≠ some G := fun h e => absurd (own_type h e hbo) (by decide)
            have hop4 := row_keptT hop k4 (fun g e e3 => hnt hop (by rw [e, e3]))
            have hoL4 := row_keptT hoL k4 (fun g e e3 => hnt hoL (by rw [e, e3]))
            have hs4 : W4.heap.size = wr.heap.size := by rw [hW4]; simp
            obtain ⟨g5, c5, w5, hr, ho5, hk5, hm5⟩ := own_push (L := natL op') hop4 (t : Int) (by omega) (by rw [natL_len]; omega)
            rw [← hP] at hr ho5
            have hnt4 : (Value.slice sa P sc).ownBlock ≠ some G := fun e => absurd (own_type hop4 e b4) (by decide)
            have HF : Hid (Rmd code k (L.take (j + 1)) (updT met' t true) (op' ++ [t]) ∧ OwnL w5 S0 (.slice (some ⟨g5, 0, none⟩) (P + 1) c5) (natL (op' ++ [t])) ∧ BoolsAt w5 G n (updT met' t true) ∧ OwnL w5 B0 (.slice (some ⟨g2, 0, none⟩) N c2) L ∧ (∀ b, (Value.slice (some ⟨g5, 0, none⟩) (P + 1) c5).ownBlock = some b → (Value.slice (some ⟨g2, 0, none⟩) N c2).ownBlock ≠ some b) ∧ 2 * unM n (updT met' t true) + (op' ++ [t]).length + 1 ≤ gk0 ∧ Keeps None w w5 ∧ S0 ≤ w5.heap.size) := by
              refine ⟨by rw [htk]; exact hmd.put HI.out hzm (by have := HC.out.2.2; omega), by rw [natL_app]; exact ho5, blk_kept b4 hk5 (fun e => hnt4 e), row_keptT hoL4 hk5 (fun g e e3 => hap g e3 e), fun b e e3 => ?_, ?_, (hk3.trans k4 (fun i e hi => by have := HX.out; omega)).trans hk5 (fun i e hi => by have := row_lowT hop4 e; have := HX.out; omega), by have := hk5.size; omega⟩
              · simp [Value.ownBlock] at e e3
                rcases hm5 with h | h
                · exact hap g5 h (by simp [Value.ownBlock]; omega)
                · omega
              · have := unM_put htn hmt
                simp
                omega
            clear hmd hop hbo hoL hap hms hk3 hS3 hz hzm hz0 hz1 htk hmt hP k4 b4 hop4 hoL4 hs4 ho5 hk5 hm5 hnt hnt4
            go_upto_region 12 with fail
            rw [← hW4]
            clear hW4 m0 fz y0
            go_wp2_with (at_builtin; refine wpList_append_run rfl (.tmp 47) (.tmp 49) 56 56 rfl rfl rfl hr ?_)
            go_roundg (gk - 1)
            case measure => omega
            case rel => exact ⟨j + 1, _, _, by omega, by go_num, HF.out⟩
        · have hjN2 : j = N := by omega
          subst hjN2
          have i5 : ¬ (j : Int) < (j : Int) := by omega
          have hall : L.take j = exitsV k i := by rw [List.take_of_length_le (by have := HL.out.2; omega), HL.out.1]
          have HF : Hid (Rm code met' op' ∧ OwnL wr S0 (.slice sa P sc) (natL op') ∧ BoolsAt wr G n met' ∧ Keeps None w wr ∧ S0 ≤ wr.heap.size) := ⟨by rw [hall] at hmd; exact hmd.stop HI.out, hop, hbo, hk3, hS3⟩
          have HM : Hid (2 * unM n met' + op'.length + 1 ≤ gk0 ∧ gk0 ≤ 2 * n + 1) := ⟨hms, HGK.out⟩
          clear hmd hop hbo hoL hap hms hk3 hS3 hall hP
          go_wp2_with fail
          go_roundg (2 * unM n met' + op'.length)
          case measure => have := HM.out; omega
          case rel => exact ⟨met', op', rfl, by have := HM.out; omega, HF.out⟩
end Go.Proofs.YtoehkjfdaolcnaaDoor
/-! Which registers are live: the program's search backwards. -/
namespace Go.Proofs.YtoehkjfdaolcnaaDoor
set_option linter.unusedVariables false
set_option maxRecDepth 20000
set_option linter.unusedSimpArgs false
open Go.RowKit Go.HeapKit

theorem Tryd.infoReg : (Tryd.prog.info? 60).map (fun i => (i.zero, i.size, i.bytes)) = some (some (.int .u16 0), 1, 2) := by kernel_rfl
theorem make_regs (n : Nat) (w : World) (hn : n ≤ 4096) : (Instr.makeSlice 57 (.int .i64 n) (.int .i64 n)).run Tryd.prog w = .ok (.slice (some ⟨w.heap.size, 0, none⟩) n n) (w.alloc (.cells ((List.range n).map (fun _ => Value.int .u16 0)).toArray 60)) := by
  obtain ⟨i0, hi, hz0, hz1, hz2⟩ := info_parts Tryd.infoReg
  obtain ⟨M, hM, _, hr⟩ := run_make_block (P := Tryd.prog) (w := w) 57 60 i0 _ 1 2 Tryd.underlying57 hi hz0 hz1 hz2 n (by omega) (by omega)
  rw [made_oneT _ rfl, Nat.mul_one] at hM
  rw [hr, hM]
theorem make_intsT (n : Nat) (w : World) (hn : n ≤ 4096) : (Instr.makeSlice 56 (.int .i64 n) (.int .i64 n)).run Tryd.prog w = .ok (.slice (some ⟨w.heap.size, 0, none⟩) n n) (w.alloc (.cells ((List.range n).map (fun _ => Value.int .i64 0)).toArray 3)) := by
  obtain ⟨i0, hi, hz0, hz1, hz2⟩ := info_parts Tryd.infoIntT
  obtain ⟨M, hM, _, hr⟩ := run_make_block (P := Tryd.prog) (w := w) 56 3 i0 _ 1 8 Tryd.underlying56 hi hz0 hz1 hz2 n (by omega) (by omega)
  rw [made_oneT _ rfl, Nat.mul_one] at hM
  rw [hr, hM]
/-- A row of sets of registers. -/
def RegsAt (w : World) (g n : Nat) (bs : Nat → Nat) : Prop := w.heap[g]? = some (.cells ((List.range n).map (fun k => Value.int .u16 (bs k : Int))).toArray 60 (0, 0))
theorem RegsAt.cell {w : World} {g n : Nat} {bs : Nat → Nat} (h : RegsAt w g n bs) {k : Nat} (hk : k < n) : w.cell? ⟨g, k, none⟩ = some (.int .u16 (bs k : Int)) := by
  rw [blk_cell h, range_atT n k _ hk]
theorem RegsAt.put {w : World} {g n : Nat} {bs : Nat → Nat} (h : RegsAt w g n bs) (k Z : Nat) : RegsAt (w.setCell ⟨g, k, none⟩ (.int .u16 (Z : Int))) g n (updT bs k Z) := by
  unfold RegsAt
  rw [blk_set h, range_setT]
  congr 3
  refine List.map_congr_left (fun j _ => ?_)
  unfold updT
  split <;> rfl
def tb (bs : Nat → Nat) (e r : Nat) : Bool := (bs e).testBit r
theorem tb_bs {bs : Nat → Nat} {e : Nat} (h : bs e < 65536) : Bs (bs e) (tb bs e) := ⟨h, fun r _ => rfl⟩
/-- The numbers of the places. -/
theorem open_row {w : World} {n k : Nat} : (List.range n).map (fun j => Value.int .i64 (if j < k then (j : Int) else 0)) = ((List.range n).map (fun j => (if j < k then (j : Int) else 0))).map (Value.int .i64) := by
  rw [List.map_map]
  rfl
/-- What the search holds at a round's beginning. -/
structure LvAt (w wr : World) (fs : List Fn) (code : List Ins) (n G B1 F S0 : Nat) (vs : Nat → Value) (bs : Nat → Nat) (op : List Nat) (s : Value) : Prop where
  inv : LvIn fs code (tb bs) op
  lt : ∀ k, k < n → bs k < 65536
  ops : ∀ k ∈ op, k < n
  regs : RegsAt wr G n bs
  from' : IsLT wr B1 F n vs (fun q => cmr code q n)
  low : F < S0 ∧ ∀ q b, q < n → (vs q).ownBlock = some b → b < S0
  opn : OwnL wr S0 s (natL op)
  keep : Keeps None w wr
  size : S0 ≤ wr.heap.size
  wG : w.heap.size ≤ G
  wS : w.heap.size ≤ S0
theorem LvAt.more {w wr wy : World} {fs : List Fn} {code : List Ins} {n G B1 F S0 : Nat} {vs : Nat → Value} {bs : Nat → Nat} {op : List Nat} {s : Value} (h : LvAt w wr fs code n G B1 F S0 vs bs op s) (hk : Keeps None wr wy) : LvAt w wy fs code n G B1 F S0 vs bs op s :=
  ⟨h.inv, h.lt, h.ops, blk_kept h.regs hk (fun f => f), h.from'.more hk, h.low, row_keptT h.opn hk (fun _ _ f => f), h.keep.trans hk (fun _ f _ => f), Nat.le_trans h.size hk.size, h.wG, h.wS⟩
/-- While those that come to a place are looked at. -/
structure LvNow (w wr : World) (fs : List Fn) (code : List Ins) (n G B1 F S0 : Nat) (vs : Nat → Value) (k : Nat) (i : Ins) (Z : Nat) (fr : List Int) (bs : Nat → Nat) (op : List Nat) (s : Value) : Prop where
  inv : LvMid fs code k i (fun r => Z.testBit r) fr (tb bs) op
  lt : ∀ k, k < n → bs k < 65536
  ops : ∀ k ∈ op, k < n
  regs : RegsAt wr G n bs
  from' : IsLT wr B1 F n vs (fun q => cmr code q n)
  low : F < S0 ∧ ∀ q b, q < n → (vs q).ownBlock = some b → b < S0
  opn : OwnL wr S0 s (natL op)
  keep : Keeps None w wr
  size : S0 ≤ wr.heap.size
  wG : w.heap.size ≤ G
  wS : w.heap.size ≤ S0
theorem LvNow.more {w wr wy : World} {fs : List Fn} {code : List Ins} {n G B1 F S0 : Nat} {vs : Nat → Value} {k : Nat} {i : Ins} {Z : Nat} {fr : List Int} {bs : Nat → Nat} {op : List Nat} {s : Value} (h : LvNow w wr fs code n G B1 F S0 vs k i Z fr bs op s) (hk : Keeps None wr wy) : LvNow w wy fs code n G B1 F S0 vs k i Z fr bs op s :=
  ⟨h.inv, h.lt, h.ops, blk_kept h.regs hk (fun f => f), h.from'.more hk, h.low, row_keptT h.opn hk (fun _ _ f => f), h.keep.trans hk (fun _ f _ => f), Nat.le_trans h.size hk.size, h.wG, h.wS⟩
theorem ahd_set {fs : List Fn} {i : Ins} {bs : Nat → Nat} {k Z Zr Z2 Zw : Nat} (hr : Bs Zr (rdS fs i)) (hw : Bs Zw (wrS i)) (h2 : Bs Z2 (notS (tb bs k) (wrS i))) (h3 : Bs Z (orS (rdS fs i) (notS (tb bs k) (wrS i)))) : ∀ r, r < 16 → Z.testBit r = ahd fs i (tb bs k) r := fun r hr => by
  rw [h3.bit r hr]
  rfl
theorem set_tb {bs : Nat → Nat} {e Z : Nat} : ∀ e2 r, e2 ≠ e → tb (updT bs e Z) e2 r = tb bs e2 r := fun e2 r h => by
  unfold tb updT
  rw [if_neg h]
/-- One more. -/
theorem LvNow.skip {w wr : World} {fs : List Fn} {code : List Ins} {n G B1 F S0 : Nat} {vs : Nat → Value} {k : Nat} {i : Ins} {Z : Nat} {fr : List Int} {bs : Nat → Nat} {op : List Nat} {s : Value} (h : LvNow w wr fs code n G B1 F S0 vs k i Z fr bs op s) {e Zn : Nat} (hZ : Z < 65536) (hn : Bs Zn (notS (fun r => Z.testBit r) (tb bs e))) (h0 : Zn = 0) : LvNow w wr fs code n G B1 F S0 vs k i Z (fr ++ [(e : Int)]) bs op s :=
  ⟨h.inv.skip fun r hr ha => by
    have := (bs_zero hn).1 h0 r hr
    unfold notS at this
    simp only at this ha
    rw [ha] at this
    simpa using this, h.lt, h.ops, h.regs, h.from', h.low, h.opn, h.keep, h.size, h.wG, h.wS⟩
/-- One that gets more registers. -/
theorem LvNow.put {w wr w5 : World} {fs : List Fn} {code : List Ins} {n G B1 F S0 : Nat} {vs : Nat → Value} {k : Nat} {i : Ins} {Z : Nat} {fr : List Int} {bs : Nat → Nat} {op : List Nat} {s s' : Value} (h : LvNow w wr fs code n G B1 F S0 vs k i Z fr bs op s) {e Zo : Nat} {j : Ins} (hen : e < n) (hj : code[e]? = some j) (hk : (k : Int) ∈ exitsV e j) (hZo : Bs Zo (orS (tb bs e) (fun r => Z.testBit r))) (hreg : RegsAt w5 G n (updT bs e Zo)) (hfr : IsLT w5 B1 F n vs (fun q => cmr code q n)) (hop : OwnL w5 S0 s' (natL (op ++ [e]))) (hkp : Keeps None w w5) (hs : S0 ≤ w5.heap.size) : LvNow w w5 fs code n G B1 F S0 vs k i Z (fr ++ [(e : Int)]) (updT bs e Zo) (op ++ [e]) s' := by
  refine ⟨h.inv.put hj hk set_tb (fun r hr => ?_), fun k hk => ?_, fun k hk => ?_, hreg, hfr, h.low, hop, hkp, hs, h.wG, h.wS⟩
  · unfold tb updT
    rw [if_pos rfl, hZo.bit r hr]
    rfl
  · unfold updT
    split
    · exact hZo.lt
    · exact h.lt k hk
  · rcases List.mem_append.1 hk with h1 | h1
    · exact h.ops k h1
    · rw [List.mem_singleton] at h1
      omega
theorem put_less {n : Nat} {bs : Nat → Nat} {e Z Zn Zo : Nat} (hen : e < n) (hn : Bs Zn (notS (fun r => Z.testBit r) (tb bs e))) (h0 : Zn ≠ 0) (hZo : Bs Zo (orS (tb bs e) (fun r => Z.testBit r))) : unB n (tb (updT bs e Zo)) < unB n (tb bs) := by
  obtain ⟨r, hr, hr2⟩ : ∃ r, r < 16 ∧ notS (fun r => Z.testBit r) (tb bs e) r = true := by
    by_cases hx : ∃ r, r < 16 ∧ notS (fun r => Z.testBit r) (tb bs e) r = true
    · exact hx
    · exact absurd ((bs_zero hn).2 fun r hr => by
        cases hq : notS (fun r => Z.testBit r) (tb bs e) r with
        | false => rfl
        | true => exact absurd ⟨r, hr, hq⟩ hx) h0
  unfold notS at hr2
  simp only [Bool.and_eq_true, Bool.not_eq_true'] at hr2
  refine unB_less (fun e2 r2 hr2' hb => ?_) hen hr hr2.2 ?_
  · by_cases e' : e2 = e
    · subst e'
      unfold tb updT
      rw [if_pos rfl, hZo.bit r2 hr2']
      unfold orS
      rw [hb]
      rfl
    · rw [set_tb e2 r2 e']
      exact hb
  · unfold tb updT
    rw [if_pos rfl, hZo.bit r hr]
    unfold orS
    simp [hr2.1]
end Go.Proofs.YtoehkjfdaolcnaaDoor
/-! Which registers are live: the walk of the program's search backwards. -/
namespace Go.Proofs.YtoehkjfdaolcnaaDoor
set_option linter.unusedVariables false
set_option maxRecDepth 20000
set_option linter.unusedSimpArgs false
open Go.RowKit Go.HeapKit

def fillF (k j : Nat) : Int := if j < k then (j : Int) else 0
theorem fill_put (n k : Nat) : (((List.range n).map (fun j => Value.int .i64 (fillF k j))).toArray.setIfInBounds k (.int .i64 (k : Int))) = ((List.range n).map (fun j => Value.int .i64 (fillF (k + 1) j))).toArray := by
  rw [range_setT]
  congr 1
  refine List.map_congr_left (fun j _ => ?_)
  unfold fillF
  by_cases e : j = k
  · subst e; simp
  · by_cases e2 : j < k
    · rw [if_neg e, if_pos e2, if_pos (by omega)]
    · rw [if_neg e, if_neg e2, if_neg (by omega)]
theorem fill_end (n : Nat) : (List.range n).map (fun j => Value.int .i64 (fillF n j)) = (natL (List.range n)).map (Value.int .i64) := by
  unfold natL
  rw [List.map_map]
  refine List.map_congr_left (fun j hj => ?_)
  unfold fillF
  rw [if_pos (List.mem_range.1 hj)]
  rfl
theorem lv_start {fs : List Fn} {code : List Ins} {n : Nat} (hn : n = code.length) : LvIn fs code (tb (fun _ => 0)) (List.range n) := by
  refine ⟨fun e r _ _ hb => ?_, fun k e i j hk _ _ ho => ?_⟩
  · unfold tb at hb
    rw [Nat.zero_testBit] at hb
    cases hb
  · exact absurd (List.mem_range.2 (by have := (List.getElem?_eq_some_iff.1 hk).1; omega)) ho
theorem bs_ex (S : Nat → Bool) : ∃ Z, Bs Z S := by
  have h : ∀ m, ∃ Z, Z < 2 ^ m ∧ ∀ r, r < m → Z.testBit r = S r := fun m => by
    induction m with
    | zero => exact ⟨0, by decide, fun r hr => absurd hr (by omega)⟩
    | succ m ih =>
      obtain ⟨Z, h1, h2⟩ := ih
      refine ⟨Z ||| (if S m then 2 ^ m else 0), ?_, fun r hr => ?_⟩
      · refine Nat.or_lt_two_pow (Nat.lt_of_lt_of_le h1 (Nat.pow_le_pow_right (by decide) (by omega))) ?_
        split
        · exact Nat.pow_lt_pow_right (by decide) (by omega)
        · exact Nat.two_pow_pos _
      · rw [Nat.testBit_or]
        by_cases e : r = m
        · subst e
          rw [Nat.testBit_lt_two_pow h1]
          split
          · rename_i hs
            rw [Nat.testBit_two_pow_self, hs]
            rfl
          · rename_i hs
            rw [Nat.zero_testBit]
            simpa using hs
        · rw [h2 r (by omega)]
          split
          · rw [Nat.testBit_two_pow]
            have : ¬ m = r := fun e2 => e e2.symm
            simp [this]
          · rw [Nat.zero_testBit, Bool.or_false]
  obtain ⟨Z, h1, h2⟩ := h 16
  exact ⟨Z, by omega, h2⟩
set_option maxHeartbeats 8000000 in
theorem live_ok (ca : Option Addr) (n cc : Nat) (code : List Ins) (fa : Option Addr) (fn fc : Nat) (fs : List Fn) (w : World) (hC : SeenI w ca n code) (hF : SeenF w fa fn fs) (hG : Gd code) (hR : ∀ i ∈ code, RegOk fs i) :
    Calls Tryd.prog 30 #[.slice ca n cc, .slice fa fn fc] w fun e w' => ∃ g bs, e = .returned (.slice (some ⟨g, 0, none⟩) n n) ∧ RegsAt w' g n bs ∧ (∀ k, k < n → bs k < 65536) ∧ (∀ k r, k < n → r < 16 → (tb bs k r = true ↔ Bh fs code r k)) ∧ Keeps None w w' ∧ w.heap.size ≤ g := by
  have hl := hC.len
  have h1 := hG.n1
  have h2 := hG.n2
  have hn : n ≤ 512 := by omega
  have hn1 : 1 ≤ n := by omega
  have hmk := make_regs n w (by omega)
  have hst : RegsAt (w.alloc (.cells ((List.range n).map (fun _ => Value.int .u16 0)).toArray 60)) w.heap.size n (fun _ => 0) := heap_alloc_new w _
  have kA := Keeps.alloc None w (.cells ((List.range n).map (fun _ => Value.int .u16 0)).toArray 60)
  obtain ⟨W, hW⟩ : ∃ W, W = w.alloc (.cells ((List.range n).map (fun _ => Value.int .u16 0)).toArray 60) := ⟨_, rfl⟩
  obtain ⟨G, hGG⟩ : ∃ G, G = w.heap.size := ⟨_, rfl⟩
  rw [← hW] at hmk hst kA
  rw [← hGG] at hmk hst
  have hcm := comers_ok ca n cc code W (hC.more kA) hG
  have HC : Hid (SeenI w ca n code ∧ SeenF w fa fn fs ∧ Gd code ∧ n = code.length ∧ (∀ i ∈ code, RegOk fs i) ∧ G = w.heap.size) := ⟨hC, hF, hG, hl, hR, hGG⟩
  have H0 : Hid (RegsAt W G n (fun _ => 0) ∧ Keeps None w W) := ⟨hst, kA⟩
  clear hC hF hG hl h1 h2 hst kA hW hGG hR
  go_enter Tryd.func30, Tryd.ntmps30
  go_upto_region 3 with (first | (at_make; refine wpList_make_run rfl (.tmp 14) (.tmp 14) 57 rfl rfl rfl hmk ?_) | (go_at_call 48; refine Calls.mono hcm ?_; rintro _ w1 ⟨F, vs, rfl, hL1, hk1⟩; have H1 : Hid (IsLT w1 W.heap.size F n vs (fun q => cmr code q n) ∧ Keeps None W w1) := ⟨hL1, hk1⟩; clear hL1 hk1))
  clear hmk hcm
  have hmk := make_intsT n w1 (by omega)
  have kB := Keeps.alloc None w1 (.cells ((List.range n).map (fun _ => Value.int .i64 0)).toArray 3)
  have bB := heap_alloc_new w1 (.cells ((List.range n).map (fun _ => Value.int .i64 0)).toArray 3)
  obtain ⟨W2, hW2⟩ : ∃ W2, W2 = w1.alloc (.cells ((List.range n).map (fun _ => Value.int .i64 0)).toArray 3) := ⟨_, rfl⟩
  obtain ⟨S0, hS0⟩ : ∃ S0, S0 = w1.heap.size := ⟨_, rfl⟩
  rw [← hW2] at hmk kB bB
  rw [← hS0] at hmk bB
  have H2 : Hid (W2.heap[S0]? = some (.cells ((List.range n).map (fun j => Value.int .i64 (fillF 0 j))).toArray 3 (0, 0)) ∧ IsLT W2 W.heap.size F n vs (fun q => cmr code q n) ∧ RegsAt W2 G n (fun _ => 0) ∧ Keeps None w W2 ∧ S0 = w1.heap.size ∧ (F < S0 ∧ ∀ q b, q < n → (vs q).ownBlock = some b → b < S0) ∧ w.heap.size ≤ S0 ∧ G < S0) := by
    refine ⟨bB, H1.out.1.more kB, blk_kept (blk_kept H0.out.1 H1.out.2 (fun f => f)) kB (fun f => f), (H0.out.2.trans H1.out.2 (fun _ f _ => f)).trans kB (fun _ f _ => f), hS0, ⟨?_, fun q b hq e => ?_⟩, ?_, ?_⟩
    · have := blk_lt H1.out.1.outer; omega
    · have := own_lt (H1.out.1.rows q hq) e; omega
    · have := H0.out.2.size; have := H1.out.2.size; omega
    · have := blk_lt (blk_kept H0.out.1 H1.out.2 (fun f => f)); omega
  clear kB bB hW2 hS0 H0 H1
  go_upto_block 0 with (at_make; refine wpList_make_run rfl (.tmp 19) (.tmp 19) 56 rfl rfl rfl hmk ?_)
  clear hmk
  go_wp2_with fail
  go_loopw [23] (fun s23 wr => ∃ k : Nat, k ≤ n ∧ s23 = .int .i64 k ∧ wr.heap[S0]? = some (.cells ((List.range n).map (fun j => Value.int .i64 (fillF k j))).toArray 3 (0, 0)) ∧ Keeps (· = S0) W2 wr) (fun i _ => n - (intOf i).toNat)
  case atStart => exact ⟨0, Nat.zero_le _, rfl, H2.out.1, Keeps.refl _ _⟩
  case round =>
    obtain ⟨k, hk, rfl, hbl, hkp⟩ := hrel
    by_cases hkn : k < n
    · have i1 : (k : Int) < (n : Int) := by omega
      have c0 : wr.cell? ⟨S0, k, none⟩ = some (.int .i64 (fillF k k)) := by rw [blk_cell hbl, range_atT n k _ hkn]
      have f0 := blk_free hbl k
      have HN : Hid ((wr.setCell ⟨S0, k, none⟩ (.int .i64 (k : Int))).heap[S0]? = some (.cells ((List.range n).map (fun j => Value.int .i64 (fillF (k + 1) j))).toArray 3 (0, 0)) ∧ Keeps (· = S0) W2 (wr.setCell ⟨S0, k, none⟩ (.int .i64 (k : Int)))) := by
        refine ⟨?_, hkp.trans (Keeps.setCell (S := (· = S0)) wr (a := ⟨S0, k, none⟩) rfl _) (fun _ e _ => e)⟩
        rw [blk_set hbl, fill_put]
      clear hbl hkp
      generalize fillF k k = fk at *
      go_wp2_with fail
      go_roundw
      case rel => exact ⟨k + 1, by omega, by go_num, HN.out⟩
      case measure => simp [intOf]; omega
    · have hkn2 : k = n := by omega
      have i1 : ¬ (k : Int) < (n : Int) := by omega
      rw [hkn2] at hbl
      have H3 : Hid (LvAt w wr fs code n G W.heap.size F S0 vs (fun _ => 0) (List.range n) (.slice (some ⟨S0, 0, none⟩) n n)) := by
        obtain ⟨_, a2, a3, a4, a5, a6, a7, a8⟩ := H2.out
        have hnl : (natL (List.range n)).length = n := by simp [natL]
        have hop : OwnL wr S0 (.slice (some ⟨S0, 0, none⟩) n n) (natL (List.range n)) := by
          unfold OwnL
          rw [hnl]
          refine ⟨by simp [natL], .inr ⟨S0, n, _, rfl, Nat.le_refl _, hbl, Nat.le_refl _, by unfold maxLen; omega, by simp, ?_⟩⟩
          rw [fill_end, List.take_of_length_le (by simp [natL])]
        exact ⟨lv_start HC.out.2.2.2.1, fun _ _ => by decide, fun q hq => List.mem_range.1 hq, blk_kept a3 hkp (by omega), a2.kept hkp (by omega) (fun q b hq e e2 => by have := a6.2 q b hq e; omega), a6, hop, a4.trans hkp (fun i e hi => by omega), by have := blk_lt hbl; omega, by have := HC.out.2.2.2.2.2; omega, a7⟩
      clear hbl hkp H2 hkn2
      obtain ⟨n₀, hn₀⟩ : ∃ n₀ : Nat, n₀ = 2 * unB n (tb (fun _ => 0)) + n := ⟨_, rfl⟩
      have HN : Hid (n₀ = 2 * unB n (tb (fun _ => 0)) + n) := hn₀
      clear hn₀
      obtain ⟨B1, hB1⟩ : ∃ B1, B1 = W.heap.size := ⟨_, rfl⟩
      rw [← hB1] at H3
      clear hB1
      go_upto_block 2 with fail
      go_wp2_with fail
      go_loopg [7] n₀ (fun gk s7 wy => ∃ (bs : Nat → Nat) (op : List Nat), gk = 2 * unB n (tb bs) + op.length ∧ gk ≤ 33 * n ∧ LvAt w wy fs code n G B1 F S0 vs bs op s7)
      case atStart => exact ⟨_, _, by rw [HN.out]; simp, by rw [HN.out]; have := unB_le n (tb (fun _ => 0)); omega, H3.out⟩
      case round =>
        clear H3 HN
        obtain ⟨bs, op, hgk, hgk2, hlv⟩ := hrel
        rcases List.eq_nil_or_concat op with e | ⟨op0, q, e⟩
        · subst e
          obtain ⟨oa, oc, rfl⟩ := row_shapeT hlv.opn
          have HF : Hid (RegsAt wr G n bs ∧ (∀ k, k < n → bs k < 65536) ∧ (∀ k r, k < n → r < 16 → (tb bs k r = true ↔ Bh fs code r k)) ∧ Keeps None w wr ∧ w.heap.size ≤ G) := ⟨hlv.regs, hlv.lt, fun k r hk hr => hlv.inv.exact (by have := HC.out.2.2.2.1; omega) hr, hlv.keep, hlv.wG⟩
          clear hlv
          simp only [natL, List.map_nil, List.length_nil]
          go_wp2_with fail
          go_ret
          exact ⟨G, bs, rfl, HF.out⟩
        · rw [List.concat_eq_append] at e
          subst e
          have hqn := hlv.ops q (by simp)
          obtain ⟨b, off, i, rfl, hi, hat⟩ := (HC.out.1.more hlv.keep).at hqn
          have hop := hlv.opn
          rw [natL_app] at hop
          obtain ⟨og, oc, rfl, y9, hoc, hop2⟩ := own_pop hop
          obtain ⟨N0, hN0⟩ : ∃ N0, N0 = (natL op0).length := ⟨_, rfl⟩
          rw [← hN0] at y9 hoc hop2 ⊢
          have hN0b : N0 ≤ 20000 := by
            rw [natL_len] at hN0
            simp at hgk
            omega
          obtain ⟨y0, y1, y2, y3, y4⟩ := hat
          have iq : (q : Int) < (n : Int) := by omega
          have cG := hlv.regs.cell hqn
          obtain ⟨X, hX⟩ : ∃ X, X = bs q := ⟨_, rfl⟩
          rw [← hX] at cG
          have hro := HC.out.2.2.2.2.1 i (List.mem_of_getElem? hi)
          obtain ⟨Zr, hbr⟩ := bs_ex (rdS fs i)
          obtain ⟨Zw, hbw⟩ := bs_ex (wrS i)
          have hbX : Bs X (tb bs q) := by rw [hX]; exact tb_bs (hlv.lt q hqn)
          obtain ⟨Z2, hnot, hb2⟩ := bs_not hbX hbw
          obtain ⟨Z, hor, hb3⟩ := bs_or hbr hb2
          have HRD : Hid (∀ w', Keeps None wr w' → Calls Tryd.prog 49 #[.agg #[.int .i64 i.kind, .int .i64 i.a, .int .i64 i.b, .int .i64 i.c, .int .i64 i.k], .slice fa fn fc] w' fun e w'' => e = .returned (.int .u16 (Zr : Int)) ∧ Keeps None wr w'') := fun w' hk => (reads_ok fa fn fc fs i w' (HC.out.2.1.more (hlv.keep.trans hk (fun _ f _ => f))) hro).mono fun e w'' hp => by
            obtain ⟨Z', rfl, hb, hk2⟩ := hp
            rw [bs_eq hb hbr]
            exact ⟨rfl, hk.trans hk2 (fun _ f _ => f)⟩
          have HWR : Hid (∀ w', Keeps None wr w' → Calls Tryd.prog 50 #[.agg #[.int .i64 i.kind, .int .i64 i.a, .int .i64 i.b, .int .i64 i.c, .int .i64 i.k]] w' fun e w'' => e = .returned (.int .u16 (Zw : Int)) ∧ Keeps None wr w'') := fun w' hk => (writes_ok fs i w' hro).mono fun e w'' hp => by
            obtain ⟨Z', rfl, hb, hk2⟩ := hp
            rw [bs_eq hb hbw]
            exact ⟨rfl, hk.trans hk2 (fun _ f _ => f)⟩
          have hA := ahd_set hbr hbw hb2 hb3
          have HD : Hid (LvNow w wr fs code n G B1 F S0 vs q i Z [] bs op0 (.slice (some ⟨og, 0, none⟩) N0 oc) ∧ code[q]? = some i ∧ Z < 65536 ∧ gk = 2 * unB n (tb bs) + op0.length + 1 ∧ gk ≤ 33 * n) := by
            refine ⟨⟨LvMid.start hlv.inv hi hA, hlv.lt, fun k hk => hlv.ops k (List.mem_append_left _ hk), hlv.regs, hlv.from', hlv.low, hop2, hlv.keep, hlv.size, hlv.wG, hlv.wS⟩, hi, hb3.lt, by simp at hgk; omega, hgk2⟩
          have HSA : Hid (∀ w', Keeps None wr w' → w'.cell? ⟨b, off + q * 5, none⟩ = some (.int .i64 i.kind) ∧ w'.cell? ⟨b, off + q * 5 + 1, none⟩ = some (.int .i64 i.a) ∧ w'.cell? ⟨b, off + q * 5 + 2, none⟩ = some (.int .i64 i.b) ∧ w'.cell? ⟨b, off + q * 5 + 3, none⟩ = some (.int .i64 i.c) ∧ w'.cell? ⟨b, off + q * 5 + 4, none⟩ = some (.int .i64 i.k) ∧ w'.cell? ⟨G, q, none⟩ = some (.int .u16 (X : Int))) := fun w' hk => ⟨hk.cell y0 (fun f => f), hk.cell y1 (fun f => f), hk.cell y2 (fun f => f), hk.cell y3 (fun f => f), hk.cell y4 (fun f => f), hk.cell cG (fun f => f)⟩
          clear hop hop2 hgk hgk2 hlv hro hbr hbw hbX hb2 hb3 hA hN0 hX hi
          go_upto_region 12 with fail
          go_cut [10] (fun s10 wx => s10 = .int .u16 (Z : Int) ∧ Keeps None wr wx)
          case first =>
            go_region_held3 (fun w' => w'.cell? ⟨b, off + q * 5, none⟩ = some (.int .i64 i.kind) ∧ w'.cell? ⟨b, off + q * 5 + 1, none⟩ = some (.int .i64 i.a) ∧ w'.cell? ⟨b, off + q * 5 + 2, none⟩ = some (.int .i64 i.b) ∧ w'.cell? ⟨b, off + q * 5 + 3, none⟩ = some (.int .i64 i.c) ∧ w'.cell? ⟨b, off + q * 5 + 4, none⟩ = some (.int .i64 i.k) ∧ w'.cell? ⟨G, q, none⟩ = some (.int .u16 (X : Int))) (first | exact hs6 | exact hs5 | go_keep) (first | (go_at_call 49; refine Calls.mono (HRD.out _ (by first | exact hk6 | exact Keeps.drew None _)) ?_; rintro _ w5 ⟨rfl, hk5⟩; have hs5 := HSA.out _ hk5) | (go_at_call 50; refine Calls.mono (HWR.out _ (by first | exact hk5 | exact Keeps.drew None _)) ?_; rintro _ w6 ⟨rfl, hk6⟩; have hs6 := HSA.out _ hk6))
            all_goals (go_wp2_with fail; go_meet)
            all_goals (first | exact ⟨rfl, hk6⟩ | exact ⟨rfl, hk5⟩)
          case rest =>
            obtain ⟨rfl, hkc⟩ := hcut
            obtain ⟨fa', fc', hvq⟩ := row_shapeT (HD.out.1.from'.rows q hqn)
            obtain ⟨L, hLe⟩ : ∃ L, L = cmr code q n := ⟨_, rfl⟩
            obtain ⟨N, hN⟩ : ∃ N, N = L.length := ⟨_, rfl⟩
            rw [← hLe, ← hN] at hvq
            have hNb : N ≤ 2000 := by
              rw [hN, hLe]
              have := cmr_len code q n
              omega
            have cF : wc.cell? ⟨F, q, none⟩ = some (.slice fa' N fc') := by rw [← hvq]; exact (HD.out.1.more hkc).from'.at hqn
            have HQ : Hid (vs q = .slice fa' N fc' ∧ L = cmr code q n ∧ N = L.length ∧ code[q]? = some i ∧ Z < 65536 ∧ gk ≤ 33 * n) := ⟨hvq, hLe, hN, HD.out.2.1, HD.out.2.2.1, HD.out.2.2.2.2⟩
            obtain ⟨gk0, hgk0⟩ : ∃ gk0, gk0 = gk := ⟨_, rfl⟩
            have H5 : Hid (LvNow w wc fs code n G B1 F S0 vs q i Z [] bs op0 (.slice (some ⟨og, 0, none⟩) N0 oc) ∧ 2 * unB n (tb bs) + op0.length + 1 ≤ gk0) := ⟨HD.out.1.more hkc, by have := HD.out.2.2.2.1; omega⟩
            have HGK : Hid (gk0 ≤ 33 * n ∧ gk0 = gk) := ⟨by have := HD.out.2.2.2.2; omega, hgk0⟩
            clear y0 y1 y2 y3 y4 y9 cG HRD HWR HD HSA hkc hvq hLe hN hnot hor hgk0
            go_upto_block 4 with fail
            obtain ⟨n₁, hn₁⟩ : ∃ n₁ : Nat, n₁ = N := ⟨_, rfl⟩
            have HN1 : Hid (n₁ = N) := hn₁
            clear hn₁
            go_wp2_with fail
            go_loopg [7, 67] n₁ (fun gj s7 s67 w3 => ∃ (j : Nat) (bs' : Nat → Nat) (op' : List Nat), gj + j = N ∧ s67 = .int .i64 j ∧ LvNow w w3 fs code n G B1 F S0 vs q i Z (L.take j) bs' op' s7 ∧ 2 * unB n (tb bs') + op'.length + 1 ≤ gk0)
            case atStart => exact ⟨0, bs, op0, HN1.out, rfl, H5.out⟩
            case round =>
              clear HN1 H5 cF
              obtain ⟨j, bs', op', hj, rfl, hnow, hms⟩ := hrel
              obtain ⟨sa, sc, rfl⟩ := row_shapeT hnow.opn
              have hopl : op'.length ≤ 20000 := by have := HGK.out; omega
              obtain ⟨P, hP⟩ : ∃ P, P = (natL op').length := ⟨_, rfl⟩
              have hPb : P ≤ 20000 := by rw [hP, natL_len]; exact hopl
              rw [← hP] at hnow ⊢
              by_cases hjN : j < N
              · have i5 : (j : Int) < (N : Int) := by omega
                obtain ⟨z, hz⟩ : ∃ z, L[j]? = some z := ⟨L[j]'(by have := HQ.out.2.2.1; omega), by simp⟩
                obtain ⟨e, je, rfl, hen, hje, hqe⟩ := cmr_mem.1 (by rw [← HQ.out.2.1]; exact List.mem_of_getElem? hz : z ∈ cmr code q n)
                have hrow : OwnL wr B1 (vs q) L := by
                  have := hnow.from'.rows q hqn
                  rw [← HQ.out.2.1] at this
                  exact this
                rw [HQ.out.1] at hrow
                obtain ⟨g2, c2', e2, hb2, hlt2, y0⟩ := own_elem hrow hz
                injection e2 with e2 e2b e2c
                subst e2
                clear e2b e2c
                have i6 : (e : Int) < (n : Int) := by omega
                have m0 := hnow.regs.cell hen
                obtain ⟨Y, hY⟩ : ∃ Y, Y = bs' e := ⟨_, rfl⟩
                rw [← hY] at m0
                have hbY : Bs Y (tb bs' e) := by rw [hY]; exact tb_bs (hnow.lt e hen)
                have hbZ : Bs Z (fun r => Z.testBit r) := ⟨HQ.out.2.2.2.2.1, fun r _ => rfl⟩
                obtain ⟨Zn, hnot, hbn⟩ := bs_not hbZ hbY
                have htk : L.take (j + 1) = L.take j ++ [(e : Int)] := by rw [List.take_add_one, hz]; rfl
                by_cases h0 : Zn = 0
                · have HF : Hid (LvNow w wr fs code n G B1 F S0 vs q i Z (L.take (j + 1)) bs' op' (.slice sa P sc) ∧ 2 * unB n (tb bs') + op'.length + 1 ≤ gk0) := ⟨by rw [htk]; exact hnow.skip HQ.out.2.2.2.2.1 hbn h0, hms⟩
                  rw [h0] at hnot
                  clear hnow hms hz hje hqe hrow hbY hbZ hbn htk hY h0 hP
                  go_wp2_with fail
                  go_roundg (gk - 1)
                  case measure => omega
                  case rel => exact ⟨j + 1, bs', op', by omega, by go_num, HF.out⟩
                · obtain ⟨Zo, hor, hbo⟩ := bs_or hbY hbZ
                  have fz := blk_free hnow.regs e
                  have q0 : ((Zn : Int) != 0) = true := by simp; omega
                  have k4 : Keeps (· = G) wr (wr.setCell ⟨G, e, none⟩ (.int .u16 (Zo : Int))) := Keeps.setCell (S := (· = G)) wr (a := ⟨G, e, none⟩) rfl _
                  have b4 := hnow.regs.put e Zo
                  obtain ⟨W4, hW4⟩ : ∃ W4, W4 = wr.setCell ⟨G, e, none⟩ (.int .u16 (Zo : Int)) := ⟨_, rfl⟩
                  rw [← hW4] at k4 b4
                  have hnt : ∀ {base : Nat} {v : Value} {M : List Int}, OwnL wr base v M → v.ownBlock ≠ some G := fun h e => absurd (own_type h e hnow.regs) (by decide)
                  have hop4 := row_keptT hnow.opn k4 (fun g e e3 => hnt hnow.opn (by rw [e, e3]))
                  have hFG : F ≠ G := fun e => by
                    have h9 := hnow.from'.outer
                    rw [e, hnow.regs] at h9
                    injection h9 with h9
                    injection h9 with _ h9
                    exact absurd h9 (by decide)
                  have hfr4 := hnow.from'.kept k4 hFG (fun k' b' hk' e e3 => hnt (hnow.from'.rows k' hk') (by rw [e, e3]))
                  have hs4 : W4.heap.size = wr.heap.size := by rw [hW4]; simp
                  obtain ⟨g5, c5, w5, hr, ho5, hk5, hm5⟩ := own_push (L := natL op') hop4 (e : Int) (by have := hnow.size; omega) (by rw [natL_len]; omega)
                  rw [← hP] at hr ho5
                  have hnt4 : (Value.slice sa P sc).ownBlock ≠ some G := fun e => absurd (own_type hop4 e b4) (by decide)
                  have HF : Hid (LvNow w w5 fs code n G B1 F S0 vs q i Z (L.take (j + 1)) (updT bs' e Zo) (op' ++ [e]) (.slice (some ⟨g5, 0, none⟩) (P + 1) c5) ∧ 2 * unB n (tb (updT bs' e Zo)) + (op' ++ [e]).length + 1 ≤ gk0) := by
                    refine ⟨?_, ?_⟩
                    · rw [htk]
                      refine hnow.put hen hje hqe hbo (blk_kept b4 hk5 hnt4) (hfr4.kept hk5 (fun e3 => ?_) (fun k' b' hk' e3 e4 => ?_)) (by rw [natL_app]; exact ho5) ((hnow.keep.trans k4 (fun i e hi => by have := hnow.wG; omega)).trans hk5 (fun i e hi => by have := row_lowT hop4 e; have := hnow.wS; omega)) (by have := hk5.size; have := hnow.size; omega)
                      · have := row_lowT hop4 e3
                        have := hnow.low.1
                        omega
                      · have h7 := row_lowT hop4 e4
                        have h8 := hnow.low.2 k' b' hk' e3
                        omega
                    · have := put_less hen hbn h0 hbo
                      simp
                      omega
                  clear hnow hms hz hje hqe hrow hbY hbZ hbn htk hY h0 hP k4 b4 hop4 hfr4 hs4 ho5 hk5 hm5 hnt hnt4 hbo hFG
                  go_upto_region 18 with fail
                  rw [← hW4]
                  clear hW4 m0 fz y0 q0 hnot hor
                  go_wp2_with (at_builtin; refine wpList_append_run rfl (.tmp 85) (.tmp 87) 56 56 rfl rfl rfl hr ?_)
                  go_roundg (gk - 1)
                  case measure => omega
                  case rel => exact ⟨j + 1, _, _, by omega, by go_num, HF.out⟩
              · have hjN2 : j = N := by omega
                have i5 : ¬ (j : Int) < (N : Int) := by omega
                have hall : L.take j = cmr code q n := by rw [List.take_of_length_le (by have := HQ.out.2.2.1; omega), HQ.out.2.1]
                have HF : Hid (LvAt w wr fs code n G B1 F S0 vs bs' op' (.slice sa P sc)) := by
                  rw [hall] at hnow
                  exact ⟨hnow.inv.stop HC.out.2.2.2.1 HQ.out.2.2.2.1, hnow.lt, hnow.ops, hnow.regs, hnow.from', hnow.low, hnow.opn, hnow.keep, hnow.size, hnow.wG, hnow.wS⟩
                have HM : Hid (2 * unB n (tb bs') + op'.length + 1 ≤ gk0) := hms
                clear hnow hms hall hP
                go_wp2_with fail
                go_roundg (2 * unB n (tb bs') + op'.length)
                case measure => have := HM.out; have := HGK.out; omega
                case rel => exact ⟨bs', op', rfl, by have := HM.out; have := HGK.out; omega, HF.out⟩
end Go.Proofs.YtoehkjfdaolcnaaDoor
/-! Jumps and branches; what may be taken out: the program's. -/
namespace Go.Proofs.YtoehkjfdaolcnaaDoor
set_option linter.unusedVariables false
set_option maxRecDepth 20000
set_option linter.unusedSimpArgs false
open Go.RowKit Go.HeapKit

def tgt (i : Ins) : Int := if i.kind = 3 then i.a else if i.kind = 4 then i.b else -1
def tgtP (i : Ins) (b o : Nat) : Option Addr := if i.kind = 3 then some ⟨b, o + 1, none⟩ else if i.kind = 4 then some ⟨b, o + 2, none⟩ else none
set_option maxHeartbeats 1000000 in
theorem target_ok (b o : Nat) (i : Ins) (w : World) (h : InsAt w b o i) : Calls Tryd.prog 62 #[.pointer (some ⟨b, o, none⟩)] w fun e w' => e = .returned (.pointer (tgtP i b o)) ∧ w' = w := by
  obtain ⟨y0, y1, y2, y3, y4⟩ := h
  unfold tgtP
  by_cases h3 : i.kind = 3
  · rw [if_pos h3]
    rw [h3] at y0
    clear h3
    go_enter Tryd.func62, Tryd.ntmps62
    go_wp2_with fail
    go_ret
    exact ⟨rfl, rfl⟩
  · rw [if_neg h3]
    have q3 : (i.kind == 3) = false := by simpa using h3
    by_cases h4 : i.kind = 4
    · rw [if_pos h4]
      rw [h4] at y0
      clear h3 h4 q3
      go_enter Tryd.func62, Tryd.ntmps62
      go_wp2_with fail
      go_ret
      exact ⟨rfl, rfl⟩
    · rw [if_neg h4]
      have q4 : (i.kind == 4) = false := by simpa using h4
      clear h3 h4
      go_enter Tryd.func62, Tryd.ntmps62
      go_wp2_with fail
      go_ret
      exact ⟨rfl, rfl⟩
set_option maxHeartbeats 1000000 in
theorem goesNext_ok (ca : Option Addr) (n cc : Nat) (code : List Ins) (k : Nat) (i : Ins) (w : World) (hC : SeenI w ca n code) (hi : code[k]? = some i) (hn : n ≤ 512) : Calls Tryd.prog 61 #[.slice ca n cc, .int .i64 (k : Int)] w fun e w' => e = .returned (.bool (decide (tgt i = (k : Int) + 1))) ∧ w' = w := by
  have hl := hC.len
  have hk := (List.getElem?_eq_some_iff.1 hi).1
  obtain ⟨b, off, i', rfl, hi', hat⟩ := hC.at (show k < n by omega)
  rw [hi] at hi'
  injection hi' with hi'
  subst hi'
  have htg := target_ok b (off + k * 5) i w hat
  have HT : Hid _ := htg
  obtain ⟨y0, y1, y2, y3, y4⟩ := hat
  have i1 : (k : Int) < (n : Int) := by omega
  have hk2 : k ≤ 512 := by omega
  clear htg hC hi hl hk
  unfold tgtP at HT
  unfold tgt
  by_cases h3 : i.kind = 3
  · rw [if_pos h3] at HT ⊢
    obtain ⟨g, hg⟩ : ∃ g : Bool, g = (i.a == (k : Int) + 1) := ⟨_, rfl⟩
    have e1 : decide (i.a = (k : Int) + 1) = g := by rw [hg]; rfl
    rw [e1]
    have hg' : (i.a == (k : Int) + 1) = g := hg.symm
    clear h3 e1 hg
    go_enter Tryd.func61, Tryd.ntmps61
    go_wp2_with (go_at_call 62; refine Calls.mono HT.out ?_; rintro _ w5 ⟨rfl, hw5⟩; have hw5' := hw5.symm; subst hw5'; clear hw5)
    go_ret
    exact ⟨by simp [hg'], rfl⟩
  · rw [if_neg h3] at HT ⊢
    by_cases h4 : i.kind = 4
    · rw [if_pos h4] at HT ⊢
      obtain ⟨g, hg⟩ : ∃ g : Bool, g = (i.b == (k : Int) + 1) := ⟨_, rfl⟩
      have e1 : decide (i.b = (k : Int) + 1) = g := by rw [hg]; rfl
      rw [e1]
      have hg' : (i.b == (k : Int) + 1) = g := hg.symm
      clear h3 h4 e1 hg
      go_enter Tryd.func61, Tryd.ntmps61
      go_wp2_with (go_at_call 62; refine Calls.mono HT.out ?_; rintro _ w5 ⟨rfl, hw5⟩; have hw5' := hw5.symm; subst hw5'; clear hw5)
      go_ret
      exact ⟨by simp [hg'], rfl⟩
    · rw [if_neg h4] at HT ⊢
      have e1 : decide ((-1 : Int) = (k : Int) + 1) = false := decide_eq_false (by omega)
      rw [e1]
      clear h3 h4 e1
      go_enter Tryd.func61, Tryd.ntmps61
      go_wp2_with (go_at_call 62; refine Calls.mono HT.out ?_; rintro _ w5 ⟨rfl, hw5⟩; have hw5' := hw5.symm; subst hw5'; clear hw5)
      go_ret
      exact ⟨rfl, rfl⟩
set_option maxHeartbeats 1000000 in
theorem sendsOn_ok (ca : Option Addr) (n cc : Nat) (code : List Ins) (k : Nat) (i : Ins) (w : World) (hC : SeenI w ca n code) (hi : code[k]? = some i) : Calls Tryd.prog 63 #[.slice ca n cc, .int .i64 (k : Int)] w fun e w' => e = .returned (.bool (decide (i.kind = 3 ∧ i.a ≠ (k : Int)))) ∧ w' = w := by
  have hl := hC.len
  have hk := (List.getElem?_eq_some_iff.1 hi).1
  obtain ⟨b, off, i', rfl, hi', hat⟩ := hC.at (show k < n by omega)
  rw [hi] at hi'
  injection hi' with hi'
  subst hi'
  obtain ⟨y0, y1, y2, y3, y4⟩ := hat
  have i1 : (k : Int) < (n : Int) := by omega
  obtain ⟨R, hR⟩ : ∃ R, R = decide (i.kind = 3 ∧ i.a ≠ (k : Int)) := ⟨_, rfl⟩
  have HR : Hid (R = decide (i.kind = 3 ∧ i.a ≠ (k : Int))) := hR
  rw [← hR]
  clear hC hi hl hk hR
  by_cases h3 : i.kind = 3
  · by_cases ha : i.a = (k : Int)
    · have HF : Hid (R = false) := by unfold Hid; rw [HR.out]; simp [ha]
      rw [h3] at y0
      rw [ha] at y1
      clear h3 ha HR
      go_enter Tryd.func63, Tryd.ntmps63
      go_wp2_with fail
      go_ret
      exact ⟨by rw [HF.out]; rfl, rfl⟩
    · have HF : Hid (R = true) := by unfold Hid; rw [HR.out]; simp [h3, ha]
      have q1 : (i.a != (k : Int)) = true := by simpa using ha
      rw [h3] at y0
      clear h3 ha HR
      go_enter Tryd.func63, Tryd.ntmps63
      go_wp2_with fail
      go_ret
      exact ⟨by rw [HF.out]; rfl, rfl⟩
  · have HF : Hid (R = false) := by unfold Hid; rw [HR.out]; simp [h3]
    have q1 : (i.kind == 3) = false := by simpa using h3
    clear h3 HR
    go_enter Tryd.func63, Tryd.ntmps63
    go_wp2_with fail
    go_ret
    exact ⟨by rw [HF.out]; rfl, rfl⟩
end Go.Proofs.YtoehkjfdaolcnaaDoor
