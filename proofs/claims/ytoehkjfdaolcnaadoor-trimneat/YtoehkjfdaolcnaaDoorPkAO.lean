import Derived.Test.YtoehkjfdaolcnaaDoorPkAN
import Derived.Test.YtoehkjfdaolcnaaDoorPkAI
import Derived.Test.YtoehkjfdaolcnaaDoorPkAC
/-! To which places a path leads: the document's search. -/
namespace Go.Proofs.YtoehkjfdaolcnaaDoor
set_option linter.unusedVariables false
set_option maxRecDepth 20000
set_option linter.unusedSimpArgs false
open Go.RowKit Go.HeapKit

set_option maxHeartbeats 8000000 in
theorem comeTo_ok (ca : Option Addr) (n cc : Nat) (code : List Ins) (w : World) (hC : SeenI w ca n code) (hG : Gd code) :
    Calls Tryd.prog 21 #[.slice ca n cc] w fun e w' => ∃ g met, e = .returned (.slice (some ⟨g, 0, none⟩) n n) ∧ BoolsAt w' g n met ∧ (∀ k, met k = true ↔ Rc code k) ∧ Keeps None w w' ∧ w.heap.size ≤ g := by
  have hl := hC.len
  have h1 := hG.n1
  have h2 := hG.n2
  have hmk := make_boolsT n w (by omega)
  have HC : Hid (SeenI w ca n code ∧ Gd code ∧ n = code.length) := ⟨hC, hG, hl⟩
  have hst : BoolsAt (w.alloc (.cells ((List.range n).map (fun _ => Value.bool false)).toArray 4)) w.heap.size n (fun _ => false) := heap_alloc_new w _
  have kA := Keeps.alloc None w (.cells ((List.range n).map (fun _ => Value.bool false)).toArray 4)
  obtain ⟨W, hW⟩ : ∃ W, W = w.alloc (.cells ((List.range n).map (fun _ => Value.bool false)).toArray 4) := ⟨_, rfl⟩
  obtain ⟨G, hGG⟩ : ∃ G, G = w.heap.size := ⟨_, rfl⟩
  rw [← hW] at hmk hst kA
  rw [← hGG] at hmk hst
  have hGlt : G < W.heap.size := blk_lt hst
  have hn : n ≤ 512 := by omega
  have hn1 : 1 ≤ n := by omega
  have kB := Keeps.alloc None W (.cells #[.int .i64 0] 3)
  have oB := own_one (w := W) (base := W.heap.size) (a := 0) (Nat.le_refl _)
  obtain ⟨W2, hW2⟩ : ∃ W2, W2 = W.alloc (.cells #[.int .i64 0] 3) := ⟨_, rfl⟩
  rw [← hW2] at kB oB
  obtain ⟨S0, hS0⟩ : ∃ S0, S0 = W.heap.size := ⟨_, rfl⟩
  rw [← hS0] at oB
  have H1 : Hid (BoolsAt W2 G n (fun _ => false) ∧ Keeps None w W2 ∧ OwnL W2 S0 (.slice (some ⟨S0, 0, none⟩) 1 1) (natL [0]) ∧ G < S0 ∧ w.heap.size ≤ G ∧ Cm n (exN code) [0] (fun _ => false) [0] ∧ S0 ≤ W2.heap.size) := ⟨blk_kept hst kB (fun f => f), kA.trans kB (fun _ f _ => f), oB, by omega, by omega, Cm.begin (fun k hk => by rw [List.mem_singleton] at hk; omega), by have := kB.size; omega⟩
  clear hC hG hl h1 h2 hst kA kB oB hGlt hW hGG
  go_enter Tryd.func21, Tryd.ntmps21
  go_upto_block 0 with (at_make; refine wpList_make_run rfl (.tmp 7) (.tmp 7) 44 rfl rfl rfl hmk ?_)
  rw [← hW2, ← hS0]
  clear hmk hW2 hS0
  obtain ⟨n₀, hn₀⟩ : ∃ n₀ : Nat, n₀ = 4 * unM n (fun _ => false) + 1 := ⟨_, rfl⟩
  have HN : Hid (n₀ = 4 * unM n (fun _ => false) + 1) := hn₀
  clear hn₀
  go_wp2_with fail
  go_loopg [4] n₀ (fun gk s4 wr => ∃ (met : Nat → Bool) (op : List Nat), gk = 4 * unM n met + op.length ∧ gk ≤ 4 * n + 1 ∧ Cm n (exN code) [0] met op ∧ OwnL wr S0 s4 (natL op) ∧ BoolsAt wr G n met ∧ Keeps None w wr ∧ S0 ≤ wr.heap.size)
  case atStart => exact ⟨_, [0], HN.out, by rw [HN.out]; have := unM_le n (fun _ => false); omega, H1.out.2.2.2.2.2.1, H1.out.2.2.1, H1.out.1, H1.out.2.1, H1.out.2.2.2.2.2.2⟩
  case round =>
    have HX : Hid (G < S0 ∧ w.heap.size ≤ G) := ⟨H1.out.2.2.2.1, H1.out.2.2.2.2.1⟩
    clear HN H1
    obtain ⟨met, op, hgk, hgk2, hcm, hop, hbo, hkp, hS0⟩ := hrel
    cases op with
    | nil =>
      obtain ⟨oa, oc, rfl⟩ := row_shapeT hop
      have HF : Hid (BoolsAt wr G n met ∧ (∀ k, met k = true ↔ Rc code k) ∧ Keeps None w wr) := ⟨hbo, fun k => (hcm.full k).trans (rx_rc HC.out.2.1 k), hkp⟩
      clear hcm hop hbo hkp
      simp only [natL, List.map_nil, List.length_nil]
      go_wp2_with fail
      go_ret
      exact ⟨G, met, rfl, HF.out.1, HF.out.2.1, HF.out.2.2, HX.out.2⟩
    | cons k op =>
      obtain ⟨hkn, hkr⟩ := hcm.opn k (by simp)
      obtain ⟨og, oc, rfl, hog, hoglt, y9⟩ := own_elem hop (k := 0) (z := (k : Int)) (by simp [natL])
      have hopl : (natL (k :: op)).length = op.length + 1 := by simp [natL]
      rw [hopl] at hop ⊢
      obtain ⟨P, hP⟩ : ∃ P, P = op.length := ⟨_, rfl⟩
      rw [← hP] at hop ⊢
      have hPb : P ≤ 3000 := by simp at hgk; omega
      have hcl : natL (k :: op) = (k : Int) :: natL op := rfl
      rw [hcl] at hop
      obtain ⟨g2, c2, w2, hr2, ho2, hk2⟩ := own_rest hop (by rw [natL_len]; exact hP) hS0 (by rw [natL_len]; omega)
      have hb2 : BoolsAt w2 G n met := blk_kept hbo hk2 (fun f => f)
      have m0 := hb2.cell hkn
      have fz := blk_free hb2 k
      have i1 : (k : Int) < (n : Int) := by omega
      have hoc : P + 1 ≤ oc := by
        rcases hop.2 with ⟨h, _⟩ | ⟨_, _, _, e, _, _, hh, _⟩
        · cases h
        · injection e with _ e1 e2
          subst e2
          simp [natL_len] at hh
          omega
      have HP : Hid (P = op.length ∧ gk = 4 * unM n met + (op.length + 1) ∧ gk ≤ 4 * n + 1) := ⟨hP, by simpa using hgk, hgk2⟩
      have H2 : Hid (OwnL w2 S0 (.slice (some ⟨g2, 0, none⟩) P c2) (natL op) ∧ Keeps None w w2 ∧ BoolsAt w2 G n met ∧ S0 ≤ w2.heap.size ∧ Cm n (exN code) [0] met (k :: op)) := ⟨ho2, hkp.trans hk2 (fun _ f _ => f), hb2, by have := hk2.size; omega, hcm⟩
      clear hP hop ho2 hk2 hbo hb2 hkp hS0 hcm hgk hgk2 hopl hcl hkr hog hoglt
      go_upto_region 6 with (at_builtin; refine wpList_append_run rfl (.tmp 16) (.tmp 18) 56 56 rfl rfl rfl hr2 ?_)
      clear hr2 y9
      generalize (if oc = 1 then some (⟨og, 0, none⟩ : Addr) else some ⟨og, 1, none⟩) = a18
      cases hmt : met k with
      | true =>
        rw [hmt] at m0
        have HF : Hid (Cm n (exN code) [0] met op) := H2.out.2.2.2.2.skip hmt
        clear hmt
        go_wp2_with fail
        go_roundg (gk - 1)
        case measure => have := HP.out; omega
        case rel => exact ⟨met, op, by have := HP.out; omega, by have := HP.out; omega, HF.out, H2.out.1, H2.out.2.2.1, H2.out.2.1, H2.out.2.2.2.1⟩
      | false =>
        rw [hmt] at m0
        obtain ⟨i, hi⟩ : ∃ i, code[k]? = some i := ⟨code[k]'(by have := HC.out.2.2; omega), by simp⟩
        have k4 : Keeps (· = G) w2 (w2.setCell ⟨G, k, none⟩ (.bool true)) := Keeps.setCell (S := (· = G)) w2 (a := ⟨G, k, none⟩) rfl _
        have b4 := H2.out.2.2.1.put k true
        obtain ⟨W4, hW4⟩ : ∃ W4, W4 = w2.setCell ⟨G, k, none⟩ (.bool true) := ⟨_, rfl⟩
        rw [← hW4] at k4 b4
        have hs4 : W4.heap.size = w2.heap.size := by rw [hW4]; simp
        have kw4 : Keeps None w W4 := H2.out.2.1.trans k4 (fun i e hi => by have := HX.out; omega)
        have ho4 := row_keptT H2.out.1 k4 (fun g e e3 => by subst e3; exact absurd (own_type H2.out.1 e H2.out.2.2.1) (by decide))
        have hg2G : g2 ≠ G := fun e => by subst e; exact absurd (own_type H2.out.1 (by simp [Value.ownBlock]) H2.out.2.2.1) (by decide)
        have HFO : Hid (Calls Tryd.prog 38 #[.slice ca n cc, .int .i64 (k : Int)] W4 fun e w' => ∃ a5 N c5 g6 c6 w6, e = .returned (.slice a5 N c5) ∧ (Builtin.append_ #[56, 56] 56 #[.slice (some ⟨g2, 0, none⟩) P c2, .slice a5 N c5]).run Tryd.prog w' = .ok (.slice (some ⟨g6, 0, none⟩) (P + N) c6) w6 ∧ OwnL w6 S0 (.slice (some ⟨g6, 0, none⟩) (P + N) c6) (natL (op ++ exN code k)) ∧ BoolsAt w6 G n (updT met k true) ∧ Keeps None w w6 ∧ S0 ≤ w6.heap.size) := (rfollow_ok ca n cc code k i W4 (HC.out.1.more kw4) hi (HC.out.2.1.kind k i hi) hn).mono fun e w5 hp => by
          obtain ⟨v, rfl, h1, h2⟩ := hp
          obtain ⟨a5, c5, rfl⟩ := row_shapeT h1
          have ho5 := row_keptT ho4 h2 (fun _ _ f => f)
          have hz5 : S0 ≤ w5.heap.size := by have := h2.size; have := H2.out.2.2.2.1; omega
          have hxl : (exitsV k i).length ≤ 3 := by rw [← exN_natL HC.out.2.1 hi, natL_len]; exact exN_len code k
          obtain ⟨g6, c6, w6, hr, ho, hk, hg⟩ := int_app S0 g2 P c2 (natL op) a5 _ c5 (exitsV k i) 56 w5 ho5 (by rw [natL_len]; exact HP.out.1) (OwnL.seen h1) hz5 (by rw [natL_len]; have := HP.out.1; omega)
          refine ⟨a5, _, c5, g6, c6, w6, rfl, hr, ?_, ?_, ?_, by have := hk.size; omega⟩
          · have e : natL (op ++ exN code k) = natL op ++ exitsV k i := by rw [← exN_natL HC.out.2.1 hi]; simp [natL]
            rw [e]
            exact ho
          · exact blk_kept (blk_kept b4 h2 (fun f => f)) hk (fun e => hg2G e.symm)
          · exact (kw4.trans h2 (fun _ f _ => f)).trans hk (fun j e hj => by have := row_lowT ho5 (show (Value.slice (some ⟨g2, 0, none⟩) P c2).ownBlock = some j by simp [Value.ownBlock, e]); have := HX.out; omega)
        have HCm : Hid (Cm n (exN code) [0] (updT met k true) (op ++ exN code k) ∧ unM n (updT met k true) < unM n met ∧ (exN code k).length ≤ 3) := ⟨H2.out.2.2.2.2.put (fun q hq => by have := exN_lt HC.out.2.1 k q hq; have := HC.out.2.2; omega), unM_put hkn hmt, exN_len code k⟩
        clear hmt k4 b4 hs4 kw4 ho4 hg2G hi
        go_upto_region 8 with fail
        rw [← hW4]
        clear hW4 m0 fz
        go_wp2_with (first | (go_at_call 38; refine Calls.mono HFO.out ?_; rintro _ w5 ⟨a5, N, c5, g6, c6, w6, rfl, hr6, ho6, hb6, hk6, hs6⟩) | (at_builtin; refine wpList_append_run rfl (.tmp 28) (.tmp 31) 56 56 rfl rfl rfl hr6 ?_))
        go_roundg (4 * unM n (updT met k true) + (op ++ exN code k).length)
        case measure => have := HP.out; have := HCm.out; simp; omega
        case rel => exact ⟨_, _, rfl, by have := HP.out; have := HCm.out; simp; omega, HCm.out.1, ho6, hb6, hk6, hs6⟩
end Go.Proofs.YtoehkjfdaolcnaaDoor
/-! Whether a register is live behind a place: the document's search. -/
namespace Go.Proofs.YtoehkjfdaolcnaaDoor
set_option linter.unusedVariables false
set_option maxRecDepth 20000
set_option linter.unusedSimpArgs false
open Go.RowKit Go.HeapKit

set_option maxHeartbeats 8000000 in
theorem rlive_ok (fa : Option Addr) (fn fc : Nat) (fs : List Fn) (ca : Option Addr) (n cc : Nat) (code : List Ins) (k0 r : Nat) (w : World) (hF : SeenF w fa fn fs) (hC : SeenI w ca n code) (hG : Gd code) (hR : ∀ i ∈ code, RegOk fs i) (hok : ∀ i ∈ code, i.Ok) (hk0 : k0 < code.length) (hr : r < 16) :
    Calls Tryd.prog 32 #[.agg #[.slice fa fn fc], .slice ca n cc, .int .i64 (k0 : Int), .int .i64 (r : Int)] w fun e w' => ∃ b : Bool, e = .returned (.bool b) ∧ (b = true ↔ Bh fs code r k0) ∧ Keeps None w w' := by
  have hl := hC.len
  have h1 := hG.n1
  have h2 := hG.n2
  obtain ⟨i0, hi0⟩ : ∃ i, code[k0]? = some i := ⟨code[k0], by simp⟩
  have kX := Keeps.alloc None w (.cells #[.slice fa fn fc] 24)
  have bX := heap_alloc_new w (.cells #[.slice fa fn fc] 24)
  obtain ⟨V, hV⟩ : ∃ V, V = w.alloc (.cells #[.slice fa fn fc] 24) := ⟨_, rfl⟩
  obtain ⟨X, hX⟩ : ∃ X, X = w.heap.size := ⟨_, rfl⟩
  rw [← hV] at kX bX
  rw [← hX] at bX
  have hmk := make_boolsT n V (by omega)
  have hst : BoolsAt (V.alloc (.cells ((List.range n).map (fun _ => Value.bool false)).toArray 4)) V.heap.size n (fun _ => false) := heap_alloc_new V _
  have kA := kX.andAlloc (.cells ((List.range n).map (fun _ => Value.bool false)).toArray 4)
  have kA' := Keeps.alloc None V (.cells ((List.range n).map (fun _ => Value.bool false)).toArray 4)
  obtain ⟨W, hW⟩ : ∃ W, W = V.alloc (.cells ((List.range n).map (fun _ => Value.bool false)).toArray 4) := ⟨_, rfl⟩
  obtain ⟨G, hGG⟩ : ∃ G, G = V.heap.size := ⟨_, rfl⟩
  rw [← hW] at hmk hst kA kA'
  rw [← hGG] at hmk hst
  have hGlt : G < W.heap.size := blk_lt hst
  have hn : n ≤ 512 := by omega
  have hn1 : 1 ≤ n := by omega
  have xW : W.cell? ⟨X, 0, none⟩ = some (.slice fa fn fc) := (blk_cell (blk_kept bX kA' (fun f => f)) 0).trans rfl
  have hwG : w.heap.size ≤ G := by have := kX.size; omega
  have hXG : X < G := by have := blk_lt bX; omega
  have HC : Hid (SeenI w ca n code ∧ Gd code ∧ n = code.length ∧ SeenF w fa fn fs ∧ (∀ i ∈ code, RegOk fs i) ∧ (∀ i ∈ code, i.Ok) ∧ r < 16) := ⟨hC, hG, hl, hF, hR, hok, hr⟩
  obtain ⟨S0, hS0⟩ : ∃ S0, S0 = W.heap.size := ⟨_, rfl⟩
  have HFO : Hid (Calls Tryd.prog 38 #[.slice ca n cc, .int .i64 (k0 : Int)] W fun e w' => ∃ v, e = .returned v ∧ OwnL w' S0 v (natL (exN code k0)) ∧ Keeps None w w' ∧ Keeps None W w') := (rfollow_ok ca n cc code k0 i0 W (hC.more kA) hi0 (hG.kind k0 i0 hi0) hn).mono fun e w' hp => by
    obtain ⟨v, h3, h4, h5⟩ := hp
    exact ⟨v, h3, by rw [exN_natL hG hi0, hS0]; exact h4, kA.trans h5 (fun _ f _ => f), h5⟩
  have HW : Hid (BoolsAt W G n (fun _ => false) ∧ G < S0 ∧ w.heap.size ≤ G ∧ S0 ≤ W.heap.size ∧ X < G ∧ W.cell? ⟨X, 0, none⟩ = some (.slice fa fn fc) ∧ Keeps None w W) := ⟨hst, by omega, hwG, by omega, hXG, xW, kA⟩
  clear hC hG hl h1 h2 hst kA kA' kX bX hGlt hF hR hok hk0 hi0 xW hwG hXG hr hGG hS0 hW
  go_enter Tryd.func32, Tryd.ntmps32
  go_upto_region 1 with fail
  rw [← hV, ← hX]
  clear hV hX
  go_upto_region 2 with (at_make; refine wpList_make_run rfl (.tmp 13) (.tmp 13) 44 rfl rfl rfl hmk ?_)
  go_upto_block 0 with (go_at_call 38; refine Calls.mono HFO.out ?_; rintro _ w1 ⟨v0, rfl, ho1, hk1, hj1⟩)
  clear hmk
  have H1 : Hid (OwnL w1 S0 v0 (natL (exN code k0)) ∧ Keeps None w w1 ∧ Keeps None W w1) := ⟨ho1, hk1, hj1⟩
  clear ho1 hk1 hj1 HFO
  obtain ⟨n₀, hn₀⟩ : ∃ n₀ : Nat, n₀ = 4 * unM n (fun _ => false) + (exN code k0).length := ⟨_, rfl⟩
  have HN : Hid (n₀ = 4 * unM n (fun _ => false) + (exN code k0).length) := hn₀
  clear hn₀
  go_wp2_with fail
  go_loopg [10] n₀ (fun gk s10 wr => ∃ (met : Nat → Bool) (op : List Nat), gk = 4 * unM n met + op.length ∧ gk ≤ 4 * n + 3 ∧ Cm n (lvN code r) (exN code k0) met op ∧ (∀ q, met q = true → ¬ rdAt fs code r q) ∧ OwnL wr S0 s10 (natL op) ∧ BoolsAt wr G n met ∧ Keeps None w wr ∧ S0 ≤ wr.heap.size ∧ wr.cell? ⟨X, 0, none⟩ = some (.slice fa fn fc))
  case atStart => exact ⟨_, exN code k0, HN.out, by rw [HN.out]; have := unM_le n (fun _ => false); have := exN_len code k0; omega, Cm.begin (fun k hk => by have := exN_lt HC.out.2.1 k0 k hk; have := HC.out.2.2.1; omega), fun q hq => Bool.noConfusion hq, H1.out.1, blk_kept HW.out.1 H1.out.2.2 (fun f => f), H1.out.2.1, Nat.le_trans HW.out.2.2.2.1 H1.out.2.2.size, H1.out.2.2.cell HW.out.2.2.2.2.2.1 (fun f => f)⟩
  case round =>
    have HX : Hid (G < S0 ∧ w.heap.size ≤ G ∧ X < G) := ⟨HW.out.2.1, HW.out.2.2.1, HW.out.2.2.2.2.1⟩
    clear HN H1 HW
    obtain ⟨met, op, hgk, hgk2, hcm, hno, hop, hbo, hkp, hS0, hxr⟩ := hrel
    cases op with
    | nil =>
      obtain ⟨oa, oc, rfl⟩ := row_shapeT hop
      have HF : Hid (¬ Bh fs code r k0 ∧ Keeps None w wr) := ⟨fun hb => by
        obtain ⟨q, h1, h2⟩ := (bh_rx HC.out.2.1).1 hb
        exact hno q ((hcm.full q).2 h1) h2, hkp⟩
      clear hcm hop hbo hkp hno
      simp only [natL, List.map_nil, List.length_nil]
      go_wp2_with fail
      go_ret
      exact ⟨false, rfl, ⟨fun h => Bool.noConfusion h, fun h => absurd h HF.out.1⟩, HF.out.2⟩
    | cons k op =>
      obtain ⟨hkn, hkr⟩ := hcm.opn k (by simp)
      obtain ⟨og, oc, rfl, hog, hoglt, y9⟩ := own_elem hop (k := 0) (z := (k : Int)) (by simp [natL])
      have hopl : (natL (k :: op)).length = op.length + 1 := by simp [natL]
      rw [hopl] at hop ⊢
      obtain ⟨P, hP⟩ : ∃ P, P = op.length := ⟨_, rfl⟩
      rw [← hP] at hop ⊢
      have hPb : P ≤ 3000 := by simp at hgk; omega
      have hcl : natL (k :: op) = (k : Int) :: natL op := rfl
      rw [hcl] at hop
      obtain ⟨g2, c2, w2, hr2, ho2, hk2⟩ := own_rest hop (by rw [natL_len]; exact hP) hS0 (by rw [natL_len]; omega)
      have hb2 : BoolsAt w2 G n met := blk_kept hbo hk2 (fun f => f)
      have m0 := hb2.cell hkn
      have fz := blk_free hb2 k
      have i1 : (k : Int) < (n : Int) := by omega
      have hoc : P + 1 ≤ oc := by
        rcases hop.2 with ⟨h, _⟩ | ⟨_, _, _, e, _, _, hh, _⟩
        · cases h
        · injection e with _ e1 e2
          subst e2
          simp [natL_len] at hh
          omega
      have hx2 : w2.cell? ⟨X, 0, none⟩ = some (.slice fa fn fc) := hk2.cell hxr (fun f => f)
      have HP : Hid (P = op.length ∧ gk = 4 * unM n met + (op.length + 1) ∧ gk ≤ 4 * n + 3) := ⟨hP, by simpa using hgk, hgk2⟩
      have H2 : Hid (OwnL w2 S0 (.slice (some ⟨g2, 0, none⟩) P c2) (natL op) ∧ Keeps None w w2 ∧ BoolsAt w2 G n met ∧ S0 ≤ w2.heap.size ∧ Cm n (lvN code r) (exN code k0) met (k :: op) ∧ (∀ q, met q = true → ¬ rdAt fs code r q) ∧ w2.cell? ⟨X, 0, none⟩ = some (.slice fa fn fc) ∧ Rx (lvN code r) (exN code k0) k) := ⟨ho2, hkp.trans hk2 (fun _ f _ => f), hb2, by have := hk2.size; omega, hcm, hno, hx2, hkr⟩
      clear hP hop ho2 hk2 hbo hb2 hkp hS0 hcm hgk hgk2 hopl hcl hkr hog hoglt hno hxr hx2
      go_upto_region 6 with (at_builtin; refine wpList_append_run rfl (.tmp 24) (.tmp 26) 56 56 rfl rfl rfl hr2 ?_)
      clear hr2 y9
      generalize (if oc = 1 then some (⟨og, 0, none⟩ : Addr) else some ⟨og, 1, none⟩) = a26
      cases hmt : met k with
      | true =>
        rw [hmt] at m0
        have HF : Hid (Cm n (lvN code r) (exN code k0) met op) := H2.out.2.2.2.2.1.skip hmt
        clear hmt
        go_wp2_with fail
        go_roundg (gk - 1)
        case measure => have := HP.out; omega
        case rel => exact ⟨met, op, by have := HP.out; omega, by have := HP.out; omega, HF.out, H2.out.2.2.2.2.2.1, H2.out.1, H2.out.2.2.1, H2.out.2.1, H2.out.2.2.2.1, H2.out.2.2.2.2.2.2.1⟩
      | false =>
        rw [hmt] at m0
        obtain ⟨i, hi⟩ : ∃ i, code[k]? = some i := ⟨code[k]'(by have := HC.out.2.2.1; omega), by simp⟩
        have k4 : Keeps (· = G) w2 (w2.setCell ⟨G, k, none⟩ (.bool true)) := Keeps.setCell (S := (· = G)) w2 (a := ⟨G, k, none⟩) rfl _
        have b4 := H2.out.2.2.1.put k true
        obtain ⟨W4, hW4⟩ : ∃ W4, W4 = w2.setCell ⟨G, k, none⟩ (.bool true) := ⟨_, rfl⟩
        rw [← hW4] at k4 b4
        have hs4 : W4.heap.size = w2.heap.size := by rw [hW4]; simp
        have kw4 : Keeps None w W4 := H2.out.2.1.trans k4 (fun i e hi => by have := HX.out; omega)
        have ho4 := row_keptT H2.out.1 k4 (fun g e e3 => by subst e3; exact absurd (own_type H2.out.1 e H2.out.2.2.1) (by decide))
        have hg2G : g2 ≠ G := fun e => by subst e; exact absurd (own_type H2.out.1 (by simp [Value.ownBlock]) H2.out.2.2.1) (by decide)
        have x4 : W4.cell? ⟨X, 0, none⟩ = some (.slice fa fn fc) := k4.cell H2.out.2.2.2.2.2.2.1 (fun e => by have e' : X = G := e; have := HX.out; omega)
        have hmem := List.mem_of_getElem? hi
        obtain ⟨b, off, i', rfl, hi', hat⟩ := (HC.out.1.more kw4).at hkn
        rw [hi] at hi'
        injection hi' with hi'
        subst hi'
        obtain ⟨p0, p1, p2, p3, p4⟩ := hat
        have H4 : Hid (OwnL W4 S0 (.slice (some ⟨g2, 0, none⟩) P c2) (natL op) ∧ BoolsAt W4 G n (updT met k true) ∧ Keeps None w W4 ∧ S0 ≤ W4.heap.size ∧ g2 ≠ G ∧ W4.cell? ⟨X, 0, none⟩ = some (.slice fa fn fc) ∧ code[k]? = some i) := ⟨ho4, b4, kw4, by have := H2.out.2.2.2.1; omega, hg2G, x4, hi⟩
        have HSA : Hid (∀ w', Keeps None W4 w' → w'.cell? ⟨X, 0, none⟩ = some (.slice fa fn fc) ∧ w'.cell? ⟨b, off + k * 5, none⟩ = some (.int .i64 i.kind) ∧ w'.cell? ⟨b, off + k * 5 + 1, none⟩ = some (.int .i64 i.a) ∧ w'.cell? ⟨b, off + k * 5 + 2, none⟩ = some (.int .i64 i.b) ∧ w'.cell? ⟨b, off + k * 5 + 3, none⟩ = some (.int .i64 i.c) ∧ w'.cell? ⟨b, off + k * 5 + 4, none⟩ = some (.int .i64 i.k)) := fun w' hk => ⟨hk.cell x4 (fun f => f), hk.cell p0 (fun f => f), hk.cell p1 (fun f => f), hk.cell p2 (fun f => f), hk.cell p3 (fun f => f), hk.cell p4 (fun f => f)⟩
        have HRD : Hid (∀ w', Keeps None W4 w' → Calls Tryd.prog 52 #[.agg #[.slice fa fn fc], .agg #[.int .i64 i.kind, .int .i64 i.a, .int .i64 i.b, .int .i64 i.c, .int .i64 i.k], .int .i64 (r : Int)] w' fun e w'' => e = .returned (.bool (rdV fs i r)) ∧ Keeps None W4 w'') := fun w' hk => (rreads_ok fa fn fc fs i r w' (HC.out.2.2.2.1.more (kw4.trans hk (fun _ f _ => f))) (HC.out.2.2.2.2.1 i hmem) (HC.out.2.2.2.2.2.1 i hmem) HC.out.2.2.2.2.2.2).mono fun e w'' hp => ⟨hp.1, hk.trans hp.2 (fun _ f _ => f)⟩
        have HCm : Hid (Cm n (lvN code r) (exN code k0) (updT met k true) (op ++ lvN code r k) ∧ unM n (updT met k true) < unM n met ∧ (lvN code r k).length ≤ 3) := ⟨H2.out.2.2.2.2.1.put (fun q hq => by have := lvN_lt HC.out.2.1 r k q hq; have := HC.out.2.2.1; omega), unM_put hkn hmt, lvN_len code r k⟩
        clear hmt k4 b4 hs4 kw4 ho4 hg2G hi hmem
        go_upto_region 8 with fail
        rw [← hW4]
        clear hW4 m0 fz
        go_upto_region 8 with fail
        go_region_held3 (fun w' => w'.cell? ⟨X, 0, none⟩ = some (.slice fa fn fc) ∧ w'.cell? ⟨b, off + k * 5, none⟩ = some (.int .i64 i.kind) ∧ w'.cell? ⟨b, off + k * 5 + 1, none⟩ = some (.int .i64 i.a) ∧ w'.cell? ⟨b, off + k * 5 + 2, none⟩ = some (.int .i64 i.b) ∧ w'.cell? ⟨b, off + k * 5 + 3, none⟩ = some (.int .i64 i.c) ∧ w'.cell? ⟨b, off + k * 5 + 4, none⟩ = some (.int .i64 i.k)) (first | exact hs5 | go_keep) (first | (go_at_call 52; refine Calls.mono (HRD.out _ (Keeps.drew None _)) ?_; rintro _ w5 ⟨rfl, hk5⟩; have hs5 := HSA.out _ hk5))
        rename_i hHeld
        clear hHeld
        obtain ⟨x5, q0, q1, q2, q3, q4⟩ := hs5
        clear p0 p1 p2 p3 p4 x4 HSA HRD
        have H5 : Hid (OwnL w5 S0 (.slice (some ⟨g2, 0, none⟩) P c2) (natL op) ∧ BoolsAt w5 G n (updT met k true) ∧ Keeps None w w5 ∧ S0 ≤ w5.heap.size ∧ g2 ≠ G ∧ w5.cell? ⟨X, 0, none⟩ = some (.slice fa fn fc) ∧ code[k]? = some i) := ⟨row_keptT H4.out.1 hk5 (fun _ _ f => f), blk_kept H4.out.2.1 hk5 (fun f => f), H4.out.2.2.1.trans hk5 (fun _ f _ => f), by have := hk5.size; have := H4.out.2.2.2.1; omega, H4.out.2.2.2.2.1, x5, H4.out.2.2.2.2.2.2⟩
        clear hk5 H4
        cases hrd : rdV fs i r with
        | true =>
          have HB : Hid (Bh fs code r k0 ∧ Keeps None w w5) := ⟨(bh_rx HC.out.2.1).2 ⟨k, H2.out.2.2.2.2.2.2.2, i, H5.out.2.2.2.2.2.2, hrd⟩, H5.out.2.2.1⟩
          clear hrd
          go_wp2_with fail
          go_ret
          exact ⟨true, rfl, ⟨fun _ => HB.out.1, fun _ => rfl⟩, HB.out.2⟩
        | false =>
          have HNO : Hid (∀ q, updT met k true q = true → ¬ rdAt fs code r q) := fun q hq => by
            by_cases e : q = k
            · subst e
              rintro ⟨i2, h1, h2⟩
              rw [H5.out.2.2.2.2.2.2] at h1
              injection h1 with h1
              subst h1
              rw [hrd] at h2
              cases h2
            · unfold updT at hq
              rw [if_neg e] at hq
              exact H2.out.2.2.2.2.2.1 q hq
          have HWR : Hid (Calls Tryd.prog 42 #[.agg #[.int .i64 i.kind, .int .i64 i.a, .int .i64 i.b, .int .i64 i.c, .int .i64 i.k]] w5 fun e w' => e = .returned (.int .i64 (wrV i)) ∧ Keeps None w5 w') := rwrites_ok i w5 (HC.out.2.1.kind k i H5.out.2.2.2.2.2.2)
          clear hrd
          by_cases hwr : wrV i = (r : Int)
          · have HLN : Hid (lvN code r k = []) := by unfold Hid lvN; rw [H5.out.2.2.2.2.2.2]; simp only; rw [if_pos hwr]
            rw [hwr] at HWR
            clear hwr
            go_wp2_with (go_at_call 42; refine Calls.mono HWR.out ?_; rintro _ w6 ⟨rfl, hk6⟩)
            go_roundg (4 * unM n (updT met k true) + op.length)
            case measure => have := HP.out; have := HCm.out.2; omega
            case rel => exact ⟨updT met k true, op, rfl, by have := HP.out; have := HCm.out.2; omega, by have := HCm.out.1; rw [HLN.out, List.append_nil] at this; exact this, HNO.out, row_keptT H5.out.1 hk6 (fun _ _ f => f), blk_kept H5.out.2.1 hk6 (fun f => f), H5.out.2.2.1.trans hk6 (fun _ f _ => f), by have := hk6.size; have := H5.out.2.2.2.1; omega, hk6.cell H5.out.2.2.2.2.2.1 (fun f => f)⟩
          · have HLN : Hid (lvN code r k = exN code k) := by unfold Hid lvN; rw [H5.out.2.2.2.2.2.2]; simp only; rw [if_neg hwr]
            have HFO : Hid (∀ w5', Keeps None w5 w5' → Calls Tryd.prog 38 #[.slice (some ⟨b, off, none⟩) n cc, .int .i64 (k : Int)] w5' fun e w' => ∃ a5 N c5 g6 c6 w6, e = .returned (.slice a5 N c5) ∧ (Builtin.append_ #[56, 56] 56 #[.slice (some ⟨g2, 0, none⟩) P c2, .slice a5 N c5]).run Tryd.prog w' = .ok (.slice (some ⟨g6, 0, none⟩) (P + N) c6) w6 ∧ OwnL w6 S0 (.slice (some ⟨g6, 0, none⟩) (P + N) c6) (natL (op ++ lvN code r k)) ∧ BoolsAt w6 G n (updT met k true) ∧ Keeps None w w6 ∧ S0 ≤ w6.heap.size ∧ w6.cell? ⟨X, 0, none⟩ = some (.slice fa fn fc)) := fun w5' hj => (rfollow_ok (some ⟨b, off, none⟩) n cc code k i w5' (HC.out.1.more (H5.out.2.2.1.trans hj (fun _ f _ => f))) H5.out.2.2.2.2.2.2 (HC.out.2.1.kind k i H5.out.2.2.2.2.2.2) hn).mono fun e w7 hp => by
              obtain ⟨v, rfl, h1, h2⟩ := hp
              obtain ⟨a5, c5, rfl⟩ := row_shapeT h1
              have hj2 := hj.trans h2 (fun _ f _ => f)
              have hi := H5.out.2.2.2.2.2.2
              have ho5 := row_keptT H5.out.1 hj2 (fun _ _ f => f)
              have hz5 : S0 ≤ w7.heap.size := by have := hj2.size; have := H5.out.2.2.2.1; omega
              have hxl : (exitsV k i).length ≤ 3 := by rw [← exN_natL HC.out.2.1 hi, natL_len]; exact exN_len code k
              obtain ⟨g6, c6, w6, hr, ho, hk, hg⟩ := int_app S0 g2 P c2 (natL op) a5 _ c5 (exitsV k i) 56 w7 ho5 (by rw [natL_len]; exact HP.out.1) (OwnL.seen h1) hz5 (by rw [natL_len]; have := HP.out.1; omega)
              have hlow := row_lowT ho5 (show (Value.slice (some ⟨g2, 0, none⟩) P c2).ownBlock = some g2 by simp [Value.ownBlock])
              refine ⟨a5, _, c5, g6, c6, w6, rfl, hr, ?_, ?_, ?_, by have := hk.size; omega, ?_⟩
              · have e : natL (op ++ lvN code r k) = natL op ++ exitsV k i := by rw [HLN.out, ← exN_natL HC.out.2.1 hi]; simp [natL]
                rw [e]
                exact ho
              · exact blk_kept (blk_kept H5.out.2.1 hj2 (fun f => f)) hk (fun e => H5.out.2.2.2.2.1 e.symm)
              · exact (H5.out.2.2.1.trans hj2 (fun _ f _ => f)).trans hk (fun j e hj => by have := HX.out; omega)
              · exact hk.cell (hj2.cell H5.out.2.2.2.2.2.1 (fun f => f)) (fun e => by have e' : X = g2 := e; have := HX.out; omega)
            go_wp2_with (first | (go_at_call 42; refine Calls.mono HWR.out ?_; rintro _ w6 ⟨rfl, hk6⟩) | (go_at_call 38; refine Calls.mono (HFO.out _ hk6) ?_; rintro _ w7 ⟨a5, N, c5, g8, c8, w8, rfl, hr8, ho8, hb8, hk8, hs8, hx8⟩) | (at_builtin; refine wpList_append_run rfl (.tmp 49) (.tmp 52) 56 56 rfl rfl rfl hr8 ?_))
            go_roundg (4 * unM n (updT met k true) + (op ++ lvN code r k).length)
            case measure => have := HP.out; have := HCm.out; simp; omega
            case rel => exact ⟨_, _, rfl, by have := HP.out; have := HCm.out; simp; omega, HCm.out.1, HNO.out, ho8, hb8, hk8, hs8, hx8⟩
end Go.Proofs.YtoehkjfdaolcnaaDoor
/-! Whether an instruction is loose: the document's. -/
namespace Go.Proofs.YtoehkjfdaolcnaaDoor
set_option linter.unusedVariables false
set_option maxRecDepth 20000
set_option linter.unusedSimpArgs false
open Go.RowKit Go.HeapKit

set_option maxHeartbeats 8000000 in
theorem loose_ok (fa : Option Addr) (fn fc : Nat) (fs : List Fn) (F : Nat) (f : Fn) (k : Nat) (i : Ins) (g fg n m : Nat) (met : Nat → Bool) (M : Nat → Nat → Int) (w : World) (hF : SeenF w fa fn fs) (hf : fs[F]? = some f) (hi : f.code[k]? = some i) (hG : Gd f.code) (hR : ∀ i ∈ f.code, RegOk fs i) (hok : ∀ i ∈ f.code, i.Ok) (hn : n = f.code.length) (hb : BoolsAt w g n met) (hrc : ∀ k, met k = true ↔ Rc f.code k) (hM : IsM w fg n m n M) (hm8 : m ≤ 8) :
    Calls Tryd.prog 23 #[.agg #[.slice fa fn fc], .int .i64 (F : Int), .int .i64 (k : Int), .slice (some ⟨g, 0, none⟩) n n, .slice (some ⟨fg, 0, none⟩) n n] w fun e w' => ∃ z : Int, e = .returned (.int .i64 z) ∧ (z ≠ 0 ↔ LsP fs f.code m M k i) ∧ Keeps None w w' := by
  have hkn : k < n := by have := (List.getElem?_eq_some_iff.1 hi).1; omega
  have hn5 : n ≤ 512 := by have := hG.n2; omega
  have hFn : F < fn := by have := hF.len; have := (List.getElem?_eq_some_iff.1 hf).1; omega
  obtain ⟨fb, fo, f', ca, cc, rfl, hf', hat⟩ := hF.at hFn
  rw [hf] at hf'
  injection hf' with hf'
  subst hf'
  have kX := Keeps.alloc None w (.cells #[.slice (some ⟨fb, fo, none⟩) fn fc] 24)
  have bX := heap_alloc_new w (.cells #[.slice (some ⟨fb, fo, none⟩) fn fc] 24)
  obtain ⟨V, hV⟩ : ∃ V, V = w.alloc (.cells #[.slice (some ⟨fb, fo, none⟩) fn fc] 24) := ⟨_, rfl⟩
  obtain ⟨X, hX⟩ : ∃ X, X = w.heap.size := ⟨_, rfl⟩
  rw [← hV] at kX bX
  rw [← hX] at bX
  have x0 : V.cell? ⟨X, 0, none⟩ = some (.slice (some ⟨fb, fo, none⟩) fn fc) := (blk_cell bX 0).trans rfl
  have r3 : V.cell? ⟨fb, fo + F * 4 + 3, none⟩ = some (.slice ca n cc) := by rw [hn]; exact kX.cell hat.code (fun f => f)
  have hC : SeenI V ca n f.code := by rw [hn]; exact hat.seen.more kX
  obtain ⟨cb, co, i', rfl, hi', hci⟩ := hC.at hkn
  rw [hi] at hi'
  injection hi' with hi'
  subst hi'
  obtain ⟨p0, p1, p2, p3, p4⟩ := hci
  have i1 : (F : Int) < (fn : Int) := by omega
  have i2 : (k : Int) < (n : Int) := by omega
  have i3 : (k : Int) ≤ 512 := by omega
  have kY := Keeps.alloc None V (.cells #[.int .i64 i.kind, .int .i64 i.a, .int .i64 i.b, .int .i64 i.c, .int .i64 i.k] 39)
  have bY := heap_alloc_new V (.cells #[.int .i64 i.kind, .int .i64 i.a, .int .i64 i.b, .int .i64 i.c, .int .i64 i.k] 39)
  obtain ⟨U, hU⟩ : ∃ U, U = V.alloc (.cells #[.int .i64 i.kind, .int .i64 i.a, .int .i64 i.b, .int .i64 i.c, .int .i64 i.k] 39) := ⟨_, rfl⟩
  obtain ⟨Y, hY⟩ : ∃ Y, Y = V.heap.size := ⟨_, rfl⟩
  rw [← hU] at kY bY
  rw [← hY] at bY
  have y0 : U.cell? ⟨Y, 0, none⟩ = some (.int .i64 i.kind) := (blk_cell bY 0).trans rfl
  have y1 : U.cell? ⟨Y, 1, none⟩ = some (.int .i64 i.a) := (blk_cell bY 1).trans rfl
  have y2 : U.cell? ⟨Y, 2, none⟩ = some (.int .i64 i.b) := (blk_cell bY 2).trans rfl
  have y3 : U.cell? ⟨Y, 3, none⟩ = some (.int .i64 i.c) := (blk_cell bY 3).trans rfl
  have y4 : U.cell? ⟨Y, 4, none⟩ = some (.int .i64 i.k) := (blk_cell bY 4).trans rfl
  have hmem := List.mem_of_getElem? hi
  have kd := hG.kind k i hi
  have HY : Hid (∀ w', Keeps None U w' → w'.cell? ⟨Y, 0, none⟩ = some (.int .i64 i.kind) ∧ w'.cell? ⟨Y, 1, none⟩ = some (.int .i64 i.a) ∧ w'.cell? ⟨Y, 2, none⟩ = some (.int .i64 i.b) ∧ w'.cell? ⟨Y, 3, none⟩ = some (.int .i64 i.c) ∧ w'.cell? ⟨Y, 4, none⟩ = some (.int .i64 i.k) ∧ w'.cell? ⟨X, 0, none⟩ = some (.slice (some ⟨fb, fo, none⟩) fn fc)) := fun w' hk => ⟨hk.cell y0 (fun f => f), hk.cell y1 (fun f => f), hk.cell y2 (fun f => f), hk.cell y3 (fun f => f), hk.cell y4 (fun f => f), (kY.trans hk (fun _ f _ => f)).cell x0 (fun f => f)⟩
  have HT : Hid (Calls Tryd.prog 41 #[.agg #[.int .i64 i.kind, .int .i64 i.a, .int .i64 i.b, .int .i64 i.c, .int .i64 i.k]] U fun e w' => e = .returned (.int .i64 (tgt i)) ∧ Keeps None U w') := rtarget_ok i U kd
  have HWR : Hid (∀ w', Keeps None U w' → Calls Tryd.prog 42 #[.agg #[.int .i64 i.kind, .int .i64 i.a, .int .i64 i.b, .int .i64 i.c, .int .i64 i.k]] w' fun e w'' => e = .returned (.int .i64 (wrV i)) ∧ Keeps None U w'') := fun w' hk => (rwrites_ok i w' kd).mono fun e w'' hp => ⟨hp.1, hk.trans hp.2 (fun _ f _ => f)⟩
  have kU : Keeps None w U := kX.trans kY (fun _ f _ => f)
  have HC : Hid (SeenI U (some ⟨cb, co, none⟩) n f.code ∧ Gd f.code ∧ (∀ i ∈ f.code, RegOk fs i) ∧ (∀ i ∈ f.code, i.Ok) ∧ n = f.code.length ∧ SeenF U (some ⟨fb, fo, none⟩) fn fs ∧ BoolsAt U g n met ∧ (∀ k, met k = true ↔ Rc f.code k) ∧ IsM U fg n m n M ∧ Keeps None w U ∧ f.code[k]? = some i) := ⟨hC.more kY, hG, hR, hok, hn, hF.more kU, blk_kept hb kU (fun f => f), hrc, hM.kept kU (fun _ _ f => f), kU, hi⟩
  clear hF hf hi hG hR hok hn hb hrc hM hat kX bX kY bY kU hC hmem kd y0 y1 y2 y3 y4 hFn
  go_enter Tryd.func23, Tryd.ntmps23
  go_upto_region 1 with fail
  rw [← hV, ← hX]
  clear hV hX
  go_upto_region 3 with fail
  rw [← hU, ← hY]
  clear hU hY x0 r3 p0 p1 p2 p3 p4
  obtain ⟨y0, y1, y2, y3, y4, x0⟩ := HY.out U (Keeps.refl _ _)
  go_upto_region 4 with (go_at_call 41; refine Calls.mono HT.out ?_; rintro _ w3 ⟨rfl, hk3⟩)
  clear y0 y1 y2 y3 y4 x0
  obtain ⟨y0, y1, y2, y3, y4, x0⟩ := HY.out w3 hk3
  go_upto_region 5 with (go_at_call 42; refine Calls.mono (HWR.out _ hk3) ?_; rintro _ w4 ⟨rfl, hk4⟩)
  clear y0 y1 y2 y3 y4 x0 hk3 HT HWR
  obtain ⟨y0, y1, y2, y3, y4, x0⟩ := HY.out w4 hk4
  have hbo : BoolsAt w4 g n met := blk_kept HC.out.2.2.2.2.2.2.1 hk4 (fun f => f)
  have m0 := hbo.cell hkn
  have H4 : Hid (Keeps None U w4 ∧ Keeps None w w4) := ⟨hk4, HC.out.2.2.2.2.2.2.2.2.2.1.trans hk4 (fun _ f _ => f)⟩
  clear hbo hk4
  cases hmt : met k with
  | false =>
    rw [hmt] at m0
    have HR : Hid (LsP fs f.code m M k i) := .inr (.inl (.inl (fun h => by rw [(HC.out.2.2.2.2.2.2.2.1 k).2 h] at hmt; cases hmt)))
    clear hmt
    go_wp2_with fail
    go_ret
    exact ⟨1, rfl, ⟨fun _ => HR.out, fun _ => by decide⟩, H4.out.2⟩
  | true =>
    rw [hmt] at m0
    have HRc : Hid (Rc f.code k) := (HC.out.2.2.2.2.2.2.2.1 k).1 hmt
    clear hmt
    go_upto_region 7 with fail
    go_cut [44] (fun s44 wx => s44 = .bool (decide (i.kind = 1 ∧ i.a = i.b)) ∧ wx = w4)
    case first =>
      by_cases h1 : i.kind = 1
      · rw [h1] at y0
        go_wp2_with fail
        go_meet
        exact ⟨by simp [h1, beqI], rfl⟩
      · have h1' : (i.kind == 1) = false := by simpa using h1
        go_wp2_with fail
        go_meet
        exact ⟨by simp [h1], rfl⟩
    case rest =>
      obtain ⟨rfl, hwc⟩ := hcut
      have hwc' := hwc.symm
      subst hwc'
      clear hwc
      by_cases hmv : i.kind = 1 ∧ i.a = i.b
      · rw [decide_eq_true hmv]
        have HR : Hid (LsP fs f.code m M k i) := .inr (.inl (.inr (.inl hmv)))
        clear hmv
        go_wp2_with fail
        go_ret
        exact ⟨2, rfl, ⟨fun _ => HR.out, fun _ => by decide⟩, H4.out.2⟩
      · rw [decide_eq_false hmv]
        have HNM : Hid (¬ (i.kind = 1 ∧ i.a = i.b)) := hmv
        clear hmv
        by_cases htk : tgt i = (k : Int) + 1
        · have HR : Hid (LsP fs f.code m M k i) := .inr (.inl (.inr (.inr (.inl htk))))
          rw [htk]
          clear htk
          go_wp2_with fail
          go_ret
          exact ⟨3, rfl, ⟨fun _ => HR.out, fun _ => by decide⟩, H4.out.2⟩
        · have htk' : (tgt i == (k : Int) + 1) = false := by simpa using htk
          have HTK : Hid (¬ tgt i = (k : Int) + 1) := htk
          clear htk
          go_upto_region 11 with fail
          go_cut [67] (fun s67 wx => ∃ dt : Bool, s67 = .bool dt ∧ (dt = true ↔ DtP f.code i) ∧ wx = w4)
          case first =>
            by_cases ht0 : 0 ≤ tgt i
            · have hkk : i.kind = 3 ∨ i.kind = 4 := by
                by_cases h3 : i.kind = 3
                · exact .inl h3
                · by_cases h4 : i.kind = 4
                  · exact .inr h4
                  · unfold tgt at ht0
                    rw [if_neg h3, if_neg h4] at ht0
                    exact absurd ht0 (by decide)
              obtain ⟨t, ht, htn⟩ := tgt_in HC.out.2.1 HC.out.2.2.2.2.2.2.2.2.2.2 hkk
              have htn2 : t < n := by have := HC.out.2.2.2.2.1; omega
              obtain ⟨jb, jo, j, ej, hj, hja⟩ := (HC.out.1.more H4.out.1).at htn2
              injection ej with ej
              injection ej with ej1 ej2 _
              subst ej1 ej2
              obtain ⟨z0, z1, _, _, _⟩ := hja
              have i7 : (t : Int) < (n : Int) := by omega
              have HD : Hid (DtP f.code i ↔ j.kind = 3 ∧ j.a ≠ (t : Int)) := by
                unfold Hid DtP
                rw [ht]
                simp only [Int.toNat_natCast, hj]
                constructor
                · rintro ⟨_, j', e, h1, h2⟩
                  injection e with e
                  subst e
                  exact ⟨h1, h2⟩
                · rintro ⟨h1, h2⟩
                  exact ⟨by omega, j, rfl, h1, h2⟩
              have et : t = (tgt i).toNat := by omega
              rw [← ht] at HD i7
              rw [et] at z0 z1
              clear ht hkk hj htk' htn htn2 et
              by_cases hj3 : j.kind = 3
              · rw [hj3] at z0
                go_wp2_with fail
                go_meet
                exact ⟨_, rfl, by rw [HD.out]; simp [hj3], rfl⟩
              · have hj3' : (j.kind == 3) = false := by simpa using hj3
                go_wp2_with fail
                go_meet
                exact ⟨_, rfl, by rw [HD.out]; simp [hj3], rfl⟩
            · have HD : Hid (¬ DtP f.code i) := fun h => ht0 h.1
              go_wp2_with fail
              go_meet
              exact ⟨_, rfl, ⟨fun h => by simp at h, fun h => absurd h HD.out⟩, rfl⟩
          case rest =>
            obtain ⟨dt, rfl, hdt, hwc⟩ := hcut
            have hwc' := hwc.symm
            subst hwc'
            clear hwc
            cases dt with
            | true =>
              have HR : Hid (LsP fs f.code m M k i) := .inr (.inr (hdt.1 rfl))
              clear hdt
              go_wp2_with fail
              go_ret
              exact ⟨4, rfl, ⟨fun _ => HR.out, fun _ => by decide⟩, H4.out.2⟩
            | false =>
              have HND : Hid (¬ DtP f.code i) := fun h => by have := hdt.2 h; cases this
              clear hdt
              have HLV : Hid (0 ≤ wrV i → Calls Tryd.prog 32 #[.agg #[.slice (some ⟨fb, fo, none⟩) fn fc], .slice (some ⟨cb, co, none⟩) n cc, .int .i64 (k : Int), .int .i64 (wrV i)] w4 fun e w' => ∃ b : Bool, e = .returned (.bool b) ∧ (b = true ↔ Bh fs f.code (wrV i).toNat k) ∧ Keeps None w4 w') := fun h0 => by
                have hw16 : wrV i < 16 := by
                  unfold wrV at h0 ⊢
                  by_cases hw : i.kind = 0 ∨ i.kind = 1 ∨ i.kind = 2 ∨ i.kind = 7 ∨ i.kind = 8
                  · rw [if_pos hw]
                    exact ((HC.out.2.2.1 i (List.mem_of_getElem? HC.out.2.2.2.2.2.2.2.2.2.2)).wr hw).2
                  · rw [if_neg hw]; decide
                have := rlive_ok (some ⟨fb, fo, none⟩) fn fc fs (some ⟨cb, co, none⟩) n cc f.code k (wrV i).toNat w4 (HC.out.2.2.2.2.2.1.more H4.out.1) (HC.out.1.more H4.out.1) HC.out.2.1 HC.out.2.2.1 HC.out.2.2.2.1 (by have := HC.out.2.2.2.2.1; omega) (by omega)
                rwa [Int.toNat_of_nonneg h0] at this
              go_upto_region 13 with fail
              go_cut [77] (fun s77 wx => ∃ dd : Bool, s77 = .bool dd ∧ (dd = true ↔ (0 ≤ wrV i ∧ ¬ Bh fs f.code (wrV i).toNat k)) ∧ Keeps None w4 wx)
              case first =>
                by_cases h0 : 0 ≤ wrV i
                · go_wp2_with (go_at_call 32; refine Calls.mono (HLV.out h0) ?_; rintro _ w5 ⟨b, rfl, hb, hk5⟩)
                  go_meet
                  exact ⟨_, rfl, by rw [← hb]; cases b <;> simp [h0], hk5⟩
                · go_wp2_with fail
                  go_meet
                  exact ⟨_, rfl, ⟨fun h => by simp at h, fun h => by have := h.1; omega⟩, Keeps.refl _ _⟩
              case rest =>
                obtain ⟨dd, rfl, hdd, hk6⟩ := hcut
                have H6 : Hid (Keeps None U wc ∧ Keeps None w wc) := ⟨H4.out.1.trans hk6 (fun _ f _ => f), H4.out.2.trans hk6 (fun _ f _ => f)⟩
                clear y0 y1 y2 y3 y4 x0 m0 hk6 H4 HLV
                cases dd with
                | true =>
                  have HR : Hid (LsP fs f.code m M k i) := .inr (.inl (.inr (.inr (.inr (hdd.1 rfl)))))
                  clear hdd
                  go_wp2_with fail
                  go_ret
                  exact ⟨5, rfl, ⟨fun _ => HR.out, fun _ => by decide⟩, H6.out.2⟩
                | false =>
                  have HL : Hid (LsP fs f.code m M k i ↔ (i.kind = 6 ∧ anyP m (M k) = false)) := by
                    unfold Hid LsP NdP
                    refine ⟨fun h => ?_, fun h => .inl h⟩
                    rcases h with h | (h | h | h | h) | h
                    · exact h
                    · exact absurd HRc.out h
                    · exact absurd h HNM.out
                    · exact absurd h HTK.out
                    · have := hdd.2 h; cases this
                    · exact absurd h HND.out
                  clear hdd
                  obtain ⟨y0, y1, y2, y3, y4, x0⟩ := HY.out wc H6.out.1
                  by_cases h6 : i.kind = 6
                  · rw [h6] at y0
                    have q0 := (HC.out.2.2.2.2.2.2.2.2.1.kept H6.out.1 (fun _ _ f => f)).row hkn hkn
                    have HM : Hid (∀ s, s < m → wc.cell? ⟨fg + 1 + k, s, none⟩ = some (.int .i64 (M k s))) := fun s hs => (HC.out.2.2.2.2.2.2.2.2.1.kept H6.out.1 (fun _ _ f => f)).cell hkn hs
                    have HL6 : Hid (LsP fs f.code m M k i ↔ anyP m (M k) = false) := HL.out.trans ⟨fun h => h.2, fun h => ⟨h6, h⟩⟩
                    clear h6 HL
                    go_upto_block 0 with fail
                    clear y0 y1 y2 y3 y4 x0
                    go_wp2_with fail
                    go_loopw [15] (fun s15 wr => ∃ s : Nat, s ≤ m ∧ s15 = .int .i64 s ∧ (∀ s', s' < s → pend (M k s') = false) ∧ wr = wc) (fun i _ => m - (intOf i).toNat)
                    case atStart => exact ⟨0, Nat.zero_le _, rfl, fun s hs => absurd hs (by omega), rfl⟩
                    case round =>
                      obtain ⟨s, hs, rfl, hno, hwr⟩ := hrel
                      have hwr' := hwr.symm
                      subst hwr'
                      clear hwr
                      by_cases hsm : s < m
                      · have i8 : (s : Int) < (m : Int) := by omega
                        have i9 : (s : Int) ≤ 8 := by omega
                        have v0 := HM.out s hsm
                        cases hp : pend (M k s) with
                        | true =>
                          have hp2 : (bits BinOp.and .i64 (M k s) 2 != 0) = true := hp
                          have HF : Hid (anyP m (M k) = true) := List.any_eq_true.2 ⟨s, List.mem_range.2 hsm, hp⟩
                          clear hp hno
                          go_wp2_with fail
                          go_ret
                          exact ⟨0, rfl, ⟨fun h => absurd rfl h, fun h => by rw [HL6.out, HF.out] at h; cases h⟩, H6.out.2⟩
                        | false =>
                          have hp2 : (bits BinOp.and .i64 (M k s) 2 != 0) = false := hp
                          have HF : Hid (∀ s', s' < s + 1 → pend (M k s') = false) := fun s' hs' => by
                            by_cases e : s' = s
                            · subst e; exact hp
                            · exact hno s' (by omega)
                          clear hp hno
                          go_wp2_with fail
                          go_roundw
                          case rel => exact ⟨s + 1, by omega, by go_num, HF.out, trivial⟩
                          case measure => simp [intOf]; omega
                      · have i8 : ¬ (s : Int) < (m : Int) := by omega
                        have HF : Hid (anyP m (M k) = false) := by
                          unfold Hid
                          rw [Bool.eq_false_iff]
                          intro h
                          obtain ⟨s', h1, h2⟩ := List.any_eq_true.1 h
                          rw [hno s' (by have := List.mem_range.1 h1; omega)] at h2
                          cases h2
                        clear hno
                        go_wp2_with fail
                        go_ret
                        exact ⟨6, rfl, ⟨fun _ => HL6.out.2 HF.out, fun _ => by decide⟩, H6.out.2⟩
                  · have h6' : (i.kind != 6) = true := by simpa using h6
                    go_wp2_with fail
                    go_ret
                    exact ⟨0, rfl, ⟨fun h => absurd rfl h, fun h => absurd (HL.out.1 h).1 h6⟩, H6.out.2⟩
end Go.Proofs.YtoehkjfdaolcnaaDoor
/-! The document's look at single instructions and functions. -/
namespace Go.Proofs.YtoehkjfdaolcnaaDoor
set_option linter.unusedVariables false
set_option maxRecDepth 20000
open Go.RowKit Go.HeapKit

theorem rbelow_any (x n : Int) (w : World) : Calls Tryd.prog 47 #[.int .i64 x, .int .i64 n] w fun e w' => e = .returned (.bool (belowV x n)) ∧ w' = w := by
  go_enter Tryd.func47, Tryd.ntmps47
  go_wp2
  · go_ret
    refine ⟨?_, rfl⟩
    simp [belowV, *]
  · go_ret
    refine ⟨?_, rfl⟩
    simp [belowV]
    omega
theorem rshaped_any (f : Fn) (ca : Option Addr) (cc : Nat) (w : World) :
    Calls Tryd.prog 25 #[fnV f ca cc] w fun e w' => e = .returned (.bool (shapeV f)) ∧ Keeps None w w' := by
  unfold fnV
  by_cases h : shapeV f = true
  · rw [h]
    simp only [shapeV, Bool.and_eq_true, decide_eq_true_eq] at h
    have i1 : ¬ f.params < 0 := by omega
    have i2 : ¬ 8 < f.params := by omega
    have i3 : ¬ f.regs < 1 := by omega
    have i4 : ¬ f.regs < f.params := by omega
    have i5 : ¬ 16 < f.regs := by omega
    have i6 : 0 ≤ f.slots := by omega
    have i7 : f.slots ≤ 8 := by omega
    have i8 : 1 ≤ (f.code.length : Int) := by omega
    have i9 : (f.code.length : Int) ≤ 512 := by omega
    generalize (f.code.length) = n at *
    clear h
    go_enter Tryd.func25, Tryd.ntmps25
    go_wp2
    all_goals (go_ret; refine ⟨?_, (Keeps.refl _ _).andAlloc _⟩; first | rfl | (simp; omega))
  · have h' : shapeV f = false := by simpa using h
    rw [h']
    simp only [shapeV, Bool.and_eq_true, decide_eq_true_eq] at h
    clear h'
    generalize (f.code.length) = n at *
    go_enter Tryd.func25, Tryd.ntmps25
    go_wp2
    all_goals (go_ret; refine ⟨?_, (Keeps.refl _ _).andAlloc _⟩; first | rfl | (simp; omega) | (exfalso; omega))
theorem rafter_any (i : Ins) (slot st : Int) (w : World) : Calls Tryd.prog 64 #[insV i, .int .i64 slot, .int .i64 st] w fun e w' => e = .returned (.int .i64 (afterV i slot st)) ∧ Keeps None w w' := by
  obtain ⟨ik, ia, ib, ic, iK⟩ := i
  unfold insV
  go_enter Tryd.func64, Tryd.ntmps64
  go_wp2
  all_goals first
    | (go_ret; refine ⟨?_, (Keeps.refl _ _).andAlloc _⟩; simp_all [afterV]; done)
/-- A row of its own. -/
structure NewRow (w : World) (v : Value) (w' : World) (l : List Int) : Prop where
  own : w'.ownsRow 0 3 1 v l.length (l.map (Value.int .i64))
  keep : Keeps None w w'
  low : ∀ g, v.ownBlock = some g → w.heap.size ≤ g
theorem row_built (w : World) (l : List Int) (n : Nat) (hn : n = l.length) (h0 : l.length ≤ 512) : (w.alloc (.cells (l.map (Value.int .i64)).toArray 3)).ownsRow 0 3 1 (.slice (some ⟨w.heap.size, 0, none⟩) n n) l.length (l.map (Value.int .i64)) := by
  subst hn
  refine ⟨by simp, .inr ⟨w.heap.size, l.length, _, rfl, Nat.zero_le _, heap_alloc_new _ _, Nat.le_refl _, by unfold maxLen; omega, by simp, ?_⟩⟩
  rw [Nat.mul_one]
  exact List.take_of_length_le (by simp)
set_option maxHeartbeats 1000000 in
theorem rnexts_any (f : Fn) (ca : Option Addr) (cc : Nat) (a : Nat) (i : Ins) (w : World) (hC : SeenI w ca f.code.length f.code) (hi : f.code[a]? = some i) (hk : 0 ≤ i.kind ∧ i.kind < 10) (hn : f.code.length ≤ 512) :
    Calls Tryd.prog 65 #[fnV f ca cc, .int .i64 a] w fun e w' => ∃ v, e = .returned v ∧ NewRow w v w' (exitsV a i) := by
  have ha := (List.getElem?_eq_some_iff.1 hi).1
  obtain ⟨b, off, i', rfl, hi', hat⟩ := hC.at ha
  rw [hi] at hi'
  obtain rfl := Option.some.inj hi'
  clear hi'
  unfold fnV
  generalize hN : f.code.length = N at *
  have hk2 := keeps2 w (.cells #[.int .i64 f.params, .int .i64 f.regs, .int .i64 f.slots, .slice (some ⟨b, off, none⟩) N cc] 37) (.cells #[.int .i64 i.kind, .int .i64 i.a, .int .i64 i.b, .int .i64 i.c, .int .i64 i.k] 39)
  obtain ⟨p1, p2⟩ := two_boxes w #[.int .i64 f.params, .int .i64 f.regs, .int .i64 f.slots, .slice (some ⟨b, off, none⟩) N cc] #[.int .i64 i.kind, .int .i64 i.a, .int .i64 i.b, .int .i64 i.c, .int .i64 i.k] 37 39
  obtain ⟨y0, y1, y2, y3, y4⟩ := hat.kept (Keeps.alloc None w (.cells #[.int .i64 f.params, .int .i64 f.regs, .int .i64 f.slots, .slice (some ⟨b, off, none⟩) N cc] 37)) (fun f => f)
  have s2 : ((w.alloc (.cells #[.int .i64 f.params, .int .i64 f.regs, .int .i64 f.slots, .slice (some ⟨b, off, none⟩) N cc] 37)).alloc (.cells #[.int .i64 i.kind, .int .i64 i.a, .int .i64 i.b, .int .i64 i.c, .int .i64 i.k] 39)).heap.size = w.heap.size + 2 := by simp
  obtain ⟨W, hW⟩ : ∃ W, W = (w.alloc (.cells #[.int .i64 f.params, .int .i64 f.regs, .int .i64 f.slots, .slice (some ⟨b, off, none⟩) N cc] 37)).alloc (.cells #[.int .i64 i.kind, .int .i64 i.a, .int .i64 i.b, .int .i64 i.c, .int .i64 i.k] 39) := ⟨_, rfl⟩
  rw [← hW] at hk2 p2 s2
  have c0 := (cell_of_heap p2 0).trans rfl
  have c1 := (cell_of_heap p2 1).trans rfl
  have c2 := (cell_of_heap p2 2).trans rfl
  have i1 : (a : Int) < (N : Int) := by omega
  have i2 : (a : Int) ≤ 512 := by omega
  have FIN : Hid (∀ l : List Int, l.length ≤ 512 → NewRow w (.slice (some ⟨W.heap.size, 0, none⟩) l.length l.length) (W.alloc (.cells (l.map (Value.int .i64)).toArray 3)) l) := fun l hl => ⟨row_built W l _ rfl hl, hk2.trans (Keeps.alloc None W _) (fun _ f _ => f), fun g e => by simp [Value.ownBlock] at e; omega⟩
  have FN0 : Hid (NewRow w (.slice none 0 0) W []) := ⟨⟨by simp, .inl ⟨rfl, rfl⟩⟩, hk2, fun g e => by simp [Value.ownBlock] at e⟩
  have HX : Hid (exitsV a i = (if fN i.kind.toNat then [(a : Int) + 1] else []) ++ (if fA i.kind.toNat = 3 then [i.a] else []) ++ (if fB i.kind.toNat = 3 then [i.b] else [])) := rfl
  have HW : Hid _ := hW
  clear hk2 p1 p2 s2 hi hat hC hN
  go_enter Tryd.func65, Tryd.ntmps65
  go_upto_region 2 with fail
  rw [← hW]
  clear hW y0 y1 y2 y3 y4
  obtain ⟨ik, ia, ib, ic, iK⟩ := i
  simp only at *
  by_cases k3 : ik = 3
  · subst k3
    go_wp2_with fail
    go_ret
    refine ⟨_, rfl, ?_⟩
    rw [HX.out]
    exact FIN.out [ia] (by simp)
  · by_cases k9 : ik = 9
    · subst k9
      go_wp2_with fail
      go_ret
      refine ⟨_, rfl, ?_⟩
      rw [HX.out]
      exact FN0.out
    · by_cases k4 : ik = 4
      · subst k4
        go_wp2_with fail
        go_ret
        refine ⟨_, rfl, ?_⟩
        rw [HX.out]
        exact FIN.out [(a : Int) + 1, ib] (by simp)
      · have q3 : (ik == 3) = false := by simpa using k3
        have q4 : (ik == 4) = false := by simpa using k4
        have q9 : (ik == 9) = false := by simpa using k9
        have hx : exitsV a ⟨ik, ia, ib, ic, iK⟩ = [(a : Int) + 1] := by
          rw [HX.out]
          obtain ⟨k, rfl⟩ := Int.eq_ofNat_of_zero_le hk.1
          have h10 : k < 10 := by omega
          have : ∀ k, k < 10 → (k = 3 ∨ k = 4 ∨ k = 9 ∨ (fN k = true ∧ fA k ≠ 3 ∧ fB k ≠ 3)) := by decide
          obtain ⟨u1, u2, u3⟩ := (((this k h10).resolve_left (by omega)).resolve_left (by omega)).resolve_left (by omega)
          rw [show ((k : Int)).toNat = k from rfl, u1, if_neg u2, if_neg u3]
          rfl
        have HX2 : Hid _ := hx
        clear hx k3 k4 k9
        go_wp2_with fail
        go_ret
        refine ⟨_, rfl, ?_⟩
        rw [HX2.out]
        exact FIN.out [(a : Int) + 1] (by simp)
/-- The kind is one, and the instruction fits its function, but for who is called. -/
theorem fits_fs (fs fs' : List Fn) (f : Fn) (i : Ins) : fitsV true fs f i = fitsV true fs' f i := by
  unfold fitsV allowsV
  simp
set_option maxHeartbeats 1000000 in
theorem ralone_any (f : Fn) (ca : Option Addr) (cc : Nat) (i : Ins) (w : World) :
    Calls Tryd.prog 26 #[fnV f ca cc, insV i] w fun e w' => e = .returned (.bool (fitsV true [] f i)) ∧ Keeps None w w' := by
  obtain ⟨ik, ia, ib, ic, iK⟩ := i
  unfold fnV insV
  obtain ⟨V, hV⟩ : ∃ V, V = fitsV true [] f ⟨ik, ia, ib, ic, iK⟩ := ⟨_, rfl⟩
  rw [← hV]
  have HV : Hid _ := hV
  clear hV
  by_cases hk : 0 ≤ ik ∧ ik < 10
  · rcases kinds (i := ⟨ik, ia, ib, ic, iK⟩) hk.1 hk.2 with h | h | h | h | h | h | h | h | h | h
    all_goals
      simp only at h
      subst h
      clear hk
      go_enter Tryd.func26, Tryd.ntmps26
      go_wp2_with (go_at_call 47; refine (rbelow_any _ _ _).mono ?_; rintro e w' ⟨rfl, rfl⟩)
    all_goals
      go_ret
      refine ⟨?_, keeps2 _ _ _⟩
      rw [HV.out]
      simp_all [fitsV, allowsV, fA, fB, fC, fK, belowV] <;> first | done | omega | (by_cases hz : iK < 16 <;> by_cases hy : iK < 0 <;> simp_all <;> omega)
  · have q0 : (ik == 0) = false := by simp; omega
    have q1 : (ik == 1) = false := by simp; omega
    have q2 : (ik == 2) = false := by simp; omega
    have q3 : (ik == 3) = false := by simp; omega
    have q4 : (ik == 4) = false := by simp; omega
    have q5 : (ik == 5) = false := by simp; omega
    have q6 : (ik == 6) = false := by simp; omega
    have q7 : (ik == 7) = false := by simp; omega
    have q8 : (ik == 8) = false := by simp; omega
    have q9 : (ik == 9) = false := by simp; omega
    have hz : belowV ik 10 = false := by
      cases hb : belowV ik 10
      · rfl
      · exact absurd ((belowV_iff _ _).1 hb) hk
    have HZ : Hid _ := hz
    clear hk hz
    go_enter Tryd.func26, Tryd.ntmps26
    go_wp2_with (go_at_call 47; refine (rbelow_any _ _ _).mono ?_; rintro e w' ⟨rfl, rfl⟩)
    go_ret
    refine ⟨?_, keeps2 _ _ _⟩
    rw [HV.out]
    simp [fitsV, HZ.out]
end Go.Proofs.YtoehkjfdaolcnaaDoor
