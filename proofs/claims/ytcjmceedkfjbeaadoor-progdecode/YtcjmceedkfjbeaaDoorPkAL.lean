import Derived.Test.YtcjmceedkfjbeaaDoorPkAH
import Derived.Test.YtcjmceedkfjbeaaDoorPkAI
/-! What a valid program is, plainly. -/
namespace Go.Proofs.YtcjmceedkfjbeaaDoor
set_option linter.unusedVariables false
set_option maxRecDepth 20000

theorem check_zero {l : List Fn} (h : (checkV l).1 = 0) : checkV l = (0, 0, 0) := by
  unfold checkV at h ⊢
  split
  · rename_i h1; rw [if_pos h1] at h; cases h
  · rename_i h1
    rw [if_neg h1] at h
    split
    · rename_i r hr; rw [hr] at h; simp at h
    · rename_i hr
      rw [hr] at h
      simp only at h
      split
      · rename_i r hr2
        rw [hr2] at h
        simp only at h
        obtain ⟨k, x, _, _, hg, _⟩ := firstAt_was _ _ _ _ hr2
        unfold codeFault at hg
        split at hg
        · have := Option.some.inj hg
          rw [← this] at h
          simp at h
        · split at hg
          · have := Option.some.inj hg
            rw [← this] at h
            simp at h
          · cases hg
      · rename_i hr2
        rw [hr2] at h
        simp only at h
        split
        · rename_i r hr3
          rw [hr3] at h
          simp only at h
          obtain ⟨k, x, _, _, hg, _⟩ := firstAt_was _ _ _ _ hr3
          unfold slotFault at hg
          simp only [Option.map_eq_some_iff] at hg
          obtain ⟨q, hq, e⟩ := hg
          obtain ⟨k2, y, _, _, hg2, _⟩ := firstAt_was _ _ _ _ hq
          split at hg2
          · cases hg2
          · rename_i hne
            have := Option.some.inj hg2
            rw [← e] at h
            simp at h
            rw [← this] at h
            exact absurd h hne
        · rfl
/-- What a valid function is, for the walks. -/
theorem valid_bounds {fs : List Fn} {f : Fn} (h : Valid fs f) : (0 ≤ f.params ∧ f.params ≤ 8) ∧ (1 ≤ f.regs ∧ f.params ≤ f.regs ∧ f.regs ≤ 16) ∧ (0 ≤ f.slots ∧ f.slots ≤ 8) ∧ 1 ≤ f.code.length ∧ f.code.length ≤ 512 := by
  have := h.shape
  simp only [shapeV, Bool.and_eq_true, decide_eq_true_eq] at this
  omega
end Go.Proofs.YtcjmceedkfjbeaaDoor
/-! Encode. -/
namespace Go.Proofs.YtcjmceedkfjbeaaDoor
set_option linter.unusedVariables false
set_option maxRecDepth 20000
open Go.RowKit Go.HeapKit

theorem image_ok {l : List Fn} (hok : ∀ f ∈ l, f.Ok) (hc : ∀ f ∈ l, f.code.length ≤ 512) (hl : l.length ≤ 32) : ∀ x ∈ imageV l, okI x := by
  intro x hx
  unfold imageV at hx
  rcases List.mem_append.1 hx with hx | hx
  · simp at hx
    rcases hx with rfl | rfl
    · simp [okI]
    · unfold okI; omega
  · obtain ⟨f, hf, hx⟩ := List.mem_flatMap.1 hx
    have h1 := hok f hf
    have h2 := hc f hf
    unfold fnW at hx
    rcases List.mem_append.1 hx with hx | hx
    · simp at hx
      rcases hx with rfl | rfl | rfl | rfl
      · exact h1.params
      · exact h1.regs
      · exact h1.slots
      · unfold okI; omega
    · obtain ⟨i, hi, hx⟩ := List.mem_flatMap.1 hx
      have h3 := h1.code i hi
      simp [insW] at hx
      rcases hx with rfl | rfl | rfl | rfl | rfl
      · exact h3.kind
      · exact h3.a
      · exact h3.b
      · exact h3.c
      · exact h3.k
/-- What Encode answers. -/
structure Enc (w w' : World) (l : List Fn) (v : Value) (g N cap : Nat) : Prop where
  val : v = .slice (some ⟨g, 0, none⟩) N cap
  len : N = (encV l).length
  own : w'.ownsRow w.heap.size 2 1 v N ((encV l).map (Value.int .i64))
set_option maxRecDepth 20000 in
set_option maxHeartbeats 4000000 in
theorem encode_any (a : Option Addr) (n c : Nat) (l : List Fn) (w : World) (hT : Tabs w) (hS : SeenF w a n l) (hok : ∀ f ∈ l, f.Ok) :
    Calls Tryd.prog 9 #[.agg #[.slice a n c]] w fun e w' => ∃ v, e = .returned (.tuple #[v, .int .i64 (checkV l).1]) ∧ Keeps None w w' ∧ ((checkV l).1 ≠ 0 → v = .slice none 0 0) ∧ ((checkV l).1 = 0 → ∃ g N cap, Enc w w' l v g N cap) := by
  obtain ⟨B, hB0⟩ : ∃ B, B = w.heap.size := ⟨_, rfl⟩
  have hal := Keeps.alloc None w (.cells #[.slice a n c] 25)
  have b1 := heap_alloc_new w (.cells #[.slice a n c] 25)
  have hck := check_any a n c l _ (hT.more hal) (hS.more hal) hok
  obtain ⟨wa, hwa⟩ : ∃ wa, wa = w.alloc (.cells #[.slice a n c] 25) := ⟨_, rfl⟩
  obtain ⟨e, he⟩ : ∃ e, e = (checkV l).1 := ⟨_, rfl⟩
  obtain ⟨e2, he2⟩ : ∃ e2, e2 = (checkV l).2.1 := ⟨_, rfl⟩
  obtain ⟨e3, he3⟩ : ∃ e3, e3 = (checkV l).2.2 := ⟨_, rfl⟩
  unfold checkF faultV at hck
  rw [← he, ← he2, ← he3] at hck
  rw [← he]
  rw [← hB0] at b1
  rw [← hwa] at b1 hal hck
  have d0 := (cell_of_heap b1 0).trans rfl
  have HA : Hid (wa.heap[B]? = some (.cells #[.slice a n c] 25 (0, 0)) ∧ Keeps None w wa ∧ B = w.heap.size ∧ e = (checkV l).1) := ⟨b1, hal, hB0, he⟩
  have HS : Hid (SeenF w a n l ∧ (∀ f ∈ l, f.Ok) ∧ n = l.length) := ⟨hS, hok, hS.len⟩
  clear b1 hal hT hS hok he he2 he3
  go_enter Tryd.func9, Tryd.ntmps9
  go_upto_region 2 with (go_at_call 8; rw [← hwa]; refine hck.mono ?_; rintro _ w3 ⟨rfl, hk3⟩)
  rw [← hB0]
  obtain ⟨w4, hw4⟩ : ∃ w4, w4 = w3.alloc (.cells #[.int .i64 e, .int .i64 e2, .int .i64 e3] 31) := ⟨_, rfl⟩
  obtain ⟨P, hP⟩ : ∃ P, P = w3.heap.size := ⟨_, rfl⟩
  have hal := Keeps.alloc None w3 (.cells #[.int .i64 e, .int .i64 e2, .int .i64 e3] 31)
  have b4 := heap_alloc_new w3 (.cells #[.int .i64 e, .int .i64 e2, .int .i64 e3] 31)
  rw [← hw4] at hal b4
  rw [← hP] at b4
  have hb4 := blk_kept (blk_kept HA.out.1 hk3 (fun f => f)) hal (fun f => f)
  have hkw4 := (HA.out.2.1.trans hk3 (fun _ f _ => f)).trans hal (fun _ f _ => f)
  have d4 := (cell_of_heap hb4 0).trans rfl
  have p4 := (cell_of_heap b4 0).trans rfl
  rw [← hw4, ← hP]
  have H4 : Hid (Keeps None w w4) := hkw4
  clear hw4 hP hal b4 hb4 hkw4 hk3 hck hwa hB0 d0
  by_cases he0 : e = 0
  · subst he0
    have hv := check_valid (check_zero HA.out.2.2.2.symm)
    have hn1 : 1 ≤ n ∧ n ≤ 32 := by have := HS.out.2.2; omega
    have HV : Hid (∀ f ∈ l, f.code.length ≤ 512) := fun f hf => (valid_bounds (hv.2.2 f hf)).2.2.2.2
    clear hv
    go_upto_region 5 with fail
    obtain ⟨w5, hw5⟩ : ∃ w5, w5 = w4.alloc (.cells #[.int .i64 1886156142, .int .i64 n] 2) := ⟨_, rfl⟩
    have hal := Keeps.alloc None w4 (.cells #[.int .i64 1886156142, .int .i64 n] 2)
    have b5 := heap_alloc_new w4 (.cells #[.int .i64 1886156142, .int .i64 n] 2)
    rw [← hw5] at hal b5
    have d5 := hal.cell d4 (fun f => f)
    obtain ⟨Q, hQ⟩ : ∃ Q, Q = w4.heap.size := ⟨_, rfl⟩
    rw [← hQ] at b5
    have H5 : Hid (w5.ownsRow w.heap.size 2 1 (.slice (some ⟨Q, 0, none⟩) 2 2) 2 (([1886156142, (n : Int)] ++ (l.take 0).flatMap fnW).map (Value.int .i64)) ∧ Keeps None w w5) := by
      refine ⟨⟨by simp, .inr ⟨Q, 2, _, rfl, ?_, b5, by simp, by simp [maxLen], by simp, by simp⟩⟩, H4.out.trans hal (fun _ f _ => f)⟩
      rw [hQ]; exact H4.out.size
    rw [← hw5, ← hQ]
    clear hw5 hQ hal b5 d4 p4
    go_wp2_with fail
    clear d5
    go_loopw [24, 5] (fun s24 s5 wr => ∃ (k N : Nat), k ≤ n ∧ s24 = .int .i64 k ∧ N = ([1886156142, (n : Int)] ++ (l.take k).flatMap fnW).length ∧ wr.ownsRow w.heap.size 2 1 s5 N (([1886156142, (n : Int)] ++ (l.take k).flatMap fnW).map (Value.int .i64)) ∧ Keeps None w wr) (fun i _ _ => n - (intOf i).toNat)
    case atStart => exact ⟨0, 2, Nat.zero_le _, rfl, by simp, H5.out.1, H5.out.2⟩
    case round =>
      obtain ⟨k, N, hk, rfl, hN, hrow, hkp⟩ := hrel
      obtain ⟨zs, hzs⟩ : ∃ zs, zs = [1886156142, (n : Int)] ++ (l.take k).flatMap fnW := ⟨_, rfl⟩
      have hfl := fns_len (l.take k) (fun f hf => HV.out f (List.mem_of_mem_take hf))
      have hN2 : N ≤ 83000 := by
        rw [hN, List.length_append]
        have : (l.take k).length ≤ 32 := by simp; omega
        simp only [List.length_cons, List.length_nil]
        omega
      rw [← hzs] at hN hrow
      by_cases hkn : k < n
      · obtain ⟨b, off, f, ca, cc, rfl, hf, hatw⟩ := HS.out.1.at hkn
        have hat := hatw.more hkp
        have hf512 := HV.out f (List.mem_of_getElem? hf)
        have i1 : (k : Int) < (n : Int) := by omega
        obtain ⟨m, hm⟩ : ∃ m, m = f.code.length := ⟨_, rfl⟩
        rw [← hm] at hf512
        obtain ⟨hat0, hat1, hat2, hat3, -⟩ := hat
        have hsee := hatw.seen
        rw [← hm] at hat3 hsee
        have hal1 := Keeps.alloc None wr (.cells #[.int .i64 f.params, .int .i64 f.regs, .int .i64 f.slots, .slice ca m cc] 40)
        have hal2 := Keeps.alloc None (wr.alloc (.cells #[.int .i64 f.params, .int .i64 f.regs, .int .i64 f.slots, .slice ca m cc] 40)) (.cells #[.int .i64 f.params, .int .i64 f.regs, .int .i64 f.slots, .int .i64 m] 2)
        have hkA := hal1.trans hal2 (fun _ f _ => f)
        obtain ⟨b1, b2⟩ := two_boxes wr #[.int .i64 f.params, .int .i64 f.regs, .int .i64 f.slots, .slice ca m cc] #[.int .i64 f.params, .int .i64 f.regs, .int .i64 f.slots, .int .i64 m] 40 2
        obtain ⟨g, cap, w6, hr6, ho6, hk6⟩ := words_more w.heap.size u5 zs [f.params, f.regs, f.slots, (m : Int)] N 4 22 (wr.heap.size + 1) _ hN rfl (hkA.own hrow (fun _ _ f => f)) (Nat.le_trans hkp.size hkA.size) (by omega) (by omega) b2
        have hkB : Keeps (fun k => u5.ownBlock = some k) wr w6 := (hkA.mono (fun _ f _ => f.elim)).trans hk6 (fun _ e _ => e)
        have hkw6 : Keeps None w w6 := hkp.trans hkB (fun i e hi => by
          rcases hrow.2 with ⟨rfl, _⟩ | ⟨g', cap', cur', rfl, hbg, _⟩
          · simp [Value.ownBlock] at e
          · simp [Value.ownBlock] at e; omega)
        have nF : ¬ u5.ownBlock = some wr.heap.size := fun e => by have := own_lt hrow e; omega
        have b6 := blk_kept b1 hk6 nF
        have d3 := (cell_of_heap b6 3).trans rfl
        have HK : Hid (w6.ownsRow w.heap.size 2 1 (.slice (some ⟨g, 0, none⟩) (N + 4) cap) (N + 4) ((zs ++ [f.params, f.regs, f.slots, (m : Int)]).map (Value.int .i64)) ∧ Keeps None w w6 ∧ N = zs.length ∧ zs = [1886156142, (n : Int)] ++ (l.take k).flatMap fnW ∧ l[k]? = some f ∧ m = f.code.length ∧ SeenI w ca m f.code ∧ ∀ i ∈ f.code, i.Ok) := ⟨ho6, hkw6, hN, hzs, hf, hm, hsee, (HS.out.2.1 f (List.mem_of_getElem? hf)).code⟩
        clear hrow hkp hal1 hal2 hkA b1 b2 hk6 hkB hkw6 b6 ho6 hf hm hzs hN hfl nF hsee hatw
        go_upto_region 9 with (at_builtin; refine wpList_append_run rfl (.tmp 28) (.tmp 38) 22 22 rfl rfl rfl hr6 ?_)
        clear hr6 hat0 hat1 hat2 hat3
        obtain ⟨zs1, hzs1⟩ : ∃ zs1, zs1 = zs ++ [f.params, f.regs, f.slots, (m : Int)] := ⟨_, rfl⟩
        have HZ1 : Hid (zs1 = zs ++ [f.params, f.regs, f.slots, (m : Int)] ∧ zs1.length = N + 4) := ⟨hzs1, by rw [hzs1, List.length_append, ← HK.out.2.2.1]; rfl⟩
        have H6 : Hid (w6.ownsRow w.heap.size 2 1 (.slice (some ⟨g, 0, none⟩) (N + 4) cap) (N + 4) ((zs1 ++ (f.code.take 0).flatMap insW).map (Value.int .i64))) := by
          unfold Hid
          rw [hzs1]
          simpa using HK.out.1
        clear hzs1
        go_wp2_with fail
        clear d3
        go_loopw [43, 5] (fun s43 s5 wr => ∃ (j M : Nat), j ≤ m ∧ s43 = .int .i64 j ∧ M = (zs1 ++ (f.code.take j).flatMap insW).length ∧ wr.ownsRow w.heap.size 2 1 s5 M ((zs1 ++ (f.code.take j).flatMap insW).map (Value.int .i64)) ∧ Keeps None w wr) (fun i _ _ => m - (intOf i).toNat)
        case atStart => exact ⟨0, N + 4, Nat.zero_le _, rfl, by simp [HZ1.out.2], H6.out, HK.out.2.1⟩
        case round =>
          obtain ⟨j, M, hj, rfl, hM, hrow, hkp⟩ := hrel
          obtain ⟨ys, hys⟩ : ∃ ys, ys = zs1 ++ (f.code.take j).flatMap insW := ⟨_, rfl⟩
          have hM2 : M ≤ 90000 := by
            rw [hM, List.length_append, ins_len, HZ1.out.2]
            have : (f.code.take j).length ≤ 512 := by simp; omega
            omega
          rw [← hys] at hM hrow
          by_cases hjm : j < m
          · obtain ⟨bI, oI, x, rfl, hx, hatI⟩ := (HK.out.2.2.2.2.2.2.1.more hkp).at hjm
            obtain ⟨y0, y1, y2, y3, y4⟩ := hatI
            have i2 : (j : Int) < (m : Int) := by omega
            have hal1 := Keeps.alloc None wr (.cells #[.int .i64 x.kind, .int .i64 x.a, .int .i64 x.b, .int .i64 x.c, .int .i64 x.k] 42)
            have hal2 := Keeps.alloc None (wr.alloc (.cells #[.int .i64 x.kind, .int .i64 x.a, .int .i64 x.b, .int .i64 x.c, .int .i64 x.k] 42)) (.cells #[.int .i64 x.kind, .int .i64 x.a, .int .i64 x.b, .int .i64 x.c, .int .i64 x.k] 2)
            have hkA := hal1.trans hal2 (fun _ f _ => f)
            obtain ⟨b1, b2⟩ := two_boxes wr #[.int .i64 x.kind, .int .i64 x.a, .int .i64 x.b, .int .i64 x.c, .int .i64 x.k] #[.int .i64 x.kind, .int .i64 x.a, .int .i64 x.b, .int .i64 x.c, .int .i64 x.k] 42 2
            obtain ⟨g7, cap7, w7, hr7, ho7, hk7⟩ := words_more w.heap.size u5 ys (insW x) M 5 22 (wr.heap.size + 1) _ hM rfl (hkA.own hrow (fun _ _ f => f)) (Nat.le_trans hkp.size hkA.size) (by omega) (by omega) b2
            have hkw7 : Keeps None w w7 := (hkp.trans hkA (fun _ f _ => f)).trans hk7 (fun i e hi => by
              rcases hrow.2 with ⟨rfl, _⟩ | ⟨g', cap', cur', rfl, hbg, _⟩
              · simp [Value.ownBlock] at e
              · simp [Value.ownBlock] at e; omega)
            have HQ : Hid (w7.ownsRow w.heap.size 2 1 (.slice (some ⟨g7, 0, none⟩) (M + 5) cap7) (M + 5) ((ys ++ insW x).map (Value.int .i64)) ∧ Keeps None w w7 ∧ M = ys.length ∧ ys = zs1 ++ (f.code.take j).flatMap insW ∧ f.code[j]? = some x) := ⟨ho7, hkw7, hM, hys, hx⟩
            clear hrow hkp hal1 hal2 hkA b1 b2 hk7 hkw7 ho7 hM hys hx
            go_wp2_with (at_builtin; refine wpList_append_run rfl (.tmp 47) (.tmp 58) 22 22 rfl rfl rfl hr7 ?_)
            have hfin : ys ++ insW x = zs1 ++ (f.code.take (j + 1)).flatMap insW := by rw [flat_take insW f.code j x HQ.out.2.2.2.2, HQ.out.2.2.2.1, List.append_assoc]
            exact ⟨⟨j + 1, M + 5, by omega, by simp, by rw [← hfin, List.length_append, ← HQ.out.2.2.1]; rfl, by rw [← hfin]; exact HQ.out.1, HQ.out.2.1⟩, by simp [intOf]; omega⟩
          · have i2 : ¬ ((j : Int) < (m : Int)) := by omega
            have HQ : Hid (wr.ownsRow w.heap.size 2 1 u5 M (ys.map (Value.int .i64)) ∧ Keeps None w wr ∧ M = ys.length ∧ ys = zs1 ++ (f.code.take j).flatMap insW) := ⟨hrow, hkp, hM, hys⟩
            clear hrow hkp hM hys
            go_wp2_with fail
            have hfin : ys = [1886156142, (n : Int)] ++ (l.take (k + 1)).flatMap fnW := by
              have ht : f.code.take j = f.code := List.take_of_length_le (by have := HK.out.2.2.2.2.2.1; omega)
              rw [flat_take fnW l k f HK.out.2.2.2.2.1, HQ.out.2.2.2, HZ1.out.1, HK.out.2.2.2.1, ht, HK.out.2.2.2.2.2.1]
              simp [fnW]
            exact ⟨⟨k + 1, M, by omega, by simp, by rw [← hfin]; exact HQ.out.2.2.1, by rw [← hfin]; exact HQ.out.1, HQ.out.2.1⟩, by simp [intOf]; omega⟩
      · have i1 : ¬ ((k : Int) < (n : Int)) := by omega
        have himg : zs = imageV l := by
          rw [hzs, List.take_of_length_le (by have := HS.out.2.2; omega), HS.out.2.2]
          rfl
        subst himg
        obtain ⟨ao, cap, hu5, -, -, -, -, hnn, -⟩ := own_zero (e := 2) (show wr.ownsRow 0 2 1 u5 N ((imageV l).map (Value.int .i64)) from ⟨hrow.1, by
          rcases hrow.2 with h0 | ⟨g', cap', cur', h1, h2, h3⟩
          · exact .inl h0
          · exact .inr ⟨g', cap', cur', h1, Nat.zero_le _, h3⟩⟩)
        have hN1 : 1 ≤ N := by rw [hN]; simp [imageV]
        obtain ⟨g, rfl⟩ : ∃ g, ao = some ⟨g, 0, none⟩ := by
          rcases hrow.2 with ⟨rfl, h0⟩ | ⟨g', cap', cur', h1, h2, h3⟩
          · omega
          · rw [hu5] at h1
            simp only [Value.slice.injEq] at h1
            exact ⟨g', h1.1⟩
        subst hu5
        have hse := own_seen hrow hN (image_ok HS.out.2.1 HV.out (by have := HS.out.2.2; omega)) (by omega)
        have hsm := sum_any (some ⟨g, 0, none⟩) N cap (imageV l) wr hse
        obtain ⟨sm, hsm2⟩ : ∃ sm, sm = sumV (imageV l) := ⟨_, rfl⟩
        rw [← hsm2] at hsm
        have hal1 := Keeps.alloc None wr (.cells #[.int .i64 sm] 2)
        obtain ⟨g7, cap7, w7, hr7, ho7, hk7⟩ := words_more w.heap.size (.slice (some ⟨g, 0, none⟩) N cap) (imageV l) [sm] N 1 22 wr.heap.size _ hN rfl (hal1.own hrow (fun _ _ f => f)) (Nat.le_trans hkp.size hal1.size) (by omega) (by omega) (heap_alloc_new wr (.cells #[.int .i64 sm] 2))
        have hkw7 : Keeps None w w7 := (hkp.trans hal1 (fun _ f _ => f)).trans hk7 (fun i e hi => by
          rcases hrow.2 with ⟨_, h0⟩ | ⟨g', cap', cur', h1, hbg, _⟩
          · omega
          · simp only [Value.slice.injEq] at h1
            simp [Value.ownBlock] at e
            have := h1.1
            simp at this <;> omega)
        have HQ : Hid (Enc w w7 l (.slice (some ⟨g7, 0, none⟩) (N + 1) cap7) g7 (N + 1) cap7 ∧ Keeps None w w7) := by
          refine ⟨⟨rfl, ?_, ?_⟩, hkw7⟩
          · unfold encV
            rw [List.length_append, ← hN]
            simp
          · unfold encV
            rw [← hsm2]
            exact ho7
        clear hrow hkp hal1 hk7 hkw7 ho7 hN hsm2 hse hfl hzs
        go_wp2_with (first | (go_at_call 26; refine hsm.mono ?_; rintro _ w' ⟨rfl, hw⟩; have hw2 := hw.symm; subst hw2) | (at_builtin; refine wpList_append_run rfl (.tmp 62) (.tmp 65) 22 22 rfl rfl rfl hr7 ?_))
        go_ret2
        first
          | exact ⟨_, rfl, HQ.out.2, g7, N + 1, cap7, HQ.out.1⟩
          | exact ⟨_, rfl, HQ.out.2, fun h => absurd rfl h, fun _ => ⟨g7, N + 1, cap7, HQ.out.1⟩⟩
  · have he1 : (e != 0) = true := by simpa using he0
    go_upto_region 3 with fail
    go_quiet (fail)
    go_wp2_with fail
    go_ret2
    exact ⟨_, rfl, H4.out.trans (Keeps.drewN None _ _) (fun _ f _ => f), fun _ => rfl, fun h => absurd h he0⟩
end Go.Proofs.YtcjmceedkfjbeaaDoor
