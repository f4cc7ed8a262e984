import Derived.Test.YtcjmceedkfjbeaaDoorPkAH
import Derived.Test.YtcjmceedkfjbeaaDoorPkAI
import Derived.Test.YtcjmceedkfjbeaaDoorPkAJ
/-! What a valid program is, plainly. -/
namespace Go.Proofs.YtcjmceedkfjbeaaDoor
set_option linter.unusedVariables false
set_option maxRecDepth 20000

theorem check_zero {l : List Fn} (h : (checkV l).1 = 0) : checkV l = (0, 0, 0) := by
  unfold checkV at h ⊢
  split
  · rename_i h1; rw [if_pos h1] at h; cases h
  · rename_i h1
    rw [if_neg h1] at h
    split
    · rename_i r hr; rw [hr] at h; simp at h
    · rename_i hr
      rw [hr] at h
      simp only at h
      split
      · rename_i r hr2
        rw [hr2] at h
        simp only at h
        obtain ⟨k, x, _, _, hg, _⟩ := firstAt_was _ _ _ _ hr2
        unfold codeFault at hg
        split at hg
        · have := Option.some.inj hg
          rw [← this] at h
          simp at h
        · split at hg
          · have := Option.some.inj hg
            rw [← this] at h
            simp at h
          · cases hg
      · rename_i hr2
        rw [hr2] at h
        simp only at h
        split
        · rename_i r hr3
          rw [hr3] at h
          simp only at h
          obtain ⟨k, x, _, _, hg, _⟩ := firstAt_was _ _ _ _ hr3
          unfold slotFault at hg
          simp only [Option.map_eq_some_iff] at hg
          obtain ⟨q, hq, e⟩ := hg
          obtain ⟨k2, y, _, _, hg2, _⟩ := firstAt_was _ _ _ _ hq
          split at hg2
          · cases hg2
          · rename_i hne
            have := Option.some.inj hg2
            rw [← e] at h
            simp at h
            rw [← this] at h
            exact absurd h hne
        · rfl
/-- What a valid function is, for the walks. -/
theorem valid_bounds {fs : List Fn} {f : Fn} (h : Valid fs f) : (0 ≤ f.params ∧ f.params ≤ 8) ∧ (1 ≤ f.regs ∧ f.params ≤ f.regs ∧ f.regs ≤ 16) ∧ (0 ≤ f.slots ∧ f.slots ≤ 8) ∧ 1 ≤ f.code.length ∧ f.code.length ≤ 512 := by
  have := h.shape
  simp only [shapeV, Bool.and_eq_true, decide_eq_true_eq] at this
  omega
end Go.Proofs.YtcjmceedkfjbeaaDoor
/-! Encode. -/
namespace Go.Proofs.YtcjmceedkfjbeaaDoor
set_option linter.unusedVariables false
set_option maxRecDepth 20000
open Go.RowKit Go.HeapKit

theorem image_ok {l : List Fn} (hok : ∀ f ∈ l, f.Ok) (hc : ∀ f ∈ l, f.code.length ≤ 512) (hl : l.length ≤ 32) : ∀ x ∈ imageV l, okI x := by
  intro x hx
  unfold imageV at hx
  rcases List.mem_append.1 hx with hx | hx
  · simp at hx
    rcases hx with rfl | rfl
    · simp [okI]
    · unfold okI; omega
  · obtain ⟨f, hf, hx⟩ := List.mem_flatMap.1 hx
    have h1 := hok f hf
    have h2 := hc f hf
    unfold fnW at hx
    rcases List.mem_append.1 hx with hx | hx
    · simp at hx
      rcases hx with rfl | rfl | rfl | rfl
      · exact h1.params
      · exact h1.regs
      · exact h1.slots
      · unfold okI; omega
    · obtain ⟨i, hi, hx⟩ := List.mem_flatMap.1 hx
      have h3 := h1.code i hi
      simp [insW] at hx
      rcases hx with rfl | rfl | rfl | rfl | rfl
      · exact h3.kind
      · exact h3.a
      · exact h3.b
      · exact h3.c
      · exact h3.k
/-- What Encode answers. -/
structure Enc (w w' : World) (l : List Fn) (v : Value) (g N cap : Nat) : Prop where
  val : v = .slice (some ⟨g, 0, none⟩) N cap
  len : N = (encV l).length
  own : w'.ownsRow w.heap.size 2 1 v N ((encV l).map (Value.int .i64))
set_option maxRecDepth 20000 in
set_option maxHeartbeats 4000000 in
theorem encode_any (a : Option Addr) (n c : Nat) (l : List Fn) (w : World) (hT : Tabs w) (hS : SeenF w a n l) (hok : ∀ f ∈ l, f.Ok) :
    Calls Tryd.prog 9 #[.agg #[.slice a n c]] w fun e w' => ∃ v, e = .returned (.tuple #[v, .int .i64 (checkV l).1]) ∧ Keeps None w w' ∧ ((checkV l).1 ≠ 0 → v = .slice none 0 0) ∧ ((checkV l).1 = 0 → ∃ g N cap, Enc w w' l v g N cap) := by
  obtain ⟨B, hB0⟩ : ∃ B, B = w.heap.size := ⟨_, rfl⟩
  have hal := Keeps.alloc None w (.cells #[.slice a n c] 25)
  have b1 := heap_alloc_new w (.cells #[.slice a n c] 25)
  have hck := check_any a n c l _ (hT.more hal) (hS.more hal) hok
  obtain ⟨wa, hwa⟩ : ∃ wa, wa = w.alloc (.cells #[.slice a n c] 25) := ⟨_, rfl⟩
  obtain ⟨e, he⟩ : ∃ e, e = (checkV l).1 := ⟨_, rfl⟩
  obtain ⟨e2, he2⟩ : ∃ e2, e2 = (checkV l).2.1 := ⟨_, rfl⟩
  obtain ⟨e3, he3⟩ : ∃ e3, e3 = (checkV l).2.2 := ⟨_, rfl⟩
  unfold checkF faultV at hck
  rw [← he, ← he2, ← he3] at hck
  rw [← he]
  rw [← hB0] at b1
  rw [← hwa] at b1 hal hck
  have d0 := (cell_of_heap b1 0).trans rfl
  have HA : Hid (wa.heap[B]? = some (.cells #[.slice a n c] 25 (0, 0)) ∧ Keeps None w wa ∧ B = w.heap.size ∧ e = (checkV l).1) := ⟨b1, hal, hB0, he⟩
  have HS : Hid (SeenF w a n l ∧ (∀ f ∈ l, f.Ok) ∧ n = l.length) := ⟨hS, hok, hS.len⟩
  clear b1 hal hT hS hok he he2 he3
  go_enter Tryd.func9, Tryd.ntmps9
  go_upto_region 2 with (go_at_call 8; rw [← hwa]; refine hck.mono ?_; rintro _ w3 ⟨rfl, hk3⟩)
  rw [← hB0]
  obtain ⟨w4, hw4⟩ : ∃ w4, w4 = w3.alloc (.cells #[.int .i64 e, .int .i64 e2, .int .i64 e3] 31) := ⟨_, rfl⟩
  obtain ⟨P, hP⟩ : ∃ P, P = w3.heap.size := ⟨_, rfl⟩
  have hal := Keeps.alloc None w3 (.cells #[.int .i64 e, .int .i64 e2, .int .i64 e3] 31)
  have b4 := heap_alloc_new w3 (.cells #[.int .i64 e, .int .i64 e2, .int .i64 e3] 31)
  rw [← hw4] at hal b4
  rw [← hP] at b4
  have hb4 := blk_kept (blk_kept HA.out.1 hk3 (fun f => f)) hal (fun f => f)
  have hkw4 := (HA.out.2.1.trans hk3 (fun _ f _ => f)).trans hal (fun _ f _ => f)
  have d4 := (cell_of_heap hb4 0).trans rfl
  have p4 := (cell_of_heap b4 0).trans rfl
  rw [← hw4, ← hP]
  have H4 : Hid (Keeps None w w4) := hkw4
  clear hw4 hP hal b4 hb4 hkw4 hk3 hck hwa hB0 d0
  by_cases he0 : e = 0
  · subst he0
    have hv := check_valid (check_zero HA.out.2.2.2.symm)
    have hn1 : 1 ≤ n ∧ n ≤ 32 := by have := HS.out.2.2; omega
    have HV : Hid (∀ f ∈ l, f.code.length ≤ 512) := fun f hf => (valid_bounds (hv.2.2 f hf)).2.2.2.2
    clear hv
    go_upto_region 5 with fail
    obtain ⟨w5, hw5⟩ : ∃ w5, w5 = w4.alloc (.cells #[.int .i64 1886156142, .int .i64 n] 2) := ⟨_, rfl⟩
    have hal := Keeps.alloc None w4 (.cells #[.int .i64 1886156142, .int .i64 n] 2)
    have b5 := heap_alloc_new w4 (.cells #[.int .i64 1886156142, .int .i64 n] 2)
    rw [← hw5] at hal b5
    have d5 := hal.cell d4 (fun f => f)
    obtain ⟨Q, hQ⟩ : ∃ Q, Q = w4.heap.size := ⟨_, rfl⟩
    rw [← hQ] at b5
    have H5 : Hid (w5.ownsRow w.heap.size 2 1 (.slice (some ⟨Q, 0, none⟩) 2 2) 2 (([1886156142, (n : Int)] ++ (l.take 0).flatMap fnW).map (Value.int .i64)) ∧ Keeps None w w5) := by
      refine ⟨⟨by simp, .inr ⟨Q, 2, _, rfl, ?_, b5, by simp, by simp [maxLen], by simp, by simp⟩⟩, H4.out.trans hal (fun _ f _ => f)⟩
      rw [hQ]; exact H4.out.size
    rw [← hw5, ← hQ]
    clear hw5 hQ hal b5 d4 p4
    go_wp2_with fail
    clear d5
    go_loopw [24, 5] (fun s24 s5 wr => ∃ (k N : Nat), k ≤ n ∧ s24 = .int .i64 k ∧ N = ([1886156142, (n : Int)] ++ (l.take k).flatMap fnW).length ∧ wr.ownsRow w.heap.size 2 1 s5 N (([1886156142, (n : Int)] ++ (l.take k).flatMap fnW).map (Value.int .i64)) ∧ Keeps None w wr) (fun i _ _ => n - (intOf i).toNat)
    case atStart => exact ⟨0, 2, Nat.zero_le _, rfl, by simp, H5.out.1, H5.out.2⟩
    case round =>
      obtain ⟨k, N, hk, rfl, hN, hrow, hkp⟩ := hrel
      obtain ⟨zs, hzs⟩ : ∃ zs, zs = [1886156142, (n : Int)] ++ (l.take k).flatMap fnW := ⟨_, rfl⟩
      have hfl := fns_len (l.take k) (fun f hf => HV.out f (List.mem_of_mem_take hf))
      have hN2 : N ≤ 83000 := by
        rw [hN, List.length_append]
        have : (l.take k).length ≤ 32 := by simp; omega
        simp only [List.length_cons, List.length_nil]
        omega
      rw [← hzs] at hN hrow
      by_cases hkn : k < n
      · obtain ⟨b, off, f, ca, cc, rfl, hf, hatw⟩ := HS.out.1.at hkn
        have hat := hatw.more hkp
        have hf512 := HV.out f (List.mem_of_getElem? hf)
        have i1 : (k : Int) < (n : Int) := by omega
        obtain ⟨m, hm⟩ : ∃ m, m = f.code.length := ⟨_, rfl⟩
        rw [← hm] at hf512
        obtain ⟨hat0, hat1, hat2, hat3, -⟩ := hat
        have hsee := hatw.seen
        rw [← hm] at hat3 hsee
        have hal1 := Keeps.alloc None wr (.cells #[.int .i64 f.params, .int .i64 f.regs, .int .i64 f.slots, .slice ca m cc] 40)
        have hal2 := Keeps.alloc None (wr.alloc (.cells #[.int .i64 f.params, .int .i64 f.regs, .int .i64 f.slots, .slice ca m cc] 40)) (.cells #[.int .i64 f.params, .int .i64 f.regs, .int .i64 f.slots, .int .i64 m] 2)
        have hkA := hal1.trans hal2 (fun _ f _ => f)
        obtain ⟨b1, b2⟩ := two_boxes wr #[.int .i64 f.params, .int .i64 f.regs, .int .i64 f.slots, .slice ca m cc] #[.int .i64 f.params, .int .i64 f.regs, .int .i64 f.slots, .int .i64 m] 40 2
        obtain ⟨g, cap, w6, hr6, ho6, hk6⟩ := words_more w.heap.size u5 zs [f.params, f.regs, f.slots, (m : Int)] N 4 22 (wr.heap.size + 1) _ hN rfl (hkA.own hrow (fun _ _ f => f)) (Nat.le_trans hkp.size hkA.size) (by omega) (by omega) b2
        have hkB : Keeps (fun k => u5.ownBlock = some k) wr w6 := (hkA.mono (fun _ f _ => f.elim)).trans hk6 (fun _ e _ => e)
        have hkw6 : Keeps None w w6 := hkp.trans hkB (fun i e hi => by
          rcases hrow.2 with ⟨rfl, _⟩ | ⟨g', cap', cur', rfl, hbg, _⟩
          · simp [Value.ownBlock] at e
          · simp [Value.ownBlock] at e; omega)
        have nF : ¬ u5.ownBlock = some wr.heap.size := fun e => by have := own_lt hrow e; omega
        have b6 := blk_kept b1 hk6 nF
        have d3 := (cell_of_heap b6 3).trans rfl
        have HK : Hid (w6.ownsRow w.heap.size 2 1 (.slice (some ⟨g, 0, none⟩) (N + 4) cap) (N + 4) ((zs ++ [f.params, f.regs, f.slots, (m : Int)]).map (Value.int .i64)) ∧ Keeps None w w6 ∧ N = zs.length ∧ zs = [1886156142, (n : Int)] ++ (l.take k).flatMap fnW ∧ l[k]? = some f ∧ m = f.code.length ∧ SeenI w ca m f.code ∧ ∀ i ∈ f.code, i.Ok) := ⟨ho6, hkw6, hN, hzs, hf, hm, hsee, (HS.out.2.1 f (List.mem_of_getElem? hf)).code⟩
        clear hrow hkp hal1 hal2 hkA b1 b2 hk6 hkB hkw6 b6 ho6 hf hm hzs hN hfl nF hsee hatw
        go_upto_region 9 with (at_builtin; refine wpList_append_run rfl (.tmp 28) (.tmp 38) 22 22 rfl rfl rfl hr6 ?_)
        clear hr6 hat0 hat1 hat2 hat3
        obtain ⟨zs1, hzs1⟩ : ∃ zs1, zs1 = zs ++ [f.params, f.regs, f.slots, (m : Int)] := ⟨_, rfl⟩
        have HZ1 : Hid (zs1 = zs ++ [f.params, f.regs, f.slots, (m : Int)] ∧ zs1.length = N + 4) := ⟨hzs1, by rw [hzs1, List.length_append, ← HK.out.2.2.1]; rfl⟩
        have H6 : Hid (w6.ownsRow w.heap.size 2 1 (.slice (some ⟨g, 0, none⟩) (N + 4) cap) (N + 4) ((zs1 ++ (f.code.take 0).flatMap insW).map (Value.int .i64))) := by
          unfold Hid
          rw [hzs1]
          simpa using HK.out.1
        clear hzs1
        go_wp2_with fail
        clear d3
        go_loopw [43, 5] (fun s43 s5 wr => ∃ (j M : Nat), j ≤ m ∧ s43 = .int .i64 j ∧ M = (zs1 ++ (f.code.take j).flatMap insW).length ∧ wr.ownsRow w.heap.size 2 1 s5 M ((zs1 ++ (f.code.take j).flatMap insW).map (Value.int .i64)) ∧ Keeps None w wr) (fun i _ _ => m - (intOf i).toNat)
        case atStart => exact ⟨0, N + 4, Nat.zero_le _, rfl, by simp [HZ1.out.2], H6.out, HK.out.2.1⟩
        case round =>
          obtain ⟨j, M, hj, rfl, hM, hrow, hkp⟩ := hrel
          obtain ⟨ys, hys⟩ : ∃ ys, ys = zs1 ++ (f.code.take j).flatMap insW := ⟨_, rfl⟩
          have hM2 : M ≤ 90000 := by
            rw [hM, List.length_append, ins_len, HZ1.out.2]
            have : (f.code.take j).length ≤ 512 := by simp; omega
            omega
          rw [← hys] at hM hrow
          by_cases hjm : j < m
          · obtain ⟨bI, oI, x, rfl, hx, hatI⟩ := (HK.out.2.2.2.2.2.2.1.more hkp).at hjm
            obtain ⟨y0, y1, y2, y3, y4⟩ := hatI
            have i2 : (j : Int) < (m : Int) := by omega
            have hal1 := Keeps.alloc None wr (.cells #[.int .i64 x.kind, .int .i64 x.a, .int .i64 x.b, .int .i64 x.c, .int .i64 x.k] 42)
            have hal2 := Keeps.alloc None (wr.alloc (.cells #[.int .i64 x.kind, .int .i64 x.a, .int .i64 x.b, .int .i64 x.c, .int .i64 x.k] 42)) (.cells #[.int .i64 x.kind, .int .i64 x.a, .int .i64 x.b, .int .i64 x.c, .int .i64 x.k] 2)
            have hkA := hal1.trans hal2 (fun _ f _ => f)
            obtain ⟨b1, b2⟩ := two_boxes wr #[.int .i64 x.kind, .int .i64 x.a, .int .i64 x.b, .int .i64 x.c, .int .i64 x.k] #[.int .i64 x.kind, .int .i64 x.a, .int .i64 x.b, .int .i64 x.c, .int .i64 x.k] 42 2
            obtain ⟨g7, cap7, w7, hr7, ho7, hk7⟩ := words_more w.heap.size u5 ys (insW x) M 5 22 (wr.heap.size + 1) _ hM rfl (hkA.own hrow (fun _ _ f => f)) (Nat.le_trans hkp.size hkA.size) (by omega) (by omega) b2
            have hkw7 : Keeps None w w7 := (hkp.trans hkA (fun _ f _ => f)).trans hk7 (fun i e hi => by
              rcases hrow.2 with ⟨rfl, _⟩ | ⟨g', cap', cur', rfl, hbg, _⟩
              · simp [Value.ownBlock] at e
              · simp [Value.ownBlock] at e; omega)
            have HQ : Hid (w7.ownsRow w.heap.size 2 1 (.slice (some ⟨g7, 0, none⟩) (M + 5) cap7) (M + 5) ((ys ++ insW x).map (Value.int .i64)) ∧ Keeps None w w7 ∧ M = ys.length ∧ ys = zs1 ++ (f.code.take j).flatMap insW ∧ f.code[j]? = some x) := ⟨ho7, hkw7, hM, hys, hx⟩
            clear hrow hkp hal1 hal2 hkA b1 b2 hk7 hkw7 ho7 hM hys hx
            go_wp2_with (at_builtin; refine wpList_append_run rfl (.tmp 47) (.tmp 58) 22 22 rfl rfl rfl hr7 ?_)
            have hfin : ys ++ insW x = zs1 ++ (f.code.take (j + 1)).flatMap insW := by rw [flat_take insW f.code j x HQ.out.2.2.2.2, HQ.out.2.2.2.1, List.append_assoc]
            exact ⟨⟨j + 1, M + 5, by omega, by simp, by rw [← hfin, List.length_append, ← HQ.out.2.2.1]; rfl, by rw [← hfin]; exact HQ.out.1, HQ.out.2.1⟩, by simp [intOf]; omega⟩
          · have i2 : ¬ ((j : Int) < (m : Int)) := by omega
            have HQ : Hid (wr.ownsRow w.heap.size 2 1 u5 M (ys.map (Value.int .i64)) ∧ Keeps None w wr ∧ M = ys.length ∧ ys = zs1 ++ (f.code.take j).flatMap insW) := ⟨hrow, hkp, hM, hys⟩
            clear hrow hkp hM hys
            go_wp2_with fail
            have hfin : ys = [1886156142, (n : Int)] ++ (l.take (k + 1)).flatMap fnW := by
              have ht : f.code.take j = f.code := List.take_of_length_le (by have := HK.out.2.2.2.2.2.1; omega)
              rw [flat_take fnW l k f HK.out.2.2.2.2.1, HQ.out.2.2.2, HZ1.out.1, HK.out.2.2.2.1, ht, HK.out.2.2.2.2.2.1]
              simp [fnW]
            exact ⟨⟨k + 1, M, by omega, by simp, by rw [← hfin]; exact HQ.out.2.2.1, by rw [← hfin]; exact HQ.out.1, HQ.out.2.1⟩, by simp [intOf]; omega⟩
      · have i1 : ¬ ((k : Int) < (n : Int)) := by omega
        have himg : zs = imageV l := by
          rw [hzs, List.take_of_length_le (by have := HS.out.2.2; omega), HS.out.2.2]
          rfl
        subst himg
        obtain ⟨ao, cap, hu5, -, -, -, -, hnn, -⟩ := own_zero (e := 2) (show wr.ownsRow 0 2 1 u5 N ((imageV l).map (Value.int .i64)) from ⟨hrow.1, by
          rcases hrow.2 with h0 | ⟨g', cap', cur', h1, h2, h3⟩
          · exact .inl h0
          · exact .inr ⟨g', cap', cur', h1, Nat.zero_le _, h3⟩⟩)
        have hN1 : 1 ≤ N := by rw [hN]; simp [imageV]
        obtain ⟨g, rfl⟩ : ∃ g, ao = some ⟨g, 0, none⟩ := by
          rcases hrow.2 with ⟨rfl, h0⟩ | ⟨g', cap', cur', h1, h2, h3⟩
          · omega
          · rw [hu5] at h1
            simp only [Value.slice.injEq] at h1
            exact ⟨g', h1.1⟩
        subst hu5
        have hse := own_seen hrow hN (image_ok HS.out.2.1 HV.out (by have := HS.out.2.2; omega)) (by omega)
        have hsm := sum_any (some ⟨g, 0, none⟩) N cap (imageV l) wr hse
        obtain ⟨sm, hsm2⟩ : ∃ sm, sm = sumV (imageV l) := ⟨_, rfl⟩
        rw [← hsm2] at hsm
        have hal1 := Keeps.alloc None wr (.cells #[.int .i64 sm] 2)
        obtain ⟨g7, cap7, w7, hr7, ho7, hk7⟩ := words_more w.heap.size (.slice (some ⟨g, 0, none⟩) N cap) (imageV l) [sm] N 1 22 wr.heap.size _ hN rfl (hal1.own hrow (fun _ _ f => f)) (Nat.le_trans hkp.size hal1.size) (by omega) (by omega) (heap_alloc_new wr (.cells #[.int .i64 sm] 2))
        have hkw7 : Keeps None w w7 := (hkp.trans hal1 (fun _ f _ => f)).trans hk7 (fun i e hi => by
          rcases hrow.2 with ⟨_, h0⟩ | ⟨g', cap', cur', h1, hbg, _⟩
          · omega
          · simp only [Value.slice.injEq] at h1
            simp [Value.ownBlock] at e
            have := h1.1
            simp at this <;> omega)
        have HQ : Hid (Enc w w7 l (.slice (some ⟨g7, 0, none⟩) (N + 1) cap7) g7 (N + 1) cap7 ∧ Keeps None w w7) := by
          refine ⟨⟨rfl, ?_, ?_⟩, hkw7⟩
          · unfold encV
            rw [List.length_append, ← hN]
            simp
          · unfold encV
            rw [← hsm2]
            exact ho7
        clear hrow hkp hal1 hk7 hkw7 ho7 hN hsm2 hse hfl hzs
        go_wp2_with (first | (go_at_call 26; refine hsm.mono ?_; rintro _ w' ⟨rfl, hw⟩; have hw2 := hw.symm; subst hw2) | (at_builtin; refine wpList_append_run rfl (.tmp 62) (.tmp 65) 22 22 rfl rfl rfl hr7 ?_))
        go_ret2
        first
          | exact ⟨_, rfl, HQ.out.2, g7, N + 1, cap7, HQ.out.1⟩
          | exact ⟨_, rfl, HQ.out.2, fun h => absurd rfl h, fun _ => ⟨g7, N + 1, cap7, HQ.out.1⟩⟩
  · have he1 : (e != 0) = true := by simpa using he0
    go_upto_region 3 with fail
    go_quiet (fail)
    go_wp2_with fail
    go_ret2
    exact ⟨_, rfl, H4.out.trans (Keeps.drewN None _ _) (fun _ f _ => f), fun _ => rfl, fun h => absurd h he0⟩
end Go.Proofs.YtcjmceedkfjbeaaDoor
/-! readProgram, where it comes to a program. -/
namespace Go.Proofs.YtcjmceedkfjbeaaDoor
set_option linter.unusedVariables false
set_option maxRecDepth 20000
open Go.RowKit Go.HeapKit

abbrev V4 := Value × Value × Value × Value
def v4 (e : V4) : List Value := [e.1, e.2.1, e.2.2.1, e.2.2.2]
def z4 : V4 := (.int .i64 0, .int .i64 0, .int .i64 0, .slice none 0 0)
def e4 (f : Fn) (cb : Nat) : V4 := (.int .i64 f.params, .int .i64 f.regs, .int .i64 f.slots, .slice (some ⟨cb, 0, none⟩) f.code.length f.code.length)
theorem v4_at (E : List V4) (k : Nat) (e : V4) (h : E[k]? = some e) : (E.flatMap v4)[k * 4]? = some e.1 ∧ (E.flatMap v4)[k * 4 + 1]? = some e.2.1 ∧ (E.flatMap v4)[k * 4 + 2]? = some e.2.2.1 ∧ (E.flatMap v4)[k * 4 + 3]? = some e.2.2.2 := by
  induction E generalizing k with
  | nil => simp at h
  | cons y E ih =>
    rw [List.flatMap_cons]
    cases k with
    | zero => simp at h; subst h; simp [v4]
    | succ k =>
      have := ih k (by simpa using h)
      rw [show (k + 1) * 4 = k * 4 + 4 by omega]
      simpa [v4] using this
theorem v4_set (E : List V4) (k : Nat) (e : V4) (hk : k < E.length) : ((((E.flatMap v4).set (k * 4) e.1).set (k * 4 + 1) e.2.1).set (k * 4 + 2) e.2.2.1).set (k * 4 + 3) e.2.2.2 = (E.set k e).flatMap v4 := by
  induction E generalizing k with
  | nil => simp at hk
  | cons y E ih =>
    cases k with
    | zero => rfl
    | succ k =>
      have h1 := ih k (by simpa using hk)
      rw [List.set_cons_succ, List.flatMap_cons, List.flatMap_cons, ← h1, show (k + 1) * 4 = k * 4 + 4 by omega]
      rfl
structure IsFs (w : World) (gb : Nat) (E : List V4) : Prop where
  blk : w.heap[gb]? = some (.cells (E.flatMap v4).toArray 40 (0, 0))
theorem IsFs.kept {w w' : World} {gb : Nat} {E : List V4} {S : Nat → Prop} (h : IsFs w gb E) (hk : Keeps S w w') (hS : ¬ S gb) : IsFs w' gb E := ⟨blk_kept h.blk hk hS⟩
theorem IsFs.set {w : World} {gb : Nat} {E : List V4} (h : IsFs w gb E) (k : Nat) (hk : k < E.length) (e : V4) : IsFs ((((w.setCell ⟨gb, k * 4, none⟩ e.1).setCell ⟨gb, k * 4 + 1, none⟩ e.2.1).setCell ⟨gb, k * 4 + 2, none⟩ e.2.2.1).setCell ⟨gb, k * 4 + 3, none⟩ e.2.2.2) gb (E.set k e) ∧
    Keeps (· = gb) w ((((w.setCell ⟨gb, k * 4, none⟩ e.1).setCell ⟨gb, k * 4 + 1, none⟩ e.2.1).setCell ⟨gb, k * 4 + 2, none⟩ e.2.2.1).setCell ⟨gb, k * 4 + 3, none⟩ e.2.2.2) := by
  refine ⟨⟨?_⟩, ((((Keeps.refl (· = gb) w).andSet (x := ⟨gb, k * 4, none⟩) (.inl rfl) _).andSet (x := ⟨gb, k * 4 + 1, none⟩) (.inl rfl) _).andSet (x := ⟨gb, k * 4 + 2, none⟩) (.inl rfl) _).andSet (x := ⟨gb, k * 4 + 3, none⟩) (.inl rfl) _⟩
  rw [blk_set (blk_set (blk_set (blk_set h.blk _) _) _) _, ← v4_set E k e hk]
  simp
theorem Tryd.infoFn : (Tryd.prog.info? 40).map (fun i => (i.zero, i.size, i.bytes)) = some (some (.agg #[.int .i64 0, .int .i64 0, .int .i64 0, .slice none 0 0]), 4, 48) := by kernel_rfl
theorem v4_zero_at (n q : Nat) (hq : q < n * 4) : ((List.replicate n z4).flatMap v4)[q]? = some (#[Value.int .i64 0, .int .i64 0, .int .i64 0, .slice none 0 0][q % 4]!) := by
  have h := v4_at (List.replicate n z4) (q / 4) z4 (by rw [List.getElem?_replicate]; simp; omega)
  have hlt : q % 4 < 4 := Nat.mod_lt _ (by omega)
  have e : q = q / 4 * 4 + q % 4 := by omega
  generalize q / 4 = d at h e
  generalize q % 4 = t at hlt e
  subst e
  match t, hlt with
  | 0, _ => exact h.1
  | 1, _ => exact h.2.1
  | 2, _ => exact h.2.2.1
  | 3, _ => exact h.2.2.2
theorem v4_len (E : List V4) : (E.flatMap v4).length = E.length * 4 := by
  induction E with
  | nil => rfl
  | cons y E ih => rw [List.flatMap_cons, List.length_append, ih]; simp [v4]; omega
theorem made_four (n : Nat) : madeCells (Value.agg #[.int .i64 0, .int .i64 0, .int .i64 0, .slice none 0 0]).cells (n * 4) = ((List.replicate n z4).flatMap v4).toArray := by
  apply Array.ext
  · simp [madeCells, v4]
  · intro i h1 h2
    have hi : i < n * 4 := by simpa [madeCells] using h1
    have h10 : (Value.agg #[.int .i64 0, .int .i64 0, .int .i64 0, .slice none 0 0]).cells = #[.int .i64 0, .int .i64 0, .int .i64 0, .slice none 0 0] := rfl
    have h3 := v4_zero_at n i hi
    rw [List.getElem?_eq_getElem (by simpa using h2)] at h3
    simp only [h10]
    simp only [madeCells, Array.getElem_map, Array.getElem_range, List.getElem_toArray]
    rw [Option.some.inj h3]
    rfl
theorem fs_made (w : World) (n : Nat) (hn : n ≤ 32) : ∃ w', (Instr.makeSlice 23 (.int .i64 n) (.int .i64 n)).run Tryd.prog w = .ok (.slice (some ⟨w.heap.size, 0, none⟩) n n) w' ∧ IsFs w' w.heap.size (List.replicate n z4) ∧ Keeps None w w' ∧ w'.heap.size = w.heap.size + 1 := by
  obtain ⟨i0, hi, hz0, hz1, hz2⟩ := info_parts Tryd.infoFn
  obtain ⟨M, hM, _, hr⟩ := run_make_block (P := Tryd.prog) (w := w) 23 40 i0 _ 4 48 Tryd.underlying23 hi hz0 hz1 hz2 n (by omega) (by omega)
  refine ⟨_, hr, ⟨?_⟩, Keeps.alloc None w _, by simp⟩
  rw [heap_alloc_new, hM, made_four]
/-- The first k entries are these functions, each with its code; all of it lies in new memory. -/
def Laid (lo : Nat) (w : World) (E : List V4) (fs : List Fn) (k : Nat) : Prop := ∀ j f, j < k → fs[j]? = some f → ∃ cb, E[j]? = some (e4 f cb) ∧ IsCode w cb f.code ∧ lo ≤ cb
theorem Laid.kept {lo : Nat} {w w' : World} {E : List V4} {fs : List Fn} {k : Nat} {S : Nat → Prop} (h : Laid lo w E fs k) (hk : Keeps S w w') (hS : ∀ g, S g → g < lo ∨ ∃ c t z, w.heap[g]? = some (.cells c t z) ∧ t ≠ 42) : Laid lo w' E fs k := by
  intro j f hj hf
  obtain ⟨cb, h1, h2, h3⟩ := h j f hj hf
  refine ⟨cb, h1, h2.kept hk (fun s => ?_), h3⟩
  rcases hS cb s with h4 | ⟨c, t, z, hb, ht⟩
  · omega
  · exact blk_ne hb h2.blk ht rfl
theorem laid_seen {lo : Nat} {w : World} {gb : Nat} {E : List V4} {fs : List Fn} {n : Nat} (hE : IsFs w gb E) (h : Laid lo w E fs n) (hn : n = fs.length) : SeenF w (some ⟨gb, 0, none⟩) n fs := by
  refine ⟨hn, fun _ => ⟨gb, 0, rfl, blk_lt hE.blk, fun k f hf => ?_⟩⟩
  obtain ⟨cb, h1, h2, _⟩ := h k f (by have := (List.getElem?_eq_some_iff.1 hf).1; omega) hf
  obtain ⟨c0, c1, c2, c3⟩ := v4_at E k _ h1
  rw [Nat.zero_add]
  exact ⟨some ⟨cb, 0, none⟩, f.code.length, by rw [blk_cell hE.blk]; simpa [e4] using c0, by rw [blk_cell hE.blk]; simpa [e4] using c1, by rw [blk_cell hE.blk]; simpa [e4] using c2, by rw [blk_cell hE.blk]; simpa [e4] using c3, h2.seen⟩
/-- How the functions are read, one by one. -/
theorem fns_step {n k : Nat} {zk r : List Int} {fs : List Fn} (hk : k < n) (h : readFns (n - k) zk = some (fs.drop k, r)) (hl : fs.length = n) : ∃ f r1, fs[k]? = some f ∧ readFn zk = some (f, r1) ∧ readFns (n - (k + 1)) r1 = some (fs.drop (k + 1), r) := by
  obtain ⟨m, hm⟩ : ∃ m, n - k = m + 1 := ⟨n - k - 1, by omega⟩
  have hm2 : n - (k + 1) = m := by omega
  rw [hm] at h
  simp only [readFns, Option.bind_eq_some_iff, Option.map_eq_some_iff] at h
  obtain ⟨⟨f, r1⟩, h1, ⟨c2, r2⟩, h2, e⟩ := h
  simp at e
  obtain ⟨e1, rfl⟩ := e
  have hlt : k < fs.length := by omega
  rw [List.drop_eq_getElem_cons hlt] at e1
  injection e1 with e1 e2
  refine ⟨f, r1, ?_, h1, ?_⟩
  · rw [List.getElem?_eq_getElem hlt, ← e1]
  · rw [hm2, h2, e2]
end Go.Proofs.YtcjmceedkfjbeaaDoor
/-! readProgram and Decode of an image. -/
namespace Go.Proofs.YtcjmceedkfjbeaaDoor
set_option linter.unusedVariables false
set_option maxRecDepth 20000
open Go.RowKit Go.HeapKit

theorem SeenW.first {w : World} {a : Option Addr} {n : Nat} {zs : List Int} (h : SeenW w a n zs) (k : Nat) (hk : k ≤ n) : SeenW w a k (zs.take k) := by
  have hl := h.len
  have hm := h.most
  refine ⟨by simp; omega, by omega, fun x hx => h.ok x (List.mem_of_mem_take hx), fun h0 => ?_⟩
  obtain ⟨b, off, rfl, hb, hc⟩ := h.ex (by omega)
  refine ⟨b, off, rfl, hb, fun j x hx => hc j x ?_⟩
  rw [List.getElem?_take] at hx
  split at hx
  · exact hx
  · cases hx
set_option maxHeartbeats 4000000 in
theorem read_good (b off n c : Nat) (zs r : List Int) (m : Nat) (fs : List Fn) (x : Int) (w : World) (hS : SeenW w (some ⟨b, off, none⟩) (n + 1) zs) (hn : 2 ≤ n) (hc : n + 1 ≤ c) (hcm : c ≤ maxLen) (hx : zs[n]? = some x) (hb : x = sumV (zs.take n)) (hz : zs.take n = 1886156142 :: (m : Int) :: r)
    (hm1 : 1 ≤ m) (hm2 : m ≤ 32) (hr : readFns m r = some (fs, [])) (hf : fs.length = m) :
    Calls Tryd.prog 21 #[.slice (some ⟨b, off, none⟩) (n + 1) c] w fun e w' => ∃ gb, e = .returned (.agg #[.slice (some ⟨gb, 0, none⟩) m m]) ∧ (∀ (S : Nat → Prop) w'', Keeps S w' w'' → (∀ k, S k → k < w.heap.size) → SeenF w'' (some ⟨gb, 0, none⟩) m fs) ∧ Keeps None w w' ∧ w.heap.size ≤ gb := by
  obtain ⟨_, _, e0, hlt, hcell⟩ := hS.ex (by omega)
  injection e0 with e0
  injection e0 with e1 e2 _
  subst e1 e2
  have hal := Keeps.alloc None w (.cells #[.slice none 0 0] 25)
  have bA := heap_alloc_new w (.cells #[.slice none 0 0] 25)
  have y := hal.cell (hcell n x hx) (fun f => f)
  have hsm := fun wx (hk : Keeps None w wx) => sum_any (some ⟨b, off, none⟩) n c (zs.take n) wx ((hS.more hk).first n (by omega))
  rw [← hb] at hsm
  obtain ⟨wa, hwa⟩ : ∃ wa, wa = w.alloc (.cells #[.slice none 0 0] 25) := ⟨_, rfl⟩
  obtain ⟨A1, hA1⟩ : ∃ A1, A1 = w.heap.size := ⟨_, rfl⟩
  rw [← hwa] at hal bA y
  rw [← hA1] at bA
  have hmost := hS.most
  have i1 : (3 : Int) ≤ ((n + 1 : Nat) : Int) := by omega
  have i2 : wrap64 (((n + 1 : Nat) : Int) - 1) = (n : Int) := by unfold wrap64; omega
  have i3 : (n : Int) < ((n + 1 : Nat) : Int) := by omega
  have i4 : (n : Int) ≤ (c : Int) := by omega
  have i5 : (0 : Int) ≤ (n : Int) := by omega
  have hS2 := hS.first n (by omega)
  rw [hz] at hS2
  have HS : Hid (SeenW w (some ⟨b, off, none⟩) n (1886156142 :: (m : Int) :: r) ∧ readFns m r = some (fs, []) ∧ fs.length = m ∧ Keeps None w wa ∧ wa.heap[A1]? = some (.cells #[.slice none 0 0] 25 (0, 0)) ∧ A1 = w.heap.size ∧ n ≤ c ∧ c ≤ maxLen) := ⟨hS2, hr, hf, hal, bA, hA1, by omega, hcm⟩
  have HSM : Hid _ := hsm
  clear hS hcell hx hb hz hr hf hal bA hsm hS2
  go_enter Tryd.func21, Tryd.ntmps21
  go_upto_region 4 with fail
  rw [← hwa, ← hA1]
  clear hwa hA1
  go_quiet ((go_at_call 26; exact Calls.quiet_of_same (HSM.out _ (HS.out.2.2.2.1.trans (Keeps.drewN None _ _) (fun _ f _ => f)))))
  go_upto_region 6 with fail
  obtain ⟨wq, hwq⟩ : ∃ wq, wq = wa.drewN nq := ⟨_, rfl⟩
  have hkq : Keeps None wa wq := by rw [hwq]; exact Keeps.drewN None wa nq
  rw [← hwq]
  obtain ⟨R, hR⟩ : ∃ R, R = wq.heap.size := ⟨_, rfl⟩
  have HQ : Hid (Keeps None wa wq ∧ R = wq.heap.size) := ⟨hkq, hR⟩
  clear hwq hkq hR y
  go_cut [4] (fun s4 wx => s4 = .pointer (some ⟨R, 0, none⟩) ∧ wx.heap[R]? = some (.cells #[.slice (some ⟨b, off, none⟩) n c] 67 (0, 0)) ∧ Keeps None wq wx)
  case first =>
    go_wp2_with fail
    go_meet
    rw [HQ.out.2]
    exact ⟨rfl, heap_alloc_new _ _, Keeps.alloc None _ _⟩
  case rest =>
    obtain ⟨rfl, hRb, hk6⟩ := hcut
    have hkA := HQ.out.1.trans hk6 (fun _ f _ => f)
    have hkw := HS.out.2.2.2.1.trans hkA (fun _ f _ => f)
    have hRlow : w.heap.size ≤ R := by have h1 := HS.out.2.2.2.1.size; have h2 := HQ.out.1.size; have h3 := HQ.out.2; omega
    have h0 : IsRd w wc R (1886156142 :: (m : Int) :: r) := ⟨hkw, hRlow, some ⟨b, off, none⟩, n, c, hRb, HS.out.1, HS.out.2.2.2.2.2.2.1, HS.out.2.2.2.2.2.2.2⟩
    have hA0 := blk_kept HS.out.2.2.2.2.1 hkA (fun f => f)
    have nRA : ¬ A1 = R := blk_ne hA0 hRb (by decide)
    have HW : Hid (wc.heap[A1]? = some (.cells #[.slice none 0 0] 25 (0, 0)) ∧ Keeps None w wc ∧ ¬ A1 = R ∧ w.heap.size ≤ R ∧ w.heap.size ≤ A1 ∧ R < wc.heap.size) := ⟨hA0, hkw, nRA, hRlow, by have := HS.out.2.2.2.2.2.1; omega, blk_lt hRb⟩
    have hwd := word_some w R 1886156142 ((m : Int) :: r) wc h0
    clear hRb hk6 hkA hkw hRlow h0 hA0 nRA
    have j1 : (1 : Int) ≤ (m : Int) := by omega
    have j2 : (m : Int) ≤ 32 := by omega
    have HMK : Hid (∀ wx, _) := fun wx => fs_made wx m hm2
    go_upto_region 10 with (first
      | (go_at_call 36; refine hwd.mono ?_; rintro _ w1 ⟨rfl, h1, k1⟩)
      | (go_at_call 37; refine (count_some w R 32 m r w1 h1 j1 j2).mono ?_; rintro _ w2 ⟨rfl, h2, k2⟩; obtain ⟨w3, hr3, hF3, k3, z3⟩ := HMK.out w2)
      | (at_make; refine wpList_make_run rfl (.tmp 31) (.tmp 31) 23 rfl rfl rfl hr3 ?_))
    obtain ⟨gb, hgb⟩ : ∃ gb, gb = w2.heap.size := ⟨_, rfl⟩
    obtain ⟨PB, hPB⟩ : ∃ PB, PB = w2.heap.size + 1 := ⟨_, rfl⟩
    have hal4 := Keeps.alloc None w3 (.cells #[.slice (some ⟨w2.heap.size, 0, none⟩) m m] 25)
    have b4 := heap_alloc_new w3 (.cells #[.slice (some ⟨w2.heap.size, 0, none⟩) m m] 25)
    obtain ⟨w4, hw4⟩ : ∃ w4, w4 = w3.alloc (.cells #[.slice (some ⟨w2.heap.size, 0, none⟩) m m] 25) := ⟨_, rfl⟩
    rw [← hw4] at hal4 b4
    rw [z3, ← hPB, ← hgb] at b4
    rw [← hgb] at hF3
    have hk34 := k3.trans hal4 (fun _ f _ => f)
    have hk12 : Keeps (· = R) wc w2 := k1.trans k2 (fun _ e _ => e)
    have h4 : IsRd w w4 R r := h2.kept hk34 (fun _ f => f.elim)
    have s12 := hk12.size
    have s4 := hal4.size
    have nG : gb ≠ R := by have := HW.out.2.2.2.2.2; omega
    have nP : PB ≠ R := by have := HW.out.2.2.2.2.2; omega
    have nA1 := blk_lt HW.out.1
    have nAG : A1 ≠ gb := by omega
    have nAP : A1 ≠ PB := by omega
    have nGP : gb ≠ PB := by omega
    have H4 : Hid (IsRd w w4 R r ∧ IsFs w4 gb (List.replicate m z4) ∧ w4.heap[PB]? = some (.cells #[.slice (some ⟨gb, 0, none⟩) m m] 25 (0, 0)) ∧ w4.heap[A1]? = some (.cells #[.slice none 0 0] 25 (0, 0)) ∧ R < w4.heap.size ∧ gb ≠ R ∧ PB ≠ R ∧ A1 ≠ gb ∧ A1 ≠ PB ∧ gb ≠ PB ∧ w.heap.size ≤ gb ∧ w.heap.size ≤ PB) := by
      refine ⟨h4, hF3.kept hal4 (fun f => f), b4, blk_kept (blk_kept HW.out.1 hk12 HW.out.2.2.1) hk34 (fun f => f), by have := HW.out.2.2.2.2.2; omega, nG, nP, nAG, nAP, nGP, by have := HW.out.2.1.size; omega, by have := HW.out.2.1.size; omega⟩
    rw [← hw4, ← hPB, ← hgb]
    have d4 := (cell_of_heap b4 0).trans rfl
    clear hw4 hgb hPB hal4 b4 hk34 hk12 h4 s12 s4 nG nP nA1 nAG nAP nGP h1 h2 k1 k2 hr3 hF3 k3 z3 hwd
    go_wp2_with fail
    clear d4
    go_loopw [37] (fun s37 wr => ∃ (k : Nat) (E : List V4) (zk : List Int), k ≤ m ∧ s37 = .int .i64 k ∧ IsRd w wr R zk ∧ readFns (m - k) zk = some (fs.drop k, []) ∧ IsFs wr gb E ∧ E.length = m ∧ Laid w.heap.size wr E fs k ∧ wr.heap[PB]? = some (.cells #[.slice (some ⟨gb, 0, none⟩) m m] 25 (0, 0)) ∧ wr.heap[A1]? = some (.cells #[.slice none 0 0] 25 (0, 0)) ∧ R < wr.heap.size) (fun i _ => m - (intOf i).toNat)
    case atStart => exact ⟨0, _, r, Nat.zero_le _, rfl, H4.out.1, by simpa using HS.out.2.1, H4.out.2.1, by simp, fun j f h => by omega, H4.out.2.2.1, H4.out.2.2.2.1, H4.out.2.2.2.2.1⟩
    case round =>
      obtain ⟨k, E, zk, hk, rfl, h0, hread, hE, hEl, hL, hP, hA, hRlt⟩ := hrel
      have d0 := (cell_of_heap hP 0).trans rfl
      by_cases hkm : k < m
      · have i6 : (k : Int) < (m : Int) := by omega
        obtain ⟨f, r1, hfk, hrf, hrest⟩ := fns_step hkm hread HS.out.2.2.1
        have hfn0 := fn_any w R zk wr.drew (h0.kept (Keeps.drew None wr) (fun _ f => f.elim)) hRlt (by rw [hrf]; simp)
        rw [hrf] at hfn0
        have hfn : Calls Tryd.prog 38 #[.pointer (some ⟨R, 0, none⟩)] wr.drew fun e w' => ∃ cb, e = .returned (.agg #[.int .i64 f.params, .int .i64 f.regs, .int .i64 f.slots, .slice (some ⟨cb, 0, none⟩) f.code.length f.code.length]) ∧ IsCode w' cb f.code ∧ IsRd w w' R r1 ∧ Keeps (· = R) wr.drew w' ∧ wr.drew.heap.size ≤ cb := hfn0.mono fun e w' h => h
        have nPG : PB ≠ gb := H4.out.2.2.2.2.2.2.2.2.2.1.symm
        have hRt : ∃ c t z, wr.heap[R]? = some (.cells c t z) ∧ t ≠ 42 := by
          obtain ⟨a', n', c', hb', _⟩ := h0.ex
          exact ⟨_, _, _, hb', by decide⟩
        have s0 : wr.drew.cell? ⟨PB, 0, none⟩ = some (.slice (some ⟨gb, 0, none⟩) m m) := d0
        have HK : Hid (fs[k]? = some f ∧ readFns (m - (k + 1)) r1 = some (fs.drop (k + 1), []) ∧ IsFs wr gb E ∧ E.length = m ∧ Laid w.heap.size wr E fs k ∧ wr.heap[PB]? = some (.cells #[.slice (some ⟨gb, 0, none⟩) m m] 25 (0, 0)) ∧ wr.heap[A1]? = some (.cells #[.slice none 0 0] 25 (0, 0)) ∧ R < wr.heap.size ∧ (∃ c t z, wr.heap[R]? = some (.cells c t z) ∧ t ≠ 42) ∧ w.heap.size ≤ wr.drew.heap.size) := ⟨hfk, hrest, hE, hEl, hL, hP, hA, hRlt, hRt, h0.base.size⟩
        clear hfk hrest hE hEl hL hP hA hRlt hRt hread hrf hfn0 h0
        go_upto_region 13 with fail
        go_region_held3 (fun w' => w'.cell? ⟨PB, 0, none⟩ = some (.slice (some ⟨gb, 0, none⟩) m m)) (first | with_reducible exact sE | with_reducible exact s5 | go_keep) (first
          | (go_at_call 38; refine hfn.mono ?_; rintro _ w5 ⟨cb, rfl, hc5, h5, k5, hcb⟩; have s5 : w5.cell? ⟨PB, 0, none⟩ = some (.slice (some ⟨gb, 0, none⟩) m m) := k5.cell s0 H4.out.2.2.2.2.2.2.1; have k05 : Keeps (· = R) wr w5 := (Keeps.drew (· = R) wr).trans k5 (fun _ e _ => e); have hE5 : IsFs w5 gb E := HK.out.2.2.1.kept k05 H4.out.2.2.2.2.2.1; obtain ⟨y0, y1, y2, y3⟩ := v4_at E k _ (List.getElem?_eq_getElem (by have := HK.out.2.2.2.1; omega)); have Y0 := (blk_cell hE5.blk (k * 4)).trans (by simpa using y0); have Y1 := (blk_cell hE5.blk (k * 4 + 1)).trans (by simpa using y1); have Y2 := (blk_cell hE5.blk (k * 4 + 2)).trans (by simpa using y2); have Y3 := (blk_cell hE5.blk (k * 4 + 3)).trans (by simpa using y3); have Z0 := blk_free hE5.blk (k * 4); have Z1 := blk_free hE5.blk (k * 4 + 1); have Z2 := blk_free hE5.blk (k * 4 + 2); have Z3 := blk_free hE5.blk (k * 4 + 3); have sE : ((((w5.setCell ⟨gb, k * 4, none⟩ (.int .i64 f.params)).setCell ⟨gb, k * 4 + 1, none⟩ (.int .i64 f.regs)).setCell ⟨gb, k * 4 + 2, none⟩ (.int .i64 f.slots)).setCell ⟨gb, k * 4 + 3, none⟩ (.slice (some ⟨cb, 0, none⟩) f.code.length f.code.length)).cell? ⟨PB, 0, none⟩ = some (.slice (some ⟨gb, 0, none⟩) m m) := (hE5.set k (by have := HK.out.2.2.2.1; omega) (e4 f cb)).2.cell s5 nPG))
        all_goals go_wp2_with fail
        all_goals
          have hkl : k < E.length := by have := HK.out.2.2.2.1; omega
          obtain ⟨hEE, kE⟩ := hE5.set k hkl (e4 f cb)
          have hL5 : Laid w.heap.size w5 E fs k := HK.out.2.2.2.2.1.kept k05 (fun g e => by subst e; exact .inr HK.out.2.2.2.2.2.2.2.2.1)
          have hgt : w5.heap[gb]? = some (.cells (E.flatMap v4).toArray 40 (0, 0)) := hE5.blk
          have hL6 := hL5.kept kE (fun g e => by subst e; exact .inr ⟨_, _, _, hgt, by decide⟩)
          have ncb : ¬ cb = gb := blk_ne hc5.blk hgt (by decide)
          have hc6 := hc5.kept kE ncb
          refine ⟨⟨k + 1, E.set k (e4 f cb), r1, by omega, by simp, h5.kept kE (fun i e => by subst e; exact ⟨H4.out.2.2.2.2.2.2.2.2.2.2.1, H4.out.2.2.2.2.2.1⟩), HK.out.2.1, hEE, by simpa using HK.out.2.2.2.1, fun j f' hj hf' => ?_, blk_kept (blk_kept HK.out.2.2.2.2.2.1 k05 H4.out.2.2.2.2.2.2.1) kE nPG, blk_kept (blk_kept HK.out.2.2.2.2.2.2.1 k05 HW.out.2.2.1) kE H4.out.2.2.2.2.2.2.2.1, Nat.lt_of_lt_of_le HK.out.2.2.2.2.2.2.2.1 (Nat.le_trans k05.size kE.size)⟩, by simp [intOf]; omega⟩
          by_cases ej : j = k
          · subst ej
            rw [HK.out.1] at hf'
            obtain rfl := Option.some.inj hf'
            exact ⟨cb, by rw [List.getElem?_set_self hkl], hc6, Nat.le_trans HK.out.2.2.2.2.2.2.2.2.2 hcb⟩
          · obtain ⟨cb', h1, h2, h3⟩ := hL6 j f' (by omega) hf'
            exact ⟨cb', by rw [List.getElem?_set_ne (Ne.symm ej)]; exact h1, h2, h3⟩
      · have hkm2 : k = m := by omega
        subst hkm2
        have i6 : ¬ ((k : Int) < (k : Int)) := by omega
        have hzk : zk = [] := by
          rw [Nat.sub_self] at hread
          simp [readFns] at hread
          exact hread.2
        subst hzk
        obtain ⟨a', n', c', hRb, hsw, _⟩ := h0.ex
        have hn0 : n' = 0 := hsw.len
        subst hn0
        have dR := (cell_of_heap hRb 0).trans rfl
        have a0 := (cell_of_heap hA 0).trans rfl
        have z0 := blk_free hA 0
        have bE := blk_set (i := 0) hA (.slice (some ⟨gb, 0, none⟩) k k)
        have kE : Keeps (· = A1) wr (wr.setCell ⟨A1, 0, none⟩ (.slice (some ⟨gb, 0, none⟩) k k)) := Keeps.setCell (S := (· = A1)) wr (a := ⟨A1, 0, none⟩) rfl _
        have hL6 := hL.kept kE (fun g e => by subst e; exact .inr ⟨_, _, _, hA, by decide⟩)
        have hEE := hE.kept kE H4.out.2.2.2.2.2.2.2.1.symm
        have hsf : ∀ (S : Nat → Prop) w'', Keeps S (wr.setCell ⟨A1, 0, none⟩ (.slice (some ⟨gb, 0, none⟩) k k)) w'' → (∀ i, S i → i < w.heap.size) → SeenF w'' (some ⟨gb, 0, none⟩) k fs := fun S w'' hk hS => laid_seen (hEE.kept hk (fun h => by have := hS _ h; have := H4.out.2.2.2.2.2.2.2.2.2.2.1; omega)) (hL6.kept hk (fun g h => .inl (hS g h))) HS.out.2.2.1.symm
        have HE : Hid ((∀ (S : Nat → Prop) w'', Keeps S _ w'' → (∀ i, S i → i < w.heap.size) → SeenF w'' (some ⟨gb, 0, none⟩) k fs) ∧ Keeps None w _ ∧ _) := ⟨hsf, h0.base.trans kE (fun i e hi => by have := HW.out.2.2.2.2.1; omega), bE⟩
        clear hread hsw h0 hRb hE hEl hL hP hA bE kE hL6 hsf hEE
        go_wp2_with fail
        refine bodyPost_ret (results_one (q := 2) (ty := 25) rfl rfl (run_loadVar_row _ A1 _ 25 _ _ _ HE.out.2.2 Tryd.underlying25 rfl (by kernel_rfl))) rfl ?_
        exact ⟨gb, rfl, HE.out.1, HE.out.2.1, H4.out.2.2.2.2.2.2.2.2.2.2.1⟩
end Go.Proofs.YtcjmceedkfjbeaaDoor
