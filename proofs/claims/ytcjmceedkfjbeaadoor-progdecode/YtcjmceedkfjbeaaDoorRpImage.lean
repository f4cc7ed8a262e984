import Derived.Test.YtcjmceedkfjbeaaDoorRpSum
/-! The document's image. -/
namespace Go.Proofs.YtcjmceedkfjbeaaDoor
set_option linter.unusedVariables false
set_option maxRecDepth 20000
open Go.RowKit Go.HeapKit

theorem own_base {w : World} {b b' : Nat} {e : TypeId} {size : Nat} {v : Value} {n : Nat} {xs : List Value} (h : w.ownsRow b e size v n xs) (hb : b' ≤ b) : w.ownsRow b' e size v n xs := ⟨h.1, by
  rcases h.2 with h0 | ⟨g, cap, cur, h1, h2, h3⟩
  · exact .inl h0
  · exact .inr ⟨g, cap, cur, h1, Nat.le_trans hb h2, h3⟩⟩
theorem own_low {w : World} {b : Nat} {e : TypeId} {size : Nat} {v : Value} {n : Nat} {xs : List Value} (h : w.ownsRow b e size v n xs) {g : Nat} (hg : v.ownBlock = some g) : b ≤ g := by
  rcases h.2 with ⟨rfl, _⟩ | ⟨g', cap, cur, rfl, h2, _⟩
  · simp [Value.ownBlock] at hg
  · simp [Value.ownBlock] at hg; omega
/-- A function's box. -/
def fnBox (f : Fn) (ca : Option Addr) (m cc : Nat) : Obj := .cells #[.int .i64 f.params, .int .i64 f.regs, .int .i64 f.slots, .slice ca m cc] 40 (0, 0)
set_option maxRecDepth 20000 in
set_option maxHeartbeats 4000000 in
theorem rimage_any (a : Option Addr) (n c : Nat) (l : List Fn) (w : World) (hS : SeenF w a n l) (hok : ∀ f ∈ l, f.Ok) (hcl : ∀ f ∈ l, f.code.length ≤ 512) (hn1 : 1 ≤ n ∧ n ≤ 32) :
    Calls Tryd.prog 31 #[.agg #[.slice a n c]] w fun e w' => ∃ v g N cap, e = .returned v ∧ Keeps None w w' ∧ Enc w w' l v g N cap := by
  obtain ⟨B, hB0⟩ : ∃ B, B = w.heap.size := ⟨_, rfl⟩
  have hal := Keeps.alloc None w (.cells #[.slice a n c] 25)
  have b1 := heap_alloc_new w (.cells #[.slice a n c] 25)
  obtain ⟨wa, hwa⟩ : ∃ wa, wa = w.alloc (.cells #[.slice a n c] 25) := ⟨_, rfl⟩
  rw [← hB0] at b1
  rw [← hwa] at b1 hal
  have d0 := (cell_of_heap b1 0).trans rfl
  have HA : Hid (wa.heap[B]? = some (.cells #[.slice a n c] 25 (0, 0)) ∧ Keeps None w wa) := ⟨b1, hal⟩
  have HS : Hid (SeenF wa a n l ∧ (∀ f ∈ l, f.Ok) ∧ n = l.length ∧ ∀ f ∈ l, f.code.length ≤ 512) := ⟨hS.more hal, hok, hS.len, hcl⟩
  clear b1 hal hS hok hcl
  go_enter Tryd.func31, Tryd.ntmps31
  go_upto_region 1 with fail
  rw [← hwa, ← hB0]
  clear hwa hB0
  go_upto_region 2 with fail
  obtain ⟨w5, hw5⟩ : ∃ w5, w5 = wa.alloc (.cells #[.int .i64 1886156142, .int .i64 n] 2) := ⟨_, rfl⟩
  have hal := Keeps.alloc None wa (.cells #[.int .i64 1886156142, .int .i64 n] 2)
  have b5 := heap_alloc_new wa (.cells #[.int .i64 1886156142, .int .i64 n] 2)
  rw [← hw5] at hal b5
  obtain ⟨Q, hQ⟩ : ∃ Q, Q = wa.heap.size := ⟨_, rfl⟩
  rw [← hQ] at b5
  have H5 : Hid (w5.ownsRow wa.heap.size 2 1 (.slice (some ⟨Q, 0, none⟩) 2 2) 2 (([1886156142, (n : Int)] ++ (l.take 0).flatMap fnW).map (Value.int .i64)) ∧ Keeps None wa w5) := by
    refine ⟨⟨by simp, .inr ⟨Q, 2, _, rfl, ?_, b5, by simp, by simp [maxLen], by simp, by simp⟩⟩, hal⟩
    omega
  rw [← hw5, ← hQ]
  clear hw5 hQ hal b5 d0
  go_wp2_with fail
  go_loopw [4, 3] (fun s4 s3 wr => ∃ (k N : Nat), k ≤ n ∧ s4 = .int .i64 k ∧ N = ([1886156142, (n : Int)] ++ (l.take k).flatMap fnW).length ∧ wr.ownsRow wa.heap.size 2 1 s3 N (([1886156142, (n : Int)] ++ (l.take k).flatMap fnW).map (Value.int .i64)) ∧ Keeps None wa wr) (fun i _ _ => n - (intOf i).toNat)
  case atStart => exact ⟨0, 2, Nat.zero_le _, rfl, by simp, H5.out.1, H5.out.2⟩
  case round =>
    obtain ⟨k, N, hk, rfl, hN, hrow, hkp⟩ := hrel
    obtain ⟨zs, hzs⟩ : ∃ zs, zs = [1886156142, (n : Int)] ++ (l.take k).flatMap fnW := ⟨_, rfl⟩
    have hfl := fns_len (l.take k) (fun f hf => HS.out.2.2.2 f (List.mem_of_mem_take hf))
    have hN2 : N ≤ 83000 := by
      rw [hN, List.length_append]
      have : (l.take k).length ≤ 32 := by simp; omega
      simp only [List.length_cons, List.length_nil]
      omega
    rw [← hzs] at hN hrow
    have d0 := (cell_of_heap (blk_kept HA.out.1 hkp (fun f => f)) 0).trans rfl
    by_cases hkn : k < n
    · obtain ⟨b, off, f, ca, cc, rfl, hf, hatw⟩ := HS.out.1.at hkn
      have hat := hatw.more hkp
      have hf512 := HS.out.2.2.2 f (List.mem_of_getElem? hf)
      have i1 : (k : Int) < (n : Int) := by omega
      obtain ⟨m, hm⟩ : ∃ m, m = f.code.length := ⟨_, rfl⟩
      rw [← hm] at hf512
      obtain ⟨hat0, hat1, hat2, hat3, -⟩ := hat
      have hsee := hatw.seen
      rw [← hm] at hat3 hsee
      have hal1 := Keeps.alloc None wr (.cells #[.int .i64 f.params, .int .i64 f.regs, .int .i64 f.slots, .slice ca m cc] 40)
      have hal2 := Keeps.alloc None (wr.alloc (.cells #[.int .i64 f.params, .int .i64 f.regs, .int .i64 f.slots, .slice ca m cc] 40)) (.cells #[.int .i64 f.params, .int .i64 f.regs, .int .i64 f.slots, .int .i64 m] 2)
      have hkA := hal1.trans hal2 (fun _ f _ => f)
      obtain ⟨b1, b2⟩ := two_boxes wr #[.int .i64 f.params, .int .i64 f.regs, .int .i64 f.slots, .slice ca m cc] #[.int .i64 f.params, .int .i64 f.regs, .int .i64 f.slots, .int .i64 m] 40 2
      obtain ⟨g, cap, w6, hr6, ho6, hk6⟩ := words_more wa.heap.size u3 zs [f.params, f.regs, f.slots, (m : Int)] N 4 22 (wr.heap.size + 1) _ hN rfl (hkA.own hrow (fun _ _ f => f)) (Nat.le_trans hkp.size hkA.size) (by omega) (by omega) b2
      have hkB : Keeps (fun k => u3.ownBlock = some k) wr w6 := (hkA.mono (fun _ f _ => f.elim)).trans hk6 (fun _ e _ => e)
      have hkw6 : Keeps None wa w6 := hkp.trans hkB (fun i e hi => by have := own_low hrow e; omega)
      have nF : ¬ u3.ownBlock = some wr.heap.size := fun e => by have := own_lt hrow e; omega
      obtain ⟨F, hF⟩ : ∃ F, F = wr.heap.size := ⟨_, rfl⟩
      have b6 := blk_kept b1 hk6 nF
      rw [← hF] at b6
      have HK : Hid (w6.ownsRow wa.heap.size 2 1 (.slice (some ⟨g, 0, none⟩) (N + 4) cap) (N + 4) ((zs ++ [f.params, f.regs, f.slots, (m : Int)]).map (Value.int .i64)) ∧ Keeps None wa w6 ∧ N = zs.length ∧ zs = [1886156142, (n : Int)] ++ (l.take k).flatMap fnW ∧ l[k]? = some f ∧ m = f.code.length ∧ SeenI wa ca m f.code ∧ (∀ i ∈ f.code, i.Ok) ∧ w6.heap[F]? = some (fnBox f ca m cc)) := ⟨ho6, hkw6, hN, hzs, hf, hm, hsee, (HS.out.2.1 f (List.mem_of_getElem? hf)).code, b6⟩
      clear hrow hkp hal1 hal2 hkA b1 b2 hk6 hkB hkw6 b6 ho6 hf hm hzs hN hfl nF hsee hatw
      go_upto_region 7 with (at_builtin; refine wpList_append_run rfl (.tmp 25) (.tmp 35) 22 22 rfl rfl rfl hr6 ?_)
      clear hr6 hat0 hat1 hat2 hat3 d0
      rw [← hF]
      clear hF
      obtain ⟨zs1, hzs1⟩ : ∃ zs1, zs1 = zs ++ [f.params, f.regs, f.slots, (m : Int)] := ⟨_, rfl⟩
      have HZ1 : Hid (zs1 = zs ++ [f.params, f.regs, f.slots, (m : Int)] ∧ zs1.length = N + 4) := ⟨hzs1, by rw [hzs1, List.length_append, ← HK.out.2.2.1]; rfl⟩
      have H6 : Hid (w6.ownsRow wa.heap.size 2 1 (.slice (some ⟨g, 0, none⟩) (N + 4) cap) (N + 4) ((zs1 ++ (f.code.take 0).flatMap insW).map (Value.int .i64))) := by
        unfold Hid
        rw [hzs1]
        simpa using HK.out.1
      clear hzs1
      go_wp2_with fail
      go_loopw [6, 3] (fun s6 s3 wr => ∃ (j M : Nat), j ≤ m ∧ s6 = .int .i64 j ∧ M = (zs1 ++ (f.code.take j).flatMap insW).length ∧ wr.ownsRow wa.heap.size 2 1 s3 M ((zs1 ++ (f.code.take j).flatMap insW).map (Value.int .i64)) ∧ Keeps None wa wr ∧ wr.heap[F]? = some (fnBox f ca m cc)) (fun i _ _ => m - (intOf i).toNat)
      case atStart => exact ⟨0, N + 4, Nat.zero_le _, rfl, by simp [HZ1.out.2], H6.out, HK.out.2.1, HK.out.2.2.2.2.2.2.2.2⟩
      case round =>
        obtain ⟨j, M, hj, rfl, hM, hrow, hkp, hbF⟩ := hrel
        obtain ⟨ys, hys⟩ : ∃ ys, ys = zs1 ++ (f.code.take j).flatMap insW := ⟨_, rfl⟩
        have hM2 : M ≤ 90000 := by
          rw [hM, List.length_append, ins_len, HZ1.out.2]
          have : (f.code.take j).length ≤ 512 := by simp; omega
          omega
        rw [← hys] at hM hrow
        have d3 : wr.cell? ⟨F, 3, none⟩ = some (.slice ca m cc) := (cell_of_heap hbF 3).trans rfl
        by_cases hjm : j < m
        · obtain ⟨bI, oI, x, rfl, hx, hatI⟩ := (HK.out.2.2.2.2.2.2.1.more hkp).at hjm
          obtain ⟨y0, y1, y2, y3, y4⟩ := hatI
          have i2 : (j : Int) < (m : Int) := by omega
          have hal1 := Keeps.alloc None wr (.cells #[.int .i64 x.kind, .int .i64 x.a, .int .i64 x.b, .int .i64 x.c, .int .i64 x.k] 42)
          have hal2 := Keeps.alloc None (wr.alloc (.cells #[.int .i64 x.kind, .int .i64 x.a, .int .i64 x.b, .int .i64 x.c, .int .i64 x.k] 42)) (.cells #[.int .i64 x.kind, .int .i64 x.a, .int .i64 x.b, .int .i64 x.c, .int .i64 x.k] 2)
          have hkA := hal1.trans hal2 (fun _ f _ => f)
          obtain ⟨b1, b2⟩ := two_boxes wr #[.int .i64 x.kind, .int .i64 x.a, .int .i64 x.b, .int .i64 x.c, .int .i64 x.k] #[.int .i64 x.kind, .int .i64 x.a, .int .i64 x.b, .int .i64 x.c, .int .i64 x.k] 42 2
          obtain ⟨g7, cap7, w7, hr7, ho7, hk7⟩ := words_more wa.heap.size u3 ys (insW x) M 5 22 (wr.heap.size + 1) _ hM rfl (hkA.own hrow (fun _ _ f => f)) (Nat.le_trans hkp.size hkA.size) (by omega) (by omega) b2
          have hkw7 : Keeps None wa w7 := (hkp.trans hkA (fun _ f _ => f)).trans hk7 (fun i e hi => by have := own_low hrow e; omega)
          have hbF7 : w7.heap[F]? = some (fnBox f (some ⟨bI, oI, none⟩) m cc) := blk_kept (blk_kept hbF hkA (fun f => f)) hk7 (fun e => absurd (own_type hrow e hbF) (by decide))
          have HQ : Hid (w7.ownsRow wa.heap.size 2 1 (.slice (some ⟨g7, 0, none⟩) (M + 5) cap7) (M + 5) ((ys ++ insW x).map (Value.int .i64)) ∧ Keeps None wa w7 ∧ M = ys.length ∧ ys = zs1 ++ (f.code.take j).flatMap insW ∧ f.code[j]? = some x ∧ w7.heap[F]? = some (fnBox f (some ⟨bI, oI, none⟩) m cc)) := ⟨ho7, hkw7, hM, hys, hx, hbF7⟩
          clear hrow hkp hal1 hal2 hkA b1 b2 hk7 hkw7 ho7 hM hys hx hbF hbF7
          go_wp2_with (at_builtin; refine wpList_append_run rfl (.tmp 49) (.tmp 60) 22 22 rfl rfl rfl hr7 ?_)
          have hfin : ys ++ insW x = zs1 ++ (f.code.take (j + 1)).flatMap insW := by rw [flat_take insW f.code j x HQ.out.2.2.2.2.1, HQ.out.2.2.2.1, List.append_assoc]
          exact ⟨⟨j + 1, M + 5, by omega, by simp, by rw [← hfin, List.length_append, ← HQ.out.2.2.1]; rfl, by rw [← hfin]; exact HQ.out.1, HQ.out.2.1, HQ.out.2.2.2.2.2⟩, by simp [intOf]; omega⟩
        · have i2 : ¬ ((j : Int) < (m : Int)) := by omega
          have HQ : Hid (wr.ownsRow wa.heap.size 2 1 u3 M (ys.map (Value.int .i64)) ∧ Keeps None wa wr ∧ M = ys.length ∧ ys = zs1 ++ (f.code.take j).flatMap insW) := ⟨hrow, hkp, hM, hys⟩
          clear hrow hkp hM hys hbF
          go_wp2_with fail
          have hfin : ys = [1886156142, (n : Int)] ++ (l.take (k + 1)).flatMap fnW := by
            have ht : f.code.take j = f.code := List.take_of_length_le (by have := HK.out.2.2.2.2.2.1; omega)
            rw [flat_take fnW l k f HK.out.2.2.2.2.1, HQ.out.2.2.2, HZ1.out.1, HK.out.2.2.2.1, ht, HK.out.2.2.2.2.2.1]
            simp [fnW]
          exact ⟨⟨k + 1, M, by omega, by simp, by rw [← hfin]; exact HQ.out.2.2.1, by rw [← hfin]; exact HQ.out.1, HQ.out.2.1⟩, by simp [intOf]; omega⟩
    · have i1 : ¬ ((k : Int) < (n : Int)) := by omega
      have himg : zs = imageV l := by
        rw [hzs, List.take_of_length_le (by have := HS.out.2.2.1; omega), HS.out.2.2.1]
        rfl
      subst himg
      obtain ⟨ao, cap, hu5, -, -, -, -, hnn, -⟩ := own_zero (e := 2) (own_base hrow (Nat.zero_le _))
      have hN1 : 1 ≤ N := by rw [hN]; simp [imageV]
      obtain ⟨g, rfl⟩ : ∃ g, ao = some ⟨g, 0, none⟩ := by
        rcases hrow.2 with ⟨rfl, h0⟩ | ⟨g', cap', cur', h1, h2, h3⟩
        · omega
        · rw [hu5] at h1
          simp only [Value.slice.injEq] at h1
          exact ⟨g', h1.1⟩
      subst hu5
      have hse := own_seen hrow hN (image_ok HS.out.2.1 HS.out.2.2.2 (by have := HS.out.2.2.1; omega)) (by omega)
      have hsm := rsum_any (some ⟨g, 0, none⟩) N cap (imageV l) wr hse
      obtain ⟨sm, hsm2⟩ : ∃ sm, sm = sumV (imageV l) := ⟨_, rfl⟩
      rw [← hsm2] at hsm
      have hal1 := Keeps.alloc None wr (.cells #[.int .i64 sm] 2)
      obtain ⟨g7, cap7, w7, hr7, ho7, hk7⟩ := words_more wa.heap.size (.slice (some ⟨g, 0, none⟩) N cap) (imageV l) [sm] N 1 22 wr.heap.size _ hN rfl (hal1.own hrow (fun _ _ f => f)) (Nat.le_trans hkp.size hal1.size) (by omega) (by omega) (heap_alloc_new wr (.cells #[.int .i64 sm] 2))
      have hkw7 : Keeps None wa w7 := (hkp.trans hal1 (fun _ f _ => f)).trans hk7 (fun i e hi => by have := own_low hrow e; omega)
      have HQ : Hid (Enc w w7 l (.slice (some ⟨g7, 0, none⟩) (N + 1) cap7) g7 (N + 1) cap7 ∧ Keeps None w w7) := by
        refine ⟨⟨rfl, ?_, ?_⟩, HA.out.2.trans hkw7 (fun _ f _ => f)⟩
        · unfold encV
          rw [List.length_append, ← hN]
          simp
        · unfold encV
          rw [← hsm2]
          exact own_base ho7 HA.out.2.size
      clear hrow hkp hal1 hk7 hkw7 ho7 hN hsm2 hse hfl hzs
      go_wp2_with (first | (go_at_call 27; refine hsm.mono ?_; rintro _ w' ⟨rfl, hw⟩; have hw2 := hw.symm; subst hw2) | (at_builtin; refine wpList_append_run rfl (.tmp 64) (.tmp 66) 22 22 rfl rfl rfl hr7 ?_))
      first | go_ret | go_ret2
      exact ⟨_, g7, N + 1, cap7, rfl, HQ.out.2, HQ.out.1⟩
end Go.Proofs.YtcjmceedkfjbeaaDoor
