import Derived.Test.YtcjmceedkfjbeaaDoorPgReadQ
import Derived.Laws.StructEq
/-! ProgRound. -/
namespace Go.Proofs.YtcjmceedkfjbeaaDoor
set_option linter.unusedVariables false
set_option maxRecDepth 20000
open Go.RowKit Go.HeapKit

set_option maxHeartbeats 2000000 in
theorem decode_good (b off n c : Nat) (zs r : List Int) (m : Nat) (fs : List Fn) (x : Int) (w : World) (hT : Tabs w) (hS : SeenW w (some ⟨b, off, none⟩) (n + 1) zs) (hn : 2 ≤ n) (hc : n + 1 ≤ c) (hcm : c ≤ maxLen) (hx : zs[n]? = some x) (hb : x = sumV (zs.take n)) (hz : zs.take n = 1886156142 :: (m : Int) :: r)
    (hm1 : 1 ≤ m) (hm2 : m ≤ 32) (hr : readFns m r = some (fs, [])) (hf : fs.length = m) (hok : ∀ f ∈ fs, f.Ok) (hck : checkV fs = (0, 0, 0)) :
    Calls Tryd.prog 6 #[.slice (some ⟨b, off, none⟩) (n + 1) c] w fun e w' => ∃ gb, e = .returned (.tuple #[.agg #[.slice (some ⟨gb, 0, none⟩) m m], .int .i64 0]) ∧ SeenF w' (some ⟨gb, 0, none⟩) m fs ∧ Keeps None w w' := by
  have hmf : ∀ (fn : Go.Fn) (first cap : Array Value) (w : World), (Instr.makeFunc fn first cap).run Tryd.prog w = .ok (.func fn first cap) w := fun _ _ _ _ => rfl
  obtain ⟨b1, b2⟩ := two_boxes w #[.slice none 0 0] #[.int .i64 0] 25 26
  have hk2 := keeps2 w (.cells #[.slice none 0 0] 25) (.cells #[.int .i64 0] 26)
  have hrd := read_good b off n c zs r m fs x _ (hS.more hk2) hn hc hcm hx hb hz hm1 hm2 hr hf
  have HO : Hid (IsOut ((w.alloc (.cells #[.slice none 0 0] 25)).alloc (.cells #[.int .i64 0] 26)) w.heap.size (w.heap.size + 1) (.slice none 0 0) 0 ∧ Keeps None w ((w.alloc (.cells #[.slice none 0 0] 25)).alloc (.cells #[.int .i64 0] 26)) ∧ Tabs w ∧ (∀ f ∈ fs, f.Ok) ∧ checkV fs = (0, 0, 0)) := ⟨⟨b1, b2⟩, hk2, hT, hok, hck⟩
  clear b1 b2 hk2 hS hx hb hz hr hT hok hck
  go_enter_defers Tryd.func6, Tryd.ntmps6
  go_upto_region 3 with (go_at_call 21; refine hrd.mono ?_; rintro _ w3 ⟨gb, rfl, hs3, hk3, hg3⟩)
  obtain ⟨p, hp⟩ : ∃ p, p = w.heap.size := ⟨_, rfl⟩
  have hal := Keeps.alloc None w3 (.cells #[.slice (some ⟨gb, 0, none⟩) m m] 25)
  have b4 := heap_alloc_new w3 (.cells #[.slice (some ⟨gb, 0, none⟩) m m] 25)
  obtain ⟨w4, hw4⟩ : ∃ w4, w4 = w3.alloc (.cells #[.slice (some ⟨gb, 0, none⟩) m m] 25) := ⟨_, rfl⟩
  obtain ⟨X, hX⟩ : ∃ X, X = w3.heap.size := ⟨_, rfl⟩
  rw [← hw4] at hal b4
  rw [← hX] at b4
  rw [← hw4, ← hX, ← hp]
  have hk4 := hk3.trans hal (fun _ f _ => f)
  have hO4 := HO.out.1.kept hk4
  rw [← hp] at hO4
  have hkw4 := HO.out.2.1.trans hk4 (fun _ f _ => f)
  have d4 := (cell_of_heap b4 0).trans rfl
  have hck := check_any (some ⟨gb, 0, none⟩) m m fs w4 (HO.out.2.2.1.more hkw4) (hs3 None w4 hal (fun _ f => f.elim)) HO.out.2.2.2.1
  unfold checkF faultV at hck
  rw [HO.out.2.2.2.2] at hck
  simp only at hck
  have H4 : Hid (IsOut w4 p (p + 1) (.slice none 0 0) 0 ∧ Keeps None w w4 ∧ w4.heap[X]? = some (.cells #[.slice (some ⟨gb, 0, none⟩) m m] 25 (0, 0)) ∧ (∀ (S : Nat → Prop) w'', Keeps S w4 w'' → (∀ k, S k → k < p + 2) → SeenF w'' (some ⟨gb, 0, none⟩) m fs) ∧ p = w.heap.size) := ⟨hO4, hkw4, b4, fun S w'' hk hS => hs3 S w'' ((hal.mono (fun _ f _ => f.elim)).trans hk (fun _ e _ => e)) (fun k e => by have := hS k e; simp; omega), hp⟩
  clear hw4 hX hp hal b4 hk4 hO4 hkw4 hs3 hk3 hg3 hrd
  go_upto_region 4 with (go_at_call 8; refine hck.mono ?_; rintro _ w5 ⟨rfl, hk5⟩)
  have hal := Keeps.alloc None w5 (.cells #[.int .i64 0, .int .i64 0, .int .i64 0] 31)
  have b6 := heap_alloc_new w5 (.cells #[.int .i64 0, .int .i64 0, .int .i64 0] 31)
  obtain ⟨w6, hw6⟩ : ∃ w6, w6 = w5.alloc (.cells #[.int .i64 0, .int .i64 0, .int .i64 0] 31) := ⟨_, rfl⟩
  obtain ⟨Y, hY⟩ : ∃ Y, Y = w5.heap.size := ⟨_, rfl⟩
  rw [← hw6] at hal b6
  rw [← hY] at b6
  rw [← hw6, ← hY]
  have hk6 := hk5.trans hal (fun _ f _ => f)
  have hO6 := H4.out.1.kept hk6
  have d6 := (cell_of_heap (blk_kept H4.out.2.2.1 hk6 (fun f => f)) 0).trans rfl
  have f6 := (cell_of_heap b6 0).trans rfl
  have p0 := (cell_of_heap hO6.prog 0).trans rfl
  have q0 := (cell_of_heap hO6.err 0).trans rfl
  have zp := blk_free hO6.prog 0
  have zq := blk_free hO6.err 0
  obtain ⟨hfin, hkf⟩ := hO6.set (.slice (some ⟨gb, 0, none⟩) m m) 0
  have hkw : Keeps None w ((w6.setCell ⟨p, 0, none⟩ (.slice (some ⟨gb, 0, none⟩) m m)).setCell ⟨p + 1, 0, none⟩ (.int .i64 0)) := (H4.out.2.1.trans hk6 (fun _ f _ => f)).trans hkf (fun i e hi => by have := H4.out.2.2.2.2; omega)
  have H6 : Hid (IsOut ((w6.setCell ⟨p, 0, none⟩ (.slice (some ⟨gb, 0, none⟩) m m)).setCell ⟨p + 1, 0, none⟩ (.int .i64 0)) p (p + 1) (.slice (some ⟨gb, 0, none⟩) m m) 0 ∧ Keeps None w ((w6.setCell ⟨p, 0, none⟩ (.slice (some ⟨gb, 0, none⟩) m m)).setCell ⟨p + 1, 0, none⟩ (.int .i64 0)) ∧ (∀ (S : Nat → Prop) w'', Keeps S w6 w'' → (∀ k, S k → k < p + 2) → SeenF w'' (some ⟨gb, 0, none⟩) m fs) ∧ Keeps (fun k => k = p ∨ k = p + 1) w6 ((w6.setCell ⟨p, 0, none⟩ (.slice (some ⟨gb, 0, none⟩) m m)).setCell ⟨p + 1, 0, none⟩ (.int .i64 0)) ∧ IsOut w6 p (p + 1) (.slice none 0 0) 0) := ⟨hfin, hkw, fun S w'' hk hS => H4.out.2.2.2.1 S w'' ((hk6.mono (fun _ f _ => f.elim)).trans hk (fun _ e _ => e)) hS, hkf, hO6⟩
  clear hw6 hY hal b6 hk6 hO6 hfin hkf hkw hk5 hck d4
  go_wp2_with fail
  exact dout_ret rfl rfl H6.out.1 (fun w' hk => ⟨gb, rfl, H6.out.2.2.1 (fun k => k = p ∨ k = p + 1) w' (H6.out.2.2.2.1.trans hk (fun _ f _ => f.elim)) (fun k e => by omega), H6.out.2.1.trans hk (fun _ f _ => f)⟩)
end Go.Proofs.YtcjmceedkfjbeaaDoor
