import Derived.Test.YtcjmceedkfjbeaaDoorPkAN
import Derived.Laws.StructEq
import Derived.Test.YtcjmceedkfjbeaaDoorPkAO
/-! ProgRound. -/
namespace Go.Proofs.YtcjmceedkfjbeaaDoor
set_option linter.unusedVariables false
set_option maxRecDepth 20000
open Go.RowKit Go.HeapKit

set_option maxHeartbeats 2000000 in
theorem decode_good (b off n c : Nat) (zs r : List Int) (m : Nat) (fs : List Fn) (x : Int) (w : World) (hT : Tabs w) (hS : SeenW w (some ⟨b, off, none⟩) (n + 1) zs) (hn : 2 ≤ n) (hc : n + 1 ≤ c) (hcm : c ≤ maxLen) (hx : zs[n]? = some x) (hb : x = sumV (zs.take n)) (hz : zs.take n = 1886156142 :: (m : Int) :: r)
    (hm1 : 1 ≤ m) (hm2 : m ≤ 32) (hr : readFns m r = some (fs, [])) (hf : fs.length = m) (hok : ∀ f ∈ fs, f.Ok) (hck : checkV fs = (0, 0, 0)) :
    Calls Tryd.prog 6 #[.slice (some ⟨b, off, none⟩) (n + 1) c] w fun e w' => ∃ gb, e = .returned (.tuple #[.agg #[.slice (some ⟨gb, 0, none⟩) m m], .int .i64 0]) ∧ SeenF w' (some ⟨gb, 0, none⟩) m fs ∧ Keeps None w w' := by
  have hmf : ∀ (fn : Go.Fn) (first cap : Array Value) (w : World), (Instr.makeFunc fn first cap).run Tryd.prog w = .ok (.func fn first cap) w := fun _ _ _ _ => rfl
  obtain ⟨b1, b2⟩ := two_boxes w #[.slice none 0 0] #[.int .i64 0] 25 26
  have hk2 := keeps2 w (.cells #[.slice none 0 0] 25) (.cells #[.int .i64 0] 26)
  have hrd := read_good b off n c zs r m fs x _ (hS.more hk2) hn hc hcm hx hb hz hm1 hm2 hr hf
  have HO : Hid (IsOut ((w.alloc (.cells #[.slice none 0 0] 25)).alloc (.cells #[.int .i64 0] 26)) w.heap.size (w.heap.size + 1) (.slice none 0 0) 0 ∧ Keeps None w ((w.alloc (.cells #[.slice none 0 0] 25)).alloc (.cells #[.int .i64 0] 26)) ∧ Tabs w ∧ (∀ f ∈ fs, f.Ok) ∧ checkV fs = (0, 0, 0)) := ⟨⟨b1, b2⟩, hk2, hT, hok, hck⟩
  clear b1 b2 hk2 hS hx hb hz hr hT hok hck
  go_enter_defers Tryd.func6, Tryd.ntmps6
  go_upto_region 3 with (go_at_call 21; refine hrd.mono ?_; rintro _ w3 ⟨gb, rfl, hs3, hk3, hg3⟩)
  obtain ⟨p, hp⟩ : ∃ p, p = w.heap.size := ⟨_, rfl⟩
  have hal := Keeps.alloc None w3 (.cells #[.slice (some ⟨gb, 0, none⟩) m m] 25)
  have b4 := heap_alloc_new w3 (.cells #[.slice (some ⟨gb, 0, none⟩) m m] 25)
  obtain ⟨w4, hw4⟩ : ∃ w4, w4 = w3.alloc (.cells #[.slice (some ⟨gb, 0, none⟩) m m] 25) := ⟨_, rfl⟩
  obtain ⟨X, hX⟩ : ∃ X, X = w3.heap.size := ⟨_, rfl⟩
  rw [← hw4] at hal b4
  rw [← hX] at b4
  rw [← hw4, ← hX, ← hp]
  have hk4 := hk3.trans hal (fun _ f _ => f)
  have hO4 := HO.out.1.kept hk4
  rw [← hp] at hO4
  have hkw4 := HO.out.2.1.trans hk4 (fun _ f _ => f)
  have d4 := (cell_of_heap b4 0).trans rfl
  have hck := check_any (some ⟨gb, 0, none⟩) m m fs w4 (HO.out.2.2.1.more hkw4) (hs3 None w4 hal (fun _ f => f.elim)) HO.out.2.2.2.1
  unfold checkF faultV at hck
  rw [HO.out.2.2.2.2] at hck
  simp only at hck
  have H4 : Hid (IsOut w4 p (p + 1) (.slice none 0 0) 0 ∧ Keeps None w w4 ∧ w4.heap[X]? = some (.cells #[.slice (some ⟨gb, 0, none⟩) m m] 25 (0, 0)) ∧ (∀ (S : Nat → Prop) w'', Keeps S w4 w'' → (∀ k, S k → k < p + 2) → SeenF w'' (some ⟨gb, 0, none⟩) m fs) ∧ p = w.heap.size) := ⟨hO4, hkw4, b4, fun S w'' hk hS => hs3 S w'' ((hal.mono (fun _ f _ => f.elim)).trans hk (fun _ e _ => e)) (fun k e => by have := hS k e; simp; omega), hp⟩
  clear hw4 hX hp hal b4 hk4 hO4 hkw4 hs3 hk3 hg3 hrd
  go_upto_region 4 with (go_at_call 8; refine hck.mono ?_; rintro _ w5 ⟨rfl, hk5⟩)
  have hal := Keeps.alloc None w5 (.cells #[.int .i64 0, .int .i64 0, .int .i64 0] 31)
  have b6 := heap_alloc_new w5 (.cells #[.int .i64 0, .int .i64 0, .int .i64 0] 31)
  obtain ⟨w6, hw6⟩ : ∃ w6, w6 = w5.alloc (.cells #[.int .i64 0, .int .i64 0, .int .i64 0] 31) := ⟨_, rfl⟩
  obtain ⟨Y, hY⟩ : ∃ Y, Y = w5.heap.size := ⟨_, rfl⟩
  rw [← hw6] at hal b6
  rw [← hY] at b6
  rw [← hw6, ← hY]
  have hk6 := hk5.trans hal (fun _ f _ => f)
  have hO6 := H4.out.1.kept hk6
  have d6 := (cell_of_heap (blk_kept H4.out.2.2.1 hk6 (fun f => f)) 0).trans rfl
  have f6 := (cell_of_heap b6 0).trans rfl
  have p0 := (cell_of_heap hO6.prog 0).trans rfl
  have q0 := (cell_of_heap hO6.err 0).trans rfl
  have zp := blk_free hO6.prog 0
  have zq := blk_free hO6.err 0
  obtain ⟨hfin, hkf⟩ := hO6.set (.slice (some ⟨gb, 0, none⟩) m m) 0
  have hkw : Keeps None w ((w6.setCell ⟨p, 0, none⟩ (.slice (some ⟨gb, 0, none⟩) m m)).setCell ⟨p + 1, 0, none⟩ (.int .i64 0)) := (H4.out.2.1.trans hk6 (fun _ f _ => f)).trans hkf (fun i e hi => by have := H4.out.2.2.2.2; omega)
  have H6 : Hid (IsOut ((w6.setCell ⟨p, 0, none⟩ (.slice (some ⟨gb, 0, none⟩) m m)).setCell ⟨p + 1, 0, none⟩ (.int .i64 0)) p (p + 1) (.slice (some ⟨gb, 0, none⟩) m m) 0 ∧ Keeps None w ((w6.setCell ⟨p, 0, none⟩ (.slice (some ⟨gb, 0, none⟩) m m)).setCell ⟨p + 1, 0, none⟩ (.int .i64 0)) ∧ (∀ (S : Nat → Prop) w'', Keeps S w6 w'' → (∀ k, S k → k < p + 2) → SeenF w'' (some ⟨gb, 0, none⟩) m fs) ∧ Keeps (fun k => k = p ∨ k = p + 1) w6 ((w6.setCell ⟨p, 0, none⟩ (.slice (some ⟨gb, 0, none⟩) m m)).setCell ⟨p + 1, 0, none⟩ (.int .i64 0)) ∧ IsOut w6 p (p + 1) (.slice none 0 0) 0) := ⟨hfin, hkw, fun S w'' hk hS => H4.out.2.2.2.1 S w'' ((hk6.mono (fun _ f _ => f.elim)).trans hk (fun _ e _ => e)) hS, hkf, hO6⟩
  clear hw6 hY hal b6 hk6 hO6 hfin hkf hkw hk5 hck d4
  go_wp2_with fail
  exact dout_ret rfl rfl H6.out.1 (fun w' hk => ⟨gb, rfl, H6.out.2.2.1 (fun k => k = p ∨ k = p + 1) w' (H6.out.2.2.2.1.trans hk (fun _ f _ => f.elim)) (fun k e => by omega), H6.out.2.1.trans hk (fun _ f _ => f)⟩)
end Go.Proofs.YtcjmceedkfjbeaaDoor
/-! Decode of words whose sum is right. -/
namespace Go.Proofs.YtcjmceedkfjbeaaDoor
set_option linter.unusedVariables false
set_option maxRecDepth 20000
open Go.RowKit Go.HeapKit

set_option maxHeartbeats 2000000 in
theorem decode_fault (b off n c : Nat) (zs r : List Int) (m : Nat) (fs : List Fn) (x : Int) (w : World) (hT : Tabs w) (hS : SeenW w (some ⟨b, off, none⟩) (n + 1) zs) (hn : 2 ≤ n) (hc : n + 1 ≤ c) (hcm : c ≤ maxLen) (hx : zs[n]? = some x) (hb : x = sumV (zs.take n)) (hz : zs.take n = 1886156142 :: (m : Int) :: r)
    (hm1 : 1 ≤ m) (hm2 : m ≤ 32) (hr : readFns m r = some (fs, [])) (hf : fs.length = m) (hok : ∀ f ∈ fs, f.Ok) (e1 e2 e3 : Int) (hck : checkV fs = (e1, e2, e3)) (he : (e1 != 0) = true) :
    Calls Tryd.prog 6 #[.slice (some ⟨b, off, none⟩) (n + 1) c] w fun e w' => e = .returned (.tuple #[.agg #[.slice none 0 0], .int .i64 e1]) ∧ Keeps None w w' := by
  have hmf : ∀ (fn : Go.Fn) (first cap : Array Value) (w : World), (Instr.makeFunc fn first cap).run Tryd.prog w = .ok (.func fn first cap) w := fun _ _ _ _ => rfl
  obtain ⟨b1, b2⟩ := two_boxes w #[.slice none 0 0] #[.int .i64 0] 25 26
  have hk2 := keeps2 w (.cells #[.slice none 0 0] 25) (.cells #[.int .i64 0] 26)
  have hrd := read_good b off n c zs r m fs x _ (hS.more hk2) hn hc hcm hx hb hz hm1 hm2 hr hf
  have HO : Hid (IsOut ((w.alloc (.cells #[.slice none 0 0] 25)).alloc (.cells #[.int .i64 0] 26)) w.heap.size (w.heap.size + 1) (.slice none 0 0) 0 ∧ Keeps None w ((w.alloc (.cells #[.slice none 0 0] 25)).alloc (.cells #[.int .i64 0] 26)) ∧ Tabs w ∧ (∀ f ∈ fs, f.Ok) ∧ checkV fs = (e1, e2, e3)) := ⟨⟨b1, b2⟩, hk2, hT, hok, hck⟩
  clear b1 b2 hk2 hS hx hb hz hr hT hok hck
  go_enter_defers Tryd.func6, Tryd.ntmps6
  go_upto_region 3 with (go_at_call 21; refine hrd.mono ?_; rintro _ w3 ⟨gb, rfl, hs3, hk3, hg3⟩)
  obtain ⟨p, hp⟩ : ∃ p, p = w.heap.size := ⟨_, rfl⟩
  have hal := Keeps.alloc None w3 (.cells #[.slice (some ⟨gb, 0, none⟩) m m] 25)
  have b4 := heap_alloc_new w3 (.cells #[.slice (some ⟨gb, 0, none⟩) m m] 25)
  obtain ⟨w4, hw4⟩ : ∃ w4, w4 = w3.alloc (.cells #[.slice (some ⟨gb, 0, none⟩) m m] 25) := ⟨_, rfl⟩
  obtain ⟨X, hX⟩ : ∃ X, X = w3.heap.size := ⟨_, rfl⟩
  rw [← hw4] at hal b4
  rw [← hX] at b4
  rw [← hw4, ← hX, ← hp]
  have hk4 := hk3.trans hal (fun _ f _ => f)
  have hO4 := HO.out.1.kept hk4
  rw [← hp] at hO4
  have hkw4 := HO.out.2.1.trans hk4 (fun _ f _ => f)
  have d4 := (cell_of_heap b4 0).trans rfl
  have hck := check_any (some ⟨gb, 0, none⟩) m m fs w4 (HO.out.2.2.1.more hkw4) (hs3 None w4 hal (fun _ f => f.elim)) HO.out.2.2.2.1
  unfold checkF faultV at hck
  rw [HO.out.2.2.2.2] at hck
  simp only at hck
  have H4 : Hid (IsOut w4 p (p + 1) (.slice none 0 0) 0 ∧ Keeps None w w4 ∧ w4.heap[X]? = some (.cells #[.slice (some ⟨gb, 0, none⟩) m m] 25 (0, 0)) ∧ (∀ (S : Nat → Prop) w'', Keeps S w4 w'' → (∀ k, S k → k < p + 2) → SeenF w'' (some ⟨gb, 0, none⟩) m fs) ∧ p = w.heap.size) := ⟨hO4, hkw4, b4, fun S w'' hk hS => hs3 S w'' ((hal.mono (fun _ f _ => f.elim)).trans hk (fun _ e _ => e)) (fun k e => by have := hS k e; simp; omega), hp⟩
  clear hw4 hX hp hal b4 hk4 hO4 hkw4 hs3 hk3 hg3 hrd
  go_upto_region 4 with (go_at_call 8; refine hck.mono ?_; rintro _ w5 ⟨rfl, hk5⟩)
  have hal := Keeps.alloc None w5 (.cells #[.int .i64 e1, .int .i64 e2, .int .i64 e3] 31)
  have b6 := heap_alloc_new w5 (.cells #[.int .i64 e1, .int .i64 e2, .int .i64 e3] 31)
  obtain ⟨w6, hw6⟩ : ∃ w6, w6 = w5.alloc (.cells #[.int .i64 e1, .int .i64 e2, .int .i64 e3] 31) := ⟨_, rfl⟩
  obtain ⟨Y, hY⟩ : ∃ Y, Y = w5.heap.size := ⟨_, rfl⟩
  rw [← hw6] at hal b6
  rw [← hY] at b6
  rw [← hw6, ← hY]
  have hk6 := hk5.trans hal (fun _ f _ => f)
  have hO6 := H4.out.1.kept hk6
  have d6 := (cell_of_heap (blk_kept H4.out.2.2.1 hk6 (fun f => f)) 0).trans rfl
  have f6 := (cell_of_heap b6 0).trans rfl
  have p0 := (cell_of_heap hO6.prog 0).trans rfl
  have q0 := (cell_of_heap hO6.err 0).trans rfl
  have zp := blk_free hO6.prog 0
  have zq := blk_free hO6.err 0
  obtain ⟨hfin, hkf⟩ := hO6.set (.slice none 0 0) e1
  have hkw : Keeps None w ((w6.setCell ⟨p, 0, none⟩ (.slice none 0 0)).setCell ⟨p + 1, 0, none⟩ (.int .i64 e1)) := (H4.out.2.1.trans hk6 (fun _ f _ => f)).trans hkf (fun i e hi => by have := H4.out.2.2.2.2; omega)
  have H6 : Hid (IsOut ((w6.setCell ⟨p, 0, none⟩ (.slice none 0 0)).setCell ⟨p + 1, 0, none⟩ (.int .i64 e1)) p (p + 1) (.slice none 0 0) e1 ∧ Keeps None w ((w6.setCell ⟨p, 0, none⟩ (.slice none 0 0)).setCell ⟨p + 1, 0, none⟩ (.int .i64 e1)) ∧ IsOut w6 p (p + 1) (.slice none 0 0) 0) := ⟨hfin, hkw, hO6⟩
  have nY1 : ¬ p = Y := blk_ne hO6.prog b6 (by decide)
  have nY2 : ¬ p + 1 = Y := blk_ne hO6.err b6 (by decide)
  clear hw6 hY hal b6 hk6 hO6 hfin hkf hkw hk5 hck d4
  go_upto_region 5 with fail
  go_region_held3 (fun w' => w'.cell? ⟨Y, 0, none⟩ = some (.int .i64 e1)) (go_keep) (fail)
  all_goals
    go_wp2_with fail
    exact dout_ret rfl rfl (H6.out.1.kept (Keeps.drew None _)) (fun w' hk => ⟨rfl, (H6.out.2.1.andDrew).trans hk (fun _ f _ => f)⟩)
theorem decode_panic (a : Option Addr) (n c : Nat) (w : World) (hrd : ∀ wx, Keeps None w wx → Calls Tryd.prog 21 #[.slice a n c] wx fun e w' => e = .panicked (thrown 57 0 0) ∧ Keeps None wx w') :
    Calls Tryd.prog 6 #[.slice a n c] w fun e w' => e = .returned (.tuple #[.agg #[.slice none 0 0], .int .i64 57]) ∧ Keeps None w w' := by
  have hmf : ∀ (fn : Go.Fn) (first cap : Array Value) (w : World), (Instr.makeFunc fn first cap).run Tryd.prog w = .ok (.func fn first cap) w := fun _ _ _ _ => rfl
  obtain ⟨b1, b2⟩ := two_boxes w #[.slice none 0 0] #[.int .i64 0] 25 26
  have hk2 := keeps2 w (.cells #[.slice none 0 0] 25) (.cells #[.int .i64 0] 26)
  have hrd := hrd _ hk2
  have HO : Hid (IsOut ((w.alloc (.cells #[.slice none 0 0] 25)).alloc (.cells #[.int .i64 0] 26)) w.heap.size (w.heap.size + 1) (.slice none 0 0) 0 ∧ Keeps None w ((w.alloc (.cells #[.slice none 0 0] 25)).alloc (.cells #[.int .i64 0] 26))) := ⟨⟨b1, b2⟩, hk2⟩
  clear b1 b2 hk2
  go_enter_defers Tryd.func6, Tryd.ntmps6
  go_wp2_with (go_at_call 21; refine hrd.mono ?_; rintro _ w3 ⟨rfl, hk3⟩)
  exact dout_panic rfl rfl (HO.out.1.kept hk3) rfl (fun w' hk => ⟨rfl, (HO.out.2.trans hk3 (fun _ f _ => f)).trans hk (fun i e hi => by omega)⟩)
theorem readP_some {ws : List Int} {fs : List Fn} (h : readP ws = some fs) : ∃ (m : Nat) (r : List Int), ws = 1886156142 :: (m : Int) :: r ∧ 1 ≤ m ∧ m ≤ 32 ∧ readFns m r = some (fs, []) ∧ fs.length = m ∧ ws = imageV fs := by
  match ws, h with
  | z0 :: z1 :: r, h =>
    have h' : (if (z0 ≠ 1886156142 ∨ z1 < 1 ∨ 32 < z1) then none else match readFns z1.toNat r with
      | some (fs, []) => some fs
      | _ => none) = some fs := h
    clear h
    by_cases hc : z0 ≠ 1886156142 ∨ z1 < 1 ∨ 32 < z1
    · rw [if_pos hc] at h'; cases h'
    · rw [if_neg hc] at h'
      obtain ⟨m, rfl⟩ := Int.eq_ofNat_of_zero_le (show 0 ≤ z1 by omega)
      rw [Int.toNat_natCast] at h'
      have hz : z0 = 1886156142 := by omega
      subst hz
      cases hr : readFns m r with
      | none => rw [hr] at h'; cases h'
      | some p =>
        obtain ⟨fs', rest⟩ := p
        rw [hr] at h'
        cases rest with
        | cons y t => cases h'
        | nil =>
          obtain rfl := Option.some.inj h'
          obtain ⟨h1, h2, _⟩ := readFns_spec m hr
          refine ⟨m, r, rfl, by omega, by omega, hr, h2, ?_⟩
          unfold imageV
          rw [h1, h2]
          simp
theorem fns_ok {fs : List Fn} (h : ∀ x ∈ imageV fs, okI x) : ∀ f ∈ fs, f.Ok := by
  intro f hf
  have hm : ∀ x ∈ fnW f, okI x := fun x hx => h x (List.mem_append_right _ (List.mem_flatMap.2 ⟨f, hf, hx⟩))
  refine ⟨hm _ (by simp [fnW]), hm _ (by simp [fnW]), hm _ (by simp [fnW]), fun i hi => ?_⟩
  have hi2 : ∀ x ∈ insW i, okI x := fun x hx => hm x (List.mem_append_right _ (List.mem_flatMap.2 ⟨i, hi, hx⟩))
  exact ⟨hi2 _ (by simp [insW]), hi2 _ (by simp [insW]), hi2 _ (by simp [insW]), hi2 _ (by simp [insW]), hi2 _ (by simp [insW])⟩
theorem decode_right (b off n c : Nat) (zs : List Int) (x : Int) (w : World) (hT : Tabs w) (hS : SeenW w (some ⟨b, off, none⟩) (n + 1) zs) (hc : n + 1 ≤ c) (hcm : c ≤ maxLen) (hx : zs[n]? = some x) (hb : x = sumV (zs.take n)) :
    Calls Tryd.prog 6 #[.slice (some ⟨b, off, none⟩) (n + 1) c] w fun e w' => Keeps None w w' ∧ ((∃ e', (e' != 0) = true ∧ e = .returned (.tuple #[.agg #[.slice none 0 0], .int .i64 e'])) ∨
      (∃ gb m fs, e = .returned (.tuple #[.agg #[.slice (some ⟨gb, 0, none⟩) m m], .int .i64 0]) ∧ SeenF w' (some ⟨gb, 0, none⟩) m fs ∧ (∀ f ∈ fs, f.Ok) ∧ checkV fs = (0, 0, 0) ∧ encV fs = zs)) := by
  by_cases hn : n < 2
  · refine (decode_panic _ (n + 1) c w (fun wx _ => read_short _ _ _ wx (by omega))).mono ?_
    rintro e w' ⟨rfl, hk⟩
    exact ⟨hk, .inl ⟨57, rfl, rfl⟩⟩
  · have hlen := hS.len
    cases hr : readP (zs.take n) with
    | none =>
      obtain ⟨z0, z1, r, hz⟩ : ∃ z0 z1 r, zs.take n = z0 :: z1 :: r := by
        match hq : zs.take n with
        | [] => have := congrArg List.length hq; rw [List.length_take] at this; simp only [List.length_nil] at this; omega
        | [_] => have := congrArg List.length hq; rw [List.length_take] at this; simp only [List.length_cons, List.length_nil] at this; omega
        | z0 :: z1 :: r => exact ⟨z0, z1, r, rfl⟩
      rw [hz] at hr
      refine (decode_panic _ (n + 1) c w (fun wx hk => read_form b off n c zs x z0 z1 r wx (hS.more hk) (by omega) hc hcm hx hb hz hr)).mono ?_
      rintro e w' ⟨rfl, hk⟩
      exact ⟨hk, .inl ⟨57, rfl, rfl⟩⟩
    | some fs =>
      obtain ⟨m, r, hz, h1, h2, hrf, hfl, himg⟩ := readP_some hr
      have hok := fns_ok (fs := fs) (by rw [← himg]; exact fun y hy => hS.ok y (List.mem_of_mem_take hy))
      by_cases hck : checkV fs = (0, 0, 0)
      · refine (decode_good b off n c zs r m fs x w hT hS (by omega) hc hcm hx hb hz h1 h2 hrf hfl hok hck).mono ?_
        rintro e w' ⟨gb, rfl, hsee, hk⟩
        refine ⟨hk, .inr ⟨gb, m, fs, rfl, hsee, hok, hck, ?_⟩⟩
        unfold encV
        rw [← himg, ← hb]
        have := List.take_append_drop n zs
        rw [List.drop_eq_getElem_cons (by omega : n < zs.length), List.drop_eq_nil_of_le (by omega)] at this
        rw [List.getElem?_eq_getElem (by omega)] at hx
        rw [Option.some.inj hx] at this
        exact this
      · obtain ⟨e1, e2, e3, hE⟩ : ∃ e1 e2 e3, checkV fs = (e1, e2, e3) := ⟨_, _, _, rfl⟩
        have he : (e1 != 0) = true := by
          simp only [bne_iff_ne]
          intro h0
          exact hck (check_zero (by rw [hE]; exact h0))
        refine (decode_fault b off n c zs r m fs x w hT hS (by omega) hc hcm hx hb hz h1 h2 hrf hfl hok e1 e2 e3 hE he).mono ?_
        rintro e w' ⟨rfl, hk⟩
        exact ⟨hk, .inl ⟨e1, he, rfl⟩⟩
end Go.Proofs.YtcjmceedkfjbeaaDoor
