import Derived.Test.YtiibflbfnoddmaaDoorPkAM
import Derived.Test.YtiibflbfnoddmaaDoorPkAH
import Derived.Test.YtiibflbfnoddmaaDoorPkAI
import Derived.Test.YtiibflbfnoddmaaDoorPkAL
/-! parlib.For: what it refuses, what it makes. -/
namespace Go.Proofs.YtiibflbfnoddmaaDoor
set_option linter.unusedVariables false
set_option maxRecDepth 20000
open Go.RowKit Go.HeapKit Go.PlainOps

def askV (l : List Fn) : Bool := l.any (fun f => f.code.any (fun i => i.kind == 8))
def takesV (l : List Fn) (k p : Int) : Bool := decide (0 ≤ k) && (decide (k < l.length) && decide (parV l k = p))
def firstV (l : List Int) : Int := (l.find? (· != 0)).getD 0
def baseE (l : List Fn) : Int := if (checkV l).1 = 0 ∧ askV l = false then 0 else 130
def bodyE (l : List Fn) (b : Int) : Int := if takesV l b 1 then 0 else 131
def combE (l : List Fn) (b : Int) : Int := if takesV l b 2 then 0 else 132
def roomE (l : List Fn) : Int := if l.length ≤ 28 then 0 else 133
theorem askV_at {l : List Fn} {k j : Nat} {f : Fn} {i : Ins} (hf : l[k]? = some f) (hi : f.code[j]? = some i) (h8 : i.kind = 8) : askV l = true := by
  unfold askV
  rw [List.any_eq_true]
  refine ⟨f, List.mem_of_getElem? hf, ?_⟩
  rw [List.any_eq_true]
  exact ⟨i, List.mem_of_getElem? hi, by simpa using h8⟩
theorem askV_no {l : List Fn} (h : ∀ (k : Nat) f, l[k]? = some f → ∀ (j : Nat) i, f.code[j]? = some i → i.kind ≠ 8) : askV l = false := by
  unfold askV
  rw [List.any_eq_false]
  intro f hf
  rw [List.any_eq_true]
  rintro ⟨i, hi, h8⟩
  obtain ⟨k, hk, e⟩ := List.getElem_of_mem hf
  obtain ⟨j, hj, e2⟩ := List.getElem_of_mem hi
  exact h k f (by rw [← e]; simp) j i (by rw [← e2]; simp) (by simpa using h8)
theorem unless_any (b : Bool) (x : Int) (w : World) : Calls Tryd.prog 29 #[.bool b, .int .i64 x] w fun e w' => e = .returned (.int .i64 (if b then 0 else x)) ∧ Keeps None w w' := by
  cases b
  · go_enter Tryd.func29, Tryd.ntmps29
    go_wp2
    go_ret
    exact ⟨rfl, Keeps.refl _ _⟩
  · go_enter Tryd.func29, Tryd.ntmps29
    go_wp2
    go_ret
    exact ⟨rfl, Keeps.refl _ _⟩
set_option maxHeartbeats 2000000 in
theorem askp_any (a : Option Addr) (n c : Nat) (l : List Fn) (w : World) (hS : SeenF w a n l) (hn : n ≤ 32) (hm : ∀ f ∈ l, f.code.length ≤ 512) :
    Calls Tryd.prog 31 #[.agg #[.slice a n c]] w fun e w' => e = .returned (.bool (askV l)) ∧ Keeps None w w' := by
  obtain ⟨Q, hQ⟩ : ∃ Q, Q = askV l := ⟨_, rfl⟩
  have HQ : Hid (Q = askV l) := hQ
  rw [← hQ]
  clear hQ
  obtain ⟨B, hB⟩ : ∃ B, B = w.heap.size := ⟨_, rfl⟩
  have b1 := heap_alloc_new w (.cells #[.slice a n c] 24)
  have hk1 := Keeps.alloc None w (.cells #[.slice a n c] 24)
  obtain ⟨W, hW⟩ : ∃ W, W = w.alloc (.cells #[.slice a n c] 24) := ⟨_, rfl⟩
  rw [← hW, ← hB] at b1
  rw [← hW] at hk1
  have d0 : W.cell? ⟨B, 0, none⟩ = some (.slice a n c) := (blk_cell b1 0).trans rfl
  have HC : Hid (Keeps None w W ∧ SeenF W a n l ∧ (∀ f ∈ l, f.code.length ≤ 512) ∧ n = l.length ∧ W.cell? ⟨B, 0, none⟩ = some (.slice a n c)) := ⟨hk1, hS.more hk1, hm, hS.len, d0⟩
  clear hk1 hS hm b1
  have i9 : (n : Int) ≤ 32 := by omega
  go_enter Tryd.func31, Tryd.ntmps31
  go_upto_region 1 with fail
  rw [← hW, ← hB]
  clear hW hB
  go_wp2_with fail
  clear d0
  go_loopw [4, 6, 10] (fun _ _ s3 wr => ∃ i : Nat, i ≤ n ∧ s3 = .int .i64 i ∧ Keeps None W wr ∧ ∀ j f, j < i → l[j]? = some f → ∀ (q : Nat) x, f.code[q]? = some x → x.kind ≠ 8) (fun _ _ i _ => n - (intOf i).toNat)
  case atStart => exact ⟨0, Nat.zero_le _, rfl, Keeps.refl _ _, fun j f hj => by omega⟩
  case round =>
    obtain ⟨i, hi, rfl, hwr, hno⟩ := hrel
    by_cases hin : i < n
    · have i1 : (i : Int) < (n : Int) := by omega
      have i0 : (0 : Int) ≤ (i : Int) := by omega
      obtain ⟨b, off, f, ca, cc, rfl, hf, hat⟩ := (HC.out.2.1.more hwr).at hin
      obtain ⟨m, hme⟩ : ∃ m, m = f.code.length := ⟨_, rfl⟩
      have c0 := hat.params
      have c2 := hat.regs
      have c3 := hat.slots
      have c1 := hat.code
      have hse := hat.seen
      rw [← hme] at c1 hse
      have hmb : m ≤ 512 := by rw [hme]; exact HC.out.2.2.1 f (List.mem_of_getElem? hf)
      have hal := Keeps.alloc None wr (.cells #[.int .i64 f.params, .int .i64 f.regs, .int .i64 f.slots, .slice ca m cc] 41)
      have bN := heap_alloc_new wr (.cells #[.int .i64 f.params, .int .i64 f.regs, .int .i64 f.slots, .slice ca m cc] 41)
      obtain ⟨V, hV⟩ : ∃ V, V = wr.alloc (.cells #[.int .i64 f.params, .int .i64 f.regs, .int .i64 f.slots, .slice ca m cc] 41) := ⟨_, rfl⟩
      obtain ⟨D, hD⟩ : ∃ D, D = wr.heap.size := ⟨_, rfl⟩
      rw [← hV] at hal bN
      rw [← hD] at bN
      have y3 : V.cell? ⟨D, 3, none⟩ = some (.slice ca m cc) := (blk_cell bN 3).trans rfl
      have HI : Hid ((∀ j f, j < i → l[j]? = some f → ∀ (q : Nat) x, f.code[q]? = some x → x.kind ≠ 8) ∧ l[i]? = some f ∧ m = f.code.length ∧ SeenI V ca m f.code ∧ Keeps None W V) := ⟨hno, hf, hme, hse.more hal, hwr.trans hal (fun _ f _ => f)⟩
      clear hno hf hme hse hat hal bN hwr
      go_upto_region 4 with fail
      rw [← hV, ← hD]
      clear hV hD
      go_wp2_with fail
      clear y3 c0 c1 c2 c3
      go_loopw [6, 17] (fun _ s4 wx => ∃ k : Nat, k ≤ m ∧ s4 = .int .i64 k ∧ Keeps None V wx ∧ ∀ q x, q < k → f.code[q]? = some x → x.kind ≠ 8) (fun _ i _ => m - (intOf i).toNat)
      case atStart => exact ⟨0, Nat.zero_le _, rfl, Keeps.refl _ _, fun q x hq => by omega⟩
      case round =>
        obtain ⟨k, hk, rfl, hwx, hnk⟩ := hrel
        by_cases hkm : k < m
        · have i2 : (k : Int) < (m : Int) := by omega
          have i3 : (0 : Int) ≤ (k : Int) := by omega
          have i4 : (k : Int) ≤ 512 := by omega
          obtain ⟨cb, co, x, rfl, hx, hins⟩ := (HI.out.2.2.2.1.more hwx).at hkm
          have y0 := hins.kind
          have y1 := hins.a
          have y2 := hins.b
          have y3 := hins.c
          have y4 := hins.k
          have hal := Keeps.alloc None wr (.cells #[.int .i64 x.kind, .int .i64 x.a, .int .i64 x.b, .int .i64 x.c, .int .i64 x.k] 43)
          have bN := heap_alloc_new wr (.cells #[.int .i64 x.kind, .int .i64 x.a, .int .i64 x.b, .int .i64 x.c, .int .i64 x.k] 43)
          obtain ⟨V2, hV⟩ : ∃ V2, V2 = wr.alloc (.cells #[.int .i64 x.kind, .int .i64 x.a, .int .i64 x.b, .int .i64 x.c, .int .i64 x.k] 43) := ⟨_, rfl⟩
          obtain ⟨D2, hD⟩ : ∃ D2, D2 = wr.heap.size := ⟨_, rfl⟩
          rw [← hV] at hal bN
          rw [← hD] at bN
          have z0 : V2.cell? ⟨D2, 0, none⟩ = some (.int .i64 x.kind) := (blk_cell bN 0).trans rfl
          have HX : Hid (f.code[k]? = some x ∧ (∀ q x, q < k → f.code[q]? = some x → x.kind ≠ 8) ∧ Keeps None V V2) := ⟨hx, hnk, hwx.trans hal (fun _ f _ => f)⟩
          clear hins hx hnk hwx hal bN
          go_upto_region 7 with fail
          rw [← hV, ← hD]
          clear hV hD y0 y1 y2 y3 y4
          by_cases h8 : x.kind = 8
          · have q1 : (x.kind == 8) = true := by simpa using h8
            have eQ : Q = true := by rw [HQ.out]; exact askV_at HI.out.2.1 HX.out.1 h8
            have HE : Hid (Q = true) := eQ
            clear h8 eQ
            go_wp2_with fail
            go_ret
            exact ⟨by simp [HE.out], (HC.out.1.trans HI.out.2.2.2.2 (fun _ f _ => f)).trans HX.out.2.2 (fun _ f _ => f)⟩
          · have q1 : (x.kind == 8) = false := by simpa using h8
            have H8 : Hid _ := h8
            clear h8
            go_wp2_with fail
            exact ⟨⟨k + 1, by omega, by simp, HX.out.2.2, fun q z hq hz => by
              by_cases hqk : q = k
              · subst hqk; rw [HX.out.1] at hz; obtain rfl := Option.some.inj hz; exact H8.out
              · exact HX.out.2.1 q z (by omega) hz⟩, by simp [intOf]; omega⟩
        · have i2 : ¬ ((m : Int) < (m : Int)) := by omega
          have hkm2 : m = k := by omega
          subst hkm2
          have HX : Hid ((∀ q x, q < m → f.code[q]? = some x → x.kind ≠ 8) ∧ Keeps None V wr) := ⟨hnk, hwx⟩
          clear hnk hwx
          go_wp2_with fail
          exact ⟨⟨i + 1, by omega, by simp, HI.out.2.2.2.2.trans HX.out.2 (fun _ f _ => f), fun j f' hj hf' q x hx => by
            by_cases hji : j = i
            · subst hji
              rw [HI.out.2.1] at hf'
              obtain rfl := Option.some.inj hf'
              exact HX.out.1 q x (by have := (List.getElem?_eq_some_iff.1 hx).1; have := HI.out.2.2.1; omega) hx
            · exact HI.out.1 j f' (by omega) hf' q x hx⟩, by simp [intOf]; omega⟩
    · have i1 : ¬ ((i : Int) < (n : Int)) := by omega
      obtain rfl : i = n := by omega
      have eQ : Q = false := by
        rw [HQ.out]
        exact askV_no (fun k f hf => hno k f (by have := (List.getElem?_eq_some_iff.1 hf).1; have := HC.out.2.2.2.1; omega) hf)
      have HZ : Hid (Keeps None w wr ∧ Q = false) := ⟨HC.out.1.trans hwr (fun _ f _ => f), eQ⟩
      clear eQ hno hwr
      go_wp2_with fail
      go_ret
      exact ⟨by simp [HZ.out.2], HZ.out.1⟩
end Go.Proofs.YtiibflbfnoddmaaDoor
/-! What a valid program is, plainly. -/
namespace Go.Proofs.YtiibflbfnoddmaaDoor
set_option linter.unusedVariables false
set_option maxRecDepth 20000

theorem check_zero {l : List Fn} (h : (checkV l).1 = 0) : checkV l = (0, 0, 0) := by
  unfold checkV at h ⊢
  split
  · rename_i h1; rw [if_pos h1] at h; cases h
  · rename_i h1
    rw [if_neg h1] at h
    split
    · rename_i r hr; rw [hr] at h; simp at h
    · rename_i hr
      rw [hr] at h
      simp only at h
      split
      · rename_i r hr2
        rw [hr2] at h
        simp only at h
        obtain ⟨k, x, _, _, hg, _⟩ := firstAt_was _ _ _ _ hr2
        unfold codeFault at hg
        split at hg
        · have := Option.some.inj hg
          rw [← this] at h
          simp at h
        · split at hg
          · have := Option.some.inj hg
            rw [← this] at h
            simp at h
          · cases hg
      · rename_i hr2
        rw [hr2] at h
        simp only at h
        split
        · rename_i r hr3
          rw [hr3] at h
          simp only at h
          obtain ⟨k, x, _, _, hg, _⟩ := firstAt_was _ _ _ _ hr3
          unfold slotFault at hg
          simp only [Option.map_eq_some_iff] at hg
          obtain ⟨q, hq, e⟩ := hg
          obtain ⟨k2, y, _, _, hg2, _⟩ := firstAt_was _ _ _ _ hq
          split at hg2
          · cases hg2
          · rename_i hne
            have := Option.some.inj hg2
            rw [← e] at h
            simp at h
            rw [← this] at h
            exact absurd h hne
        · rfl
/-- What a valid function is, for the walks. -/
theorem valid_bounds {fs : List Fn} {f : Fn} (h : Valid fs f) : (0 ≤ f.params ∧ f.params ≤ 8) ∧ (1 ≤ f.regs ∧ f.params ≤ f.regs ∧ f.regs ≤ 16) ∧ (0 ≤ f.slots ∧ f.slots ≤ 8) ∧ 1 ≤ f.code.length ∧ f.code.length ≤ 512 := by
  have := h.shape
  simp only [shapeV, Bool.and_eq_true, decide_eq_true_eq] at this
  omega
end Go.Proofs.YtiibflbfnoddmaaDoor
/-! parlib.For: the errors. -/
namespace Go.Proofs.YtiibflbfnoddmaaDoor
set_option linter.unusedVariables false
set_option maxRecDepth 20000
open Go.RowKit Go.HeapKit Go.PlainOps

theorem put_as {K : Act → World → Prop} {a : Act} {d : Option Tmp} {v v' : Value} {w : World} (h : v = v') (k : K (a.put d v') w) : K (a.put d v) w := h ▸ k
theorem box_prog (w : World) (a : Option Addr) (n c : Nat) : ∃ W B, W = w.alloc (.cells #[.slice a n c] 24) ∧ B = w.heap.size ∧ W.heap[B]? = some (.cells #[.slice a n c] 24 (0, 0)) ∧ Keeps None w W ∧ W.cell? ⟨B, 0, none⟩ = some (.slice a n c) ∧ W.heap.size = B + 1 :=
  ⟨_, _, rfl, rfl, heap_alloc_new w _, Keeps.alloc _ _ _, (blk_cell (heap_alloc_new w _) 0).trans rfl, by simp⟩
set_option maxHeartbeats 2000000 in
theorem wrongBase_any (a : Option Addr) (n c : Nat) (l : List Fn) (w : World) (hT : Tabs w) (hS : SeenF w a n l) (hok : ∀ f ∈ l, f.Ok) :
    Calls Tryd.prog 18 #[.agg #[.slice a n c]] w fun e w' => e = .returned (.int .i64 (baseE l)) ∧ Keeps None w w' := by
  obtain ⟨W, B, hW, hB, bP, hal, d0, sW⟩ := box_prog w a n c
  have hck := check_any a n c l W (hT.more hal) (hS.more hal) hok
  unfold checkF faultV at hck
  obtain ⟨E, hE⟩ : ∃ E, E = baseE l := ⟨_, rfl⟩
  rw [← hE]
  by_cases h1 : (checkV l).1 = 0
  · have hcz := check_zero h1
    obtain ⟨hl1, hl2, hall⟩ := check_valid hcz
    rw [hcz] at hck
    obtain ⟨Q, hQ⟩ : ∃ Q, Q = askV l := ⟨_, rfl⟩
    have eE : E = if (!Q) = true then 0 else 130 := by
      rw [hE, hQ]
      unfold baseE
      cases askV l
      · rw [if_pos ⟨h1, rfl⟩]; rfl
      · rw [if_neg (by simp)]; rfl
    have hln := hS.len
    have hask : ∀ w', Keeps None W w' → Calls Tryd.prog 31 #[.agg #[.slice a n c]] w' fun e w'' => e = .returned (.bool Q) ∧ Keeps None w' w'' := fun w' hk => by
      rw [hQ]
      exact askp_any a n c l w' ((hS.more hal).more hk) (by omega) (fun f hf => (valid_bounds (hall f hf)).2.2.2.2)
    have HX : Hid (Keeps None w W ∧ W.heap[B]? = some (.cells #[.slice a n c] 24 (0, 0)) ∧ E = if (!Q) = true then 0 else 130) := ⟨hal, bP, eE⟩
    have HA : Hid _ := hask
    clear hcz hl1 hl2 hall hQ eE hE hask h1 hln hS hal bP hT hok sW
    go_enter Tryd.func18, Tryd.ntmps18
    go_upto_region 1 with fail
    rw [← hW, ← hB]
    clear hW hB
    go_wp2_with (go_at_call 30; refine hck.mono ?_; rintro _ w3 ⟨rfl, hk3⟩)
    refine put_as (v' := .int .i64 0) rfl ?_
    simp only [Act.put, List.setIfInBounds_toArray, List.set_cons_zero, List.set_cons_succ]
    have d1 := (blk_cell (blk_kept HX.out.2.1 hk3 (fun f => f)) 0).trans rfl
    have HK : Hid (Keeps None w w3) := HX.out.1.trans hk3 (fun _ f _ => f)
    have hq := HA.out w3 hk3
    clear hck d0 hk3
    go_wp2_with fail
    refine hq.mono ?_
    rintro _ w4 ⟨rfl, k4⟩
    have HK4 : Hid (Keeps None w w4) := HK.out.trans k4 (fun _ f _ => f)
    clear hq k4 d1
    go_wp2_with fail
    refine (unless_any _ _ _).mono ?_
    rintro _ w5 ⟨rfl, k5⟩
    have HK5 : Hid (Keeps None w w5) := HK4.out.trans k5 (fun _ f _ => f)
    clear k5
    go_wp2
    all_goals go_ret
    all_goals (refine ⟨?_, HK5.out⟩; rw [HX.out.2.2])
    · rw [h]; rfl
    · rw [Bool.not_eq_false] at h; rw [h]; rfl
  · have eE : E = 130 := by
      rw [hE]
      unfold baseE
      rw [if_neg (fun h => h1 h.1)]
    obtain ⟨⟨k1, k2, k3⟩, hcv⟩ : ∃ cv, cv = checkV l := ⟨_, rfl⟩
    rw [← hcv] at h1 hck
    clear hcv
    simp only at h1 hck
    have t1 : (k1 == 0) = false := by simpa using h1
    have HX : Hid (Keeps None w W ∧ E = 130) := ⟨hal, eE⟩
    clear eE hE h1 hS hal bP hT hok sW
    go_enter Tryd.func18, Tryd.ntmps18
    go_upto_region 1 with fail
    rw [← hW, ← hB]
    clear hW hB
    go_wp2_with (go_at_call 30; refine hck.mono ?_; rintro _ w3 ⟨rfl, hk3⟩)
    refine put_as (v' := .int .i64 k1) rfl ?_
    simp only [Act.put, List.setIfInBounds_toArray, List.set_cons_zero, List.set_cons_succ]
    have HK : Hid (Keeps None w w3) := HX.out.1.trans hk3 (fun _ f _ => f)
    clear hck d0 hk3
    go_wp2_with fail
    refine (unless_any _ _ _).mono ?_
    rintro _ w5 ⟨rfl, k5⟩
    have HK5 : Hid (Keeps None w w5) := HK.out.trans k5 (fun _ f _ => f)
    clear k5
    go_wp2
    go_ret
    exact ⟨by rw [HX.out.2]; rfl, HK5.out⟩
set_option maxHeartbeats 2000000 in
theorem takes_any (a : Option Addr) (n c : Nat) (l : List Fn) (k p : Int) (w : World) (hS : SeenF w a n l) :
    Calls Tryd.prog 32 #[.agg #[.slice a n c], .int .i64 k, .int .i64 p] w fun e w' => e = .returned (.bool (takesV l k p)) ∧ Keeps None w w' := by
  obtain ⟨W, B, hW, hB, bP, hal, d0, sW⟩ := box_prog w a n c
  obtain ⟨E, hE⟩ : ∃ E, E = takesV l k p := ⟨_, rfl⟩
  rw [← hE]
  have hln := hS.len
  by_cases h0 : 0 ≤ k
  · obtain ⟨j, rfl⟩ := Int.eq_ofNat_of_zero_le h0
    by_cases h1 : j < n
    · obtain ⟨b, off, f, ca, cc, rfl, ef, hat⟩ := (hS.more hal).at h1
      have y0 := hat.params
      have i1 : (j : Int) < (n : Int) := by omega
      have i2 : (0 : Int) ≤ (j : Int) := by omega
      have eE : E = decide (f.params = p) := by
        rw [hE]
        unfold takesV parV
        simp only [Int.toNat_natCast, ef, Option.map_some, Option.getD_some]
        rw [← hln]
        simp [i1]
      by_cases h2 : f.params = p
      · have t1 : (f.params == p) = true := by simpa using h2
        have HX : Hid (Keeps None w W ∧ E = true) := ⟨hal, by rw [eE]; simpa using h2⟩
        clear eE hE hS hal bP sW hat h2 ef hln
        go_enter Tryd.func32, Tryd.ntmps32
        go_upto_region 1 with fail
        rw [← hW, ← hB]
        clear hW hB
        go_wp2
        go_ret
        exact ⟨by simp [HX.out.2], HX.out.1⟩
      · have t1 : (f.params == p) = false := by simpa using h2
        have HX : Hid (Keeps None w W ∧ E = false) := ⟨hal, by rw [eE]; simpa using h2⟩
        clear eE hE hS hal bP sW hat h2 ef hln
        go_enter Tryd.func32, Tryd.ntmps32
        go_upto_region 1 with fail
        rw [← hW, ← hB]
        clear hW hB
        go_wp2
        go_ret
        exact ⟨by simp [HX.out.2], HX.out.1⟩
    · have i1 : ¬ ((j : Int) < (n : Int)) := by omega
      have i2 : (0 : Int) ≤ (j : Int) := by omega
      have HX : Hid (Keeps None w W ∧ E = false) := ⟨hal, by
        rw [hE]
        unfold takesV
        rw [← hln]
        simp
        omega⟩
      clear hE hS hal bP sW hln
      go_enter Tryd.func32, Tryd.ntmps32
      go_upto_region 1 with fail
      rw [← hW, ← hB]
      clear hW hB
      go_wp2
      go_ret
      exact ⟨by simp [HX.out.2], HX.out.1⟩
  · have i2 : ¬ (0 : Int) ≤ k := h0
    have HX : Hid (Keeps None w W ∧ E = false) := ⟨hal, by
      rw [hE]
      unfold takesV
      simp [h0]⟩
    clear hE hS hal bP sW hln h0
    go_enter Tryd.func32, Tryd.ntmps32
    go_upto_region 1 with fail
    rw [← hW, ← hB]
    clear hW hB
    go_wp2
    go_ret
    exact ⟨by simp [HX.out.2], HX.out.1⟩
set_option maxHeartbeats 2000000 in
theorem wrongBody_any (a : Option Addr) (n c : Nat) (l : List Fn) (k : Int) (w : World) (hS : SeenF w a n l) :
    Calls Tryd.prog 19 #[.agg #[.slice a n c], .int .i64 k] w fun e w' => e = .returned (.int .i64 (bodyE l k)) ∧ Keeps None w w' := by
  obtain ⟨W, B, hW, hB, bP, hal, d0, sW⟩ := box_prog w a n c
  have htk := takes_any a n c l k 1 W (hS.more hal)
  have HX : Hid (Keeps None w W) := hal
  unfold bodyE
  generalize takesV l k 1 = Q at *
  clear hS hal bP sW
  cases Q
  all_goals (
    go_enter Tryd.func19, Tryd.ntmps19
    go_upto_region 1 with fail
    rw [← hW, ← hB]
    clear hW hB
    go_wp2_with fail
    refine htk.mono ?_
    rintro _ w3 ⟨rfl, k3⟩
    have HK : Hid (Keeps None w w3) := HX.out.trans k3 (fun _ f _ => f)
    clear htk k3 d0
    go_wp2_with fail
    refine (unless_any _ _ _).mono ?_
    rintro _ w5 ⟨rfl, k5⟩
    have HK5 : Hid (Keeps None w w5) := HK.out.trans k5 (fun _ f _ => f)
    clear k5
    go_wp2
    go_ret
    exact ⟨rfl, HK5.out⟩)
set_option maxHeartbeats 2000000 in
theorem wrongRoom_any (a : Option Addr) (n c : Nat) (l : List Fn) (w : World) (hS : SeenF w a n l) :
    Calls Tryd.prog 20 #[.agg #[.slice a n c]] w fun e w' => e = .returned (.int .i64 (roomE l)) ∧ Keeps None w w' := by
  obtain ⟨W, B, hW, hB, bP, hal, d0, sW⟩ := box_prog w a n c
  have HX : Hid (Keeps None w W) := hal
  obtain ⟨Q, hQ⟩ : ∃ Q : Bool, Q = decide ((n : Int) ≤ 28) := ⟨_, rfl⟩
  have e1 : roomE l = if Q = true then 0 else 133 := by
    unfold roomE
    rw [hQ, ← hS.len]
    by_cases h : n ≤ 28
    · rw [if_pos h, if_pos (by simp; omega)]
    · rw [if_neg h, if_neg (by simp; omega)]
  rw [e1]
  clear hS hal bP sW e1
  cases Q with
  | true =>
    have i1 : (n : Int) ≤ 28 := by simpa using hQ.symm
    clear hQ
    go_enter Tryd.func20, Tryd.ntmps20
    go_upto_region 1 with fail
    rw [← hW, ← hB]
    clear hW hB
    go_wp2_with fail
    refine (unless_any _ _ _).mono ?_
    rintro _ w5 ⟨rfl, k5⟩
    have HK5 : Hid (Keeps None w w5) := HX.out.trans k5 (fun _ f _ => f)
    clear k5
    go_wp2
    go_ret
    exact ⟨rfl, HK5.out⟩
  | false =>
    have i1 : ¬ (n : Int) ≤ 28 := by simpa using hQ.symm
    clear hQ
    go_enter Tryd.func20, Tryd.ntmps20
    go_upto_region 1 with fail
    rw [← hW, ← hB]
    clear hW hB
    go_wp2_with fail
    refine (unless_any _ _ _).mono ?_
    rintro _ w5 ⟨rfl, k5⟩
    have HK5 : Hid (Keeps None w w5) := HX.out.trans k5 (fun _ f _ => f)
    clear k5
    go_wp2
    go_ret
    exact ⟨rfl, HK5.out⟩
theorem firstV_next {l : List Int} {k : Nat} (h : ∀ j x, j < k → l[j]? = some x → x = 0) {x : Int} (hx : l[k]? = some x) (h0 : x ≠ 0) : firstV l = x := by
  unfold firstV
  induction l generalizing k with
  | nil => simp at hx
  | cons y l ih =>
    cases k with
    | zero =>
      simp at hx
      subst hx
      have h1 : (y != 0) = true := by simpa using h0
      simp [List.find?, h1]
    | succ k =>
      have hy := h 0 y (by omega) rfl
      subst hy
      have := ih (k := k) (fun j x hj hx => h (j + 1) x (by omega) (by simpa using hx)) (by simpa using hx)
      simpa [List.find?] using this
theorem firstV_none {l : List Int} (h : ∀ (j : Nat) x, l[j]? = some x → x = 0) : firstV l = 0 := by
  unfold firstV
  induction l with
  | nil => rfl
  | cons y l ih =>
    have hy := h 0 y rfl
    subst hy
    have := ih (fun j x hx => h (j + 1) x (by simpa using hx))
    simpa [List.find?] using this
set_option maxHeartbeats 2000000 in
theorem first_any (g n c : Nat) (l : List Int) (w : World) (hn : n = l.length) (hl : l.length ≤ 100) (hc : ∀ (k : Nat) x, l[k]? = some x → w.cell? ⟨g, k, none⟩ = some (.int .i64 x)) :
    Calls Tryd.prog 17 #[.slice (some ⟨g, 0, none⟩) n c] w fun e w' => e = .returned (.int .i64 (firstV l)) ∧ Keeps None w w' := by
  obtain ⟨E, hE⟩ : ∃ E, E = firstV l := ⟨_, rfl⟩
  rw [← hE]
  have HC : Hid (n = l.length ∧ (∀ (k : Nat) x, l[k]? = some x → w.cell? ⟨g, k, none⟩ = some (.int .i64 x)) ∧ E = firstV l) := ⟨hn, hc, hE⟩
  have i9 : (n : Int) ≤ 100 := by omega
  clear hn hl hc hE
  go_enter Tryd.func17, Tryd.ntmps17
  go_wp2_with fail
  go_loopw [4, 7] (fun _ s7 wr => ∃ k : Nat, k ≤ n ∧ s7 = .int .i64 k ∧ wr = w ∧ ∀ j x, j < k → l[j]? = some x → x = 0) (fun _ i _ => n - (intOf i).toNat)
  case atStart => exact ⟨0, Nat.zero_le _, rfl, rfl, fun j x hj => by omega⟩
  case round =>
    obtain ⟨k, hk, rfl, hw, hz⟩ := hrel
    have hw2 := hw.symm
    subst hw2
    by_cases hkn : k < n
    · have i1 : (k : Int) < (n : Int) := by omega
      have i2 : (0 : Int) ≤ (k : Int) := by omega
      obtain ⟨x, hx⟩ : ∃ x, l[k]? = some x := ⟨l[k]'(by have := HC.out.1; omega), by simp⟩
      have c0 := HC.out.2.1 k x hx
      by_cases h0 : x = 0
      · have t0 : (x != 0) = false := by simp [h0]
        have HZ : Hid (∀ j x, j < k + 1 → l[j]? = some x → x = 0) := fun j y hj hy => by
          by_cases e : j = k
          · subst e; rw [hx] at hy; obtain rfl := Option.some.inj hy; exact h0
          · exact hz j y (by omega) hy
        clear hz hx h0
        go_wp2
        exact ⟨⟨k + 1, by omega, by simp, trivial, HZ.out⟩, by simp [intOf]; omega⟩
      · have t0 : (x != 0) = true := by simp [h0]
        have HE : Hid (E = x) := by rw [HC.out.2.2]; exact firstV_next hz hx h0
        clear hz hx h0
        go_wp2
        go_ret
        exact ⟨by rw [HE.out]; rfl, Keeps.refl _ _⟩
    · have i1 : ¬ ((k : Int) < (n : Int)) := by omega
      obtain rfl : k = n := by omega
      have HE : Hid (E = 0) := by
        rw [HC.out.2.2]
        exact firstV_none (fun j x hx => hz j x (by have := (List.getElem?_eq_some_iff.1 hx).1; have := HC.out.1; omega) hx)
      clear hz
      go_wp2
      go_ret
      exact ⟨by rw [HE.out]; rfl, Keeps.refl _ _⟩
end Go.Proofs.YtiibflbfnoddmaaDoor
/-! What package serial answers, plainly. -/
namespace Go.Proofs.YtiibflbfnoddmaaDoor
set_option linter.unusedVariables false
set_option maxRecDepth 20000
open Go.RowKit Go.PlainOps

structure Nd where
  parent : Int
  idx : Int
  func : Int
  work : Int
  ped : Int
  arg : Int
  v : Int
structure Tk where
  regs : List Int
  slots : List Int
  node : Nd
  number : Int
  depth : Int
  spawned : Int
  span : Int
  due : Int
structure Rn where
  fuel : Nat
  tasks : Nat
  depth : Int
  nodes : List Nd
inductive Res where
  | gave (e : Int)
  | done (v span : Int) (s : Rn)

def pedV (p k : Int) : Int := wrap64 (wrap64 (wrap64 (p * 1000003) + k) + 1)
def imax (a b : Int) : Int := if a < b then b else a
def enterT (s : Rn) (t : Tk) : Tk := { t with number := s.tasks, node := { t.node with arg := t.regs.getD 0 0 } }
def enterS (L : Bool) (s : Rn) (t : Tk) : Rn := { s with tasks := s.tasks + 1, depth := imax s.depth t.depth, nodes := if L then s.nodes ++ [(enterT s t).node] else s.nodes }
def payS (s : Rn) : Rn := { s with fuel := s.fuel - 1 }
def payT (t : Tk) : Tk := { t with node := { t.node with work := t.node.work + 1 }, span := t.span + 1 }
def leaveS (L : Bool) (s : Rn) (t : Tk) : Rn := { s with nodes := if L then s.nodes.set t.number.toNat t.node else s.nodes }
def endT (t : Tk) (x : Int) : Tk := { t with node := { t.node with v := x } }
def argsV (l : List Int) (from_ n : Nat) : List Int := (List.range 16).map fun k => if k < n then l.getD (from_ + k) 0 else 0
def childV (fs : List Fn) (t : Tk) (i : Ins) : Tk :=
  { regs := argsV t.regs i.c.toNat (parV fs i.b).toNat, slots := List.replicate 8 0, node := ⟨t.number, t.spawned, i.b, 0, pedV t.node.ped t.spawned, 0, 0⟩, number := 0, depth := t.depth + 1, spawned := 0, span := 0, due := 0 }
def spawnT (t : Tk) : Tk := { t with spawned := t.spawned + 1 }
def gotT (t : Tk) (a : Nat) (v span : Int) : Tk := { t with slots := t.slots.set a v, due := imax t.due (t.span + span) }
def waitT (t : Tk) : Tk := { t with span := imax t.span (t.due + 1) }
def setR (t : Tk) (a : Nat) (x : Int) : Tk := { t with regs := t.regs.set a x }
def computeT (t : Tk) (i : Ins) : Tk :=
  if i.kind = 0 then setR t i.a.toNat i.k
  else if i.kind = 1 then setR t i.a.toNat (t.regs.getD i.b.toNat 0)
  else if i.kind = 2 then setR t i.a.toNat (workV i.k (t.regs.getD i.b.toNat 0) (t.regs.getD i.c.toNat 0))
  else if i.kind = 7 then setR t i.a.toNat (t.slots.getD i.b.toNat 0)
  else if i.kind = 8 then setR t i.a.toNat t.node.ped
  else t
def rootT (args : List Int) : Tk :=
  { regs := argsV args 0 args.length, slots := List.replicate 8 0, node := ⟨-1, 0, 0, 0, 1, 0, 0⟩, number := 0, depth := 1, spawned := 0, span := 0, due := 0 }
def codeOf (fs : List Fn) (f : Int) : List Ins := ((fs[f.toNat]?).map Fn.code).getD []

/-- A task from instruction 'at_' on. -/
def loopV (fs : List Fn) (L : Bool) : Nat → Rn → Tk → Nat → Res
  | 0, _, _, _ => .gave 62
  | g + 1, s, t, at_ =>
    if s.fuel = 0 then .gave 62
    else match (codeOf fs t.node.func)[at_]? with
      | none => .gave 0
      | some i =>
        if i.kind = 3 then loopV fs L g (payS s) (payT t) i.a.toNat
        else if i.kind = 4 then loopV fs L g (payS s) (payT t) (if t.regs.getD i.a.toNat 0 = 0 then at_ + 1 else i.b.toNat)
        else if i.kind = 5 then
          if 4096 < (childV fs (payT t) i).depth then .gave 63
          else match loopV fs L g (enterS L (payS s) (childV fs (payT t) i)) (enterT (payS s) (childV fs (payT t) i)) 0 with
            | .gave e => .gave e
            | .done v sp s2 => loopV fs L g s2 (gotT (spawnT (payT t)) i.a.toNat v sp) (at_ + 1)
        else if i.kind = 6 then loopV fs L g (payS s) (waitT (payT t)) (at_ + 1)
        else if i.kind = 9 then .done (t.regs.getD i.a.toNat 0) (t.span + 1) (leaveS L (payS s) (endT (payT t) (t.regs.getD i.a.toNat 0)))
        else loopV fs L g (payS s) (computeT (payT t) i) (at_ + 1)
/-- A task from its beginning on. -/
def playV (fs : List Fn) (L : Bool) (g : Nat) (s : Rn) (t : Tk) : Res :=
  if 4096 < t.depth then .gave 63 else loopV fs L g (enterS L s t) (enterT s t) 0
def startS (fuel : Nat) : Rn := ⟨fuel, 0, 0, []⟩
/-- What comes ahead of a run. -/
def refusedV (fs : List Fn) (args : List Int) (fuel : Int) : Int :=
  if (checkV fs).1 ≠ 0 then 60 else if ((args.length : Int)) ≠ parV fs 0 then 61 else if fuel < 0 ∨ 4194304 < fuel then 3 else 0
def runV (fs : List Fn) (L : Bool) (args : List Int) (fuel : Nat) : Res := playV fs L (fuel + 1) (startS fuel) (rootT args)
/-- Eval: the value, the work, the tasks, the depth, the span; the error. -/
structure Val where
  v : Int
  work : Int
  tasks : Int
  depth : Int
  span : Int
def zeroVal : Val := ⟨0, 0, 0, 0, 0⟩
def evalV (fs : List Fn) (args : List Int) (fuel : Int) : Val × Int :=
  if refusedV fs args fuel ≠ 0 then (zeroVal, refusedV fs args fuel)
  else match runV fs false args fuel.toNat with
    | .gave e => (zeroVal, e)
    | .done v sp s => (⟨v, fuel - s.fuel, s.tasks, s.depth, sp⟩, 0)

/-! ### What stays in its bounds -/
structure Tk.In (fs : List Fn) (t : Tk) (fuel : Nat) : Prop where
  regs : t.regs.length = 16
  slots : t.slots.length = 8
  okr : ∀ x ∈ t.regs, okI x
  oks : ∀ x ∈ t.slots, okI x
  func : 0 ≤ t.node.func ∧ t.node.func < fs.length
  work : 0 ≤ t.node.work ∧ t.node.work + fuel ≤ 8388608
  ped : okI t.node.ped
  depth : 1 ≤ t.depth ∧ t.depth ≤ 4096
  spawned : 0 ≤ t.spawned ∧ t.spawned + fuel ≤ 8388608
  span : 0 ≤ t.span ∧ t.span + fuel ≤ 8388608
  due : 0 ≤ t.due ∧ t.due + fuel ≤ 8388608
  number : 0 ≤ t.number ∧ t.number ≤ 8388608
structure Rn.In (L : Bool) (s : Rn) : Prop where
  tasks : s.tasks + s.fuel ≤ 8388608
  depth : 0 ≤ s.depth ∧ s.depth ≤ 4096
  nodes : s.nodes.length = if L then s.tasks else 0
end Go.Proofs.YtiibflbfnoddmaaDoor
/-! A verified program's run stays in its bounds. -/
namespace Go.Proofs.YtiibflbfnoddmaaDoor
set_option linter.unusedVariables false
set_option maxRecDepth 20000
open Go.RowKit Go.PlainOps

/-- What is known of an instruction of a valid function. -/
structure StepOk (fs : List Fn) (n : Nat) (at_ : Nat) (i : Ins) : Prop where
  kind : 0 ≤ i.kind ∧ i.kind < 10
  jump : i.kind = 3 → 0 ≤ i.a ∧ i.a < n
  branch : i.kind = 4 → 0 ≤ i.b ∧ i.b < n
  next : i.kind ≠ 3 → i.kind ≠ 9 → at_ + 1 < n
  reg : i.kind ≠ 3 → i.kind ≠ 5 → i.kind ≠ 6 → 0 ≤ i.a ∧ i.a < 16
  regb : i.kind = 1 ∨ i.kind = 2 → 0 ≤ i.b ∧ i.b < 16
  regc : i.kind = 2 → 0 ≤ i.c ∧ i.c < 16
  op : i.kind = 2 → 0 ≤ i.k ∧ i.k < 16
  slot : i.kind = 5 → 0 ≤ i.a ∧ i.a < 8
  load : i.kind = 7 → 0 ≤ i.b ∧ i.b < 8
  fn : i.kind = 5 → 0 ≤ i.b ∧ i.b < fs.length
  args : i.kind = 5 → parV fs i.b = 0 ∨ (0 ≤ i.c ∧ i.c + parV fs i.b ≤ 16)
theorem step_ok {fs : List Fn} {f : Fn} {at_ : Nat} {i : Ins} (hV : Valid fs f) (hi : f.code[at_]? = some i) : StepOk fs f.code.length at_ i := by
  have hG := good_of hV.shape hV.code
  have hf := (code_parts hV.code).1 _ _ hi
  obtain ⟨w1, w2, w3⟩ := fits_ways hf
  have hk := fits_kind hf
  obtain ⟨_, ⟨_, _, hr⟩, ⟨_, hs⟩, _, _⟩ := valid_bounds hV
  have hw := hG.ways _ _ hi
  have h6 : i.kind = 2 → 0 ≤ i.k ∧ i.k < 16 := by
    intro e
    unfold fitsV at hf
    rw [e] at hf
    simp [fK, belowV] at hf
    omega
  obtain ⟨k, a, b, c, K⟩ := i
  simp only at hk w1 w2 w3 h6 ⊢
  rcases kinds (i := ⟨k, a, b, c, K⟩) hk.1 hk.2 with e | e | e | e | e | e | e | e | e | e
  all_goals
    simp only at e
    subst e
    simp [fA, fB, fC, allowsV, belowV, holdsV] at w1 w2 w3
    simp [exitsV, fN, fA, fB] at hw
    refine ⟨by simp, ?_, ?_, ?_, ?_, ?_, ?_, ?_, ?_, ?_, ?_, ?_⟩ <;> simp <;> first | done | omega

theorem getD_ok {l : List Int} (h : ∀ x ∈ l, okI x) (k : Nat) : okI (l.getD k 0) := by
  rw [List.getD_eq_getElem?_getD]
  cases hq : l[k]? with
  | none => simp [okI]
  | some x => exact h x (List.mem_of_getElem? hq)
theorem set_ok {l : List Int} (h : ∀ x ∈ l, okI x) (k : Nat) {x : Int} (hx : okI x) : ∀ y ∈ l.set k x, okI y := by
  intro y hy
  rcases List.mem_or_eq_of_mem_set hy with h1 | h1
  · exact h y h1
  · subst h1; exact hx
theorem wrap_ok (x : Int) : okI (wrap64 x) := by unfold okI wrap64; omega
theorem bvOk (v : BitVec 64) : okI v.toInt := by have := bv_bounds v; exact ⟨by omega, by omega⟩
theorem ite_ok {p : Prop} [Decidable p] {a b : Int} (ha : okI a) (hb : okI b) : okI (if p then a else b) := by by_cases h : p <;> simp [h, ha, hb]
theorem zero_ok : okI 0 := by simp [okI]
theorem truth_ok (x : Bool) : okI (truthV x) := by cases x <;> simp [truthV, okI]
theorem rem_ok (a b : Int) (ha : okI a) : okI (remV a b) := by
  unfold remV
  refine ite_ok ha ?_
  have : (a.tmod b).natAbs ≤ a.natAbs := by rw [Int.natAbs_tmod]; exact Nat.mod_le _ _
  unfold okI at ha ⊢
  by_cases h0 : 0 ≤ a
  · have := Int.tmod_nonneg b h0
    omega
  · have h2 := Int.tmod_nonneg b (show 0 ≤ -a by omega)
    rw [Int.neg_tmod] at h2
    omega
theorem shr_ok (a b : Int) (ha : okI a) : okI (shrV a b) := by
  unfold shrV
  have hp : (0 : Int) < 2 ^ (b % 64).toNat := Int.pow_pos (by decide)
  generalize (2 : Int) ^ (b % 64).toNat = p at hp
  have h1 : (1 : Int) ≤ p := by omega
  unfold okI at ha ⊢
  by_cases h0 : 0 ≤ a
  · have h2 := Int.ediv_le_self p h0
    have h3 := Int.ediv_nonneg h0 (show 0 ≤ p by omega)
    omega
  · have h2 : -9223372036854775808 ≤ a / p := by
      apply Int.le_ediv_of_mul_le hp
      have : (-9223372036854775808 : Int) * p ≤ -9223372036854775808 * 1 := Int.mul_le_mul_of_nonpos_left (by decide) h1
      omega
    have h3 : a / p < 1 := by
      apply Int.ediv_lt_of_lt_mul hp
      omega
    omega
theorem work_ok (op a b : Int) (ha : okI a) (hb : okI b) : okI (workV op a b) := by
  unfold workV
  refine ite_ok (wrap_ok _) (ite_ok (wrap_ok _) (ite_ok (wrap_ok _) (ite_ok (ite_ok zero_ok (wrap_ok _)) (ite_ok (rem_ok _ _ ha) (ite_ok (by rw [bits_and]; exact bvOk _) (ite_ok (by rw [bits_or]; exact bvOk _) (ite_ok (by rw [bits_xor]; exact bvOk _) (ite_ok (wrap_ok _) (ite_ok (shr_ok _ _ ha) (ite_ok (ite_ok hb ha) (ite_ok (ite_ok hb ha) (ite_ok (truth_ok _) (ite_ok (truth_ok _) (ite_ok (truth_ok _) (truth_ok _)))))))))))))))
theorem args_ok {l : List Int} (h : ∀ x ∈ l, okI x) (a n : Nat) : ∀ x ∈ argsV l a n, okI x := by
  intro x hx
  unfold argsV at hx
  obtain ⟨k, _, rfl⟩ := List.mem_map.1 hx
  split
  · exact getD_ok h _
  · simp [okI]
theorem args_len (l : List Int) (a n : Nat) : (argsV l a n).length = 16 := by simp [argsV]
end Go.Proofs.YtiibflbfnoddmaaDoor
/-! parlib.For. -/
namespace Go.Proofs.YtiibflbfnoddmaaDoor
set_option linter.unusedVariables false
set_option maxRecDepth 20000
open Go.RowKit Go.HeapKit Go.PlainOps

def forE (l : List Fn) (b : Int) : Int := firstV [baseE l, bodyE l b, roomE l]
theorem forE_zero {l : List Fn} {b : Int} (h : forE l b = 0) : (checkV l).1 = 0 ∧ askV l = false ∧ takesV l b 1 = true ∧ l.length ≤ 28 := by
  have h1 : baseE l = 0 := by
    by_cases h0 : baseE l = 0
    · exact h0
    · have := firstV_next (l := [baseE l, bodyE l b, roomE l]) (k := 0) (fun j x hj => by omega) rfl h0
      exact absurd (this.symm.trans h) h0
  have h2 : bodyE l b = 0 := by
    by_cases h0 : bodyE l b = 0
    · exact h0
    · have := firstV_next (l := [baseE l, bodyE l b, roomE l]) (k := 1) (fun j x hj hx => by
        obtain rfl : j = 0 := by omega
        simp at hx
        rw [← hx]; exact h1) rfl h0
      exact absurd (this.symm.trans h) h0
  have h3 : roomE l = 0 := by
    by_cases h0 : roomE l = 0
    · exact h0
    · have := firstV_next (l := [baseE l, bodyE l b, roomE l]) (k := 2) (fun j x hj hx => by
        match j, hj with
        | 0, _ => simp at hx; rw [← hx]; exact h1
        | 1, _ => simp at hx; rw [← hx]; exact h2) rfl h0
      exact absurd (this.symm.trans h) h0
  unfold baseE at h1
  unfold bodyE at h2
  unfold roomE at h3
  by_cases q1 : (checkV l).1 = 0 ∧ askV l = false
  · by_cases q2 : takesV l b 1 = true
    · by_cases q3 : l.length ≤ 28
      · exact ⟨q1.1, q1.2, q2, q3⟩
      · rw [if_neg q3] at h3; omega
    · rw [if_neg q2] at h2; omega
  · rw [if_neg q1] at h1; omega
/-- What For answers. -/
def ForPost (l : List Fn) (b : Int) (w : World) (e : Ending) (w' : World) : Prop :=
  Keeps None w w' ∧ ((forE l b ≠ 0 ∧ e = .returned (.tuple #[.agg #[.slice none 0 0], .int .i64 (forE l b)])) ∨
    (forE l b = 0 ∧ ∃ v L', e = .returned (.tuple #[.agg #[v], .int .i64 0]) ∧ OwnF w' w.heap.size v L' ∧ L'.map (·.1) = forP l b))
theorem prog_end2 {Q : Ending → World → Prop} {a : Act} {w1 : World} {g : Nat} {x u : Value} {fn : Func} (q r : Tmp) (hfn : fn.results = #[.cell q 24, .tmp r]) (hb : w1.heap[g]? = some (.cells #[x] 24 (0, 0)))
    (ha : a.tmps.getD q undef = .pointer (some ⟨g, 0, none⟩)) (hr : a.tmps.getD r undef = u) (hd : a.defers = []) (hQ : Q (.returned (.tuple #[.agg #[x], u])) w1) :
    bodyPost Tryd.prog fn Q .ret a w1 := by
  have hl := run_loadVar_row (P := Tryd.prog) w1 g 24 24 _ _ _ hb Tryd.underlying24 rfl (by kernel_rfl)
  have ha' : a.tmps[q]?.getD undef = .pointer (some ⟨g, 0, none⟩) := by simpa using ha
  have hr' : a.tmps[r]?.getD undef = u := by simpa using hr
  exact bodyPost_ret (v := .tuple #[.agg #[x], u]) (by simp [results, hfn, ha', hr', asAddr, hl]) hd hQ
set_option maxHeartbeats 4000000 in
theorem for_any (a : Option Addr) (n c : Nat) (l : List Fn) (bd : Int) (w : World) (hT : Tabs w) (hS : SeenF w a n l) (hok : ∀ f ∈ l, f.Ok) :
    Calls Tryd.prog 7 #[.agg #[.slice a n c], .int .i64 bd] w (ForPost l bd w) := by
  obtain ⟨W1, B, hW1, hB, bP, q1, d0, s1⟩ := box_prog w a n c
  have b2 := heap_alloc_new W1 (.cells #[.slice none 0 0] 24)
  have q2 := Keeps.alloc None W1 (.cells #[.slice none 0 0] 24)
  obtain ⟨W2, hW2⟩ : ∃ W2, W2 = W1.alloc (.cells #[.slice none 0 0] 24) := ⟨_, rfl⟩
  rw [← hW2] at b2 q2
  rw [s1] at b2
  have b1a := blk_kept bP q2 (fun f => f)
  have k2 : Keeps None w W2 := q1.trans q2 (fun _ f _ => f)
  obtain ⟨E1, hE1⟩ : ∃ E, E = baseE l := ⟨_, rfl⟩
  obtain ⟨E2, hE2⟩ : ∃ E, E = bodyE l bd := ⟨_, rfl⟩
  obtain ⟨E3, hE3⟩ : ∃ E, E = roomE l := ⟨_, rfl⟩
  obtain ⟨E, hE⟩ : ∃ E, E = firstV [E1, E2, E3] := ⟨_, rfl⟩
  have eE : E = forE l bd := by rw [hE, hE1, hE2, hE3]; rfl
  have HX : Hid (Keeps None w W2 ∧ W2.heap[B]? = some (.cells #[.slice a n c] 24 (0, 0)) ∧ W2.heap[B + 1]? = some (.cells #[.slice none 0 0] 24 (0, 0)) ∧ B = w.heap.size ∧ SeenF W2 a n l ∧ Tabs W2 ∧ (∀ f ∈ l, f.Ok) ∧ E = forE l bd ∧ n = l.length) := ⟨k2, b1a, b2, hB, hS.more k2, hT.more k2, hok, eE, hS.len⟩
  have hA1 : ∀ w', Keeps None W2 w' → Calls Tryd.prog 18 #[.agg #[.slice a n c]] w' fun e w'' => e = .returned (.int .i64 E1) ∧ Keeps None w' w'' := fun w' hk => by
    rw [hE1]; exact wrongBase_any a n c l w' ((hT.more k2).more hk) ((hS.more k2).more hk) hok
  have hA2 : ∀ w', Keeps None W2 w' → Calls Tryd.prog 19 #[.agg #[.slice a n c], .int .i64 bd] w' fun e w'' => e = .returned (.int .i64 E2) ∧ Keeps None w' w'' := fun w' hk => by
    rw [hE2]; exact wrongBody_any a n c l bd w' ((hS.more k2).more hk)
  have hA3 : ∀ w', Keeps None W2 w' → Calls Tryd.prog 20 #[.agg #[.slice a n c]] w' fun e w'' => e = .returned (.int .i64 E3) ∧ Keeps None w' w'' := fun w' hk => by
    rw [hE3]; exact wrongRoom_any a n c l w' ((hS.more k2).more hk)
  have H1 : Hid _ := hA1
  have H2 : Hid _ := hA2
  have H3 : Hid _ := hA3
  have HE : Hid (E = firstV [E1, E2, E3]) := hE
  clear hA1 hA2 hA3 hE hE1 hE2 hE3 eE b1a b2 bP q1 q2 k2 s1 hS hT hok d0
  go_enter Tryd.func7, Tryd.ntmps7
  go_upto_region 1 with fail
  rw [← hW1, ← hW2, ← hB]
  clear hW1 hW2 hB
  have r00 : W2.cell? ⟨B, 0, none⟩ = some (.slice a n c) := (blk_cell HX.out.2.1 0).trans rfl
  have r0 : W2.drew.cell? ⟨B, 0, none⟩ = some (.slice a n c) := (Keeps.drew None W2).cell r00 (fun f => f)
  go_cut [6] (fun s6 wc => s6 = .int .i64 E ∧ Keeps None W2 wc)
  case first =>
    refine wp_region_held_drew (S := (fun w' => w'.cell? ⟨B, 0, none⟩ = some (.slice a n c))) (by kernel_rfl) ?_ (fun hHeld => ?_)
    · (try dsimp only); first | exact r8 | exact r7 | exact r6 | exact r4 | exact r1 | exact r0
    refine wpAnyH_take (i := 0) (oi := { dst := some 7, op := Op.load 24 (Operand.tmp 2), type := 24, pos := "parlib.go:11", after := #[], guard := none }) (v := ?_) rfl (by kernel_rfl) (by kernel_rfl) (by kernel_rfl) (fun _ _ _ h => h) (Or.inl ⟨by rfl, ?_⟩) (by assumption) ?_
    rotate_left
    · (intro wz hSw; (try dsimp only at hSw); go_simp; try with_reducible rfl)
    simp only [Act.put, List.setIfInBounds_toArray, List.set_cons_zero, List.set_cons_succ]
    refine wpAnyH_take (i := 2) (oi := { dst := some 9, op := Op.load 24 (Operand.tmp 2), type := 24, pos := "parlib.go:11", after := #[], guard := none }) (v := ?_) rfl (by kernel_rfl) (by kernel_rfl) (by kernel_rfl) (fun _ _ _ h => h) (Or.inl ⟨by rfl, ?_⟩) (by assumption) ?_
    rotate_left
    · (intro wz hSw; (try dsimp only at hSw); go_simp; try with_reducible rfl)
    simp only [Act.put, List.setIfInBounds_toArray, List.set_cons_zero, List.set_cons_succ]
    refine wpAnyH_take (i := 3) (oi := { dst := some 10, op := Op.move (Operand.tmp 1), type := 3, pos := "parlib.go:11", after := #[], guard := none }) (v := ?_) rfl (by kernel_rfl) (by kernel_rfl) (by kernel_rfl) (fun _ _ _ h => h) (Or.inl ⟨by rfl, ?_⟩) (by assumption) ?_
    rotate_left
    · (intro wz hSw; (try dsimp only at hSw); go_simp; try with_reducible rfl)
    simp only [Act.put, List.setIfInBounds_toArray, List.set_cons_zero, List.set_cons_succ]
    refine wpAnyH_take (i := 5) (oi := { dst := some 12, op := Op.load 24 (Operand.tmp 2), type := 24, pos := "parlib.go:11", after := #[], guard := none }) (v := ?_) rfl (by kernel_rfl) (by kernel_rfl) (by kernel_rfl) (fun _ _ _ h => h) (Or.inl ⟨by rfl, ?_⟩) (by assumption) ?_
    rotate_left
    · (intro wz hSw; (try dsimp only at hSw); go_simp; try with_reducible rfl)
    simp only [Act.put, List.setIfInBounds_toArray, List.set_cons_zero, List.set_cons_succ]
    refine wpAnyH_ready (rs := [1]) (by kernel_rfl) (by simp) ?_
    refine AllReadyH.cons (o := { dst := some 8, op := Op.call { callee := Callee.value (Operand.func 18), args := #[Operand.tmp 7], argTypes := #[24] }, type := 27, pos := "parlib.go:11", after := #[{ on := 0, ground := Ground.data }], guard := none }) rfl (fun K hK => ?_) ?_
    · go_simp
      refine (H1.out _ (Keeps.drew None W2)).mono ?_
      rintro _ w1 ⟨rfl, k1⟩
      have j1 : Keeps None W2 w1 := (Keeps.drew None W2).trans k1 (fun _ f _ => f)
      have r1 := j1.cell r00 (fun f => f)
      refine hK.out _ _ ?_ (fun hHeld2 => ?_)
      · (try dsimp only); first | exact r8 | exact r7 | exact r6 | exact r4 | exact r1 | exact r0
      clear hK K
      try simp only [Act.put, List.setIfInBounds_toArray, List.set_cons_zero, List.set_cons_succ]
      refine wpAnyH_ready (rs := [4]) (by kernel_rfl) (by simp) ?_
      refine AllReadyH.cons (o := { dst := some 11, op := Op.call { callee := Callee.value (Operand.func 19), args := #[Operand.tmp 9, Operand.tmp 10], argTypes := #[24, 3] }, type := 27, pos := "parlib.go:11", after := #[{ on := 2, ground := Ground.data }, { on := 3, ground := Ground.data }, { on := 1, ground := Ground.chain }], guard := none }) rfl (fun K hK => ?_) ?_
      · go_simp
        refine (H2.out _ j1).mono ?_
        rintro _ w4 ⟨rfl, k4⟩
        have j4 : Keeps None W2 w4 := j1.trans k4 (fun _ f _ => f)
        have r4 := j4.cell r00 (fun f => f)
        refine hK.out _ _ ?_ (fun hHeld2 => ?_)
        · (try dsimp only); first | exact r8 | exact r7 | exact r6 | exact r4 | exact r1 | exact r0
        clear hK K
        try simp only [Act.put, List.setIfInBounds_toArray, List.set_cons_zero, List.set_cons_succ]
        refine wpAnyH_ready (rs := [6]) (by kernel_rfl) (by simp) ?_
        refine AllReadyH.cons (o := { dst := some 13, op := Op.call { callee := Callee.value (Operand.func 20), args := #[Operand.tmp 12], argTypes := #[24] }, type := 27, pos := "parlib.go:11", after := #[{ on := 5, ground := Ground.data }, { on := 4, ground := Ground.chain }], guard := none }) rfl (fun K hK => ?_) ?_
        · go_simp
          refine (H3.out _ j4).mono ?_
          rintro _ w6 ⟨rfl, k6⟩
          have j6 : Keeps None W2 w6 := j4.trans k6 (fun _ f _ => f)
          have r6 := j6.cell r00 (fun f => f)
          have j7 := j6.andAlloc (.cells #[.int .i64 E1, .int .i64 E2, .int .i64 E3] 27)
          have r7 := j7.cell r00 (fun f => f)
          refine hK.out _ _ ?_ (fun hHeld2 => ?_)
          · (try dsimp only); first | exact r8 | exact r7 | exact r6 | exact r4 | exact r1 | exact r0
          clear hK K
          try simp only [Act.put, List.setIfInBounds_toArray, List.set_cons_zero, List.set_cons_succ]
          refine wpAnyH_ready (rs := [7]) (by kernel_rfl) (by simp) ?_
          refine AllReadyH.cons (o := { dst := some 14, op := Op.buildSlice 53 3 #[(0, Operand.tmp 8), (1, Operand.tmp 11), (2, Operand.tmp 13)], type := 53, pos := "parlib.go:11", after := #[{ on := 1, ground := Ground.data }, { on := 4, ground := Ground.data }, { on := 6, ground := Ground.data }], guard := none }) rfl (fun K hK => ?_) ?_
          · go_simp
            refine hK.out _ _ ?_ (fun hHeld2 => ?_)
            · (try dsimp only); first | exact r8 | exact r7 | exact r6 | exact r4 | exact r1 | exact r0
            clear hK K
            try simp only [Act.put, List.setIfInBounds_toArray, List.set_cons_zero, List.set_cons_succ]
            refine wpAnyH_ready (rs := [8]) (by kernel_rfl) (by simp) ?_
            refine AllReadyH.cons (o := { dst := some 15, op := Op.call { callee := Callee.value (Operand.func 17), args := #[Operand.tmp 14], argTypes := #[53] }, type := 27, pos := "parlib.go:11", after := #[{ on := 7, ground := Ground.data }, { on := 6, ground := Ground.chain }], guard := none }) rfl (fun K hK => ?_) ?_
            · go_simp
              refine (first_any w6.heap.size 3 3 [E1, E2, E3] _ rfl (by simp) (fun k x hx => ?_)).mono ?_
              · rw [blk_cell (heap_alloc_new w6 _)]
                match k, hx with
                | 0, hx => simp at hx; subst hx; rfl
                | 1, hx => simp at hx; subst hx; rfl
                | 2, hx => simp at hx; subst hx; rfl
                | k + 3, hx => simp at hx
              rw [← HE.out]
              rintro _ w8 ⟨rfl, k8⟩
              have j8 : Keeps None W2 w8 := j7.trans k8 (fun _ f _ => f)
              have r8 := j8.cell r00 (fun f => f)
              refine hK.out _ _ ?_ (fun hHeld2 => ?_)
              · (try dsimp only); first | exact r8 | exact r7 | exact r6 | exact r4 | exact r1 | exact r0
              clear hK K
              try simp only [Act.put, List.setIfInBounds_toArray, List.set_cons_zero, List.set_cons_succ]
              refine wpAnyH_take (i := 9) (oi := { dst := some 6, op := Op.assign (Operand.tmp 15), type := 27, pos := "parlib.go:11", after := #[{ on := 8, ground := Ground.data }, { on := 8, ground := Ground.chain }, { on := 0, ground := Ground.phase }, { on := 1, ground := Ground.phase }, { on := 2, ground := Ground.phase }, { on := 3, ground := Ground.phase }, { on := 4, ground := Ground.phase }, { on := 5, ground := Ground.phase }, { on := 6, ground := Ground.phase }, { on := 7, ground := Ground.phase }, { on := 8, ground := Ground.phase }], guard := none }) (v := ?_) rfl (by kernel_rfl) (by kernel_rfl) (by kernel_rfl) (fun _ _ _ h => h) (Or.inl ⟨by rfl, ?_⟩) (by assumption) ?_
              rotate_left
              · (intro wz hSw; (try dsimp only at hSw); go_simp; try with_reducible rfl)
              simp only [Act.put, List.setIfInBounds_toArray, List.set_cons_zero, List.set_cons_succ]
              refine wpAnyH_done (by kernel_rfl) ?_ _
              go_wp2_with fail
              go_meet
              exact ⟨rfl, j8⟩
            exact AllReadyH.nil
          exact AllReadyH.nil
        exact AllReadyH.nil
      exact AllReadyH.nil
    exact AllReadyH.nil
  case rest =>
    obtain ⟨rfl, jc⟩ := hcut
    obtain ⟨X1, X2, X3, X4, X5, X6, X7, X8, X9⟩ := HX.out
    have bR := blk_kept X3 jc (fun f => f)
    have z0 : wc.cell? ⟨B + 1, 0, none⟩ = some (.slice none 0 0) := (blk_cell bR 0).trans rfl
    have z1 := blk_free bR 0
    have hKw : Keeps None w wc := X1.trans jc (fun _ f _ => f)
    clear r00 r0
    by_cases h0 : E = 0
    · have hz := forE_zero (X8.symm.trans h0)
      obtain ⟨y1, y2, y3, y4⟩ := hz
      obtain ⟨v1, v2, v3⟩ := check_valid (check_zero y1)
      unfold takesV at y3
      simp only [Bool.and_eq_true, decide_eq_true_eq] at y3
      have hcall := forAll_any a n c l bd wc (X5.more jc) (by omega) (fun f hf => ⟨by have := (valid_bounds (v3 f hf)).2.2.2.2; omega, fun i hi h5 => by
        obtain ⟨q, hq, e⟩ := List.getElem_of_mem hi
        have := (step_ok (v3 f hf) (at_ := q) (i := i) (by rw [← e]; simp)).fn h5
        omega⟩) (by omega)
      have d0 : wc.cell? ⟨B, 0, none⟩ = some (.slice a n c) := (blk_cell (blk_kept X2 jc (fun f => f)) 0).trans rfl
      have t0 : (E != 0) = false := by simp [h0]
      have HR : Hid (Keeps None w wc ∧ wc.heap[B + 1]? = some (.cells #[.slice none 0 0] 24 (0, 0)) ∧ forE l bd = 0 ∧ B = w.heap.size) := ⟨hKw, bR, X8.symm.trans h0, X4⟩
      clear X1 X2 X3 X4 X5 X6 X7 X8 X9 y1 y2 y3 y4 v1 v2 v3 h0 bR hKw z0 z1 jc
      go_wp2_with fail
      refine hcall.mono ?_
      rintro _ w3 ⟨v3, L', rfl, oL', hm', k3⟩
      obtain ⟨a3, c3, rfl, -⟩ := oL'.seen
      have bR := blk_kept HR.out.2.1 k3 (fun f => f)
      have z0 : w3.cell? ⟨B + 1, 0, none⟩ = some (.slice none 0 0) := (blk_cell bR 0).trans rfl
      have z1 := blk_free bR 0
      have HF : Hid (OwnF w3 w.heap.size (.slice a3 L'.length c3) L' ∧ L'.map (·.1) = forP l bd ∧ Keeps None w w3 ∧ w3.heap[B + 1]? = some (.cells #[.slice none 0 0] 24 (0, 0))) := ⟨oL'.low (HR.out.1.size), hm', HR.out.1.trans k3 (fun _ f _ => f), bR⟩
      clear oL' hm' k3 bR hcall d0
      go_wp2
      obtain ⟨P1, P2, P3, P4⟩ := HF.out
      have hw' := Keeps.setCell (S := (· = B + 1)) w3 (a := ⟨B + 1, 0, none⟩) rfl (.slice a3 L'.length c3)
      refine prog_end2 4 5 rfl (blk_set (i := 0) P4 _) rfl rfl rfl ?_
      refine ⟨P3.trans hw' (fun i e hi => ?_), .inr ⟨HR.out.2.2.1, _, L', rfl, ?_, P2⟩⟩
      · have e' : i = B + 1 := e
        have := HR.out.2.2.2
        omega
      · refine ⟨hw'.own P1.row (fun q e hq => ?_), fun x hx => (P1.codes x hx).kept hw' (fun q e hq => ?_), P1.nd⟩
        · subst hq
          have := own_type P1.row e P4
          exact absurd this (by decide)
        · subst hq
          have := own_type (P1.codes x hx) e P4
          exact absurd this (by decide)
    · have t0 : (E != 0) = true := by simp [h0]
      have HR : Hid (Keeps None w wc ∧ wc.heap[B + 1]? = some (.cells #[.slice none 0 0] 24 (0, 0)) ∧ E = forE l bd ∧ E ≠ 0) := ⟨hKw, bR, X8, h0⟩
      have hB2 := X4
      clear X1 X2 X3 X4 X5 X6 X7 X8 X9 h0 bR hKw jc
      have HB2 : Hid (B = w.heap.size) := hB2
      clear hB2
      go_wp2
      refine prog_end2 4 5 rfl (blk_set (i := 0) HR.out.2.1 _) rfl rfl rfl ?_
      exact ⟨HR.out.1.andSet (.inr (by have := HB2.out; simp; omega)) _, .inl ⟨by rw [← HR.out.2.2.1]; exact HR.out.2.2.2, by rw [← HR.out.2.2.1]; rfl⟩⟩
end Go.Proofs.YtiibflbfnoddmaaDoor
