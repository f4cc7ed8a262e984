import Derived.Test.YtklepknkdkponaaDoorPgTrailAny
import Derived.Test.YtklepknkdkponaaDoorPfSound
/-! Trail of anything. -/
namespace Go.Proofs.YtklepknkdkponaaDoor
set_option linter.unusedVariables false
set_option maxRecDepth 20000
open Go.RowKit Go.HeapKit

def argOk (f : Fn) (t s q : Int) : Bool := soundV f && belowV t f.code.length && belowV s f.slots && decide (q = 1 ∨ q = 2 ∨ q = 4)
/-- What Trail answers, in memory. -/
def TrailA (f : Fn) (t s q : Int) (w : World) (x : Option Addr) (N : Nat) (e : Int) : Prop :=
  (argOk f t s q = false ∧ N = 0 ∧ e = 3) ∨
  (argOk f t s q = true ∧ ∃ t' s' q' : Nat, t = t' ∧ s = s' ∧ q = q' ∧
    ((metV (searchV f s' (0, 0)) (t', q') = false ∧ N = 0 ∧ e = 59) ∨
     (metV (searchV f s' (0, 0)) (t', q') = true ∧ e = 0 ∧ ∃ g Q, x = some ⟨g, 0, none⟩ ∧ N = Q.length ∧ Fore f s' (t', q') Q ∧ IsP w g N (fun k => (Q.getD k (0, 0)).1))))
theorem TrailA.kept {f : Fn} {t s q : Int} {w w' : World} {S : Nat → Prop} {x : Option Addr} {N : Nat} {e : Int} (h : TrailA f t s q w x N e) (hk : Keeps S w w') (hS : ∀ (b : Nat) (cur : Array Value), w.heap[b]? = some (.cells cur 3 (0, 0)) → ¬ S b) : TrailA f t s q w' x N e := by
  rcases h with h | ⟨h0, t', s', q', h1, h2, h3, h | ⟨hm, he, g, Q, hx, hN, hF, hP⟩⟩
  · exact .inl h
  · exact .inr ⟨h0, t', s', q', h1, h2, h3, .inl h⟩
  · obtain ⟨cur, hb, _⟩ := id hP
    exact .inr ⟨h0, t', s', q', h1, h2, h3, .inr ⟨hm, he, g, Q, hx, hN, hF, hP.kept hk (hS g cur hb)⟩⟩
theorem TrailA.more {f : Fn} {t s q : Int} {w w' : World} {x : Option Addr} {N : Nat} {e : Int} (h : TrailA f t s q w x N e) (hk : Keeps None w w') : TrailA f t s q w' x N e := h.kept hk (fun _ _ _ f => f)
set_option maxHeartbeats 1000000 in
theorem trail_bad (f : Fn) (ca : Option Addr) (cc : Nat) (t s q : Int) (w : World) (hT : Tabs w) (hC : SeenI w ca f.code.length f.code) (hok : ∀ i ∈ f.code, i.Ok) (hb : argOk f t s q = false) :
    Calls Tryd.prog 24 #[fnV f ca cc, .int .i64 t, .int .i64 s, .int .i64 q] w fun e w' => e = .returned (.tuple #[.slice none 0 0, .int .i64 3]) ∧ Keeps None w w' := by
  obtain ⟨n, hn⟩ : ∃ n, n = f.code.length := ⟨_, rfl⟩
  have hal := Keeps.alloc None w (.cells #[.int .i64 f.params, .int .i64 f.regs, .int .i64 f.slots, .slice ca n cc] 36)
  have b1 := heap_alloc_new w (.cells #[.int .i64 f.params, .int .i64 f.regs, .int .i64 f.slots, .slice ca n cc] 36)
  have hst := fun (h1 : shapeV f = true) h2 => sound_true f ca cc _ (hT.more hal) (hC.more hal) hok h1 h2
  have hsf := fun (h1 : soundV f = false) => sound_false f ca cc _ (hT.more hal) (hC.more hal) hok h1
  obtain ⟨wa, hwa⟩ : ∃ wa, wa = w.alloc (.cells #[.int .i64 f.params, .int .i64 f.regs, .int .i64 f.slots, .slice ca n cc] 36) := ⟨_, rfl⟩
  obtain ⟨B, hB⟩ : ∃ B, B = w.heap.size := ⟨_, rfl⟩
  unfold fnV at hst hsf ⊢
  rw [← hn] at hst hsf ⊢
  rw [← hwa] at hal b1 hst hsf
  rw [← hB] at b1
  have HA : Hid (Keeps None w wa) := hal
  have d0 := (cell_of_heap b1 0).trans rfl
  have d1 := (cell_of_heap b1 1).trans rfl
  have d2 := (cell_of_heap b1 2).trans rfl
  have d3 := (cell_of_heap b1 3).trans rfl
  unfold argOk at hb
  rw [← hn] at hb
  clear hal b1 hT hC hok hn
  by_cases hso : soundV f = true
  · obtain ⟨hsh, hcf⟩ := sound_of hso
    have hso' := hst hsh hcf
    rw [hso] at hb
    clear hst hsf hsh hcf hso
    by_cases e1 : belowV t n = true
    · by_cases e2 : belowV s f.slots = true
      · have hq : ¬ (q = 1 ∨ q = 2 ∨ q = 4) := by
          rw [e1, e2] at hb
          simpa using hb
        have q1 : (q != 1) = true := by simp; omega
        have q2 : (q != 2) = true := by simp; omega
        have q4 : (q != 4) = true := by simp; omega
        clear hq hb
        go_enter Tryd.func24, Tryd.ntmps24
        go_upto_region 1 with fail
        rw [← hwa, ← hB]
        clear hwa hB
        go_upto_region 3 with (first
          | (go_at_call 50; refine hso'.mono ?_; rintro _ w2 ⟨rfl, hk2⟩; have d0' := hk2.cell d0 (fun f => f); have d1' := hk2.cell d1 (fun f => f); have d2' := hk2.cell d2 (fun f => f); have d3' := hk2.cell d3 (fun f => f))
          | (go_at_call 54; refine (below_any _ _ _).mono ?_; rintro _ w2' ⟨rfl, hw2⟩; have h2 := hw2.symm; subst h2))
        have HK : Hid (Keeps None w w2) := HA.out.trans hk2 (fun _ f _ => f)
        clear hk2
        go_wp2_with fail
        go_ret2
        exact ⟨rfl, HK.out⟩
      · have e2' : belowV s f.slots = false := by simpa using e2
        clear e2 hb
        go_enter Tryd.func24, Tryd.ntmps24
        go_upto_region 1 with fail
        rw [← hwa, ← hB]
        clear hwa hB
        go_wp2_with (first
          | (go_at_call 50; refine hso'.mono ?_; rintro _ w2 ⟨rfl, hk2⟩; have d0' := hk2.cell d0 (fun f => f); have d1' := hk2.cell d1 (fun f => f); have d2' := hk2.cell d2 (fun f => f); have d3' := hk2.cell d3 (fun f => f))
          | (go_at_call 54; refine (below_any _ _ _).mono ?_; rintro _ w2' ⟨rfl, hw2⟩; have h2 := hw2.symm; subst h2))
        go_ret2
        exact ⟨rfl, HA.out.trans hk2 (fun _ f _ => f)⟩
    · have e1' : belowV t n = false := by simpa using e1
      clear e1 hb
      go_enter Tryd.func24, Tryd.ntmps24
      go_upto_region 1 with fail
      rw [← hwa, ← hB]
      clear hwa hB
      go_wp2_with (first
        | (go_at_call 50; refine hso'.mono ?_; rintro _ w2 ⟨rfl, hk2⟩; have d0' := hk2.cell d0 (fun f => f); have d1' := hk2.cell d1 (fun f => f); have d2' := hk2.cell d2 (fun f => f); have d3' := hk2.cell d3 (fun f => f))
        | (go_at_call 54; refine (below_any _ _ _).mono ?_; rintro _ w2' ⟨rfl, hw2⟩; have h2 := hw2.symm; subst h2))
      go_ret2
      exact ⟨rfl, HA.out.trans hk2 (fun _ f _ => f)⟩
  · have hso' := hsf (by simpa using hso)
    clear hst hsf hso hb
    go_enter Tryd.func24, Tryd.ntmps24
    go_upto_region 1 with fail
    rw [← hwa, ← hB]
    clear hwa hB
    go_wp2_with (go_at_call 50; refine hso'.mono ?_; rintro _ w2 ⟨rfl, hk2⟩)
    go_ret2
    exact ⟨rfl, HA.out.trans hk2 (fun _ f _ => f)⟩
theorem argOk_parts {f : Fn} {t s q : Int} (h : argOk f t s q = true) : soundV f = true ∧ (0 ≤ t ∧ t < f.code.length) ∧ (0 ≤ s ∧ s < f.slots) ∧ (q = 1 ∨ q = 2 ∨ q = 4) := by
  unfold argOk at h
  simp only [Bool.and_eq_true, decide_eq_true_eq, belowV_iff] at h
  exact ⟨h.1.1.1, h.1.1.2, h.1.2, h.2⟩
theorem trail_at (f : Fn) (ca : Option Addr) (cc : Nat) (t s q : Int) (w : World) (hT : Tabs w) (hC : SeenI w ca f.code.length f.code) (hok : ∀ i ∈ f.code, i.Ok) :
    Calls Tryd.prog 24 #[fnV f ca cc, .int .i64 t, .int .i64 s, .int .i64 q] w fun e w' => ∃ x N cap e', e = .returned (.tuple #[.slice x N cap, .int .i64 e']) ∧ TrailA f t s q w' x N e' ∧ Keeps None w w' := by
  by_cases h : argOk f t s q = true
  · obtain ⟨hso, ht, hs, hq⟩ := argOk_parts h
    obtain ⟨hsh, hcf⟩ := sound_of hso
    obtain ⟨t', rfl⟩ := Int.eq_ofNat_of_zero_le ht.1
    obtain ⟨s', rfl⟩ := Int.eq_ofNat_of_zero_le hs.1
    obtain ⟨q', rfl⟩ := Int.eq_ofNat_of_zero_le (show 0 ≤ q by omega)
    refine (trail_sound f ca cc t' s' q' w hT hC hok hsh hcf (by omega) hs.2 (by omega)).mono ?_
    rintro e w' ⟨hk, hE⟩
    rcases hE with ⟨hm, rfl⟩ | ⟨hm, g, cap, Q, rfl, hF, hP⟩
    · exact ⟨none, 0, 0, 59, rfl, .inr ⟨h, t', s', q', rfl, rfl, rfl, .inl ⟨hm, rfl, rfl⟩⟩, hk⟩
    · exact ⟨_, Q.length, cap, 0, rfl, .inr ⟨h, t', s', q', rfl, rfl, rfl, .inr ⟨hm, rfl, g, Q, rfl, rfl, hF, hP⟩⟩, hk⟩
  · have h' : argOk f t s q = false := by simpa using h
    refine (trail_bad f ca cc t s q w hT hC hok h').mono ?_
    rintro e w' ⟨rfl, hk⟩
    exact ⟨none, 0, 0, 3, rfl, .inl ⟨h', rfl, rfl⟩, hk⟩
end Go.Proofs.YtklepknkdkponaaDoor
