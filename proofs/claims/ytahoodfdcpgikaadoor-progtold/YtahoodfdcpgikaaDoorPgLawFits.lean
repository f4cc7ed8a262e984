import Derived.Test.YtahoodfdcpgikaaDoorPgWalk
import Derived.Test.YtahoodfdcpgikaaDoorPgHead
/-! The statements' 'fits'. -/
namespace Go.Proofs.YtahoodfdcpgikaaDoor
set_option linter.unusedVariables false
set_option maxRecDepth 20000
open Go.RowKit Go.HeapKit

theorem three_boxes (w : World) (c1 c2 c3 : Array Value) (t1 t2 t3 : TypeId) : (((w.alloc (.cells c1 t1)).alloc (.cells c2 t2)).alloc (.cells c3 t3)).heap[w.heap.size]? = some (.cells c1 t1 (0, 0)) ∧ (((w.alloc (.cells c1 t1)).alloc (.cells c2 t2)).alloc (.cells c3 t3)).heap[w.heap.size + 1]? = some (.cells c2 t2 (0, 0)) ∧ (((w.alloc (.cells c1 t1)).alloc (.cells c2 t2)).alloc (.cells c3 t3)).heap[w.heap.size + 2]? = some (.cells c3 t3 (0, 0)) ∧ Keeps None w (((w.alloc (.cells c1 t1)).alloc (.cells c2 t2)).alloc (.cells c3 t3)) := by
  obtain ⟨b1, b2⟩ := two_boxes w c1 c2 t1 t2
  have hal := Keeps.alloc None ((w.alloc (.cells c1 t1)).alloc (.cells c2 t2)) (.cells c3 t3)
  refine ⟨blk_kept b1 hal (fun f => f), blk_kept b2 hal (fun f => f), ?_, (keeps2 w _ _).trans hal (fun _ f _ => f)⟩
  have := heap_alloc_new ((w.alloc (.cells c1 t1)).alloc (.cells c2 t2)) (.cells c3 t3)
  simpa using this
set_option maxRecDepth 20000 in
set_option maxHeartbeats 2000000 in
theorem lawfits_any (a : Option Addr) (n c : Nat) (l : List Fn) (f : Fn) (ca : Option Addr) (cc : Nat) (i : Ins) (w : World) (hS : SeenF w a n l) (hr : 0 ≤ f.regs ∧ f.regs ≤ 16) (hp : ∀ g ∈ l, 0 ≤ g.params ∧ g.params ≤ 8) (hf : fitsV false l f i = true) :
    Calls Tryd.prog 26 #[.agg #[.slice a n c], fnV f ca cc, insV i] w fun e w' => e = .returned (.bool true) ∧ Keeps None w w' := by
  obtain ⟨ik, ia, ib, ic, iK⟩ := i
  have hk := fits_kind hf
  obtain ⟨w1, w2, w3⟩ := fits_ways hf
  simp only at hk
  unfold fnV insV
  obtain ⟨-, -, -, hkp⟩ := three_boxes w #[.slice a n c] #[.int .i64 f.params, .int .i64 f.regs, .int .i64 f.slots, .slice ca f.code.length cc] #[.int .i64 ik, .int .i64 ia, .int .i64 ib, .int .i64 ic, .int .i64 iK] 24 32 34
  have HS : Hid (SeenF (((w.alloc (.cells #[.slice a n c] 24)).alloc (.cells #[.int .i64 f.params, .int .i64 f.regs, .int .i64 f.slots, .slice ca f.code.length cc] 32)).alloc (.cells #[.int .i64 ik, .int .i64 ia, .int .i64 ib, .int .i64 ic, .int .i64 iK] 34)) a n l ∧ Keeps None w (((w.alloc (.cells #[.slice a n c] 24)).alloc (.cells #[.int .i64 f.params, .int .i64 f.regs, .int .i64 f.slots, .slice ca f.code.length cc] 32)).alloc (.cells #[.int .i64 ik, .int .i64 ia, .int .i64 ib, .int .i64 ic, .int .i64 iK] 34))) := ⟨hS.more hkp, hkp⟩
  have HL : Hid (n = l.length) := hS.len
  have r0 := hr.1
  have r1 := hr.2
  clear hkp hS hr
  have hKK : ik = 2 → 0 ≤ iK ∧ iK < 16 := fun e => by
    subst e
    simp [fitsV, fK] at hf
    omega
  clear hf
  rcases kinds (i := ⟨ik, ia, ib, ic, iK⟩) hk.1 hk.2 with e | e | e | e | e | e | e | e | e | e
  all_goals
    simp only at e
    subst e
    clear hk
  · obtain ⟨p0, q0⟩ := (belowV_iff _ _).1 (show belowV ia f.regs = true from w1)
    clear w1 w2 w3 hKK hp
    go_enter Tryd.func26, Tryd.ntmps26
    go_wp2_with fail
    go_ret
    exact ⟨rfl, HS.out.2⟩
  · obtain ⟨p0, q0⟩ := (belowV_iff _ _).1 (show belowV ia f.regs = true from w1)
    obtain ⟨p1, q1⟩ := (belowV_iff _ _).1 (show belowV ib f.regs = true from w2)
    clear w1 w2 w3 hKK hp
    go_enter Tryd.func26, Tryd.ntmps26
    go_wp2_with fail
    go_ret
    exact ⟨rfl, HS.out.2⟩
  · obtain ⟨p0, q0⟩ := (belowV_iff _ _).1 (show belowV ia f.regs = true from w1)
    obtain ⟨p1, q1⟩ := (belowV_iff _ _).1 (show belowV ib f.regs = true from w2)
    obtain ⟨p2, q2⟩ := (belowV_iff _ _).1 (show belowV ic f.regs = true from w3)
    obtain ⟨k0, k1⟩ := hKK rfl
    have k2 : iK ≤ 15 := by omega
    clear w1 w2 w3 hKK hp
    go_enter Tryd.func26, Tryd.ntmps26
    go_wp2_with fail
    go_ret
    exact ⟨rfl, HS.out.2⟩
  · clear w1 w2 w3 hKK hp
    go_enter Tryd.func26, Tryd.ntmps26
    go_wp2_with fail
    go_ret
    exact ⟨rfl, HS.out.2⟩
  · obtain ⟨p0, q0⟩ := (belowV_iff _ _).1 (show belowV ia f.regs = true from w1)
    clear w1 w2 w3 hKK hp
    go_enter Tryd.func26, Tryd.ntmps26
    go_wp2_with fail
    go_ret
    exact ⟨rfl, HS.out.2⟩
  · obtain ⟨p0, q0⟩ := (belowV_iff _ _).1 (show belowV ia f.slots = true from w1)
    obtain ⟨p1, q1⟩ := (belowV_iff _ _).1 (show (false || belowV ib l.length) = true from w2)
    have h3 : holdsV f ic (parV l ib) = true := w3
    obtain ⟨k, rfl⟩ := Int.eq_ofNat_of_zero_le p1
    have hkn : k < n := by have := HL.out; omega
    obtain ⟨b, off, g, ca', cc', rfl, hg, hat⟩ := HS.out.1.at hkn
    have hpar : parV l k = g.params := by simp [parV, hg]
    rw [hpar] at h3
    have y0 := hat.params
    obtain ⟨g0, g1⟩ := hp g (List.mem_of_getElem? hg)
    have q1' : (k : Int) < (n : Int) := by omega
    generalize g.params = gp at *
    clear hat hg hpar w1 w2 w3 hKK hp q1
    by_cases hz : gp = 0
    · subst hz
      go_enter Tryd.func26, Tryd.ntmps26
      go_wp2_with fail
      go_ret
      exact ⟨rfl, HS.out.2⟩
    · have h4 : 0 ≤ ic ∧ gp ≤ f.regs - ic := by simpa [holdsV, hz] using h3
      obtain ⟨h5, h6⟩ := h4
      have h7 : ic < f.regs := by omega
      have hz' : (gp == 0) = false := by simpa using hz
      clear h3
      go_enter Tryd.func26, Tryd.ntmps26
      go_wp2_with fail
      go_ret
      exact ⟨rfl, HS.out.2⟩
  · clear w1 w2 w3 hKK hp
    go_enter Tryd.func26, Tryd.ntmps26
    go_wp2_with fail
    go_ret
    exact ⟨rfl, HS.out.2⟩
  · obtain ⟨p0, q0⟩ := (belowV_iff _ _).1 (show belowV ia f.regs = true from w1)
    obtain ⟨p1, q1⟩ := (belowV_iff _ _).1 (show belowV ib f.slots = true from w2)
    clear w1 w2 w3 hKK hp
    go_enter Tryd.func26, Tryd.ntmps26
    go_wp2_with fail
    go_ret
    exact ⟨rfl, HS.out.2⟩
  · obtain ⟨p0, q0⟩ := (belowV_iff _ _).1 (show belowV ia f.regs = true from w1)
    clear w1 w2 w3 hKK hp
    go_enter Tryd.func26, Tryd.ntmps26
    go_wp2_with fail
    go_ret
    exact ⟨rfl, HS.out.2⟩
  · obtain ⟨p0, q0⟩ := (belowV_iff _ _).1 (show belowV ia f.regs = true from w1)
    clear w1 w2 w3 hKK hp
    go_enter Tryd.func26, Tryd.ntmps26
    go_wp2_with fail
    go_ret
    exact ⟨rfl, HS.out.2⟩
end Go.Proofs.YtahoodfdcpgikaaDoor
