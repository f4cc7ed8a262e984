import Derived.Test.YtloahjkndhcjfabTellWalks
import Derived.Test.YtloahjkndhcjfabSharedReserve
/-! Objects that are not there. -/
namespace Go.Proofs.Ytloahjkndhcjfab
open Go.RowKit Go.HeapKit

set_option maxHeartbeats 4000000 in
set_option maxRecDepth 100000 in
theorem none_nil (w : World) : Calls Try.prog 19 #[.pointer none] w fun e w' => e = .returned (.bool true) ∧ Keeps None w w' := by
  go_enter Try.func19, Try.ntmps19
  go_wp2_with (first
    | (go_at_call 47; refine (watch_nil _ _).mono ?_; rintro e w' ⟨rfl, rfl⟩)
    | (go_at_call 48; refine (who_nil _ _).mono ?_; rintro e w' ⟨rfl, rfl⟩)
    | (go_at_call 49; refine (load_nil _ _).mono ?_; rintro e w' ⟨rfl, rfl⟩)
    | (go_at_call 50; refine (store_nil _ _ _).mono ?_; rintro e w' ⟨rfl, rfl⟩)
    | (go_at_call 51; refine (cas_nil _ _ _ _).mono ?_; rintro e w' ⟨rfl, rfl⟩)
    | (go_at_call 52; refine (add_nil _ _ _).mono ?_; rintro e w' ⟨rfl, rfl⟩)
    | (go_at_call_of 53 (Value.int .i64 1); refine (reserve_nil_many 1 _ (by decide)).mono ?_; rintro e w1 ⟨rfl, hk1⟩)
    | (go_at_call_of 53 (Value.int .i64 0); refine (reserve_nil_few 0 _ (by decide)).mono ?_; rintro e w2 ⟨rfl, hk2⟩)
    | (go_at_call 54; refine (size_nil _).mono ?_; rintro e w' ⟨rfl, rfl⟩)
    | (go_at_call 55; refine (mark_nil _).mono ?_; rintro e w' ⟨rfl, rfl⟩)
    | (go_at_call 32; refine (cells_nil _).mono ?_; rintro e w' ⟨rfl, rfl⟩)
    | (go_at_call 34; refine (log_nil _).mono ?_; rintro e w' ⟨rfl, rfl⟩))
  go_ret
  exact ⟨rfl, hk1.trans hk2 (fun _ f _ => f)⟩

def Ar.zero : Ar := ⟨0, [], true, 3, []⟩
set_option maxHeartbeats 4000000 in
set_option maxRecDepth 100000 in
theorem none_zero (p : Nat) (w : World) (h : IsArena w p (.slice none 0 0) (.slice none 0 0) (Ar.new 0)) :
    Calls Try.prog 19 #[.pointer (some ⟨p, 0, none⟩)] w fun e w' => e = .returned (.bool true) ∧ Keeps (Foot p (.slice none 0 0) (.slice none 0 0)) w w' := by
  go_enter Try.func19, Try.ntmps19
  go_wp2_with fail
  refine (watch_any p _ _ _ true w h).mono ?_
  rintro e w1 ⟨rfl, h1, hk1⟩
  go_wp2_with fail
  refine (who_any p _ _ _ 3 w1 h1).mono ?_
  rintro e w2 ⟨rfl, h2, hk2⟩
  have h3 : IsArena w2 p (.slice none 0 0) (.slice none 0 0) Ar.zero := h2
  have HK : Hid (Keeps (Foot p (.slice none 0 0) (.slice none 0 0)) w w2) := hk1.trans hk2 (fun _ f _ => f)
  have hc := cells_any p _ _ _ w2 h3
  rw [show Ar.zero.cells.length = 0 from rfl] at hc
  clear h h1 h2 hk1 hk2
  go_wp2_with (first
    | (go_at_call 49; refine (load_out p _ _ Ar.zero 0 _ h3 rfl).mono ?_; rintro e w' ⟨rfl, rfl⟩)
    | (go_at_call 50; refine (store_out p _ _ Ar.zero 0 1 _ h3 rfl).mono ?_; rintro e w' ⟨rfl, rfl⟩)
    | (go_at_call 51; refine (cas_out p _ _ Ar.zero 0 0 1 _ h3 rfl).mono ?_; rintro e w' ⟨rfl, rfl⟩)
    | (go_at_call 52; refine (add_out p _ _ Ar.zero 0 1 _ h3 rfl).mono ?_; rintro e w' ⟨rfl, rfl⟩)
    | (go_at_call_of 53 (Value.int .i64 1); refine (reserve_many p _ _ Ar.zero 1 _ h3 (by decide) (by decide)).mono ?_; rintro e w' ⟨rfl, rfl⟩)
    | (go_at_call_of 53 (Value.int .i64 0); refine (reserve_few p _ _ Ar.zero 0 _ h3 (by decide)).mono ?_; rintro e w' ⟨rfl, rfl⟩)
    | (go_at_call 54; refine (size_any p _ _ Ar.zero _ h3).mono ?_; rw [show (Ar.zero.size : Int) = 0 from rfl]; rintro e w' ⟨rfl, rfl⟩)
    | (go_at_call 55; refine (mark_any p _ _ Ar.zero _ h3).mono ?_; rw [show (Ar.zero.cells.length : Int) = 0 from rfl]; rintro e w' ⟨rfl, rfl⟩)
    | (go_at_call 32; refine hc.mono ?_; rintro e w4 ⟨rfl, -, hk4⟩; have hl := log_any p _ _ _ w4 (h3.kept hk4 (fun _ _ f => f)) (by decide); rw [show Ar.zero.log.length = 0 from rfl] at hl)
    | (go_at_call 34; refine hl.mono ?_; rintro e w5 ⟨rfl, -, hk5⟩))
  go_ret
  exact ⟨rfl, (HK.out.trans hk4 (fun _ f _ => f.elim)).trans hk5 (fun _ f _ => f.elim)⟩

set_option maxHeartbeats 4000000 in
set_option maxRecDepth 100000 in
theorem noneShared_nil (w : World) : Calls Try.prog 20 #[.pointer none] w fun e w' => e = .returned (.bool true) ∧ Keeps None w w' := by
  go_enter Try.func20, Try.ntmps20
  go_wp2_with (first
    | (go_at_call 38; refine (sload_nil _ _).mono ?_; rintro e w' ⟨rfl, rfl⟩)
    | (go_at_call 39; refine (sstore_nil _ _ _).mono ?_; rintro e w' ⟨rfl, rfl⟩)
    | (go_at_call 40; refine (scas_nil _ _ _ _).mono ?_; rintro e w' ⟨rfl, rfl⟩)
    | (go_at_call 41; refine (sadd_nil _ _ _).mono ?_; rintro e w' ⟨rfl, rfl⟩)
    | (go_at_call_of 42 (Value.int .i64 1); refine (sreserve_nil_many 1 _ (by decide)).mono ?_; rintro e w1 ⟨rfl, hk1⟩)
    | (go_at_call_of 42 (Value.int .i64 0); refine (sreserve_nil_few 0 _ (by decide)).mono ?_; rintro e w2 ⟨rfl, hk2⟩)
    | (go_at_call 16; refine (ssize_nil _).mono ?_; rintro e w' ⟨rfl, rfl⟩)
    | (go_at_call 17; refine (smark_nil _).mono ?_; rintro e w' ⟨rfl, rfl⟩))
  go_ret
  exact ⟨rfl, hk1.trans hk2 (fun _ f _ => f)⟩

set_option maxHeartbeats 4000000 in
set_option maxRecDepth 100000 in
theorem noneShared_zero (p : Nat) (w : World) (h : IsShared w p (.slice none 0 0) (Ar.new 0)) :
    Calls Try.prog 20 #[.pointer (some ⟨p, 0, none⟩)] w fun e w' => e = .returned (.bool true) ∧ Keeps (SFoot p (.slice none 0 0)) w w' := by
  go_enter Try.func20, Try.ntmps20
  go_wp2_with (first
    | (go_at_call 38; refine (sload_out p _ (Ar.new 0) 0 _ h rfl).mono ?_; rintro e w' ⟨rfl, rfl⟩)
    | (go_at_call 39; refine (sstore_out p _ (Ar.new 0) 0 1 _ h rfl).mono ?_; rintro e w' ⟨rfl, rfl⟩)
    | (go_at_call 40; refine (scas_out p _ (Ar.new 0) 0 0 1 _ h rfl).mono ?_; rintro e w' ⟨rfl, rfl⟩)
    | (go_at_call 41; refine (sadd_out p _ (Ar.new 0) 0 1 _ h rfl).mono ?_; rintro e w' ⟨rfl, rfl⟩)
    | (go_at_call_of 42 (Value.int .i64 1); refine (sreserve_many p _ (Ar.new 0) 1 _ h (by decide) (by decide)).mono ?_; rintro e w1 ⟨rfl, h1, hk1⟩)
    | (go_at_call_of 42 (Value.int .i64 0); refine (sreserve_few p _ (Ar.new 0) 0 _ h1 (by decide)).mono ?_; rintro e w2 ⟨rfl, h2, hk2⟩)
    | (go_at_call 16; refine (ssize_any p _ (Ar.new 0) _ h2).mono ?_; rw [show ((Ar.new 0).size : Int) = 0 from rfl]; rintro e w' ⟨rfl, rfl⟩)
    | (go_at_call 17; refine (smark_any p _ (Ar.new 0) _ h2).mono ?_; rw [show ((Ar.new 0).cells.length : Int) = 0 from rfl]; rintro e w' ⟨rfl, rfl⟩))
  go_ret
  exact ⟨rfl, hk1.trans hk2 (fun _ f _ => f)⟩

set_option maxHeartbeats 4000000 in
set_option maxRecDepth 100000 in
theorem cellsNone_walk (w : World) : Calls Try.prog 5 #[] w fun e w' => e = .returned (.bool true) ∧ Below w.heap.size w w' := by
  go_enter Try.func5, Try.ntmps5
  go_wp2_with (first
    | (go_at_call_of 19 (Value.pointer none); refine (none_nil _).mono ?_; rintro e w1 ⟨rfl, hk1⟩)
    | (go_at_call_of 20 (Value.pointer none); refine (noneShared_nil _).mono ?_; rintro e w2 ⟨rfl, hk2⟩)
    | (go_at_call 19; refine (none_zero w2.heap.size _ ⟨new_at _ _ _ rfl, World.ownsRow_nil _ _ _ _, World.ownsRow_nil _ _ _ _, by decide⟩).mono ?_; rintro e w3 ⟨rfl, hk3⟩)
    | (go_at_call 20; refine (noneShared_zero w3.heap.size _ ⟨new_at _ _ _ rfl, World.ownsRow_nil _ _ _ _, by decide, rfl⟩).mono ?_; rintro e w4 ⟨rfl, hk4⟩))
  go_ret
  have ha := hk1.trans hk2 (fun _ f _ => f)
  have hb := (ha.andAlloc (.cells #[.int .i64 0, .int .i64 0, .slice none 0 0, .bool false, .int .i64 0, .slice none 0 0] 59)).trans hk3 (fun i f hi => by
    rcases f with rfl | f | f
    · have := ha.size; omega
    · simp [Value.ownBlock] at f
    · simp [Value.ownBlock] at f)
  have hc := (hb.andAlloc (.cells #[.int .i64 0, .int .i64 0, .int .i32 0, .int .u32 0, .slice none 0 0] 68)).trans hk4 (fun i f hi => by
    rcases f with rfl | f
    · have := hb.size; omega
    · simp [Value.ownBlock] at f)
  exact ⟨rfl, hc.below _ (Nat.le_refl _) (fun _ f => f.elim)⟩
end Go.Proofs.Ytloahjkndhcjfab
