import Derived.Test.YtemmkgnbngeiaaaDqNew
/-! The law's own memory that refuses. -/
namespace Go.Proofs.Ytemmkgnbngeiaaa
open Go.RowKit Go.HeapKit Go.IntWalk

/-- It lies in the block q; the arena behind it in p; H is all that may be touched. -/
def IsDn (w : World) (q p l c : Nat) (H : Nat → Prop) (A : Ar) : Prop :=
  w.heap[q]? = some (.cells #[.pointer (some ⟨p, 0, none⟩), .int .i64 l, .int .i64 c] 106 (0, 0)) ∧ ∃ F, ArF w p F A ∧ ¬ F q ∧ H = fun k => k = q ∨ F k
def DD (w w' : World) (q p l c : Nat) (H : Nat → Prop) (A : Ar) : Prop := ∃ H', IsDn w' q p l c H' A ∧ Keeps H w w' ∧ ∀ k, H' k → H k ∨ w.heap.size ≤ k
theorem IsDn.lt {w : World} {q p l c : Nat} {H : Nat → Prop} {A : Ar} (h : IsDn w q p l c H A) {k : Nat} (hk : H k) : k < w.heap.size := by
  obtain ⟨hb, F, hF, -, rfl⟩ := h
  rcases hk with rfl | hk
  · exact (Array.getElem?_eq_some_iff.1 hb).1
  · exact hF.lt hk
theorem IsDn.kept {w w' : World} {q p l c : Nat} {H S : Nat → Prop} {A : Ar} (h : IsDn w q p l c H A) (hk : Keeps S w w') (hS : ∀ k, H k → ¬ S k) : IsDn w' q p l c H A := by
  obtain ⟨hb, F, hF, hq, rfl⟩ := h
  exact ⟨(hk.block q (Array.getElem?_eq_some_iff.1 hb).1 (hS q (.inl rfl))).trans hb, F, hF.kept hk (fun k f => hS k (.inr f)), hq, rfl⟩
theorem DD.trans {w w1 w2 : World} {q p l c : Nat} {F F1 : Nat → Prop} {B : Ar} (hk : Keeps F w w1) (hf : ∀ k, F1 k → F k ∨ w.heap.size ≤ k) (h2 : DD w1 w2 q p l c F1 B) : DD w w2 q p l c F B := by
  obtain ⟨F2, g, k, m⟩ := h2
  have := hk.size
  exact ⟨F2, g, hk.trans k (fun i f hi => by rcases hf i f with f | f; exact f; omega), fun k f => by
    rcases m k f with f | f
    · exact hf k f
    · exact .inr (by omega)⟩
theorem DD.out {w w1 w4 w' : World} {q p l c g : Nat} {F : Nat → Prop} {B : Ar} (h : DD w1 w4 q p l c F B) (h01 : Keeps None w w1) (hg : w.heap.size ≤ g) (hg1 : g < w1.heap.size) (hF : ¬ F g) (hk : Keeps (· = g) w4 w') : DD w w' q p l c F B := by
  obtain ⟨F', h1, h2, h3⟩ := h
  have := h01.size
  refine ⟨F', h1.kept hk (fun k f e => ?_), ((h01.mono (fun _ f _ => f.elim)).trans h2 (fun _ f _ => f)).trans hk (fun i e hi => by omega), fun k f => ?_⟩
  · subst e
    rcases h3 _ f with f | f
    · exact hF f
    · omega
  · rcases h3 k f with f | f
    · exact .inl f
    · exact .inr (by omega)
theorem _root_.Go.HeapKit.Keeps.drewN3 (S : Nat → Prop) (w : World) (n : Nat) : Keeps S w (w.drewN n) := ⟨rfl, rfl, rfl, Nat.le_refl _, fun _ _ _ => rfl⟩
theorem dn_refuses (q p l c : Nat) (H : Nat → Prop) (A : Ar) (w : World) (h : IsDn w q p l c H A) (hc : c ≤ 1000) :
    Calls Try.prog 98 #[.pointer (some ⟨q, 0, none⟩)] w fun e w' => e = .returned (.bool (decide (l < c + 1))) ∧ DD w w' q p l (c + 1) H A := by
  obtain ⟨hb, F, hF, hq, rfl⟩ := h
  have c1 := (cell_of_block hb 1).trans rfl
  have c2 := (cell_of_block hb 2).trans rfl
  have q2 := free_of_block hb 2
  have hb2 : (w.setCell ⟨q, 2, none⟩ (.int .i64 ((c : Int) + 1))).heap[q]? = some (.cells #[.pointer (some ⟨p, 0, none⟩), .int .i64 l, .int .i64 (c + 1 : Nat)] 106 (0, 0)) := (setCell_block hb _).trans rfl
  have hk : Keeps (· = q) w (w.setCell ⟨q, 2, none⟩ (.int .i64 ((c : Int) + 1))) := Keeps.setCell (S := (· = q)) w (a := ⟨q, 2, none⟩) rfl _
  have HE : Hid (∀ m, DD w ((w.setCell ⟨q, 2, none⟩ (.int .i64 ((c : Int) + 1))).drewN m) q p l (c + 1) (fun k => k = q ∨ F k) A) := by
    intro m
    refine ⟨_, ⟨((Keeps.drewN3 None _ m).block q (by simp [World.setCell]; exact (Array.getElem?_eq_some_iff.1 hb).1) (fun f => f)).trans hb2, F, (hF.kept hk (fun k f e => hq (e ▸ f))).kept (Keeps.drewN3 None _ m) (fun _ _ f => f), hq, rfl⟩, (hk.mono (fun _ e _ => .inl e)).trans (Keeps.drewN3 None _ m) (fun _ f _ => f.elim), fun k f => .inl f⟩
  clear hF hb2 hk hb
  go_enter Try.func98, Try.ntmps98
  go_wp2_with fail
  go_quiet (fail)
  go_wp2_with fail
  go_ret
  refine ⟨?_, HE.out _⟩
  simp
  omega

set_option maxHeartbeats 4000000 in
theorem dn_reserve_no (q p l c : Nat) (H : Nat → Prop) (A : Ar) (n : Int) (w : World) (h : IsDn w q p l c H A) (hc : c ≤ 1000) (hl : l < c + 1) :
    Calls Try.prog 96 #[.pointer (some ⟨q, 0, none⟩), .int .i64 n] w fun e w' => e = .returned (.tuple #[.int .i64 0, .int .i64 77]) ∧ DD w w' q p l (c + 1) H A := by
  have hr := dn_refuses q p l c H A w h hc
  rw [decide_eq_true hl] at hr
  go_enter Try.func96, Try.ntmps96
  go_wp2_with fail
  refine hr.mono ?_
  rintro e w1 ⟨rfl, hD⟩
  have HD : Hid _ := hD
  clear hD hr
  go_wp2_with fail
  go_ret2
  exact ⟨rfl, HD.out⟩
set_option maxHeartbeats 4000000 in
theorem dn_store_no (q p l c : Nat) (H : Nat → Prop) (A : Ar) (x v : Int) (w : World) (h : IsDn w q p l c H A) (hc : c ≤ 1000) (hl : l < c + 1) :
    Calls Try.prog 97 #[.pointer (some ⟨q, 0, none⟩), .int .i64 x, .int .i64 v] w fun e w' => e = .returned (.int .i64 77) ∧ DD w w' q p l (c + 1) H A := by
  have hr := dn_refuses q p l c H A w h hc
  rw [decide_eq_true hl] at hr
  go_enter Try.func97, Try.ntmps97
  go_wp2_with fail
  refine hr.mono ?_
  rintro e w1 ⟨rfl, hD⟩
  have HD : Hid _ := hD
  clear hD hr
  go_wp2_with fail
  go_ret
  exact ⟨rfl, HD.out⟩
theorem DD.of {w w1 w2 : World} {q p l c : Nat} {H F : Nat → Prop} {B : Ar} (h1 : Keeps H w w1) (hb : w1.heap[q]? = some (.cells #[.pointer (some ⟨p, 0, none⟩), .int .i64 l, .int .i64 c] 106 (0, 0))) (hF : ¬ F q) (hH : ∀ k, k = q ∨ F k → H k ∨ w.heap.size ≤ k) (h2 : AA w1 w2 p F B) : DD w w2 q p l c H B := by
  obtain ⟨F', g, hk, hf⟩ := h2
  have hq1 := (Array.getElem?_eq_some_iff.1 hb).1
  have hs := h1.size
  refine ⟨_, ⟨(hk.block q hq1 hF).trans hb, F', g, fun f => ?_, rfl⟩, h1.trans hk (fun i f hi => ?_), fun k f => ?_⟩
  · rcases hf q f with f | f
    · exact hF f
    · omega
  · rcases hH i (.inr f) with f | f
    · exact f
    · omega
  · rcases f with f | f
    · exact hH k (.inl f)
    · rcases hf k f with f | f
      · exact hH k (.inr f)
      · exact .inr (by omega)
set_option maxHeartbeats 4000000 in
theorem dn_reserve_ok (q p l c : Nat) (H : Nat → Prop) (A : Ar) (n : Nat) (w : World) (h : IsDn w q p l c H A) (hc : c ≤ 1000) (hl : ¬ l < c + 1) (hn : 0 < n) (hfit : A.cells.length + n ≤ A.size) (hlog : A.log.length < 1000000000000) :
    Calls Try.prog 96 #[.pointer (some ⟨q, 0, none⟩), .int .i64 n] w fun e w' => e = .returned (.tuple #[.int .i64 A.cells.length, .int .i64 0]) ∧ DD w w' q p l (c + 1) H ((A.more n).noted ⟨0, 4, A.cells.length, n, 0, true⟩) := by
  have hr := dn_refuses q p l c H A w h hc
  rw [decide_eq_false hl] at hr
  go_enter Try.func96, Try.ntmps96
  go_wp2_with fail
  refine hr.mono ?_
  rintro e w1 ⟨rfl, H1, ⟨hb, F, hF, hq, rfl⟩, hk, hf⟩
  have c0 := (cell_of_block hb 0).trans rfl
  have hrs := arf_reserve p F A n w1 hF hn hfit hlog
  have HD : Hid _ := And.intro hb (And.intro hq (And.intro hk hf))
  clear hb hF hq hk hf hr
  go_wp2_with fail
  refine hrs.mono ?_
  rintro e w2 ⟨rfl, hA⟩
  have HA : Hid _ := DD.of HD.out.2.2.1 HD.out.1 HD.out.2.1 HD.out.2.2.2 hA
  clear hA hrs HD
  go_wp2_with fail
  go_ret2
  exact ⟨rfl, HA.out⟩
set_option maxHeartbeats 4000000 in
theorem dn_store_ok (q p l c : Nat) (H : Nat → Prop) (A : Ar) (x : Int) (k : Nat) (v : Int) (w : World) (hxk : x = k) (h : IsDn w q p l c H A) (hc : c ≤ 1000) (hl : ¬ l < c + 1) (hx : k < A.cells.length) (hlog : A.log.length < 1000000000000) :
    Calls Try.prog 97 #[.pointer (some ⟨q, 0, none⟩), .int .i64 x, .int .i64 v] w fun e w' => e = .returned (.int .i64 0) ∧ DD w w' q p l (c + 1) H ((A.put k v).noted ⟨0, 1, k, v, 0, true⟩) := by
  subst hxk
  have hr := dn_refuses q p l c H A w h hc
  rw [decide_eq_false hl] at hr
  go_enter Try.func97, Try.ntmps97
  go_wp2_with fail
  refine hr.mono ?_
  rintro e w1 ⟨rfl, H1, ⟨hb, F, hF, hq, rfl⟩, hk, hf⟩
  have c0 := (cell_of_block hb 0).trans rfl
  have hrs := arf_store p F A k v w1 hF hx hlog
  have HD : Hid _ := And.intro hb (And.intro hq (And.intro hk hf))
  clear hb hF hq hk hf hr
  go_wp2_with fail
  refine hrs.mono ?_
  rintro e w2 ⟨rfl, hA⟩
  have HA : Hid _ := DD.of HD.out.2.2.1 HD.out.1 HD.out.2.1 HD.out.2.2.2 hA
  clear hA hrs HD
  go_wp2_with fail
  go_ret
  exact ⟨rfl, HA.out⟩
theorem methD_store (p : Nat) (w : World) : (method 259 104 (.pointer (some ⟨p, 0, none⟩)) "Store").run Try.prog w = .ok (97, .pointer (some ⟨p, 0, none⟩)) w := by kernel_rfl
theorem methD_reserve (p : Nat) (w : World) : (method 259 104 (.pointer (some ⟨p, 0, none⟩)) "Reserve").run Try.prog w = .ok (96, .pointer (some ⟨p, 0, none⟩)) w := by kernel_rfl
theorem nilD_store (p : Nat) (w : World) : (nilAhead 259 104 (.pointer (some ⟨p, 0, none⟩)) "Store").run Try.prog w = .ok (some false) w := by kernel_rfl
theorem nilD_reserve (p : Nat) (w : World) : (nilAhead 259 104 (.pointer (some ⟨p, 0, none⟩)) "Reserve").run Try.prog w = .ok (some false) w := by kernel_rfl
end Go.Proofs.Ytemmkgnbngeiaaa
