import Derived.Test.YtncbejpefokhhaaCpStand
/-! All lists of the book are as they were left. -/
namespace Go.Proofs.Ytncbejpefokhhaa
set_option linter.unusedVariables false
open Go.RowKit Go.HeapKit

theorem ents_at (l : List Int) (k : Nat) (x : Int) (h : l[k]? = some x) (j : Nat) (u : Value) (hu : (entVals x)[j]? = some u) : (l.flatMap entVals)[k * 6 + j]? = some u := by
  have hj : j < 6 := by have := (List.getElem?_eq_some_iff.1 hu).1; simpa [entVals] using this
  induction l generalizing k with
  | nil => simp at h
  | cons y l ih =>
    rw [List.flatMap_cons]
    have hl : (entVals y).length = 6 := rfl
    cases k with
    | zero => simp at h; subst h; rw [List.getElem?_append_left (by omega)]; simpa using hu
    | succ k =>
      rw [List.getElem?_append_right (by omega), hl, show (k + 1) * 6 + j - 6 = k * 6 + j by omega]
      exact ih k (by simpa using h)
theorem entry_c (m : Int) (w : World) : Calls Try.prog 27 #[.int .i64 m] w fun e w' => e = .returned (.agg #[.int .i64 (-3), .int .i64 9, .int .i64 (-4), .int .i64 m, .int .i64 (wrap64 (-m)), .bool true]) ∧ Keeps None w w' := by
  obtain ⟨we, h1, h2⟩ := entry_ex m w
  refine h1.mono ?_
  rintro e w' ⟨rfl, rfl⟩
  exact ⟨rfl, h2⟩
theorem low_of {w : World} {b : Nat} {e : TypeId} {size : Nat} {v : Value} {n : Nat} {xs : List Value} (h : w.ownsRow b e size v n xs) {g : Nat} (hg : v.ownBlock = some g) : b ≤ g := by
  rcases h.2 with ⟨rfl, _⟩ | ⟨g', cap, cur, rfl, hbg, _⟩
  · simp [Value.ownBlock] at hg
  · simp [Value.ownBlock] at hg; omega
theorem base_of {w : World} {b b' : Nat} {e : TypeId} {size : Nat} {v : Value} {n : Nat} {xs : List Value} (h : w.ownsRow b e size v n xs) (hb : ∀ g, v.ownBlock = some g → b' ≤ g) : w.ownsRow b' e size v n xs := by
  refine ⟨h.1, ?_⟩
  rcases h.2 with h | ⟨g, cap, cur, rfl, _, r⟩
  · exact .inl h
  · exact .inr ⟨g, cap, cur, rfl, hb g rfl, r⟩
set_option maxHeartbeats 4000000 in
theorem plain_ok (ao : Option Addr) (n c : Nat) (l : List Int) (w : World) (h : w.ownsRow 0 65 6 (.slice ao n c) n (l.flatMap entVals)) (hl : l.length = n) (hs : n ≤ 1900000) :
    Calls Try.prog 29 #[.slice ao n c] w fun e w' => ∃ a' c', e = .returned (.slice a' n c') ∧ w'.ownsRow 0 2 1 (.slice a' n c') n (l.map (Value.int .i64)) ∧ Keeps None w w' := by
  have HH : Hid (w.ownsRow 0 65 6 (.slice ao n c) n (l.flatMap entVals) ∧ l.length = n) := ⟨h, hl⟩
  clear h hl
  go_enter Try.func29, Try.ntmps29
  go_wp2_with fail
  go_loopw [3, 4, 5] (fun s i _ wr => ∃ k : Nat, k ≤ n ∧ i = .int .i64 k ∧ wr.ownsRow w.heap.size 2 1 s k ((l.take k).map (Value.int .i64)) ∧ Keeps None w wr) (fun _ i _ _ => n - (intOf i).toNat)
  case atStart => exact ⟨0, Nat.zero_le _, rfl, World.ownsRow_nil _ _ _ _, Keeps.refl _ _⟩
  case round =>
    obtain ⟨k, hk, rfl, hrow, hkp⟩ := hrel
    obtain ⟨sa, cs, rfl⟩ := own_shape hrow
    by_cases hkn : k < n
    · obtain ⟨x, hx⟩ : ∃ x, l[k]? = some x := ⟨l[k]'(by have := HH.out.2; omega), by simp⟩
      obtain ⟨g, rfl, hc⟩ := row_at (hkp.own HH.out.1 (fun _ _ f => f)) (by omega)
      have y0 := hc (k * 6) _ (ents_at l k x hx 0 _ rfl)
      have y1 := hc (k * 6 + 1) _ (ents_at l k x hx 1 _ rfl)
      have y2 := hc (k * 6 + 2) _ (ents_at l k x hx 2 _ rfl)
      have y3 := hc (k * 6 + 3) _ (ents_at l k x hx 3 _ rfl)
      have y4 := hc (k * 6 + 4) _ (ents_at l k x hx 4 _ rfl)
      have y5 := hc (k * 6 + 5) _ (ents_at l k x hx 5 _ rfl)
      have i1 : (k : Int) < (n : Int) := by omega
      have hen := entry_c x
      have HR : Hid (wr.ownsRow w.heap.size 2 1 (.slice sa k cs) k ((l.take k).map (Value.int .i64)) ∧ Keeps None w wr ∧ l[k]? = some x) := ⟨hrow, hkp, hx⟩
      clear hc hx hrow hkp
      go_upto_region 6 with fail
      go_cut [23] (fun s23 wx => s23 = .bool false ∧ Keeps None wr wx)
      case first =>
        go_region_held3 (fun w' => w'.cell? ⟨g, k * 6, none⟩ = some (.int .i64 (-3)) ∧ w'.cell? ⟨g, k * 6 + 1, none⟩ = some (.int .i64 9) ∧ w'.cell? ⟨g, k * 6 + 2, none⟩ = some (.int .i64 (-4)) ∧ w'.cell? ⟨g, k * 6 + 3, none⟩ = some (.int .i64 x) ∧ w'.cell? ⟨g, k * 6 + 4, none⟩ = some (.int .i64 (wrap64 (-x))) ∧ w'.cell? ⟨g, k * 6 + 5, none⟩ = some (.bool true)) (first | exact hs2 | go_keep) (first
          | (go_at_call 27; refine (hen _).mono ?_; rintro e w2 ⟨rfl, hk2⟩; have hk3 : Keeps None wr w2 := (Keeps.drew None wr).trans hk2 (fun _ f _ => f); have hs2 : w2.cell? ⟨g, k * 6, none⟩ = some (.int .i64 (-3)) ∧ w2.cell? ⟨g, k * 6 + 1, none⟩ = some (.int .i64 9) ∧ w2.cell? ⟨g, k * 6 + 2, none⟩ = some (.int .i64 (-4)) ∧ w2.cell? ⟨g, k * 6 + 3, none⟩ = some (.int .i64 x) ∧ w2.cell? ⟨g, k * 6 + 4, none⟩ = some (.int .i64 (wrap64 (-x))) ∧ w2.cell? ⟨g, k * 6 + 5, none⟩ = some (.bool true) := ⟨hk3.cell y0 (fun f => f), hk3.cell y1 (fun f => f), hk3.cell y2 (fun f => f), hk3.cell y3 (fun f => f), hk3.cell y4 (fun f => f), hk3.cell y5 (fun f => f)⟩))
        all_goals (go_wp2_with fail; go_meet)
        all_goals exact ⟨rfl, hk3⟩
      case rest =>
        obtain ⟨rfl, hkx⟩ := hcut
        have key : ∀ wx, Keeps None wr wx → ∃ g2 cp w2, (Builtin.append_ #[24, 24] 24 #[.slice sa k cs, .slice (some ⟨wx.heap.size, 0, none⟩) 1 1]).run Try.prog (wx.alloc (.cells #[.int .i64 x] 2)) = .ok (.slice (some ⟨g2, 0, none⟩) (k + 1) cp) w2 ∧
            Hid (w2.ownsRow w.heap.size 2 1 (.slice (some ⟨g2, 0, none⟩) (k + 1) cp) (k + 1) ((l.take (k + 1)).map (Value.int .i64)) ∧ Keeps None w w2) := by
          intro wx hkx
          have hrow := hkx.own HR.out.1 (fun _ _ f => f)
          obtain ⟨g2, cp, w2, hr, ho, hk2, hm⟩ := nums_more (.slice sa k cs) k (l.take k) wx (base_of hrow (fun _ _ => Nat.zero_le _)) x (by omega)
          refine ⟨g2, cp, w2, hr, ?_⟩
          rw [List.take_add_one, HR.out.2.2]
          refine ⟨base_of ho (fun i e => ?_), (HR.out.2.1.trans hkx (fun _ f _ => f)).trans hk2 (fun i e hi => by have := low_of hrow e; omega)⟩
          simp [Value.ownBlock] at e
          subst e
          rcases hm with e | e
          · exact low_of hrow e
          · have := HR.out.2.1.size; have := hkx.size; omega
        obtain ⟨g2, cp, w2, hr, HN⟩ := key _ hkx
        clear key hkx hen y0 y1 y2 y3 y4 y5 HR HH
        go_wp2_with (at_builtin; refine wpList_append_run rfl (.tmp 24) (.tmp 26) 24 24 rfl rfl rfl hr ?_)
        exact ⟨⟨k + 1, by omega, by go_num, HN.out⟩, by simp [intOf]; omega⟩
    · have hkn2 : k = n := by omega
      subst hkn2
      have HN : Hid (wr.ownsRow 0 2 1 (.slice sa k cs) k (l.map (Value.int .i64)) ∧ Keeps None w wr) := by
        rw [List.take_of_length_le (by have := HH.out.2; omega)] at hrow
        exact ⟨base_of hrow (fun _ _ => Nat.zero_le _), hkp⟩
      clear hrow hkp HH
      go_wp2
      go_ret
      exact ⟨_, _, rfl, HN.out⟩

structure KI where
  m : Int
  ao : Option Addr
  n : Nat
  a1 : Option Addr
  c1 : Nat
  a2 : Option Addr
  c2 : Nat
  a3 : Option Addr
  c3 : Nat
def KI.vals (x : KI) : List Value := [.int .i64 x.m, .slice x.ao x.n x.n, .slice x.a1 (x.n + 1) x.c1, .slice x.a2 (x.n + 2) x.c2, .slice x.a3 (x.n + 3) x.c3]
def kiVals (l : List KI) : List Value := l.flatMap KI.vals
theorem kiVals_at (l : List KI) (k : Nat) (x : KI) (h : l[k]? = some x) (j : Nat) (u : Value) (hu : x.vals[j]? = some u) : (kiVals l)[k * 5 + j]? = some u := by
  have hj : j < 5 := by have := (List.getElem?_eq_some_iff.1 hu).1; simpa [KI.vals] using this
  unfold kiVals
  induction l generalizing k with
  | nil => simp at h
  | cons y l ih =>
    rw [List.flatMap_cons]
    have hl : y.vals.length = 5 := rfl
    cases k with
    | zero => simp at h; subst h; rw [List.getElem?_append_left (by omega)]; simpa using hu
    | succ k =>
      rw [List.getElem?_append_right (by omega), hl, show (k + 1) * 5 + j - 5 = k * 5 + j by omega]
      exact ih k (by simpa using h)
def NI (w : World) (x : KI) : Prop := NOk w x.m x.ao x.n x.a1 x.c1 x.a2 x.c2 x.a3 x.c3 ∧ x.n ≤ 1800000
def AI (w : World) (x : KI) : Prop := AOk w x.m x.ao x.n x.a1 x.c1 x.a2 x.c2 x.a3 x.c3 ∧ x.n ≤ 1800000
theorem NI.kept {w w' : World} {x : KI} {S : Nat → Prop} (h : NI w x) (hk : Keeps S w w') (hS : ∀ b, (∃ cur, w.heap[b]? = some (.cells cur 2 (0, 0))) → blockOf x.ao = some b ∨ blockOf x.a1 = some b ∨ blockOf x.a2 = some b ∨ blockOf x.a3 = some b → ¬ S b) : NI w' x := by
  obtain ⟨⟨r0, r1, r2, r3⟩, hn⟩ := h
  have hb : ∀ {a : Option Addr} {n c b : Nat}, (Value.slice a n c).ownBlock = some b → blockOf a = some b := by
    intro a n c b e
    cases a with
    | none => simp [Value.ownBlock] at e
    | some a => simpa [Value.ownBlock, blockOf] using e
  exact ⟨⟨hk.own r0 (fun b e => hS b (own_block r0 e) (.inl (hb e))), hk.own r1 (fun b e => hS b (own_block r1 e) (.inr (.inl (hb e)))), hk.own r2 (fun b e => hS b (own_block r2 e) (.inr (.inr (.inl (hb e))))), hk.own r3 (fun b e => hS b (own_block r3 e) (.inr (.inr (.inr (hb e)))))⟩, hn⟩
theorem AI.kept {w w' : World} {x : KI} {S : Nat → Prop} (h : AI w x) (hk : Keeps S w w') (hS : ∀ b, (∃ cur, w.heap[b]? = some (.cells cur 65 (0, 0))) → blockOf x.ao = some b ∨ blockOf x.a1 = some b ∨ blockOf x.a2 = some b ∨ blockOf x.a3 = some b → ¬ S b) : AI w' x := by
  obtain ⟨⟨r0, r1, r2, r3⟩, hn⟩ := h
  have hb : ∀ {a : Option Addr} {n c b : Nat}, (Value.slice a n c).ownBlock = some b → blockOf a = some b := by
    intro a n c b e
    cases a with
    | none => simp [Value.ownBlock] at e
    | some a => simpa [Value.ownBlock, blockOf] using e
  exact ⟨⟨hk.own r0 (fun b e => hS b (own_block r0 e) (.inl (hb e))), hk.own r1 (fun b e => hS b (own_block r1 e) (.inr (.inl (hb e)))), hk.own r2 (fun b e => hS b (own_block r2 e) (.inr (.inr (.inl (hb e))))), hk.own r3 (fun b e => hS b (own_block r3 e) (.inr (.inr (.inr (hb e)))))⟩, hn⟩
end Go.Proofs.Ytncbejpefokhhaa
