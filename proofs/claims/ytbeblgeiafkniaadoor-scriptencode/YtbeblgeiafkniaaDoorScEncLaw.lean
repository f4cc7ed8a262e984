import Derived.Test.YtbeblgeiafkniaaDoorScREnc
import Derived.Test.YtbeblgeiafkniaaDoorScMovedOk
import Derived.Test.YtbeblgeiafkniaaDoorScSameS
/-! ScriptEncode: its walk. -/
namespace Go.Proofs.YtbeblgeiafkniaaDoor
set_option linter.unusedVariables false
set_option maxRecDepth 20000
open Go.RowKit Go.HeapKit Go.Sc

/-- What stands while the law's copy is made. -/
structure LawR (n n2 : Nat) (wb w : World) (S0 S1 : Option (Nat × Nat)) (Q : Option Nat) : Prop where
  kp : Keeps None wb w
  r0 : ∀ g cap, S0 = some (g, cap) → ∃ l', Room w wb.heap.size g n cap l' ∧ ∀ x ∈ l', okI x
  r1 : ∀ g cap, S1 = some (g, cap) → ∃ l', Room w wb.heap.size g n2 cap l' ∧ ∀ x ∈ l', okI x
  q : ∀ q, Q = some q → w.heap[q]? = some (.cells #[.slice none 0 0, .slice none 0 0] 24 (0, 0)) ∧ wb.heap.size ≤ q
  ap : ∀ g cap g' cap', S0 = some (g, cap) → S1 = some (g', cap') → g ≠ g'
  aq : ∀ q, Q = some q → (∀ g cap, S0 = some (g, cap) → g ≠ q) ∧ (∀ g cap, S1 = some (g, cap) → g ≠ q)
theorem Room.base {w : World} {base base' g n cap : Nat} {l : List Int} (h : Room w base g n cap l) (hb : base' ≤ base) : Room w base' g n cap l := ⟨h.len, row_base h.row hb⟩
section
variable {n n2 : Nat} {wb w w' : World} {S0 S1 : Option (Nat × Nat)} {Q : Option Nat} {g cap : Nat}
theorem LawR.put0 (h : LawR n n2 wb w S0 S1 Q) (hr : ∃ l', Room w' w.heap.size g n cap l' ∧ ∀ x ∈ l', okI x) (hk : Keeps None w w') : LawR n n2 wb w' (some (g, cap)) S1 Q := by
  have hz := h.kp.size
  obtain ⟨l', hr, hro⟩ := hr
  have hlow := hr.low
  refine ⟨h.kp.trans hk (fun _ f _ => f), fun g' cap' e => ?_, fun g' cap' e => ?_, fun q e => ⟨blk_kept (h.q q e).1 hk (fun f => f), (h.q q e).2⟩, fun g1 c1 g2 c2 e1 e2 => ?_, fun q e => ⟨fun g1 c1 e1 => ?_, (h.aq q e).2⟩⟩
  · injection e with e
    injection e with e1 e2
    subst e1 e2
    exact ⟨l', hr.base hz, hro⟩
  · obtain ⟨l2, h2, o2⟩ := h.r1 g' cap' e
    exact ⟨l2, h2.more hk, o2⟩
  · injection e1 with e1
    injection e1 with e1 e3
    subst e1
    obtain ⟨l2, h2, o2⟩ := h.r1 _ _ e2
    have := h2.lt
    omega
  · injection e1 with e1
    injection e1 with e1 e3
    subst e1
    have := blk_lt (h.q q e).1
    omega
theorem LawR.put1 (h : LawR n n2 wb w S0 S1 Q) (hr : ∃ l', Room w' w.heap.size g n2 cap l' ∧ ∀ x ∈ l', okI x) (hk : Keeps None w w') : LawR n n2 wb w' S0 (some (g, cap)) Q := by
  have hz := h.kp.size
  obtain ⟨l', hr, hro⟩ := hr
  have hlow := hr.low
  refine ⟨h.kp.trans hk (fun _ f _ => f), fun g' cap' e => ?_, fun g' cap' e => ?_, fun q e => ⟨blk_kept (h.q q e).1 hk (fun f => f), (h.q q e).2⟩, fun g1 c1 g2 c2 e1 e2 => ?_, fun q e => ⟨(h.aq q e).1, fun g1 c1 e1 => ?_⟩⟩
  · obtain ⟨l2, h2, o2⟩ := h.r0 g' cap' e
    exact ⟨l2, h2.more hk, o2⟩
  · injection e with e
    injection e with e1 e2
    subst e1 e2
    exact ⟨l', hr.base hz, hro⟩
  · injection e2 with e2
    injection e2 with e2 e3
    subst e2
    obtain ⟨l2, h2, o2⟩ := h.r0 _ _ e1
    have := h2.lt
    omega
  · injection e1 with e1
    injection e1 with e1 e3
    subst e1
    have := blk_lt (h.q q e).1
    omega
theorem LawR.new (h : LawR n n2 wb w S0 S1 Q) : LawR n n2 wb (w.alloc (.cells #[.slice none 0 0, .slice none 0 0] 24)) S0 S1 (some w.heap.size) := by
  have hk := keeps1 w (.cells #[.slice none 0 0, .slice none 0 0] 24)
  refine ⟨h.kp.trans hk (fun _ f _ => f), fun g' cap' e => ?_, fun g' cap' e => ?_, fun q e => ?_, h.ap, fun q e => ?_⟩
  · obtain ⟨l2, h2, o2⟩ := h.r0 g' cap' e
    exact ⟨l2, h2.more hk, o2⟩
  · obtain ⟨l2, h2, o2⟩ := h.r1 g' cap' e
    exact ⟨l2, h2.more hk, o2⟩
  · injection e with e
    subst e
    exact ⟨blk_new _ _ _ rfl, h.kp.size⟩
  · injection e with e
    subst e
    refine ⟨fun g1 c1 e1 => ?_, fun g1 c1 e1 => ?_⟩
    · obtain ⟨l2, h2, o2⟩ := h.r0 _ _ e1
      have := h2.lt
      omega
    · obtain ⟨l2, h2, o2⟩ := h.r1 _ _ e1
      have := h2.lt
      omega
theorem LawR.start (wb : World) : LawR n n2 wb wb.drew none none none :=
  ⟨Keeps.drew None wb, fun _ _ e => (by cases e), fun _ _ e => (by cases e), fun _ e => (by cases e), fun _ _ _ _ e => (by cases e), fun _ e => (by cases e)⟩
end
theorem two_cells3 {w : World} {s q : Nat} {v0 v1 x y : Value} (hne : s ≠ q) (h0 : w.cell? ⟨s, 0, none⟩ = some x) (h1 : w.cell? ⟨s, 1, none⟩ = some y) : ((w.setCell ⟨q, 0, none⟩ v0).setCell ⟨q, 1, none⟩ v1).cell? ⟨s, 0, none⟩ = some x ∧ ((w.setCell ⟨q, 0, none⟩ v0).setCell ⟨q, 1, none⟩ v1).cell? ⟨s, 1, none⟩ = some y := by
  have hk : Keeps (· = q) w ((w.setCell ⟨q, 0, none⟩ v0).setCell ⟨q, 1, none⟩ v1) := (Keeps.setCell (S := (· = q)) w (a := ⟨q, 0, none⟩) rfl _).andSet (x := ⟨q, 1, none⟩) (.inl rfl) _
  exact ⟨hk.cell h0 (fun e => hne e), hk.cell h1 (fun e => hne e)⟩
/-- What stands behind the making of the copy. -/
structure LawS (wb w : World) (q n n2 : Nat) (g0 cp0 g1 cp1 : Nat) (l l2 : List Int) : Prop where
  r0 : Room w wb.heap.size g0 n cp0 l
  r1 : Room w wb.heap.size g1 n2 cp1 l2
  bk : w.heap[q]? = some (.cells #[.slice (some ⟨g0, 0, none⟩) n cp0, .slice (some ⟨g1, 0, none⟩) n2 cp1] 24 (0, 0))
  lowq : wb.heap.size ≤ q
  kp : Keeps None wb w
  ap : g0 ≠ g1
  o0 : ∀ x ∈ l, okI x
  o1 : ∀ x ∈ l2, okI x
  pq : g0 ≠ q ∧ g1 ≠ q
theorem LawR.stored {n n2 : Nat} {wb w : World} {g0 cp0 g1 cp1 q : Nat} (h : LawR n n2 wb w (some (g0, cp0)) (some (g1, cp1)) (some q)) :
    ∃ l l2, LawS wb ((w.setCell ⟨q, 0, none⟩ (.slice (some ⟨g0, 0, none⟩) n cp0)).setCell ⟨q, 1, none⟩ (.slice (some ⟨g1, 0, none⟩) n2 cp1)) q n n2 g0 cp0 g1 cp1 l l2 := by
  obtain ⟨l, h0, o0⟩ := h.r0 _ _ rfl
  obtain ⟨l2, h1, o1⟩ := h.r1 _ _ rfl
  obtain ⟨hq, hlow⟩ := h.q _ rfl
  have hk : Keeps (· = q) w ((w.setCell ⟨q, 0, none⟩ (.slice (some ⟨g0, 0, none⟩) n cp0)).setCell ⟨q, 1, none⟩ (.slice (some ⟨g1, 0, none⟩) n2 cp1)) := (Keeps.setCell (S := (· = q)) w (a := ⟨q, 0, none⟩) rfl _).andSet (x := ⟨q, 1, none⟩) (.inl rfl) _
  refine ⟨l, l2, h0.kept hk ((h.aq q rfl).1 _ _ rfl), h1.kept hk ((h.aq q rfl).2 _ _ rfl), ?_, hlow, h.kp.trans hk (fun i e hi => by omega), h.ap _ _ _ _ rfl rfl, o0, o1, (h.aq q rfl).1 _ _ rfl, (h.aq q rfl).2 _ _ rfl⟩
  rw [blk_set (blk_set hq _) _]
  rfl
theorem LawR.full {n n2 : Nat} {wb w : World} {g0 cp0 g1 cp1 : Nat} {Q : Option Nat} (h : LawR n n2 wb w (some (g0, cp0)) (some (g1, cp1)) Q) :
    ∃ l l2, LawS wb (w.alloc (.cells #[.slice (some ⟨g0, 0, none⟩) n cp0, .slice (some ⟨g1, 0, none⟩) n2 cp1] 24)) w.heap.size n n2 g0 cp0 g1 cp1 l l2 := by
  obtain ⟨l, h0, o0⟩ := h.r0 _ _ rfl
  obtain ⟨l2, h1, o1⟩ := h.r1 _ _ rfl
  have hk := keeps1 w (.cells #[.slice (some ⟨g0, 0, none⟩) n cp0, .slice (some ⟨g1, 0, none⟩) n2 cp1] 24)
  exact ⟨l, l2, h0.more hk, h1.more hk, blk_new _ _ _ rfl, h.kp.size, h.kp.trans hk (fun _ f _ => f), h.ap _ _ _ _ rfl rfl, o0, o1, by have := h0.lt; omega, by have := h1.lt; omega⟩
theorem LawS.on {wb w w' : World} {q n n2 g0 cp0 g1 cp1 : Nat} {l l2 : List Int} (h : LawS wb w q n n2 g0 cp0 g1 cp1 l l2) (hk : Keeps None w w') : LawS wb w' q n n2 g0 cp0 g1 cp1 l l2 :=
  ⟨h.r0.more hk, h.r1.more hk, blk_kept h.bk hk (fun f => f), h.lowq, h.kp.trans hk (fun _ f _ => f), h.ap, h.o0, h.o1, h.pq⟩
set_option maxHeartbeats 6400000 in
theorem scriptEncode_walk (a : Option Addr) (n c : Nat) (l : List Int) (a2 : Option Addr) (n2 c2 : Nat) (l2 : List Int) (w : World) (hP : PowIs w) (h : SeenN w a n l) (h2 : SeenN w a2 n2 l2) (ok : ∀ i ∈ l, okI i) (ok2 : ∀ i ∈ l2, okI i) (hc : n ≤ c) (hc2 : n2 ≤ c2) (hs : n * 8 ≤ 140737488351232 ∧ n2 * 8 ≤ 140737488351232) :
    Calls Tryd.prog 3 #[.agg #[.slice a n c, .slice a2 n2 c2]] w fun e w' => e = .returned (.bool true) ∧ Below w.heap.size w w' := by
  obtain ⟨hs1, hs2⟩ := hs
  have hbk : (w.alloc (.cells #[.slice a n c, .slice a2 n2 c2] 24)).heap[w.heap.size]? = some (.cells #[.slice a n c, .slice a2 n2 c2] 24 (0, 0)) := blk_new _ _ _ rfl
  have hk1 := keeps1 w (.cells #[.slice a n c, .slice a2 n2 c2] 24)
  have HS : Hid (SeenN w a n l ∧ SeenN w a2 n2 l2 ∧ (∀ i ∈ l, okI i) ∧ (∀ i ∈ l2, okI i) ∧ n ≤ c ∧ n2 ≤ c2 ∧ PowIs w) := ⟨h, h2, ok, ok2, hc, hc2, hP⟩
  clear h h2 ok ok2 hc hc2 hP
  go_enter Tryd.func3, Tryd.ntmps3
  go_upto_region 1 with fail
  obtain ⟨s0, hs0⟩ : ∃ s0, s0 = w.heap.size := ⟨_, rfl⟩
  rw [← hs0] at hbk ⊢
  generalize w.alloc (.cells #[.slice a n c, .slice a2 n2 c2] 24) = wb at *
  have c0 : wb.cell? ⟨s0, 0, none⟩ = some (.slice a n c) := (blk_cell hbk 0).trans rfl
  have c1 : wb.cell? ⟨s0, 1, none⟩ = some (.slice a2 n2 c2) := (blk_cell hbk 1).trans rfl
  have HB : Hid (wb.heap[s0]? = some (.cells #[.slice a n c, .slice a2 n2 c2] 24 (0, 0)) ∧ Keeps None w wb ∧ s0 = w.heap.size) := ⟨hbk, hk1, hs0⟩
  have hM : Hid (∀ wx, Keeps None wb wx → Calls Tryd.prog 5 #[.slice a n c] wx fun e w' => ∃ g cap, e = .returned (.slice (some ⟨g, 0, none⟩) n cap) ∧ (∃ l', Room w' wx.heap.size g n cap l' ∧ ∀ x ∈ l', okI x) ∧ Keeps None wx w') := fun wx hx => moved_ok a n c l wx ((HS.out.1.more hk1).more hx) hs1
  have hM2 : Hid (∀ wx, Keeps None wb wx → Calls Tryd.prog 5 #[.slice a2 n2 c2] wx fun e w' => ∃ g cap, e = .returned (.slice (some ⟨g, 0, none⟩) n2 cap) ∧ (∃ l', Room w' wx.heap.size g n2 cap l' ∧ ∀ x ∈ l', okI x) ∧ Keeps None wx w') := fun wx hx => moved_ok a2 n2 c2 l2 wx ((HS.out.2.1.more hk1).more hx) hs2
  have HLT : Hid (s0 < wb.heap.size) := blk_lt hbk
  clear hbk hk1 hs0
  go_cut [3] (fun s3 wx => ∃ (q g0 cp0 g1 cp1 : Nat) (y y2 : List Int), s3 = .pointer (some ⟨q, 0, none⟩) ∧ LawS wb wx q n n2 g0 cp0 g1 cp1 y y2)
  case first =>
    have hQ : LawR n n2 wb wb.drew none none none := LawR.start wb
    refine wp_region_held_drew (S := (fun w' => w'.cell? ⟨s0, 0, none⟩ = some (.slice a n c) ∧ w'.cell? ⟨s0, 1, none⟩ = some (.slice a2 n2 c2))) (by kernel_rfl) ?_ (fun hHeld => ?_)
    · (try dsimp only); first | with_reducible exact ⟨(hQ0.kp.trans (keeps1 _ _) (fun _ f _ => f)).cell c0 (fun f => f), (hQ0.kp.trans (keeps1 _ _) (fun _ f _ => f)).cell c1 (fun f => f)⟩ | with_reducible exact ⟨hQ.kp.cell c0 (fun f => f), hQ.kp.cell c1 (fun f => f)⟩ | with_reducible exact two_cells3 hne (hQ.kp.cell c0 (fun f => f)) (hQ.kp.cell c1 (fun f => f)) | exact ⟨hQ.kp.cell c0 (fun f => f), hQ.kp.cell c1 (fun f => f)⟩
    refine wpAnyH_take (i := 0) (oi := { dst := some 8, op := Op.fieldAddr 24 (Operand.tmp 1) 0, type := 0, pos := "law.go:140", after := #[], guard := none }) (v := ?_) rfl (by kernel_rfl) (by kernel_rfl) (by kernel_rfl) (fun _ _ _ h => h) (Or.inl ⟨by rfl, ?_⟩) (by assumption) ?_
    rotate_left
    · (intro wz hSw; (try dsimp only at hSw); go_simp; try with_reducible rfl)
    simp only [Act.put, List.setIfInBounds_toArray, List.set_cons_zero, List.set_cons_succ]
    refine wpAnyH_take (i := 1) (oi := { dst := some 9, op := Op.load 22 (Operand.tmp 8), type := 22, pos := "law.go:140", after := #[{ on := 0, ground := Ground.data }], guard := none }) (v := ?_) rfl (by kernel_rfl) (by kernel_rfl) (by kernel_rfl) (fun _ _ _ h => h) (Or.inl ⟨by rfl, ?_⟩) (by assumption) ?_
    rotate_left
    · (intro wz hSw; (try dsimp only at hSw); go_simp; try with_reducible rfl)
    simp only [Act.put, List.setIfInBounds_toArray, List.set_cons_zero, List.set_cons_succ]
    refine wpAnyH_take (i := 3) (oi := { dst := some 11, op := Op.fieldAddr 24 (Operand.tmp 1) 1, type := 0, pos := "law.go:140", after := #[], guard := none }) (v := ?_) rfl (by kernel_rfl) (by kernel_rfl) (by kernel_rfl) (fun _ _ _ h => h) (Or.inl ⟨by rfl, ?_⟩) (by assumption) ?_
    rotate_left
    · (intro wz hSw; (try dsimp only at hSw); go_simp; try with_reducible rfl)
    simp only [Act.put, List.setIfInBounds_toArray, List.set_cons_zero, List.set_cons_succ]
    refine wpAnyH_take (i := 4) (oi := { dst := some 12, op := Op.load 22 (Operand.tmp 11), type := 22, pos := "law.go:140", after := #[{ on := 3, ground := Ground.data }], guard := none }) (v := ?_) rfl (by kernel_rfl) (by kernel_rfl) (by kernel_rfl) (fun _ _ _ h => h) (Or.inl ⟨by rfl, ?_⟩) (by assumption) ?_
    rotate_left
    · (intro wz hSw; (try dsimp only at hSw); go_simp; try with_reducible rfl)
    simp only [Act.put, List.setIfInBounds_toArray, List.set_cons_zero, List.set_cons_succ]
    refine wpAnyH_ready (rs := [2, 7]) (by kernel_rfl) (by simp) ?_
    refine AllReadyH.cons (o := { dst := some 10, op := Op.call { callee := Callee.value (Operand.func 5), args := #[Operand.tmp 9], argTypes := #[22] }, type := 22, pos := "law.go:140", after := #[{ on := 1, ground := Ground.data }], guard := none }) rfl (fun K hK => ?_) ?_
    · go_simp
      refine (hM.out _ hQ.kp).mono ?_
      rintro _ w5 ⟨g0, cp0, rfl, hr5, hk5⟩
      replace hQ := hQ.put0 hr5 hk5
      refine hK.out _ _ ?_ (fun hHeld2 => ?_)
      · (try dsimp only); first | with_reducible exact ⟨(hQ0.kp.trans (keeps1 _ _) (fun _ f _ => f)).cell c0 (fun f => f), (hQ0.kp.trans (keeps1 _ _) (fun _ f _ => f)).cell c1 (fun f => f)⟩ | with_reducible exact ⟨hQ.kp.cell c0 (fun f => f), hQ.kp.cell c1 (fun f => f)⟩ | with_reducible exact two_cells3 hne (hQ.kp.cell c0 (fun f => f)) (hQ.kp.cell c1 (fun f => f)) | exact ⟨hQ.kp.cell c0 (fun f => f), hQ.kp.cell c1 (fun f => f)⟩
      clear hK K
      try simp only [Act.put, List.setIfInBounds_toArray, List.set_cons_zero, List.set_cons_succ]
      refine wpAnyH_ready (rs := [5, 7]) (by kernel_rfl) (by simp) ?_
      refine AllReadyH.cons (o := { dst := some 13, op := Op.call { callee := Callee.value (Operand.func 5), args := #[Operand.tmp 12], argTypes := #[22] }, type := 22, pos := "law.go:140", after := #[{ on := 4, ground := Ground.data }, { on := 2, ground := Ground.chain }], guard := none }) rfl (fun K hK => ?_) ?_
      · go_simp
        refine (hM2.out _ hQ.kp).mono ?_
        rintro _ w6 ⟨g1, cp1, rfl, hr6, hk6⟩
        replace hQ := hQ.put1 hr6 hk6
        first | (have r60 : w6.cell? ⟨wb.heap.size, 0, none⟩ = some (Value.slice none 0 0) := (blk_cell (hQ.q _ rfl).1 0).trans rfl; have r61 : w6.cell? ⟨wb.heap.size, 1, none⟩ = some (Value.slice none 0 0) := (blk_cell (hQ.q _ rfl).1 1).trans rfl; have f60 : w6.frozen? ⟨wb.heap.size, 0, none⟩ = false := blk_free (hQ.q _ rfl).1 0; have f61 : w6.frozen? ⟨wb.heap.size, 1, none⟩ = false := blk_free (hQ.q _ rfl).1 1; have hne : s0 ≠ wb.heap.size := fun e => Nat.not_le_of_lt HLT.out (e ▸ (hQ.q _ rfl).2)) | (have r60 : w6.cell? ⟨w5.heap.size, 0, none⟩ = some (Value.slice none 0 0) := (blk_cell (hQ.q _ rfl).1 0).trans rfl; have r61 : w6.cell? ⟨w5.heap.size, 1, none⟩ = some (Value.slice none 0 0) := (blk_cell (hQ.q _ rfl).1 1).trans rfl; have f60 : w6.frozen? ⟨w5.heap.size, 0, none⟩ = false := blk_free (hQ.q _ rfl).1 0; have f61 : w6.frozen? ⟨w5.heap.size, 1, none⟩ = false := blk_free (hQ.q _ rfl).1 1; have hne : s0 ≠ w5.heap.size := fun e => Nat.not_le_of_lt HLT.out (e ▸ (hQ.q _ rfl).2)) | skip
        refine hK.out _ _ ?_ (fun hHeld2 => ?_)
        · (try dsimp only); first | with_reducible exact ⟨(hQ0.kp.trans (keeps1 _ _) (fun _ f _ => f)).cell c0 (fun f => f), (hQ0.kp.trans (keeps1 _ _) (fun _ f _ => f)).cell c1 (fun f => f)⟩ | with_reducible exact ⟨hQ.kp.cell c0 (fun f => f), hQ.kp.cell c1 (fun f => f)⟩ | with_reducible exact two_cells3 hne (hQ.kp.cell c0 (fun f => f)) (hQ.kp.cell c1 (fun f => f)) | exact ⟨hQ.kp.cell c0 (fun f => f), hQ.kp.cell c1 (fun f => f)⟩
        clear hK K
        try simp only [Act.put, List.setIfInBounds_toArray, List.set_cons_zero, List.set_cons_succ]
        refine wpAnyH_take (i := 6) (oi := { dst := some 14, op := Op.build 24 #[(0, Operand.tmp 10), (1, Operand.tmp 13)], type := 24, pos := "law.go:140", after := #[{ on := 2, ground := Ground.data }, { on := 5, ground := Ground.data }], guard := none }) (v := ?_) rfl (by kernel_rfl) (by kernel_rfl) (by kernel_rfl) (fun _ _ _ h => h) (Or.inl ⟨by rfl, ?_⟩) (by assumption) ?_
        rotate_left
        · (intro wz hSw; (try dsimp only at hSw); go_simp; try with_reducible rfl)
        simp only [Act.put, List.setIfInBounds_toArray, List.set_cons_zero, List.set_cons_succ]
        refine wpAnyH_ready (rs := [7]) (by kernel_rfl) (by simp) ?_
        refine AllReadyH.cons (o := { dst := some 3, op := Op.alloc 24, type := 0, pos := "law.go:140", after := #[], guard := none }) rfl (fun K hK => ?_) ?_
        · go_simp
          have hQ0 := hQ
          replace hQ := hQ.new
          refine hK.out _ _ ?_ (fun hHeld2 => ?_)
          · (try dsimp only); first | with_reducible exact ⟨(hQ0.kp.trans (keeps1 _ _) (fun _ f _ => f)).cell c0 (fun f => f), (hQ0.kp.trans (keeps1 _ _) (fun _ f _ => f)).cell c1 (fun f => f)⟩ | with_reducible exact ⟨hQ.kp.cell c0 (fun f => f), hQ.kp.cell c1 (fun f => f)⟩ | with_reducible exact two_cells3 hne (hQ.kp.cell c0 (fun f => f)) (hQ.kp.cell c1 (fun f => f)) | exact ⟨hQ.kp.cell c0 (fun f => f), hQ.kp.cell c1 (fun f => f)⟩
          clear hK K
          try simp only [Act.put, List.setIfInBounds_toArray, List.set_cons_zero, List.set_cons_succ]
          refine wpAnyH_ready (rs := [8]) (by kernel_rfl) (by simp) ?_
          refine AllReadyH.cons (o := { dst := none, op := Op.store 24 (Operand.tmp 3) (Operand.tmp 14), type := 0, pos := "law.go:140", after := #[{ on := 7, ground := Ground.data }, { on := 6, ground := Ground.data }, { on := 5, ground := Ground.chain }, { on := 0, ground := Ground.phase }, { on := 1, ground := Ground.phase }, { on := 2, ground := Ground.phase }, { on := 3, ground := Ground.phase }, { on := 4, ground := Ground.phase }, { on := 5, ground := Ground.phase }, { on := 6, ground := Ground.phase }, { on := 7, ground := Ground.phase }], guard := none }) rfl (fun K hK => ?_) ?_
          · go_simp
            refine hK.out _ _ ?_ (fun hHeld2 => ?_)
            · (try dsimp only); first | with_reducible exact ⟨(hQ0.kp.trans (keeps1 _ _) (fun _ f _ => f)).cell c0 (fun f => f), (hQ0.kp.trans (keeps1 _ _) (fun _ f _ => f)).cell c1 (fun f => f)⟩ | with_reducible exact ⟨hQ.kp.cell c0 (fun f => f), hQ.kp.cell c1 (fun f => f)⟩ | with_reducible exact two_cells3 hne (hQ.kp.cell c0 (fun f => f)) (hQ.kp.cell c1 (fun f => f)) | exact ⟨hQ.kp.cell c0 (fun f => f), hQ.kp.cell c1 (fun f => f)⟩
            clear hK K
            try simp only [Act.put, List.setIfInBounds_toArray, List.set_cons_zero, List.set_cons_succ]
            refine wpAnyH_done (by kernel_rfl) ?_ _
            go_wp2_with fail
            go_meet
            first | (obtain ⟨y, y2, hst⟩ := hQ.stored; exact ⟨_, _, _, _, _, y, y2, rfl, hst⟩) | (obtain ⟨y, y2, hst⟩ := hQ0.full; exact ⟨_, _, _, _, _, y, y2, rfl, hst⟩)
          exact AllReadyH.nil
        exact AllReadyH.nil
      refine AllReadyH.cons (o := { dst := some 3, op := Op.alloc 24, type := 0, pos := "law.go:140", after := #[], guard := none }) rfl (fun K hK => ?_) ?_
      · go_simp
        have hQ0 := hQ
        replace hQ := hQ.new
        refine hK.out _ _ ?_ (fun hHeld2 => ?_)
        · (try dsimp only); first | with_reducible exact ⟨(hQ0.kp.trans (keeps1 _ _) (fun _ f _ => f)).cell c0 (fun f => f), (hQ0.kp.trans (keeps1 _ _) (fun _ f _ => f)).cell c1 (fun f => f)⟩ | with_reducible exact ⟨hQ.kp.cell c0 (fun f => f), hQ.kp.cell c1 (fun f => f)⟩ | with_reducible exact two_cells3 hne (hQ.kp.cell c0 (fun f => f)) (hQ.kp.cell c1 (fun f => f)) | exact ⟨hQ.kp.cell c0 (fun f => f), hQ.kp.cell c1 (fun f => f)⟩
        clear hK K
        try simp only [Act.put, List.setIfInBounds_toArray, List.set_cons_zero, List.set_cons_succ]
        refine wpAnyH_ready (rs := [5]) (by kernel_rfl) (by simp) ?_
        refine AllReadyH.cons (o := { dst := some 13, op := Op.call { callee := Callee.value (Operand.func 5), args := #[Operand.tmp 12], argTypes := #[22] }, type := 22, pos := "law.go:140", after := #[{ on := 4, ground := Ground.data }, { on := 2, ground := Ground.chain }], guard := none }) rfl (fun K hK => ?_) ?_
        · go_simp
          refine (hM2.out _ hQ.kp).mono ?_
          rintro _ w6 ⟨g1, cp1, rfl, hr6, hk6⟩
          replace hQ := hQ.put1 hr6 hk6
          first | (have r60 : w6.cell? ⟨wb.heap.size, 0, none⟩ = some (Value.slice none 0 0) := (blk_cell (hQ.q _ rfl).1 0).trans rfl; have r61 : w6.cell? ⟨wb.heap.size, 1, none⟩ = some (Value.slice none 0 0) := (blk_cell (hQ.q _ rfl).1 1).trans rfl; have f60 : w6.frozen? ⟨wb.heap.size, 0, none⟩ = false := blk_free (hQ.q _ rfl).1 0; have f61 : w6.frozen? ⟨wb.heap.size, 1, none⟩ = false := blk_free (hQ.q _ rfl).1 1; have hne : s0 ≠ wb.heap.size := fun e => Nat.not_le_of_lt HLT.out (e ▸ (hQ.q _ rfl).2)) | (have r60 : w6.cell? ⟨w5.heap.size, 0, none⟩ = some (Value.slice none 0 0) := (blk_cell (hQ.q _ rfl).1 0).trans rfl; have r61 : w6.cell? ⟨w5.heap.size, 1, none⟩ = some (Value.slice none 0 0) := (blk_cell (hQ.q _ rfl).1 1).trans rfl; have f60 : w6.frozen? ⟨w5.heap.size, 0, none⟩ = false := blk_free (hQ.q _ rfl).1 0; have f61 : w6.frozen? ⟨w5.heap.size, 1, none⟩ = false := blk_free (hQ.q _ rfl).1 1; have hne : s0 ≠ w5.heap.size := fun e => Nat.not_le_of_lt HLT.out (e ▸ (hQ.q _ rfl).2)) | skip
          refine hK.out _ _ ?_ (fun hHeld2 => ?_)
          · (try dsimp only); first | with_reducible exact ⟨(hQ0.kp.trans (keeps1 _ _) (fun _ f _ => f)).cell c0 (fun f => f), (hQ0.kp.trans (keeps1 _ _) (fun _ f _ => f)).cell c1 (fun f => f)⟩ | with_reducible exact ⟨hQ.kp.cell c0 (fun f => f), hQ.kp.cell c1 (fun f => f)⟩ | with_reducible exact two_cells3 hne (hQ.kp.cell c0 (fun f => f)) (hQ.kp.cell c1 (fun f => f)) | exact ⟨hQ.kp.cell c0 (fun f => f), hQ.kp.cell c1 (fun f => f)⟩
          clear hK K
          try simp only [Act.put, List.setIfInBounds_toArray, List.set_cons_zero, List.set_cons_succ]
          refine wpAnyH_take (i := 6) (oi := { dst := some 14, op := Op.build 24 #[(0, Operand.tmp 10), (1, Operand.tmp 13)], type := 24, pos := "law.go:140", after := #[{ on := 2, ground := Ground.data }, { on := 5, ground := Ground.data }], guard := none }) (v := ?_) rfl (by kernel_rfl) (by kernel_rfl) (by kernel_rfl) (fun _ _ _ h => h) (Or.inl ⟨by rfl, ?_⟩) (by assumption) ?_
          rotate_left
          · (intro wz hSw; (try dsimp only at hSw); go_simp; try with_reducible rfl)
          simp only [Act.put, List.setIfInBounds_toArray, List.set_cons_zero, List.set_cons_succ]
          refine wpAnyH_ready (rs := [8]) (by kernel_rfl) (by simp) ?_
          refine AllReadyH.cons (o := { dst := none, op := Op.store 24 (Operand.tmp 3) (Operand.tmp 14), type := 0, pos := "law.go:140", after := #[{ on := 7, ground := Ground.data }, { on := 6, ground := Ground.data }, { on := 5, ground := Ground.chain }, { on := 0, ground := Ground.phase }, { on := 1, ground := Ground.phase }, { on := 2, ground := Ground.phase }, { on := 3, ground := Ground.phase }, { on := 4, ground := Ground.phase }, { on := 5, ground := Ground.phase }, { on := 6, ground := Ground.phase }, { on := 7, ground := Ground.phase }], guard := none }) rfl (fun K hK => ?_) ?_
          · go_simp
            refine hK.out _ _ ?_ (fun hHeld2 => ?_)
            · (try dsimp only); first | with_reducible exact ⟨(hQ0.kp.trans (keeps1 _ _) (fun _ f _ => f)).cell c0 (fun f => f), (hQ0.kp.trans (keeps1 _ _) (fun _ f _ => f)).cell c1 (fun f => f)⟩ | with_reducible exact ⟨hQ.kp.cell c0 (fun f => f), hQ.kp.cell c1 (fun f => f)⟩ | with_reducible exact two_cells3 hne (hQ.kp.cell c0 (fun f => f)) (hQ.kp.cell c1 (fun f => f)) | exact ⟨hQ.kp.cell c0 (fun f => f), hQ.kp.cell c1 (fun f => f)⟩
            clear hK K
            try simp only [Act.put, List.setIfInBounds_toArray, List.set_cons_zero, List.set_cons_succ]
            refine wpAnyH_done (by kernel_rfl) ?_ _
            go_wp2_with fail
            go_meet
            first | (obtain ⟨y, y2, hst⟩ := hQ.stored; exact ⟨_, _, _, _, _, y, y2, rfl, hst⟩) | (obtain ⟨y, y2, hst⟩ := hQ0.full; exact ⟨_, _, _, _, _, y, y2, rfl, hst⟩)
          exact AllReadyH.nil
        exact AllReadyH.nil
      exact AllReadyH.nil
    refine AllReadyH.cons (o := { dst := some 3, op := Op.alloc 24, type := 0, pos := "law.go:140", after := #[], guard := none }) rfl (fun K hK => ?_) ?_
    · go_simp
      have hQ0 := hQ
      replace hQ := hQ.new
      refine hK.out _ _ ?_ (fun hHeld2 => ?_)
      · (try dsimp only); first | with_reducible exact ⟨(hQ0.kp.trans (keeps1 _ _) (fun _ f _ => f)).cell c0 (fun f => f), (hQ0.kp.trans (keeps1 _ _) (fun _ f _ => f)).cell c1 (fun f => f)⟩ | with_reducible exact ⟨hQ.kp.cell c0 (fun f => f), hQ.kp.cell c1 (fun f => f)⟩ | with_reducible exact two_cells3 hne (hQ.kp.cell c0 (fun f => f)) (hQ.kp.cell c1 (fun f => f)) | exact ⟨hQ.kp.cell c0 (fun f => f), hQ.kp.cell c1 (fun f => f)⟩
      clear hK K
      try simp only [Act.put, List.setIfInBounds_toArray, List.set_cons_zero, List.set_cons_succ]
      refine wpAnyH_ready (rs := [2]) (by kernel_rfl) (by simp) ?_
      refine AllReadyH.cons (o := { dst := some 10, op := Op.call { callee := Callee.value (Operand.func 5), args := #[Operand.tmp 9], argTypes := #[22] }, type := 22, pos := "law.go:140", after := #[{ on := 1, ground := Ground.data }], guard := none }) rfl (fun K hK => ?_) ?_
      · go_simp
        refine (hM.out _ hQ.kp).mono ?_
        rintro _ w5 ⟨g0, cp0, rfl, hr5, hk5⟩
        replace hQ := hQ.put0 hr5 hk5
        refine hK.out _ _ ?_ (fun hHeld2 => ?_)
        · (try dsimp only); first | with_reducible exact ⟨(hQ0.kp.trans (keeps1 _ _) (fun _ f _ => f)).cell c0 (fun f => f), (hQ0.kp.trans (keeps1 _ _) (fun _ f _ => f)).cell c1 (fun f => f)⟩ | with_reducible exact ⟨hQ.kp.cell c0 (fun f => f), hQ.kp.cell c1 (fun f => f)⟩ | with_reducible exact two_cells3 hne (hQ.kp.cell c0 (fun f => f)) (hQ.kp.cell c1 (fun f => f)) | exact ⟨hQ.kp.cell c0 (fun f => f), hQ.kp.cell c1 (fun f => f)⟩
        clear hK K
        try simp only [Act.put, List.setIfInBounds_toArray, List.set_cons_zero, List.set_cons_succ]
        refine wpAnyH_ready (rs := [5]) (by kernel_rfl) (by simp) ?_
        refine AllReadyH.cons (o := { dst := some 13, op := Op.call { callee := Callee.value (Operand.func 5), args := #[Operand.tmp 12], argTypes := #[22] }, type := 22, pos := "law.go:140", after := #[{ on := 4, ground := Ground.data }, { on := 2, ground := Ground.chain }], guard := none }) rfl (fun K hK => ?_) ?_
        · go_simp
          refine (hM2.out _ hQ.kp).mono ?_
          rintro _ w6 ⟨g1, cp1, rfl, hr6, hk6⟩
          replace hQ := hQ.put1 hr6 hk6
          first | (have r60 : w6.cell? ⟨wb.heap.size, 0, none⟩ = some (Value.slice none 0 0) := (blk_cell (hQ.q _ rfl).1 0).trans rfl; have r61 : w6.cell? ⟨wb.heap.size, 1, none⟩ = some (Value.slice none 0 0) := (blk_cell (hQ.q _ rfl).1 1).trans rfl; have f60 : w6.frozen? ⟨wb.heap.size, 0, none⟩ = false := blk_free (hQ.q _ rfl).1 0; have f61 : w6.frozen? ⟨wb.heap.size, 1, none⟩ = false := blk_free (hQ.q _ rfl).1 1; have hne : s0 ≠ wb.heap.size := fun e => Nat.not_le_of_lt HLT.out (e ▸ (hQ.q _ rfl).2)) | (have r60 : w6.cell? ⟨w5.heap.size, 0, none⟩ = some (Value.slice none 0 0) := (blk_cell (hQ.q _ rfl).1 0).trans rfl; have r61 : w6.cell? ⟨w5.heap.size, 1, none⟩ = some (Value.slice none 0 0) := (blk_cell (hQ.q _ rfl).1 1).trans rfl; have f60 : w6.frozen? ⟨w5.heap.size, 0, none⟩ = false := blk_free (hQ.q _ rfl).1 0; have f61 : w6.frozen? ⟨w5.heap.size, 1, none⟩ = false := blk_free (hQ.q _ rfl).1 1; have hne : s0 ≠ w5.heap.size := fun e => Nat.not_le_of_lt HLT.out (e ▸ (hQ.q _ rfl).2)) | skip
          refine hK.out _ _ ?_ (fun hHeld2 => ?_)
          · (try dsimp only); first | with_reducible exact ⟨(hQ0.kp.trans (keeps1 _ _) (fun _ f _ => f)).cell c0 (fun f => f), (hQ0.kp.trans (keeps1 _ _) (fun _ f _ => f)).cell c1 (fun f => f)⟩ | with_reducible exact ⟨hQ.kp.cell c0 (fun f => f), hQ.kp.cell c1 (fun f => f)⟩ | with_reducible exact two_cells3 hne (hQ.kp.cell c0 (fun f => f)) (hQ.kp.cell c1 (fun f => f)) | exact ⟨hQ.kp.cell c0 (fun f => f), hQ.kp.cell c1 (fun f => f)⟩
          clear hK K
          try simp only [Act.put, List.setIfInBounds_toArray, List.set_cons_zero, List.set_cons_succ]
          refine wpAnyH_take (i := 6) (oi := { dst := some 14, op := Op.build 24 #[(0, Operand.tmp 10), (1, Operand.tmp 13)], type := 24, pos := "law.go:140", after := #[{ on := 2, ground := Ground.data }, { on := 5, ground := Ground.data }], guard := none }) (v := ?_) rfl (by kernel_rfl) (by kernel_rfl) (by kernel_rfl) (fun _ _ _ h => h) (Or.inl ⟨by rfl, ?_⟩) (by assumption) ?_
          rotate_left
          · (intro wz hSw; (try dsimp only at hSw); go_simp; try with_reducible rfl)
          simp only [Act.put, List.setIfInBounds_toArray, List.set_cons_zero, List.set_cons_succ]
          refine wpAnyH_ready (rs := [8]) (by kernel_rfl) (by simp) ?_
          refine AllReadyH.cons (o := { dst := none, op := Op.store 24 (Operand.tmp 3) (Operand.tmp 14), type := 0, pos := "law.go:140", after := #[{ on := 7, ground := Ground.data }, { on := 6, ground := Ground.data }, { on := 5, ground := Ground.chain }, { on := 0, ground := Ground.phase }, { on := 1, ground := Ground.phase }, { on := 2, ground := Ground.phase }, { on := 3, ground := Ground.phase }, { on := 4, ground := Ground.phase }, { on := 5, ground := Ground.phase }, { on := 6, ground := Ground.phase }, { on := 7, ground := Ground.phase }], guard := none }) rfl (fun K hK => ?_) ?_
          · go_simp
            refine hK.out _ _ ?_ (fun hHeld2 => ?_)
            · (try dsimp only); first | with_reducible exact ⟨(hQ0.kp.trans (keeps1 _ _) (fun _ f _ => f)).cell c0 (fun f => f), (hQ0.kp.trans (keeps1 _ _) (fun _ f _ => f)).cell c1 (fun f => f)⟩ | with_reducible exact ⟨hQ.kp.cell c0 (fun f => f), hQ.kp.cell c1 (fun f => f)⟩ | with_reducible exact two_cells3 hne (hQ.kp.cell c0 (fun f => f)) (hQ.kp.cell c1 (fun f => f)) | exact ⟨hQ.kp.cell c0 (fun f => f), hQ.kp.cell c1 (fun f => f)⟩
            clear hK K
            try simp only [Act.put, List.setIfInBounds_toArray, List.set_cons_zero, List.set_cons_succ]
            refine wpAnyH_done (by kernel_rfl) ?_ _
            go_wp2_with fail
            go_meet
            first | (obtain ⟨y, y2, hst⟩ := hQ.stored; exact ⟨_, _, _, _, _, y, y2, rfl, hst⟩) | (obtain ⟨y, y2, hst⟩ := hQ0.full; exact ⟨_, _, _, _, _, y, y2, rfl, hst⟩)
          exact AllReadyH.nil
        exact AllReadyH.nil
      exact AllReadyH.nil
    exact AllReadyH.nil
  case rest =>
    obtain ⟨q, g0, cp0, g1, cp1, y, y2, rfl, hL⟩ := hcut
    have HL : Hid (LawS wb wc q n n2 g0 cp0 g1 cp1 y y2) := hL
    have HW : Hid (∀ wx, Keeps None wb wx → SeenN wx a n l ∧ SeenN wx a2 n2 l2 ∧ PowIs wx ∧ wx.heap[s0]? = some (.cells #[.slice a n c, .slice a2 n2 c2] 24 (0, 0)) ∧ Below w.heap.size w wx) := fun wx hx => by
      have hk := HB.out.2.1.trans hx (fun _ f _ => f)
      have hb := hk.below w.heap.size (Nat.le_refl _) (fun _ f => f.elim)
      exact ⟨HS.out.1.more hk, HS.out.2.1.more hk, HS.out.2.2.2.2.2.2.below hb HS.out.2.2.2.2.2.2.pos, blk_kept HB.out.1 hx (fun f => f), hb⟩
    have hF0 := hL.r0.fits
    have hF1 := hL.r1.fits
    have d0 : wc.cell? ⟨q, 0, none⟩ = some (.slice (some ⟨g0, 0, none⟩) n cp0) := (blk_cell hL.bk 0).trans rfl
    have d1 : wc.cell? ⟨q, 1, none⟩ = some (.slice (some ⟨g1, 0, none⟩) n2 cp1) := (blk_cell hL.bk 1).trans rfl
    have HG : Hid (wb.heap.size ≤ g0 ∧ wb.heap.size ≤ g1 ∧ wb.heap.size ≤ q ∧ g0 ≠ g1 ∧ g0 ≠ q ∧ g1 ≠ q) := ⟨hL.r0.low, hL.r1.low, hL.lowq, hL.ap, hL.pq.1, hL.pq.2⟩
    clear hL hM hM2
    go_wp2_with fail
    refine (enc_any _ _ n cp0 n2 cp1 y y2 _ HL.out.r0.seen HL.out.r1.seen (by omega) (by omega) HL.out.o0 HL.out.o1 (HW.out _ HL.out.kp).2.2.1).mono ?_
    rintro e w3 ⟨rfl, hb3⟩
    have HL3 : Hid (LawS wb w3 q n n2 g0 cp0 g1 cp1 y y2) := HL.out.on (below_keeps hb3)
    have d0 : w3.cell? ⟨q, 0, none⟩ = some (.slice (some ⟨g0, 0, none⟩) n cp0) := (blk_cell HL3.out.bk 0).trans rfl
    have e0 : w3.cell? ⟨s0, 0, none⟩ = some (.slice a n c) := (blk_cell (HW.out _ HL3.out.kp).2.2.2.1 0).trans rfl
    clear hb3 HL
    go_wp2_with fail
    refine (back_any wb.heap.size g0 n cp0 a c l y _ (HW.out _ HL3.out.kp).1 HL3.out.r0 (fun h0 x hx => by have := (HS.out.1.more HB.out.2.1).lt x hx h0; have := HG.out; omega) hs1).mono ?_
    rintro e w4 ⟨rfl, hR4, hk4⟩
    have HL4 : Hid (LawS wb w4 q n n2 g0 cp0 g1 cp1 l y2) := by
      have hG := HG.out
      exact ⟨hR4, HL3.out.r1.kept hk4 (fun e => hG.2.2.2.1 e.symm), blk_kept HL3.out.bk hk4 (fun e => hG.2.2.2.2.1 e.symm), HL3.out.lowq, HL3.out.kp.trans hk4 (fun i e hi => by omega), HL3.out.ap, HS.out.2.2.1, HL3.out.o1, HL3.out.pq⟩
    have d1 : w4.cell? ⟨q, 1, none⟩ = some (.slice (some ⟨g1, 0, none⟩) n2 cp1) := (blk_cell HL4.out.bk 1).trans rfl
    have e1 : w4.cell? ⟨s0, 1, none⟩ = some (.slice a2 n2 c2) := (blk_cell (HW.out _ HL4.out.kp).2.2.2.1 1).trans rfl
    clear hR4 hk4 HL3
    go_wp2_with fail
    refine (back_any wb.heap.size g1 n2 cp1 a2 c2 l2 y2 _ (HW.out _ HL4.out.kp).2.1 HL4.out.r1 (fun h0 x hx => by have := (HS.out.2.1.more HB.out.2.1).lt x hx h0; have := HG.out; omega) hs2).mono ?_
    rintro e w5 ⟨rfl, hR5, hk5⟩
    have HL5 : Hid (LawS wb w5 q n n2 g0 cp0 g1 cp1 l l2) := by
      have hG := HG.out
      exact ⟨HL4.out.r0.kept hk5 (fun e => hG.2.2.2.1 e), hR5, blk_kept HL4.out.bk hk5 (fun e => hG.2.2.2.2.2 e.symm), HL4.out.lowq, HL4.out.kp.trans hk5 (fun i e hi => by omega), HL4.out.ap, HL4.out.o0, HS.out.2.2.2.1, HL4.out.pq⟩
    have d0 : w5.cell? ⟨q, 0, none⟩ = some (.slice (some ⟨g0, 0, none⟩) n cp0) := (blk_cell HL5.out.bk 0).trans rfl
    have d1 : w5.cell? ⟨q, 1, none⟩ = some (.slice (some ⟨g1, 0, none⟩) n2 cp1) := (blk_cell HL5.out.bk 1).trans rfl
    clear hR5 hk5 HL4
    go_wp2_with fail
    refine (enc_any _ _ n cp0 n2 cp1 l l2 _ HL5.out.r0.seen HL5.out.r1.seen (by omega) (by omega) HL5.out.o0 HL5.out.o1 (HW.out _ HL5.out.kp).2.2.1).mono ?_
    rintro e w6 ⟨rfl, hb6⟩
    have HL6 : Hid (LawS wb w6 q n n2 g0 cp0 g1 cp1 l l2) := HL5.out.on (below_keeps hb6)
    have e0 : w6.cell? ⟨s0, 0, none⟩ = some (.slice a n c) := (blk_cell (HW.out _ HL6.out.kp).2.2.2.1 0).trans rfl
    have e1 : w6.cell? ⟨s0, 1, none⟩ = some (.slice a2 n2 c2) := (blk_cell (HW.out _ HL6.out.kp).2.2.2.1 1).trans rfl
    clear hb6 HL5
    go_wp2_with fail
    refine (renc_any a a2 n c n2 c2 l l2 _ (HW.out _ HL6.out.kp).1 (HW.out _ HL6.out.kp).2.1 HS.out.2.2.1 HS.out.2.2.2.1).mono ?_
    rintro e w7 ⟨rfl, hb7⟩
    have HL7 : Hid (LawS wb w7 q n n2 g0 cp0 g1 cp1 l l2) := HL6.out.on (below_keeps hb7)
    have d0 : w7.cell? ⟨q, 0, none⟩ = some (.slice (some ⟨g0, 0, none⟩) n cp0) := (blk_cell HL7.out.bk 0).trans rfl
    have d1 : w7.cell? ⟨q, 1, none⟩ = some (.slice (some ⟨g1, 0, none⟩) n2 cp1) := (blk_cell HL7.out.bk 1).trans rfl
    have e0 : w7.cell? ⟨s0, 0, none⟩ = some (.slice a n c) := (blk_cell (HW.out _ HL7.out.kp).2.2.2.1 0).trans rfl
    have e1 : w7.cell? ⟨s0, 1, none⟩ = some (.slice a2 n2 c2) := (blk_cell (HW.out _ HL7.out.kp).2.2.2.1 1).trans rfl
    clear hb7 HL6
    generalize (⟨(encT l l2).toArray⟩ : ByteArray) = tx
    generalize encE l l2 = ex
    have q1 : (tx.toList == tx.toList) = true := by simp
    have q2 : (ex == ex) = true := by simp
    go_wp2_with fail
    refine (sameScript_any _ _ a a2 n n2 cp0 cp1 c c2 l l2 _ HL7.out.r0.seen HL7.out.r1.seen (HW.out _ HL7.out.kp).1 (HW.out _ HL7.out.kp).2.1 hs1 hs2).mono ?_
    rintro e w8 ⟨rfl, hk8⟩
    have HL8 : Hid (LawS wb w8 q n n2 g0 cp0 g1 cp1 l l2) := HL7.out.on hk8
    have d0 : w8.cell? ⟨q, 0, none⟩ = some (.slice (some ⟨g0, 0, none⟩) n cp0) := (blk_cell HL8.out.bk 0).trans rfl
    have d1 : w8.cell? ⟨q, 1, none⟩ = some (.slice (some ⟨g1, 0, none⟩) n2 cp1) := (blk_cell HL8.out.bk 1).trans rfl
    clear hk8 HL7
    go_wp2_with fail
    refine (marked_any _ g0 n cp0 l _ HL8.out.r0 hs1).mono ?_
    rintro e wz ⟨rfl, hw⟩
    have hw2 := hw.symm
    subst hw2
    clear hw
    go_wp2_with fail
    refine (marked_any _ g1 n2 cp1 l2 _ HL8.out.r1 hs2).mono ?_
    rintro e wz ⟨rfl, hw⟩
    have hw2 := hw.symm
    subst hw2
    clear hw
    go_wp2_with fail
    go_ret
    exact ⟨rfl, (HW.out _ HL8.out.kp).2.2.2.2⟩
end Go.Proofs.YtbeblgeiafkniaaDoor
