import Derived.Test.YtbeblgeiafkniaaDoorScRTold2
/-! The document's Encode. -/
namespace Go.Proofs.YtbeblgeiafkniaaDoor
set_option linter.unusedVariables false
set_option maxRecDepth 20000
open Go.RowKit Go.HeapKit Go.Sc

structure REI (w wk : World) (p : Nat) (a a2 : Option Addr) (n c n2 c2 : Nat) (l l2 : List Int) (v : Value) (acc : List UInt8) : Prop where
  r1 : RtI wk wk (p + 1) a n l v acc
  r2 : RtI wk wk (p + 1) a2 n2 l2 v acc
  box : wk.heap[p]? = some (.cells #[.slice a n c, .slice a2 n2 c2] 24 (0, 0))
  bel : Below p w wk
theorem RtI.next {w wr w' : World} {B : Nat} {a : Option Addr} {n : Nat} {l : List Int} {v v' : Value} {acc acc' : List UInt8} (h : RtI w wr B a n l v acc) (hb : Below B wr w') (hr : IsBy w' B v' acc') : RtI w' w' B a n l v' acc' :=
  ⟨h.seen.below hb h.low, h.low, h.ok, hr, Below.refl _ _, Nat.le_trans h.up hb.size⟩
theorem REI.on {w wk w' : World} {p : Nat} {a a2 : Option Addr} {n c n2 c2 : Nat} {l l2 : List Int} {v v' : Value} {acc acc' : List UInt8} (h : REI w wk p a a2 n c n2 c2 l l2 v acc) (hb : Below (p + 1) wk w') (hr : IsBy w' (p + 1) v' acc') : REI w w' p a a2 n c n2 c2 l l2 v' acc' :=
  ⟨h.r1.next hb hr, h.r2.next hb hr, (hb.block p (by omega)).trans h.box, h.bel.trans (hb.mono (by omega))⟩
theorem tell_mono : ∀ (n : Nat) (b : List UInt8) (l : List Int), b.length ≤ (tell n b l).length
  | 0, b, l => Nat.le_refl _
  | n + 1, b, [] => Nat.le_refl _
  | n + 1, b, x :: t => by
    unfold tell
    split
    · exact Nat.le_refl _
    · have := tell_mono n (b ++ rowB x (eqN x (x :: t))) ((x :: t).drop (eqN x (x :: t)))
      rw [List.length_append] at this
      omega
theorem encB_ne (p d : List Int) : encB p d ≠ [] := by
  intro h
  have h1 := tell_mono d.length (tellV picksW p ++ drawsW) d
  have h2 : (tell d.length (tellV picksW p ++ drawsW) d).length = 0 := by
    have := congrArg List.length h
    exact this
  rw [List.length_append, show drawsW.length = 6 from rfl] at h1
  omega
section
variable (a a2 : Option Addr) (n c n2 c2 : Nat) (l l2 : List Int) (w : World) (h : SeenN w a n l) (h2 : SeenN w a2 n2 l2) (ok : ∀ x ∈ l, okX x) (ok2 : ∀ x ∈ l2, okX x)
include h h2 ok ok2
set_option maxHeartbeats 3200000 in
theorem renc_any :
    Calls Tryd.prog 8 #[.agg #[.slice a n c, .slice a2 n2 c2]] w fun e w' => e = .returned (.tuple #[.string ⟨(encT l l2).toArray⟩, .int .i64 (encE l l2)]) ∧ Below w.heap.size w w' := by
  have hl := h.len
  have hl2 := h2.len
  by_cases hbig : 1048576 < n ∨ 1048576 < n2
  · have e1 : encT l l2 = [] := by unfold encT; rw [if_pos (by omega)]
    have e2 : encE l l2 = 2 := by unfold encE; rw [if_pos (by omega)]
    rw [e1, e2]
    have HB : Hid (Below w.heap.size w (w.alloc (.cells #[.slice a n c, .slice a2 n2 c2] 24))) := (Below.refl _ w).alloc (Nat.le_refl _) _
    clear h h2 ok ok2 e1 e2 hl hl2
    by_cases hn : 1048576 < n
    · have i1 : (n : Int) > 1048576 := by omega
      go_enter Tryd.func8, Tryd.ntmps8
      go_wp2_with fail
      go_ret2
      exact ⟨rfl, HB.out⟩
    · have i1 : ¬ (n : Int) > 1048576 := by omega
      have i2 : (n2 : Int) > 1048576 := by omega
      go_enter Tryd.func8, Tryd.ntmps8
      go_wp2_with fail
      go_ret2
      exact ⟨rfl, HB.out⟩
  · have i1 : ¬ (n : Int) > 1048576 := by omega
    have i2 : ¬ (n2 : Int) > 1048576 := by omega
    have hbel := (Below.refl w.heap.size w).alloc (Nat.le_refl _) (.cells #[.slice a n c, .slice a2 n2 c2] 24)
    have hsz := alloc_size w (.cells #[.slice a n c, .slice a2 n2 c2] 24)
    have hbk : (w.alloc (.cells #[.slice a n c, .slice a2 n2 c2] 24)).heap[w.heap.size]? = some (.cells #[.slice a n c, .slice a2 n2 c2] 24 (0, 0)) := blk_new _ _ _ rfl
    have hk1 := keeps1 w (.cells #[.slice a n c, .slice a2 n2 c2] 24)
    have hS1 := h.more hk1
    have hS2 := h2.more hk1
    have HI : Hid (REI w (w.alloc (.cells #[.slice a n c, .slice a2 n2 c2] 24)) w.heap.size a a2 n c n2 c2 l l2 (.slice none 0 0) []) :=
      ⟨⟨hS1, fun h0 x hx => by have := h.lt x hx h0; omega, ok, row_nil _ _ _ _, Below.refl _ _, by omega⟩, ⟨hS2, fun h0 x hx => by have := h2.lt x hx h0; omega, ok2, row_nil _ _ _ _, Below.refl _ _, by omega⟩, hbk, hbel⟩
    have hok := And.intro ok ok2
    have HO : Hid (((∀ x ∈ l, okX x) ∧ (∀ x ∈ l2, okX x)) ∧ n = l.length ∧ n2 = l2.length ∧ n ≤ 1048576 ∧ n2 ≤ 1048576) := ⟨hok, hl, hl2, by omega, by omega⟩
    clear h h2 hk1 ok ok2 hl hl2 hbel hsz hbk hS1 hS2 hok
    obtain ⟨v1, w1, hr1, hy1, hb1⟩ := str_more (w.heap.size + 1) (.slice none 0 0) [] picksW _ HI.out.r1.row HI.out.r1.up (by decide)
    have HR1 := Hid.mk' hr1
    have H1 : Hid (REI w w1 w.heap.size a a2 n c n2 c2 l l2 v1 picksW) := HI.out.on hb1 hy1
    have c1 : w1.cell? ⟨w.heap.size, 0, none⟩ = some (.slice a n c) := (blk_cell H1.out.box 0).trans rfl
    obtain ⟨ao1, n1, cp1, rfl⟩ := by_shape2 hy1
    clear hr1 hy1 hb1
    go_enter Tryd.func8, Tryd.ntmps8
    go_wp2_with (at_builtin; refine wpList_append_run rfl (.tmp 15) (.const (.string ⟨#[112, 105, 99, 107, 115]⟩)) 39 9 rfl rfl rfl HR1.out ?_)
    refine (told_any (w.heap.size + 1) a n c l _ picksW _ H1.out.r1 HO.out.2.2.2.1 (by decide)).mono ?_
    rintro e w2 ⟨v2, rfl, hy2, hb2⟩
    have H2 : Hid (REI w w2 w.heap.size a a2 n c n2 c2 l l2 v2 (tellV picksW l)) := H1.out.on hb2 hy2
    have hlen1 := tellV_len picksW l HO.out.1.1 (by have := HO.out.2; omega) (by decide)
    obtain ⟨v3, w3, hr3, hy3, hb3⟩ := str_more (w.heap.size + 1) v2 (tellV picksW l) drawsW _ H2.out.r1.row H2.out.r1.up (by rw [show drawsW.length = 6 from rfl]; omega)
    have HR3 := Hid.mk' hr3
    have H3 : Hid (REI w w3 w.heap.size a a2 n c n2 c2 l l2 v3 (tellV picksW l ++ drawsW)) := H2.out.on hb3 hy3
    have c3 : w3.cell? ⟨w.heap.size, 1, none⟩ = some (.slice a2 n2 c2) := (blk_cell H3.out.box 1).trans rfl
    obtain ⟨ao2, n2', cp2, rfl⟩ := by_shape2 hy2
    obtain ⟨ao3, n3, cp3, rfl⟩ := by_shape2 hy3
    clear hr3 hy3 hb3 hy2 hb2
    go_wp2_with (at_builtin; refine wpList_append_run rfl (.tmp 21) (.const (.string ⟨#[32, 100, 114, 97, 119, 115]⟩)) 39 9 rfl rfl rfl HR3.out ?_)
    refine (told_any (w.heap.size + 1) a2 n2 c2 l2 _ _ _ H3.out.r2 HO.out.2.2.2.2 (by rw [List.length_append, show drawsW.length = 6 from rfl]; omega)).mono ?_
    rintro e w4 ⟨v4, rfl, hy4, hb4⟩
    have H4 : Hid (REI w w4 w.heap.size a a2 n c n2 c2 l l2 v4 (encB l l2)) := H3.out.on hb4 hy4
    obtain ⟨ao4, cp4, rfl⟩ := by_shape hy4
    rw [show tellV (tellV picksW l ++ drawsW) l2 = encB l l2 from rfl] at H4 ⊢
    clear hy4 hb4
    by_cases hlong : 65536 < (encB l l2).length
    · have e1 : Hid (encT l l2 = [] ∧ encE l l2 = 2) := by
        unfold encT encE
        rw [if_pos (.inr (.inr hlong)), if_pos (.inr (.inr hlong))]
        exact ⟨rfl, rfl⟩
      have i3 : ((encB l l2).length : Int) > 65536 := by omega
      go_wp2_with fail
      go_ret2
      rw [e1.out.1, e1.out.2]
      exact ⟨rfl, H4.out.bel⟩
    · have hno : ¬ (1048576 < l.length ∨ 1048576 < l2.length ∨ 65536 < (encB l l2).length) := by have := HO.out.2; omega
      have e1 : Hid (encT l l2 = encB l l2 ∧ encE l l2 = 0) := by
        unfold encT encE
        rw [if_neg hno, if_neg hno]
        exact ⟨rfl, rfl⟩
      have i3 : ¬ ((encB l l2).length : Int) > 65536 := by omega
      have hcv := by_conv _ ao4 cp4 (encB l l2) w4 H4.out.r1.row (encB_ne l l2)
      clear hno
      go_wp2_with fail
      go_ret2
      rw [e1.out.1, e1.out.2]
      exact ⟨rfl, H4.out.bel⟩
end
end Go.Proofs.YtbeblgeiafkniaaDoor
