import Derived.Test.YtfccnmgbdkideaaDoorSwLawC
/-! SerialPart: the walk, from region 12 on. -/
namespace Go.Proofs.YtfccnmgbdkideaaDoor
set_option linter.unusedVariables false
set_option maxRecDepth 20000
open Go.RowKit Go.HeapKit Go.PlainOps

set_option maxHeartbeats 8000000 in
set_option maxRecDepth 1000000 in
theorem part_B (a : Option Addr) (n c : Nat) (l : List Fn) (fuel : Int) (w w5 : World) (B lb N tc j F G : Nat) (x : Nd) (L : List Nd) (HC : Hid (Keeps None w w5 ∧ SeenF w a n l ∧ Tabs w ∧ (∀ f ∈ l, f.Ok) ∧ okI fuel ∧ AllV l ∧ N = L.length ∧ x.func = (F : Int) ∧ F < l.length ∧ L[j]? = some x ∧ (∀ (j : Nat) (y : Nd), L[j]? = some y → 1 ≤ y.work) ∧ sumW L ≤ 4194304 ∧ (∀ f ∈ l, f.code.length ≤ 512) ∧ n ≤ 32)) (HM : Hid (w5.cell? ⟨B, 0, none⟩ = some (.slice a n c) ∧ (∀ k z, L[k]? = some z → ∀ q y, z.l[q]? = some y → w5.cell? ⟨lb, k * 7 + q, none⟩ = some (.int .i64 y)) ∧ w5.heap[G]? = some (.cells #[.int .i64 x.parent, .int .i64 x.idx, .int .i64 x.func, .int .i64 x.work, .int .i64 x.ped, .int .i64 x.arg, .int .i64 x.v] 33 (0, 0)))) (hjN : j < N) (hNb : N ≤ 8388608) (hxa : okI x.arg) (hpe : (parV l x.func = 0 ∨ parV l x.func = 1) → ∃ e, PartOk l L j e x fuel.toNat) (hf0 : 0 ≤ fuel) {u0 u1 u3 u5 u6 u7 u8 u10 u13 u14 u15 u16 u17 u18 u19 u20 u21 u22 u23 u24 u25 u26 u27 u28 u29 u30 u31 u32 u33 u34 u35 u36 u37 u38 u39 u40 u41 u42 u43 u44 u45 u46 u47 u48 u49 u50 u51 u52 u53 u54 u55 u56 u57 u58 u59 u60 u61 u62 u63 u64 u65 u66 u67 u68 u69 u70 u71 u72 u73 u74 u75 u76 u77 u78 u79 u80 u81 u82 u83 u84 u85 u86 u87 u88 u89 u90 u91 u92 u93 u94 u95 u96 u97 u98 u99 u100 u101 u102 u103 u104 u105 u106 u107 u108 u109 u110 u111 u112 u113 u114 u115 u116 u117 u118 u119 u120 u121 u122 u123 u124 u125 u126 u127 u128 u129 u130 u131 u132 u133 u134 u135 u136 u137 u138 u139 u140 u141 u142 : Value} :
    Code.wp Tryd.prog (partTail 12) (bodyPost Tryd.prog Tryd.f3 fun e w' => e = .returned (.bool true) ∧ Keeps None w w') ⟨#[u0, u1, .int .i64 fuel, u3, .pointer (some ⟨B, 0, none⟩), u5, u6, u7, u8, .slice (some ⟨lb, 0, none⟩) N tc, u10, .int .i64 (j : Int), .pointer (some ⟨G, 0, none⟩), u13, u14, u15, u16, u17, u18, u19, u20, u21, u22, u23, u24, u25, u26, u27, u28, u29, u30, u31, u32, u33, u34, u35, u36, u37, u38, u39, u40, u41, u42, u43, u44, u45, u46, u47, u48, u49, u50, u51, u52, u53, u54, u55, u56, u57, u58, u59, u60, u61, u62, u63, u64, u65, u66, u67, u68, u69, u70, u71, u72, u73, u74, u75, u76, u77, u78, u79, u80, u81, u82, u83, u84, u85, u86, u87, u88, u89, u90, u91, u92, u93, u94, u95, u96, u97, u98, u99, u100, u101, u102, u103, u104, u105, u106, u107, u108, u109, u110, u111, u112, u113, u114, u115, u116, u117, u118, u119, u120, u121, u122, u123, u124, u125, u126, u127, u128, u129, u130, u131, u132, u133, u134, u135, u136, u137, u138, u139, u140, u141, u142], []⟩ w5 := by
  have hnl := HC.out.2.1.len
  have hFl := HC.out.2.2.2.2.2.2.2.2.1
  have hFx := HC.out.2.2.2.2.2.2.2.1
  obtain ⟨b, off, f, ca, cc, rfl, hf, hat⟩ := (HC.out.2.1.more HC.out.1).at (k := F) (by omega)
  have hpv : parV l x.func = f.params := by
    unfold parV
    rw [hFx, show ((F : Int)).toNat = F from rfl, hf]
    rfl
  have hp0 := (valid_bounds (HC.out.2.2.2.2.2.1.all f (List.mem_of_getElem? hf))).1
  have c0 := hat.params
  have d0 := HM.out.1
  have g2 : w5.cell? ⟨G, 2, none⟩ = some (.int .i64 (F : Int)) := by rw [← hFx]; exact (blk_cell HM.out.2.2 2).trans rfl
  have g5 : w5.cell? ⟨G, 5, none⟩ = some (.int .i64 x.arg) := (blk_cell HM.out.2.2 5).trans rfl
  have i1 : ¬ ((F : Int) < 0) := by omega
  have i2 : ¬ ((n : Int) ≤ (F : Int)) := by omega
  have i3 : (F : Int) < (n : Int) := by omega
  have mk : ∀ wx, Keeps None w5 wx → (Keeps None w wx ∧ SeenF w (some ⟨b, off, none⟩) n l ∧ Tabs w ∧ (∀ f ∈ l, f.Ok) ∧ okI fuel ∧ AllV l ∧ N = L.length ∧ x.func = (F : Int) ∧ F < l.length ∧ L[j]? = some x ∧ (∀ (j : Nat) (y : Nd), L[j]? = some y → 1 ≤ y.work) ∧ sumW L ≤ 4194304 ∧ (∀ f ∈ l, f.code.length ≤ 512) ∧ n ≤ 32) ∧ (wx.cell? ⟨B, 0, none⟩ = some (.slice (some ⟨b, off, none⟩) n c) ∧ (∀ k z, L[k]? = some z → ∀ q y, z.l[q]? = some y → wx.cell? ⟨lb, k * 7 + q, none⟩ = some (.int .i64 y)) ∧ wx.heap[G]? = some (.cells #[.int .i64 x.parent, .int .i64 x.idx, .int .i64 x.func, .int .i64 x.work, .int .i64 x.ped, .int .i64 x.arg, .int .i64 x.v] 33 (0, 0))) := fun wx hx =>
    ⟨⟨HC.out.1.trans hx (fun _ f _ => f), HC.out.2⟩, ⟨hx.cell HM.out.1 (fun f => f), fun k z hz q y hy => hx.cell (HM.out.2.1 k z hz q y hy) (fun f => f), blk_kept HM.out.2.2 hx (fun f => f)⟩⟩
  have MK : Hid _ := mk
  have HPV : Hid (parV l x.func = f.params) := hpv
  have HPE : Hid _ := hpe
  clear mk hat hf hpv hnl hFl hFx hpe
  conv => arg 2; whnf
  by_cases h1 : f.params = 1
  · have q1 : (f.params == 1) = true := by simpa using h1
    have hal := Keeps.alloc None w5 (.cells #[.int .i64 x.arg] 2)
    obtain ⟨b7, c7, w7, hr7, ho7, hk7, -, -⟩ := word_append (.slice none 0 0) [] x.arg 0 w5.heap.size 25 (w5.alloc (.cells #[.int .i64 x.arg] 2)) rfl ⟨rfl, .inl ⟨rfl, rfl⟩⟩ (by omega) (heap_alloc_new _ _)
    have k7 : Keeps None w5 w7 := hal.trans hk7 (fun i e hi => by simp [Value.ownBlock] at e)
    have H7 : Hid (Keeps None w5 w7 ∧ SeenA w7 (some ⟨b7, 0, none⟩) 1 (argOf l x)) := ⟨k7, by unfold argOf; rw [HPV.out, if_pos h1]; exact one_seen ho7 hxa⟩
    obtain ⟨e, hPe⟩ := HPE.out (.inr (by rw [HPV.out]; exact h1))
    have HE : Hid _ := hPe
    clear h1 hal ho7 hk7 k7 hPe
    go_upto_region 19 with (at_builtin; refine wpList_append_run rfl (.tmp 71) (.tmp 74) 25 25 rfl rfl rfl hr7 ?_)
    go_cut [14] (fun s14 wx => s14 = .int .i64 1 ∧ wx = w7)
    case first =>
      go_wp2_with fail
      go_meet
      exact ⟨rfl, rfl⟩
    case rest =>
      obtain ⟨rfl, hwc⟩ := hcut
      rename_i h1 h2 h3 h4
      rw [hwc]
      first | apply h4 | apply h3 | apply h2 | apply h1
      exact part_C (some ⟨b, off, none⟩) n c l fuel w w7 B lb N tc j F G x L (some ⟨b7, 0, none⟩) 1 c7 e (MK.out w7 H7.out.1).1 (MK.out w7 H7.out.1).2 hjN hNb H7.out.2 HE.out hf0
  · have q1 : (f.params == 1) = false := by simpa using h1
    by_cases h2 : 1 < f.params
    · have HQ : Hid (Keeps None w w5) := HC.out.1
      have i4 : f.params > 1 := h2
      go_wp2_with fail
      go_ret
      exact ⟨rfl, HQ.out⟩
    · have h0 : f.params = 0 := by omega
      have i4 : ¬ (1 < f.params) := h2
      have hga : SeenA w5 none 0 (argOf l x) := by unfold argOf; rw [HPV.out, if_neg (by omega)]; exact seen_nil w5
      obtain ⟨e, hPe⟩ := HPE.out (.inl (by rw [HPV.out]; exact h0))
      have HE : Hid _ := And.intro hPe hga
      clear h1 h2 h0 hPe hga
      go_upto_region 19 with fail
      go_cut [14] (fun s14 wx => s14 = .int .i64 1 ∧ wx = w5)
      case first =>
        go_wp2_with fail
        go_meet
        exact ⟨rfl, rfl⟩
      case rest =>
        obtain ⟨rfl, hwc⟩ := hcut
        rename_i h1 h2 h3 h4
        rw [hwc]
        first | apply h4 | apply h3 | apply h2 | apply h1
        exact part_C (some ⟨b, off, none⟩) n c l fuel w w5 B lb N tc j F G x L none 0 0 e (MK.out w5 (Keeps.refl None w5)).1 (MK.out w5 (Keeps.refl None w5)).2 hjN hNb HE.out.2 HE.out.1 hf0
end Go.Proofs.YtfccnmgbdkideaaDoor
