import Derived.Test.YtbdpdojeaahpjaaGreatDoorPkBP
import Derived.Deep.CutBlock
/-! DagOf: the walk, from region 29 on. -/
namespace Go.Proofs.YtbdpdojeaahpjaaGreatDoor
set_option linter.unusedVariables false
set_option maxRecDepth 20000
set_option linter.unusedSimpArgs false
open Go.RowKit Go.HeapKit Go.PlainOps

/-- The arguments' copy, with the mark behind it. -/
theorem mark_seen {w : World} {ba : Option Addr} {an bc : Nat} {zs : List Int} (h : w.ownsRow 0 2 1 (.slice ba (an + 1) bc) (an + 1) (ints (zs ++ [-77]))) (hn : an = zs.length) (hl : an ≤ 9223372036854775807) (hok : ∀ x ∈ zs, okI x) :
    ∃ g, ba = some ⟨g, 0, none⟩ ∧ SeenA w ba an zs ∧ w.cell? ⟨g, an, none⟩ = some (.int .i64 (-77)) ∧ an + 1 ≤ bc := by
  rcases h.2 with ⟨_, h0⟩ | ⟨g, cap, cur, he, hb0, hg, hnc, hcm, hcs, htk⟩
  · omega
  · injection he with e1 e2 e3
    subst e1 e3
    have hc : ∀ k x, (zs ++ [-77])[k]? = some x → w.cell? ⟨g, k, none⟩ = some (.int .i64 x) := fun k x hx => by
      have h1 := ints_at (zs ++ [-77]) k x hx
      rw [← htk, List.getElem?_take] at h1
      rw [blk_cell hg, ← Array.getElem?_toList]
      split at h1
      · exact h1
      · cases h1
    refine ⟨g, rfl, ⟨hn, hl, hok, fun _ => ⟨g, 0, rfl, blk_lt hg, fun k x hx => ?_⟩⟩, hc an (-77) (by rw [hn]; simp), hnc⟩
    rw [Nat.zero_add]
    exact hc k x (by rw [List.getElem?_append_left (List.getElem?_eq_some_iff.1 hx).1]; exact hx)
set_option maxHeartbeats 8000000 in
set_option maxRecDepth 1000000 in
theorem of_C (a : Option Addr) (n c : Nat) (l : List Fn) (aa : Option Addr) (an ac : Nat) (zs : List Int) (fuel : Int) (w W w28 : World) (B Q : Nat) (qa ba : Option Addr) (qc bc : Nat) (tq : List At) (HC : Hid (Tabs W ∧ SeenF W a n l ∧ (∀ f ∈ l, f.Ok) ∧ (n * 48 ≤ 140737488351232 ∧ ∀ f ∈ l, f.code.length * 40 ≤ 140737488351232) ∧ SeenA W aa an zs ∧ Keeps None w W ∧ okI fuel ∧ an * 8 ≤ 140737488351232)) (HD : Hid (W.cell? ⟨B, 0, none⟩ = some (.slice a n c))) (han : (an : Int) ≤ 4611686018427387904) (hnb : (n : Int) ≤ 4611686018427387904) (HA : Hid (Al W w28 Q l (.slice qa n qc) tq (.slice ba (an + 1) bc) (an + 1) (zs ++ [-77]))) {u0 u4 u5 u6 u9 u10 u11 u12 u13 u14 u15 u16 u17 u18 u19 u20 u21 u22 u23 u24 u25 u26 u27 u28 u29 u30 u31 u32 u33 u34 u35 u36 u37 u38 u39 u40 u41 u42 u43 u44 u45 u46 u47 u48 u49 u50 u51 u52 u53 u54 u55 u56 u57 u58 u59 u60 u61 u62 u63 u64 u65 u66 u67 u68 u69 u70 u71 u72 u73 u74 u75 u76 u77 u78 u79 u80 u81 u82 u83 u84 u85 u86 u87 u88 u89 u90 u91 u92 u93 u94 u95 u96 u97 u98 u99 u100 u101 u102 u103 u104 u105 u106 u107 u108 u109 u110 u111 u112 u113 u114 u115 u116 u117 u118 u119 u120 u121 u122 u123 u124 u125 u126 u127 u128 u129 u130 u131 u132 u133 u134 u135 u136 u137 u138 u139 u140 u141 u142 u143 u144 u145 u146 u147 u148 u149 u150 u151 u152 u153 u154 u155 u156 u157 u158 u159 u160 u161 u162 u163 u164 u165 u166 u167 u168 u169 u170 u171 u172 u173 u174 u175 u176 u177 u178 u179 u180 u181 u182 u183 u184 u185 u186 u187 u188 u189 u190 u191 u192 u193 u194 u195 u196 u197 u198 u199 u200 u201 u202 u203 u204 u205 u206 u207 u208 u209 u210 u211 u212 u213 u214 u215 u216 u217 u218 u219 u220 u221 u222 u223 u224 u225 u226 u227 u228 u229 u230 u231 u232 u233 u234 u235 u236 u237 u238 u239 u240 u241 u242 : Value} :
    Code.wp Tryz.prog (ofTail 29) (bodyPost Tryz.prog Tryz.f3 fun e w' => e = .returned (.bool true) ∧ Keeps None w w') ⟨#[u0, .slice aa an ac, .int .i64 fuel, .pointer (some ⟨B, 0, none⟩), u4, u5, u6, .pointer (some ⟨Q, 0, none⟩), .slice ba an bc, u9, u10, u11, u12, u13, u14, u15, u16, u17, u18, u19, u20, u21, u22, u23, u24, u25, u26, u27, u28, u29, u30, u31, u32, u33, u34, u35, u36, u37, u38, u39, u40, u41, u42, u43, u44, u45, u46, u47, u48, u49, u50, u51, u52, u53, u54, u55, u56, u57, u58, u59, u60, u61, u62, u63, u64, u65, u66, u67, u68, u69, u70, u71, u72, u73, u74, u75, u76, u77, u78, u79, u80, u81, u82, u83, u84, u85, u86, u87, u88, u89, u90, u91, u92, u93, u94, u95, u96, u97, u98, u99, u100, u101, u102, u103, u104, u105, u106, u107, u108, u109, u110, u111, u112, u113, u114, u115, u116, u117, u118, u119, u120, u121, u122, u123, u124, u125, u126, u127, u128, u129, u130, u131, u132, u133, u134, u135, u136, u137, u138, u139, u140, u141, u142, u143, u144, u145, u146, u147, u148, u149, u150, u151, u152, u153, u154, u155, u156, u157, u158, u159, u160, u161, u162, u163, u164, u165, u166, u167, u168, u169, u170, u171, u172, u173, u174, u175, u176, u177, u178, u179, u180, u181, u182, u183, u184, u185, u186, u187, u188, u189, u190, u191, u192, u193, u194, u195, u196, u197, u198, u199, u200, u201, u202, u203, u204, u205, u206, u207, u208, u209, u210, u211, u212, u213, u214, u215, u216, u217, u218, u219, u220, u221, u222, u223, u224, u225, u226, u227, u228, u229, u230, u231, u232, u233, u234, u235, u236, u237, u238, u239, u240, u241, u242], []⟩ w28 := by
  conv => arg 2; whnf
  have hzl := HC.out.2.2.2.2.1.len
  have hzo := HC.out.2.2.2.2.1.ok
  obtain ⟨gb, hgb, hsb, hmk, hcap⟩ := mark_seen HA.out.brow hzl (by omega) hzo
  subst hgb
  have hsq := HA.out.seenQ HC.out.2.1.len
  have hof := fun wx (hx : Keeps None w28 wx) => Calls.mono (of_any qa n qc l (some ⟨gb, 0, none⟩) an bc zs fuel wx (HC.out.1.more (HA.out.keep.trans hx (fun _ f _ => f))) (hsq.more hx) HC.out.2.2.1 (hsb.more hx) hzo (by omega) HC.out.2.2.2.2.2.2.1) (fun e w' h => of_one h)
  have hrf := fun wx (hx : Keeps None W wx) => Calls.mono (rof_any a n c l aa an ac zs fuel wx (HC.out.2.1.more hx) HC.out.2.2.1 (HC.out.2.2.2.2.1.more hx) hzo (by omega) HC.out.2.2.2.2.2.2.1) (fun e w' h => of_one h)
  have hmost := of_most (fuel := fuel) HC.out.2.2.1 hzo
  obtain ⟨N, hN⟩ : ∃ N, N = (ofV l zs fuel).1 := ⟨_, rfl⟩
  obtain ⟨E, hE⟩ : ∃ E, E = (ofV l zs fuel).2.1 := ⟨_, rfl⟩
  obtain ⟨er, her⟩ : ∃ er, er = (ofV l zs fuel).2.2 := ⟨_, rfl⟩
  rw [← hN, ← hE, ← her] at hof hrf
  rw [← hE] at hmost
  obtain ⟨LE, hLE⟩ : ∃ LE, LE = E.length := ⟨_, rfl⟩
  rw [← hLE] at hof hrf hmost
  have HOF : Hid (∀ wx, Keeps None w28 wx → Calls Tryz.prog 5 #[.agg #[.slice qa n qc], .slice (some ⟨gb, 0, none⟩) an bc, .int .i64 fuel] wx (OneP N E er LE wx)) := hof
  have HRF : Hid (∀ wx, Keeps None W wx → Calls Tryz.prog 6 #[.agg #[.slice a n c], .slice aa an ac, .int .i64 fuel] wx (OneP N E er LE wx)) := hrf
  have HLE : Hid (LE = E.length ∧ an = zs.length) := ⟨hLE, hzl⟩
  have H28 : Hid (SeenA w28 (some ⟨gb, 0, none⟩) an zs ∧ w28.cell? ⟨gb, an, none⟩ = some (.int .i64 (-77)) ∧ SeenF w28 qa n l) := ⟨hsb, hmk, hsq⟩
  have q0 : w28.cell? ⟨Q, 0, none⟩ = some (.slice qa n qc) := (blk_cell HA.out.qb 0).trans rfl
  clear hof hrf hN hE her hLE hsb hmk hsq hzl hzo
  go_upto_region 30 with (go_at_call 5; refine Calls.mono (HOF.out _ (Keeps.refl _ _)) ?_; rintro _ w29 ⟨ea, ec, rfl, hr29, hk29⟩)
  have k30 := Keeps.alloc None w29 (.cells #[.int .i64 (N : Int), .slice ea LE ec] 29)
  have b30 := heap_alloc_new w29 (.cells #[.int .i64 (N : Int), .slice ea LE ec] 29)
  obtain ⟨w30, hw30⟩ : ∃ w30, w30 = w29.alloc (.cells #[.int .i64 (N : Int), .slice ea LE ec] 29) := ⟨_, rfl⟩
  obtain ⟨D1, hD1⟩ : ∃ D1, D1 = w29.heap.size := ⟨_, rfl⟩
  rw [← hw30, ← hD1]
  rw [← hw30] at k30 b30
  rw [← hD1] at b30
  have kq30 := hk29.trans k30 (fun _ f _ => f)
  have q30 := kq30.cell q0 (fun f => f)
  have H30 : Hid (Keeps None w28 w30 ∧ w30.ownsRow w28.heap.size 39 2 (.slice ea LE ec) LE (edV E) ∧ w30.heap[D1]? = some (.cells #[.int .i64 (N : Int), .slice ea LE ec] 29 (0, 0))) := ⟨kq30, k30.own hr29 (fun _ _ f => f), b30⟩
  clear hw30 hD1 k30 b30 kq30 hr29 hk29 q0
  go_upto_region 31 with (go_at_call 5; refine Calls.mono (HOF.out _ H30.out.1) ?_; rintro _ w31 ⟨fa, fc, rfl, hr31, hk31⟩)
  have k32 := Keeps.alloc None w31 (.cells #[.int .i64 (N : Int), .slice fa LE fc] 29)
  have b32 := heap_alloc_new w31 (.cells #[.int .i64 (N : Int), .slice fa LE fc] 29)
  obtain ⟨w32, hw32⟩ : ∃ w32, w32 = w31.alloc (.cells #[.int .i64 (N : Int), .slice fa LE fc] 29) := ⟨_, rfl⟩
  obtain ⟨D2, hD2⟩ : ∃ D2, D2 = w31.heap.size := ⟨_, rfl⟩
  rw [← hw32, ← hD2]
  rw [← hw32] at k32 b32
  rw [← hD2] at b32
  have hD2l : w30.heap.size ≤ D2 := by have := hk31.size; omega
  have H32 : Hid (Keeps None w30 w32 ∧ w32.ownsRow w30.heap.size 39 2 (.slice fa LE fc) LE (edV E) ∧ w32.heap[D2]? = some (.cells #[.int .i64 (N : Int), .slice fa LE fc] 29 (0, 0)) ∧ w30.heap.size ≤ D2) := ⟨hk31.trans k32 (fun _ f _ => f), k32.own hr31 (fun _ _ f => f), b32, hD2l⟩
  clear hw32 hD2 k32 b32 hr31 hk31 q30 hD2l
  go_wp2_with fail
  go_loopw [19] (fun s19 wr => ∃ (i : Nat) (X : List Value), i ≤ LE ∧ s19 = .int .i64 i ∧ Keeps None w30 wr ∧ wr.ownsRow w30.heap.size 39 2 (.slice fa LE fc) LE X ∧ wr.heap[D2]? = some (.cells #[.int .i64 (N : Int), .slice fa LE fc] 29 (0, 0))) (fun i _ => LE - (intOf i).toNat)
  case atStart => exact ⟨0, edV E, Nat.zero_le _, rfl, H32.out.1, H32.out.2.1, H32.out.2.2.1⟩
  case round =>
    obtain ⟨i, X, hi, rfl, hkp, hX, hb⟩ := hrel
    have d1 : wr.cell? ⟨D2, 1, none⟩ = some (.slice fa LE fc) := (blk_cell hb 1).trans rfl
    by_cases hil : i < LE
    · as_aux_lemma =>
        obtain ⟨g, c5, e5⟩ := own_some7 hX (by omega)
        injection e5 with e51 e52 e53
        subst e51
        have hxl : X.length = LE * 2 := hX.1
        obtain ⟨x0, hx0⟩ : ∃ x, X[i * 2]? = some x := ⟨X[i * 2]'(by omega), by simp⟩
        obtain ⟨x1, hx1⟩ : ∃ x, X[i * 2 + 1]? = some x := ⟨X[i * 2 + 1]'(by omega), by simp⟩
        have y0 := own_cell2 hX hx0
        have y1 := own_cell2 hX hx1
        obtain ⟨Cg, hCg, hgl⟩ : ∃ C, wr.heap[g]? = some (.cells C 39 (0, 0)) ∧ w30.heap.size ≤ g := by
          rcases hX.2 with ⟨e1, _⟩ | ⟨g', cap, cur, he, hb0, hg, _⟩
          · cases e1
          · injection he with e1; injection e1 with e1; injection e1 with e1; subst e1; exact ⟨_, hg, hb0⟩
        have z0 := blk_free hCg (i * 2)
        have z1 := blk_free hCg (i * 2 + 1)
        have hP := own_putL (i := i * 2 + 1) (.int .i64 (i : Int)) (own_putL (i := i * 2) (.int .i64 (-1)) hX)
        have kP : Keeps (· = g) wr ((wr.setCell ⟨g, i * 2, none⟩ (.int .i64 (-1))).setCell ⟨g, i * 2 + 1, none⟩ (.int .i64 (i : Int))) := ((Keeps.refl (· = g) wr).andSet (x := ⟨g, i * 2, none⟩) (.inl rfl) _).andSet (x := ⟨g, i * 2 + 1, none⟩) (.inl rfl) _
        have hD2 := blk_kept hb kP (fun e => by
          rw [e, hCg] at hb
          injection hb with hb
          injection hb with _ hb
          exact absurd hb (by decide))
        have i1 : (i : Int) < (LE : Int) := by omega
        have HX : Hid _ := And.intro (hkp.trans kP (fun j e hj => by omega)) (And.intro hP hD2)
        clear hkp hX hb hx0 hx1 hCg hP kP hD2 hxl
        go_wp2_with fail
        exact ⟨⟨i + 1, _, by omega, by go_num, HX.out.1, HX.out.2.1, HX.out.2.2⟩, by simp [intOf]; omega⟩
    · have i1 : ¬ ((i : Int) < (LE : Int)) := by omega
      obtain rfl : i = LE := by omega
      have hal := Keeps.alloc None wr (.cells #[.int .i64 (-2), .int .i64 0] 39)
      have hX7 := hal.own hX (fun _ _ f => f)
      have hb7 := blk_kept hb hal (fun f => f)
      have hws : w30.heap.size ≤ (wr.alloc (.cells #[.int .i64 (-2), .int .i64 0] 39)).heap.size := Nat.le_trans hkp.size hal.size
      obtain ⟨g7, c7, V7, hr7, hoe7, hke7, hme7⟩ := row_app (wr.alloc (.cells #[.int .i64 (-2), .int .i64 0] 39)) w30.heap.size 27 27 39 2 16 _ Tryz.underlying27 Tryz.twEdge rfl (by decide) (.slice fa i fc) _ _ hX7 wr.heap.size _ (heap_alloc_new wr _) rfl (fun u hu => by simp at hu; rcases hu with rfl | rfl <;> rfl) hws (by omega) (by unfold maxLen; omega)
      have hlowX : ∀ k, (Value.slice fa i fc).ownBlock = some k → w30.heap.size ≤ k := fun k e => by
        rcases hX.2 with ⟨h1, _⟩ | ⟨g, _, _, h1, hb, _⟩
        · rw [h1] at e; simp [Value.ownBlock] at e
        · rw [h1] at e; simp [Value.ownBlock] at e; omega
      have hb8 := blk_kept hb7 hke7 (fun e => own_not hX7 hb7 (by decide) e)
      have x1 : V7.cell? ⟨D2, 1, none⟩ = some (.slice fa i fc) := (blk_cell hb8 1).trans rfl
      have z1 := blk_free hb8 1
      have kD : Keeps (· = D2) V7 (V7.setCell ⟨D2, 1, none⟩ (.slice (some ⟨g7, 0, none⟩) (i + 1) c7)) := Keeps.setCell (S := (· = D2)) V7 (a := ⟨D2, 1, none⟩) rfl _
      have hb9 : (V7.setCell ⟨D2, 1, none⟩ (.slice (some ⟨g7, 0, none⟩) (i + 1) c7)).heap[D2]? = some (.cells #[.int .i64 (N : Int), .slice (some ⟨g7, 0, none⟩) (i + 1) c7] 29 (0, 0)) := by rw [blk_set hb8]; rfl
      have k35 : Keeps None w30 (V7.setCell ⟨D2, 1, none⟩ (.slice (some ⟨g7, 0, none⟩) (i + 1) c7)) := ((hkp.trans hal (fun _ f _ => f)).trans hke7 (fun j e hj => by have := hlowX j e; omega)).trans kD (fun j e hj => by have := H32.out.2.2.2; omega)
      obtain ⟨w35, hw35⟩ : ∃ w35, w35 = V7.setCell ⟨D2, 1, none⟩ (.slice (some ⟨g7, 0, none⟩) (i + 1) c7) := ⟨_, rfl⟩
      rw [← hw35] at hb9 k35
      have kW35 : Keeps None W w35 := (HA.out.keep.trans H30.out.1 (fun _ f _ => f)).trans k35 (fun _ f _ => f)
      have p35 := kW35.cell HD.out (fun f => f)
      have H35 : Hid (Keeps None w30 w35 ∧ w35.heap[D2]? = some (.cells #[.int .i64 (N : Int), .slice (some ⟨g7, 0, none⟩) (i + 1) c7] 29 (0, 0)) ∧ Keeps None W w35) := ⟨k35, hb9, kW35⟩
      have hd1 := hal.cell d1 (fun f => f)
      clear hal hX7 hb7 hws hoe7 hke7 hme7 hlowX hb8 kD hb9 k35 kW35 hkp hX hb H32 hi hil
      go_upto_region 36 with (at_builtin; refine wpList_append_run rfl (.tmp 170) (.tmp 172) 27 27 rfl rfl rfl hr7 ?_)
      rw [← hw35]
      clear hw35 hr7 x1 z1 hd1 d1
      go_upto_region 37 with (go_at_call 6; refine Calls.mono (HRF.out _ H35.out.2.2) ?_; rintro _ w36 ⟨ga, gc, rfl, hr36, hk36⟩)
      have k37 := Keeps.alloc None w36 (.cells #[.int .i64 (N : Int), .slice ga i gc] 29)
      have b37 := heap_alloc_new w36 (.cells #[.int .i64 (N : Int), .slice ga i gc] 29)
      obtain ⟨w37, hw37⟩ : ∃ w37, w37 = w36.alloc (.cells #[.int .i64 (N : Int), .slice ga i gc] 29) := ⟨_, rfl⟩
      obtain ⟨D3, hD3⟩ : ∃ D3, D3 = w36.heap.size := ⟨_, rfl⟩
      rw [← hw37, ← hD3]
      rw [← hw37] at k37 b37
      rw [← hD3] at b37
      have k57 := hk36.trans k37 (fun _ f _ => f)
      have k307 := H35.out.1.trans k57 (fun _ f _ => f)
      have k287 := H30.out.1.trans k307 (fun _ f _ => f)
      have kW7 := H35.out.2.2.trans k57 (fun _ f _ => f)
      have H37 : Hid (Keeps None w30 w37 ∧ Keeps None w28 w37 ∧ Keeps None W w37 ∧ w37.heap[D2]? = some (.cells #[.int .i64 (N : Int), .slice (some ⟨g7, 0, none⟩) (i + 1) c7] 29 (0, 0)) ∧ w37.heap[D3]? = some (.cells #[.int .i64 (N : Int), .slice ga i gc] 29 (0, 0)) ∧ w37.ownsRow w35.heap.size 39 2 (.slice ga i gc) i (edV E)) := ⟨k307, k287, kW7, blk_kept H35.out.2.1 k57 (fun f => f), b37, k37.own hr36 (fun _ _ f => f)⟩
      have p37 := kW7.cell HD.out (fun f => f)
      have q37 : w37.cell? ⟨Q, 0, none⟩ = some (.slice qa n qc) := (blk_cell (blk_kept HA.out.qb k287 (fun f => f)) 0).trans rfl
      have hal7 := alike_any a n c qa qc l w37 (HC.out.2.1.more kW7) (H28.out.2.2.more k287) HC.out.2.2.2.1.1 HC.out.2.2.2.1.2
      have HAL : Hid (Calls Tryz.prog 7 #[.agg #[.slice a n c], .agg #[.slice qa n qc]] w37 fun e w' => e = .returned (.bool true) ∧ Keeps None w37 w') := hal7
      have f1 : (an : Int) + 1 ≤ (bc : Int) := by omega
      have f2 : (an : Int) < (an : Int) + 1 := by omega
      have f3 : ¬ ((i : Int) + 1 < 1) := by omega
      clear hw37 hD3 k37 b37 k57 k307 k287 kW7 hr36 hk36 hal7 p35 H35
      go_upto_region 39 with (go_at_call 7; refine Calls.mono HAL.out ?_; rintro _ w38 ⟨rfl, hk38⟩; have m38 : w38.cell? ⟨gb, an, none⟩ = some (.int .i64 (-77)) := hk38.cell (H37.out.2.1.cell H28.out.2.1 (fun f => f)) (fun f => f); have g38 : w38.cell? ⟨D2, 1, none⟩ = some (.slice (some ⟨g7, 0, none⟩) (i + 1) c7) := (blk_cell (blk_kept H37.out.2.2.2.1 hk38 (fun f => f)) 1).trans rfl; have H38 : Hid (Keeps None w37 w38) := hk38; clear hk38)
      clear m38 g38 p37 q37 f1 f2 f3
      go_wp2_with fail
      go_loopw [22] (fun s22 wr => ∃ k : Nat, k ≤ an ∧ s22 = .int .i64 k ∧ Keeps None w38 wr) (fun i _ => an - (intOf i).toNat)
      case atStart => exact ⟨0, Nat.zero_le _, rfl, Keeps.refl _ _⟩
      case round =>
        obtain ⟨k, hk, rfl, hkp⟩ := hrel
        have k37 := H38.out.trans hkp (fun _ f _ => f)
        by_cases hka : k < an
        · as_aux_lemma =>
            have i2 : (k : Int) < (an : Int) := by omega
            obtain ⟨x, hx⟩ : ∃ x, zs[k]? = some x := ⟨zs[k]'(by have := HLE.out.2; omega), by simp⟩
            obtain ⟨bb, oo, rfl, _, hcc⟩ := (HC.out.2.2.2.2.1.more (H37.out.2.2.1.trans k37 (fun _ f _ => f))).ex (by omega)
            obtain ⟨b2, o2, e2, _, hc2⟩ := (H28.out.1.more (H37.out.2.1.trans k37 (fun _ f _ => f))).ex (by omega)
            injection e2 with e2
            injection e2 with e21 e22
            subst e21 e22
            have y0 := hcc k x hx
            have y1 := hc2 k x hx
            rw [Nat.zero_add] at y1
            have HK : Hid (Keeps None w38 wr) := hkp
            clear hkp k37 hx hcc hc2
            go_upto_region 42 with fail
            go_quiet (fail)
            go_wp2_with fail
            exact ⟨⟨k + 1, by omega, by go_num, HK.out.trans (Keeps.drewN None _ _) (fun _ f _ => f)⟩, by simp [intOf]; omega⟩
        · have i2 : ¬ ((k : Int) < (an : Int)) := by omega
          have bD1 := blk_kept (blk_kept H30.out.2.2 H37.out.1 (fun f => f)) k37 (fun f => f)
          have bD3 := blk_kept H37.out.2.2.2.2.1 k37 (fun f => f)
          have u0 : wr.cell? ⟨D1, 0, none⟩ = some (.int .i64 (N : Int)) := (blk_cell bD1 0).trans rfl
          have u1 : wr.cell? ⟨D1, 1, none⟩ = some (.slice ea i ec) := (blk_cell bD1 1).trans rfl
          have v0 : wr.cell? ⟨D3, 0, none⟩ = some (.int .i64 (N : Int)) := (blk_cell bD3 0).trans rfl
          have v1 : wr.cell? ⟨D3, 1, none⟩ = some (.slice ga i gc) := (blk_cell bD3 1).trans rfl
          have hsm := sameE_any ea ga i ec gc _ _ E wr HLE.out.1 (k37.own (H37.out.1.own H30.out.2.1 (fun _ _ f => f)) (fun _ _ f => f)) (k37.own H37.out.2.2.2.2.2 (fun _ _ f => f)) hmost
          have HSM : Hid (Calls Tryz.prog 8 #[.slice ea i ec, .slice ga i gc] wr fun e w' => e = .returned (.bool true) ∧ Keeps None wr w') := hsm
          have HF : Hid (Keeps None w wr) := (HC.out.2.2.2.2.2.1.trans H37.out.2.2.1 (fun _ f _ => f)).trans k37 (fun _ f _ => f)
          clear hkp k37 bD1 bD3 hsm
          go_wp2_with (go_at_call 8; refine Calls.mono HSM.out ?_; rintro _ w39 ⟨rfl, hk39⟩; have H39 : Hid _ := hk39; clear hk39)
          go_ret
          exact ⟨rfl, HF.out.trans H39.out (fun _ f _ => f)⟩
end Go.Proofs.YtbdpdojeaahpjaaGreatDoor
/-! DagOf: the walk, from region 22 on. -/
namespace Go.Proofs.YtbdpdojeaahpjaaGreatDoor
set_option linter.unusedVariables false
set_option maxRecDepth 20000
set_option linter.unusedSimpArgs false
open Go.RowKit Go.HeapKit Go.PlainOps

set_option maxHeartbeats 8000000 in
set_option maxRecDepth 1000000 in
theorem of_B2 (a : Option Addr) (n c : Nat) (l : List Fn) (aa : Option Addr) (an ac : Nat) (zs : List Int) (fuel : Int) (w W w28 : World) (B Q : Nat) (qa ba : Option Addr) (qc bc : Nat) (tq : List At) (HC : Hid (Tabs W ∧ SeenF W a n l ∧ (∀ f ∈ l, f.Ok) ∧ (n * 48 ≤ 140737488351232 ∧ ∀ f ∈ l, f.code.length * 40 ≤ 140737488351232) ∧ SeenA W aa an zs ∧ Keeps None w W ∧ okI fuel ∧ an * 8 ≤ 140737488351232)) (HD : Hid (W.cell? ⟨B, 0, none⟩ = some (.slice a n c))) (han : (an : Int) ≤ 4611686018427387904) (hnb : (n : Int) ≤ 4611686018427387904) (l3 : List Fn) (HA : Hid (Al W w28 Q l3 (.slice qa n qc) tq (.slice ba (an + 1) bc) (an + 1) (zs ++ [-77]) ∧ Lk l l3 ∧ ∀ f ∈ l3, f.Ok)) {u0 u4 u5 u6 u9 u10 u11 u12 u13 u14 u15 u16 u17 u18 u19 u20 u21 u22 u23 u24 u25 u26 u27 u28 u29 u30 u31 u32 u33 u34 u35 u36 u37 u38 u39 u40 u41 u42 u43 u44 u45 u46 u47 u48 u49 u50 u51 u52 u53 u54 u55 u56 u57 u58 u59 u60 u61 u62 u63 u64 u65 u66 u67 u68 u69 u70 u71 u72 u73 u74 u75 u76 u77 u78 u79 u80 u81 u82 u83 u84 u85 u86 u87 u88 u89 u90 u91 u92 u93 u94 u95 u96 u97 u98 u99 u100 u101 u102 u103 u104 u105 u106 u107 u108 u109 u110 u111 u112 u113 u114 u115 u116 u117 u118 u119 u120 u121 u122 u123 u124 u125 u126 u127 u128 u129 u130 u131 u132 u133 u134 u135 u136 u137 u138 u139 u140 u141 u142 u143 u144 u145 u146 u147 u148 u149 u150 u151 u152 u153 u154 u155 u156 u157 u158 u159 u160 u161 u162 u163 u164 u165 u166 u167 u168 u169 u170 u171 u172 u173 u174 u175 u176 u177 u178 u179 u180 u181 u182 u183 u184 u185 u186 u187 u188 u189 u190 u191 u192 u193 u194 u195 u196 u197 u198 u199 u200 u201 u202 u203 u204 u205 u206 u207 u208 u209 u210 u211 u212 u213 u214 u215 u216 u217 u218 u219 u220 u221 u222 u223 u224 u225 u226 u227 u228 u229 u230 u231 u232 u233 u234 u235 u236 u237 u238 u239 u240 u241 u242 : Value} :
    Code.wp Tryz.prog (ofTail 22) (bodyPost Tryz.prog Tryz.f3 fun e w' => e = .returned (.bool true) ∧ Keeps None w w') ⟨#[u0, .slice aa an ac, .int .i64 fuel, .pointer (some ⟨B, 0, none⟩), u4, u5, u6, .pointer (some ⟨Q, 0, none⟩), .slice ba an bc, u9, u10, u11, u12, u13, u14, u15, u16, u17, u18, u19, u20, u21, u22, u23, u24, u25, u26, u27, u28, u29, u30, u31, u32, u33, u34, u35, u36, u37, u38, u39, u40, u41, u42, u43, u44, u45, u46, u47, u48, u49, u50, u51, u52, u53, u54, u55, u56, u57, u58, u59, u60, u61, u62, u63, u64, u65, u66, u67, u68, u69, u70, u71, u72, u73, u74, u75, u76, u77, u78, u79, u80, u81, u82, u83, u84, u85, u86, u87, u88, u89, u90, u91, u92, u93, u94, u95, u96, u97, u98, u99, u100, u101, u102, u103, u104, u105, u106, u107, u108, u109, u110, u111, u112, u113, u114, u115, u116, u117, u118, u119, u120, u121, u122, u123, u124, u125, u126, u127, u128, u129, u130, u131, u132, u133, u134, u135, u136, u137, u138, u139, u140, u141, u142, u143, u144, u145, u146, u147, u148, u149, u150, u151, u152, u153, u154, u155, u156, u157, u158, u159, u160, u161, u162, u163, u164, u165, u166, u167, u168, u169, u170, u171, u172, u173, u174, u175, u176, u177, u178, u179, u180, u181, u182, u183, u184, u185, u186, u187, u188, u189, u190, u191, u192, u193, u194, u195, u196, u197, u198, u199, u200, u201, u202, u203, u204, u205, u206, u207, u208, u209, u210, u211, u212, u213, u214, u215, u216, u217, u218, u219, u220, u221, u222, u223, u224, u225, u226, u227, u228, u229, u230, u231, u232, u233, u234, u235, u236, u237, u238, u239, u240, u241, u242], []⟩ w28 := by
  conv => arg 2; whnf
  have hnl := HC.out.2.1.len
  have HNL : Hid _ := hnl
  have q00 : w28.cell? ⟨Q, 0, none⟩ = some (.slice qa n qc) := (blk_cell HA.out.1.qb 0).trans rfl
  clear hnl
  go_upto_block 8 with fail
  go_cut [13] (fun s13 wx => Al W wx Q l (.slice qa n qc) tq (.slice ba (an + 1) bc) (an + 1) (zs ++ [-77]))
  case first =>
    go_wp2_with fail
    go_loopw [13] (fun s13 wr => ∃ (i : Nat) (l2 : List Fn), i ≤ n ∧ s13 = .int .i64 i ∧ Bk l l2 i 0 ∧ Al W wr Q l2 (.slice qa n qc) tq (.slice ba (an + 1) bc) (an + 1) (zs ++ [-77])) (fun i _ => n - (intOf i).toNat)
    case atStart => exact ⟨0, l3, Nat.zero_le _, rfl, Bk.start HA.out.2.1, HA.out.1⟩
    case round =>
      clear q00
      obtain ⟨i, l2, hi, rfl, hB2, hA⟩ := hrel
      have q0 : wr.cell? ⟨Q, 0, none⟩ = some (.slice qa n qc) := (blk_cell hA.qb 0).trans rfl
      by_cases hin : i < n
      · as_aux_lemma =>
          obtain ⟨f, hf⟩ : ∃ f, l[i]? = some f := ⟨l[i]'(by have := HNL.out; omega), by simp⟩
          obtain ⟨f2, hf2⟩ : ∃ f, l2[i]? = some f := ⟨l2[i]'(by rw [hB2.lk.len]; have := HNL.out; omega), by simp⟩
          obtain ⟨m, hm⟩ : ∃ m, m = f.code.length := ⟨_, rfl⟩
          have hm2 : m = f2.code.length := by rw [hm]; exact (hB2.lk.fn i f f2 hf hf2).2.2.2.symm
          have i5 : (i : Int) < (n : Int) := by omega
          have hmb : (m : Int) ≤ 4611686018427387904 := by have := HC.out.2.2.2.1.2 f (List.mem_of_getElem? hf); omega
          have HI : Hid (Bk l l2 i 0 ∧ Al W wr Q l2 (.slice qa n qc) tq (.slice ba (an + 1) bc) (an + 1) (zs ++ [-77]) ∧ l[i]? = some f ∧ l2[i]? = some f2 ∧ m = f.code.length ∧ m = f2.code.length) := ⟨hB2, hA, hf, hf2, hm, hm2⟩
          clear hB2 hA hf hf2 hm hm2
          go_wp2_with fail
          go_loopw [14] (fun s14 wr => ∃ (k : Nat) (l3 : List Fn) (f3 : Fn), k ≤ m ∧ s14 = .int .i64 k ∧ Bk l l3 i k ∧ l3[i]? = some f3 ∧ m = f3.code.length ∧ Al W wr Q l3 (.slice qa n qc) tq (.slice ba (an + 1) bc) (an + 1) (zs ++ [-77])) (fun i _ => m - (intOf i).toNat)
          case atStart => exact ⟨0, l2, f2, Nat.zero_le _, rfl, HI.out.1, HI.out.2.2.2.1, HI.out.2.2.2.2.2, HI.out.2.1⟩
          case round =>
            clear q0
            obtain ⟨k, l3, f3, hk, rfl, hB3, hf3, hm3, hA⟩ := hrel
            have p0 : wr.cell? ⟨Q, 0, none⟩ = some (.slice qa n qc) := (blk_cell hA.qb 0).trans rfl
            have hl3 : n = l3.length := by rw [hB3.lk.len]; exact HNL.out
            by_cases hkm : k < m
            · obtain ⟨x3, hx3⟩ : ∃ x, f3.code[k]? = some x := ⟨f3.code[k]'(by omega), by simp⟩
              obtain ⟨x, hx⟩ : ∃ x, f.code[k]? = some x := ⟨f.code[k]'(by have := HI.out.2.2.2.2.1; omega), by simp⟩
              obtain ⟨g, cb, cc, rfl, hcc, hin5, hfz, hne1, hne2, hput⟩ := hA.putK hl3 hf3 hx3
              rw [← hm3] at hcc
              have y4 := hin5.k
              have pB := hA.keep.cell HD.out (fun f => f)
              obtain ⟨pb, po, fp, pa, pc, rfl, hfp, hat⟩ := (HC.out.2.1.more hA.keep).at hin
              have efp : fp = f := by have := HI.out.2.2.1; rw [this] at hfp; exact (Option.some.inj hfp).symm
              subst efp
              have pcd := hat.code
              rw [← HI.out.2.2.2.2.1] at pcd
              obtain ⟨pcb, pco, px, hpa, hpx, hpin⟩ := hat.seen.at (k := k) (by have := HI.out.2.2.2.2.1; omega)
              subst hpa
              have epx : px = x := by rw [hx] at hpx; exact (Option.some.inj hpx).symm
              subst epx
              have pk := hpin.k
              have i6 : (k : Int) < (m : Int) := by omega
              have HX : Hid (Bk l (l3.set i { f3 with code := f3.code.set k { x3 with k := px.k } }) i (k + 1) ∧ (l3.set i { f3 with code := f3.code.set k { x3 with k := px.k } })[i]? = some { f3 with code := f3.code.set k { x3 with k := px.k } } ∧ m = ({ f3 with code := f3.code.set k { x3 with k := px.k } } : Fn).code.length ∧ Al W (wr.setCell ⟨cb, k * 5 + 4, none⟩ (.int .i64 px.k)) Q (l3.set i { f3 with code := f3.code.set k { x3 with k := px.k } }) (.slice (some ⟨g, 0, none⟩) n qc) tq (.slice ba (an + 1) bc) (an + 1) (zs ++ [-77])) :=
                ⟨hB3.put HI.out.2.2.1 hf3 hx hx3, List.getElem?_set_self (by omega), by simpa using hm3, hput px.k⟩
              clear hA hput hin5 hx hx3 hB3 hf3 hm3 hl3 hat hfp hpx hpin
              go_upto_region 28 with fail
              have zf : wr.drew.frozen? ⟨cb, k * 5 + 4, none⟩ = false := hfz
              have zc : wr.drew.cell? ⟨cb, k * 5 + 4, none⟩ = some (.int .i64 x3.k) := y4
              have zp : wr.drew.cell? ⟨Q, 0, none⟩ = some (.slice (some ⟨g, 0, none⟩) n qc) := p0
              have zg : wr.drew.cell? ⟨g, i * 4 + 3, none⟩ = some (.slice (some ⟨cb, 0, none⟩) m cc) := hcc
              have zb : wr.drew.cell? ⟨B, 0, none⟩ = some (.slice (some ⟨pb, po, none⟩) n c) := pB
              have zd : wr.drew.cell? ⟨pb, po + i * 4 + 3, none⟩ = some (.slice (some ⟨pcb, pco, none⟩) m pc) := pcd
              have zk : wr.drew.cell? ⟨pcb, pco + k * 5 + 4, none⟩ = some (.int .i64 px.k) := pk
              go_region
              all_goals clear zf zc zp zg y4 hfz hcc p0 zb zd zk pB pcd pk
              all_goals go_wp2_with fail
              all_goals exact ⟨⟨k + 1, _, _, by omega, by go_num, HX.out.1, HX.out.2.1, HX.out.2.2.1, HX.out.2.2.2.more (Keeps.drew None _)⟩, by simp [intOf]; omega⟩
            · have hkn2 : m = k := by omega
              subst hkn2
              obtain ⟨b, off, f4, ca, cc, rfl, hf4, hat⟩ := (hA.seenQ hl3).at hin
              have e4 : f4 = f3 := by rw [hf3] at hf4; exact (Option.some.inj hf4).symm
              subst e4
              have y3 := hat.code
              rw [← hm3] at y3
              have i6 : ¬ (m : Int) < (m : Int) := by omega
              have HX : Hid (Bk l l3 (i + 1) 0 ∧ Al W wr Q l3 (.slice (some ⟨b, off, none⟩) n qc) tq (.slice ba (an + 1) bc) (an + 1) (zs ++ [-77])) := ⟨hB3.next HI.out.2.2.1 (by have := HI.out.2.2.2.2.1; omega), hA⟩
              clear hl3 hB3 hf3 hm3 hA hf4 hat
              go_wp2_with fail
              exact ⟨⟨i + 1, l3, by omega, by go_num, HX.out.1, HX.out.2⟩, by simp [intOf]; omega⟩
      · have hkn2 : n = i := by omega
        subst hkn2
        have i5 : ¬ (n : Int) < (n : Int) := by omega
        have el := hB2.all (by have := HNL.out; omega)
        rw [el] at hA
        clear el
        have HA2 : Hid _ := hA
        clear hB2 hA
        go_wp2_with fail
        go_meet
        exact HA2.out
  case rest =>
    rename_i hK
    apply hK
    exact of_C a n c l aa an ac zs fuel w W wc B Q qa ba qc bc tq HC HD han hnb hcut
end Go.Proofs.YtbdpdojeaahpjaaGreatDoor
/-! DagOf: the walk, from region 10 on. -/
namespace Go.Proofs.YtbdpdojeaahpjaaGreatDoor
set_option linter.unusedVariables false
set_option maxRecDepth 20000
set_option linter.unusedSimpArgs false
open Go.RowKit Go.HeapKit Go.PlainOps

theorem bump_ok (x : Int) : okI (wrap64 (x + 1)) := wrap_ok _
set_option maxHeartbeats 8000000 in
set_option maxRecDepth 1000000 in
theorem of_B (a : Option Addr) (n c : Nat) (l : List Fn) (aa : Option Addr) (an ac : Nat) (zs : List Int) (fuel : Int) (w W w28 : World) (B Q : Nat) (qa ba : Option Addr) (qc bc : Nat) (tq : List At) (HC : Hid (Tabs W ∧ SeenF W a n l ∧ (∀ f ∈ l, f.Ok) ∧ (n * 48 ≤ 140737488351232 ∧ ∀ f ∈ l, f.code.length * 40 ≤ 140737488351232) ∧ SeenA W aa an zs ∧ Keeps None w W ∧ okI fuel ∧ an * 8 ≤ 140737488351232)) (HD : Hid (W.cell? ⟨B, 0, none⟩ = some (.slice a n c))) (han : (an : Int) ≤ 4611686018427387904) (hnb : (n : Int) ≤ 4611686018427387904) (zs1 : List Int) (HA : Hid (Al W w28 Q l (.slice qa n qc) tq (.slice ba (an + 1) bc) (an + 1) (zs1 ++ [-77]) ∧ zs1.length = an)) {u0 u4 u5 u6 u9 u10 u11 u12 u13 u14 u15 u16 u17 u18 u19 u20 u21 u22 u23 u24 u25 u26 u27 u28 u29 u30 u31 u32 u33 u34 u35 u36 u37 u38 u39 u40 u41 u42 u43 u44 u45 u46 u47 u48 u49 u50 u51 u52 u53 u54 u55 u56 u57 u58 u59 u60 u61 u62 u63 u64 u65 u66 u67 u68 u69 u70 u71 u72 u73 u74 u75 u76 u77 u78 u79 u80 u81 u82 u83 u84 u85 u86 u87 u88 u89 u90 u91 u92 u93 u94 u95 u96 u97 u98 u99 u100 u101 u102 u103 u104 u105 u106 u107 u108 u109 u110 u111 u112 u113 u114 u115 u116 u117 u118 u119 u120 u121 u122 u123 u124 u125 u126 u127 u128 u129 u130 u131 u132 u133 u134 u135 u136 u137 u138 u139 u140 u141 u142 u143 u144 u145 u146 u147 u148 u149 u150 u151 u152 u153 u154 u155 u156 u157 u158 u159 u160 u161 u162 u163 u164 u165 u166 u167 u168 u169 u170 u171 u172 u173 u174 u175 u176 u177 u178 u179 u180 u181 u182 u183 u184 u185 u186 u187 u188 u189 u190 u191 u192 u193 u194 u195 u196 u197 u198 u199 u200 u201 u202 u203 u204 u205 u206 u207 u208 u209 u210 u211 u212 u213 u214 u215 u216 u217 u218 u219 u220 u221 u222 u223 u224 u225 u226 u227 u228 u229 u230 u231 u232 u233 u234 u235 u236 u237 u238 u239 u240 u241 u242 : Value} :
    Code.wp Tryz.prog (ofTail 10) (bodyPost Tryz.prog Tryz.f3 fun e w' => e = .returned (.bool true) ∧ Keeps None w w') ⟨#[u0, .slice aa an ac, .int .i64 fuel, .pointer (some ⟨B, 0, none⟩), u4, u5, u6, .pointer (some ⟨Q, 0, none⟩), .slice ba an bc, u9, u10, u11, u12, u13, u14, u15, u16, u17, u18, u19, u20, u21, u22, u23, u24, u25, u26, u27, u28, u29, u30, u31, u32, u33, u34, u35, u36, u37, u38, u39, u40, u41, u42, u43, u44, u45, u46, u47, u48, u49, u50, u51, u52, u53, u54, u55, u56, u57, u58, u59, u60, u61, u62, u63, u64, u65, u66, u67, u68, u69, u70, u71, u72, u73, u74, u75, u76, u77, u78, u79, u80, u81, u82, u83, u84, u85, u86, u87, u88, u89, u90, u91, u92, u93, u94, u95, u96, u97, u98, u99, u100, u101, u102, u103, u104, u105, u106, u107, u108, u109, u110, u111, u112, u113, u114, u115, u116, u117, u118, u119, u120, u121, u122, u123, u124, u125, u126, u127, u128, u129, u130, u131, u132, u133, u134, u135, u136, u137, u138, u139, u140, u141, u142, u143, u144, u145, u146, u147, u148, u149, u150, u151, u152, u153, u154, u155, u156, u157, u158, u159, u160, u161, u162, u163, u164, u165, u166, u167, u168, u169, u170, u171, u172, u173, u174, u175, u176, u177, u178, u179, u180, u181, u182, u183, u184, u185, u186, u187, u188, u189, u190, u191, u192, u193, u194, u195, u196, u197, u198, u199, u200, u201, u202, u203, u204, u205, u206, u207, u208, u209, u210, u211, u212, u213, u214, u215, u216, u217, u218, u219, u220, u221, u222, u223, u224, u225, u226, u227, u228, u229, u230, u231, u232, u233, u234, u235, u236, u237, u238, u239, u240, u241, u242], []⟩ w28 := by
  conv => arg 2; whnf
  have hnl := HC.out.2.1.len
  have hzl := HC.out.2.2.2.2.1.len
  have HNL : Hid (n = l.length ∧ an = zs.length) := ⟨hnl, hzl⟩
  clear hnl hzl
  go_wp2_with fail
  go_loopw [10] (fun s10 wr => ∃ k : Nat, k ≤ an ∧ s10 = .int .i64 k ∧ Al W wr Q l (.slice qa n qc) tq (.slice ba (an + 1) bc) (an + 1) ((zs.take k ++ zs1.drop k) ++ [-77])) (fun i _ => an - (intOf i).toNat)
  case atStart => exact ⟨0, Nat.zero_le _, rfl, by simpa using HA.out.1⟩
  case round =>
    obtain ⟨k, hk, rfl, hA⟩ := hrel
    by_cases hka : k < an
    · as_aux_lemma =>
        have h1 := HNL.out.2
        have h2 := HA.out.2
        have hl5 : an + 1 = ((zs.take k ++ zs1.drop k) ++ [-77]).length := by simp; omega
        obtain ⟨x, hx⟩ : ∃ x, ((zs.take k ++ zs1.drop k) ++ [-77])[k]? = some x := ⟨((zs.take k ++ zs1.drop k) ++ [-77])[k]'(by omega), by simp⟩
        obtain ⟨g, rfl, hfz, hce, hput⟩ := hA.putB hl5 hx
        obtain ⟨y, hy⟩ : ∃ y, zs[k]? = some y := ⟨zs[k]'(by omega), by simp⟩
        obtain ⟨b, off, rfl, _, hcc⟩ := (HC.out.2.2.2.2.1.more hA.keep).ex (by omega)
        have c1 := hcc k y hy
        have i1 : (k : Int) < (an : Int) := by omega
        have em : ((zs.take k ++ zs1.drop k) ++ [-77]).set k y = (zs.take (k + 1) ++ zs1.drop (k + 1)) ++ [-77] := by
          rw [List.set_append_left _ _ (by simp; omega), List.set_append_right _ _ (by rw [List.length_take]; omega), List.length_take, Nat.min_eq_left (by omega), Nat.sub_self, List.take_add_one, hy, List.drop_eq_getElem_cons (by omega), List.set_cons_zero]
          simp
        have HX : Hid (Al W (wr.setCell ⟨g, k, none⟩ (.int .i64 y)) Q l (.slice qa n qc) tq (.slice (some ⟨g, 0, none⟩) (an + 1) bc) (an + 1) ((zs.take (k + 1) ++ zs1.drop (k + 1)) ++ [-77])) := by rw [← em]; exact hput y
        clear hA hx hput hy hcc em hl5 h1 h2
        go_wp2_with fail
        exact ⟨⟨k + 1, by omega, by go_num, HX.out⟩, by simp [intOf]; omega⟩
    · have hkn : an = k := by omega
      subst hkn
      have i1 : ¬ (an : Int) < (an : Int) := by omega
      have hA2 : Al W wr Q l (.slice qa n qc) tq (.slice ba (an + 1) bc) (an + 1) (zs ++ [-77]) := by
        have h1 := HNL.out.2
        have h2 := HA.out.2
        rw [List.take_of_length_le (by omega), List.drop_eq_nil_of_le (by omega), List.append_nil] at hA
        exact hA
      have HA2 : Hid _ := hA2
      have q00 : wr.cell? ⟨Q, 0, none⟩ = some (.slice qa n qc) := (blk_cell hA2.qb 0).trans rfl
      clear hA hA2 HA hk hka
      go_wp2_with fail
      clear q00
      go_loopw [11] (fun s11 wr => ∃ (i : Nat) (l2 : List Fn), i ≤ n ∧ s11 = .int .i64 i ∧ Lk l l2 ∧ (∀ f ∈ l2, f.Ok) ∧ Al W wr Q l2 (.slice qa n qc) tq (.slice ba (an + 1) bc) (an + 1) (zs ++ [-77])) (fun i _ => n - (intOf i).toNat)
      case atStart => exact ⟨0, l, Nat.zero_le _, rfl, Lk.refl l, HC.out.2.2.1, HA2.out⟩
      case round =>
        obtain ⟨i, l2, hi, rfl, hB2, hok2, hA⟩ := hrel
        have q0 : wr.cell? ⟨Q, 0, none⟩ = some (.slice qa n qc) := (blk_cell hA.qb 0).trans rfl
        by_cases hin : i < n
        · as_aux_lemma =>
            obtain ⟨f2, hf2⟩ : ∃ f, l2[i]? = some f := ⟨l2[i]'(by rw [hB2.len]; have := HNL.out.1; omega), by simp⟩
            obtain ⟨f, hf⟩ : ∃ f, l[i]? = some f := ⟨l[i]'(by have := HNL.out.1; omega), by simp⟩
            obtain ⟨m, hm⟩ : ∃ m, m = f2.code.length := ⟨_, rfl⟩
            have i5 : (i : Int) < (n : Int) := by omega
            have hmb : (m : Int) ≤ 4611686018427387904 := by have := HC.out.2.2.2.1.2 f (List.mem_of_getElem? hf); have := (hB2.fn i f f2 hf hf2).2.2.2; omega
            have HI : Hid (Lk l l2 ∧ Al W wr Q l2 (.slice qa n qc) tq (.slice ba (an + 1) bc) (an + 1) (zs ++ [-77]) ∧ l2[i]? = some f2 ∧ m = f2.code.length ∧ ∀ f ∈ l2, f.Ok) := ⟨hB2, hA, hf2, hm, hok2⟩
            clear hB2 hA hf2 hm hok2 hf
            go_wp2_with fail
            go_loopw [12] (fun s12 wr => ∃ (k : Nat) (l3 : List Fn) (f3 : Fn), k ≤ m ∧ s12 = .int .i64 k ∧ Lk l l3 ∧ (∀ f ∈ l3, f.Ok) ∧ l3[i]? = some f3 ∧ m = f3.code.length ∧ Al W wr Q l3 (.slice qa n qc) tq (.slice ba (an + 1) bc) (an + 1) (zs ++ [-77])) (fun i _ => m - (intOf i).toNat)
            case atStart => exact ⟨0, l2, f2, Nat.zero_le _, rfl, HI.out.1, HI.out.2.2.2.2, HI.out.2.2.1, HI.out.2.2.2.1, HI.out.2.1⟩
            case round =>
              clear q0
              obtain ⟨k, l3, f3, hk, rfl, hB3, hok3, hf3, hm3, hA⟩ := hrel
              have p0 : wr.cell? ⟨Q, 0, none⟩ = some (.slice qa n qc) := (blk_cell hA.qb 0).trans rfl
              have hl3 : n = l3.length := by rw [hB3.len]; exact HNL.out.1
              by_cases hkm : k < m
              · obtain ⟨x3, hx3⟩ : ∃ x, f3.code[k]? = some x := ⟨f3.code[k]'(by omega), by simp⟩
                obtain ⟨g, cb, cc, rfl, hcc, hin5, hfz, hne1, hne2, hput⟩ := hA.putK hl3 hf3 hx3
                rw [← hm3] at hcc
                have y4 := hin5.k
                have i6 : (k : Int) < (m : Int) := by omega
                have HX : Hid (∀ y, okI y → Lk l (l3.set i { f3 with code := f3.code.set k { x3 with k := y } }) ∧ (∀ f ∈ l3.set i { f3 with code := f3.code.set k { x3 with k := y } }, f.Ok) ∧ (l3.set i { f3 with code := f3.code.set k { x3 with k := y } })[i]? = some { f3 with code := f3.code.set k { x3 with k := y } } ∧ m = ({ f3 with code := f3.code.set k { x3 with k := y } } : Fn).code.length ∧ Al W (wr.setCell ⟨cb, k * 5 + 4, none⟩ (.int .i64 y)) Q (l3.set i { f3 with code := f3.code.set k { x3 with k := y } }) (.slice (some ⟨g, 0, none⟩) n qc) tq (.slice ba (an + 1) bc) (an + 1) (zs ++ [-77])) := fun y hy =>
                  ⟨hB3.put hf3 hx3 y, putK_ok hok3 hf3 hx3 hy, List.getElem?_set_self (by omega), by simpa using hm3, hput y⟩
                clear hA hput hin5 hx3 hB3 hf3 hm3 hl3 hok3
                go_upto_region 20 with fail
                have zf : wr.drew.frozen? ⟨cb, k * 5 + 4, none⟩ = false := hfz
                have zc : wr.drew.cell? ⟨cb, k * 5 + 4, none⟩ = some (.int .i64 x3.k) := y4
                have zp : wr.drew.cell? ⟨Q, 0, none⟩ = some (.slice (some ⟨g, 0, none⟩) n qc) := p0
                have zg : wr.drew.cell? ⟨g, i * 4 + 3, none⟩ = some (.slice (some ⟨cb, 0, none⟩) m cc) := hcc
                go_region
                all_goals clear zf zc zp zg y4 hfz hcc p0
                all_goals go_wp2_with fail
                all_goals (have q := HX.out _ (bump_ok x3.k); exact ⟨⟨k + 1, _, _, by omega, by go_num, q.1, q.2.1, q.2.2.1, q.2.2.2.1, q.2.2.2.2.more (Keeps.drew None _)⟩, by simp [intOf]; omega⟩)
              · have hkn2 : m = k := by omega
                subst hkn2
                obtain ⟨b, off, f4, ca, cc, rfl, hf4, hat⟩ := (hA.seenQ hl3).at hin
                have e4 : f4 = f3 := by rw [hf3] at hf4; exact (Option.some.inj hf4).symm
                subst e4
                have y3 := hat.code
                rw [← hm3] at y3
                have i6 : ¬ (m : Int) < (m : Int) := by omega
                have HX : Hid (Lk l l3 ∧ (∀ f ∈ l3, f.Ok) ∧ Al W wr Q l3 (.slice (some ⟨b, off, none⟩) n qc) tq (.slice ba (an + 1) bc) (an + 1) (zs ++ [-77])) := ⟨hB3, hok3, hA⟩
                clear hl3 hB3 hf3 hm3 hA hf4 hat hok3
                go_wp2_with fail
                exact ⟨⟨i + 1, l3, by omega, by go_num, HX.out.1, HX.out.2.1, HX.out.2.2⟩, by simp [intOf]; omega⟩
        · have hkn2 : n = i := by omega
          subst hkn2
          have i5 : ¬ (n : Int) < (n : Int) := by omega
          have hzo := HC.out.2.2.2.2.1.ok
          obtain ⟨gb, hgb, hsb, hmk, hcap⟩ := mark_seen hA.brow HNL.out.2 (by omega) hzo
          subst hgb
          have hof := of_any qa n qc l2 (some ⟨gb, 0, none⟩) an bc zs fuel wr (HC.out.1.more hA.keep) (hA.seenQ (by rw [hB2.len]; exact HNL.out.1)) hok2 hsb hzo (by omega) HC.out.2.2.2.2.2.2.1
          have HOF : Hid (Calls Tryz.prog 5 #[.agg #[.slice qa n qc], .slice (some ⟨gb, 0, none⟩) an bc, .int .i64 fuel] wr (fun e w' => (∃ v, e = .returned v) ∧ Keeps None wr w')) := Calls.mono hof (fun e w' h => by obtain ⟨ea, ec, he, _, hk⟩ := of_one h; exact ⟨⟨_, he⟩, hk⟩)
          have HA3 : Hid (Al W wr Q l2 (.slice qa n qc) tq (.slice (some ⟨gb, 0, none⟩) (an + 1) bc) (an + 1) (zs ++ [-77]) ∧ Lk l l2 ∧ ∀ f ∈ l2, f.Ok) := ⟨hA, hB2, hok2⟩
          clear hB2 hok2 hA hof hsb hmk hcap hzo HA2
          go_upto_region 21 with fail
          go_cut [104] (fun s104 wx => Keeps None wr wx)
          case first =>
            go_wp2_with (go_at_call 5; refine Calls.mono HOF.out ?_; rintro _ w21 ⟨⟨v, rfl⟩, hk21⟩)
            go_meet
            exact hk21
          case rest =>
            rename_i hK
            apply hK
            exact of_B2 a n c l aa an ac zs fuel w W wc B Q qa (some ⟨gb, 0, none⟩) qc bc tq HC HD han hnb l2 ⟨HA3.out.1.more hcut, HA3.out.2⟩
end Go.Proofs.YtbdpdojeaahpjaaGreatDoor
/-! DagOf: the walk, whole. -/
namespace Go.Proofs.YtbdpdojeaahpjaaGreatDoor
set_option linter.unusedVariables false
set_option maxRecDepth 20000
set_option linter.unusedSimpArgs false
open Go.RowKit Go.HeapKit Go.PlainOps

theorem Al.grow {W wr w' : World} {Q : Nat} {l : List Fn} {qv : Value} {tq : List At} {bv bv' : Value} {k k' : Nat} {ys ys' : List Int} (h : Al W wr Q l qv tq bv k ys) (hk : Keeps (fun j => bv.ownBlock = some j) wr w') (hrow : w'.ownsRow 0 2 1 bv' k' (ints ys')) (hlow : ∀ g, bv'.ownBlock = some g → W.heap.size ≤ g) : Al W w' Q l qv tq bv' k' ys' := by
  refine ⟨h.keep.trans hk (fun i e hi => by have := h.blow i e; omega), h.qlow, blk_kept h.qb hk (fun e => absurd (own_type h.brow e h.qb) (by decide)), h.cp.kept hk (fun g' e q => own_apart h.cp.row h.brow (by decide) e q) (fun i t g' ht e q => ?_), hrow, hlow⟩
  obtain ⟨f, hf⟩ : ∃ f, l[i]? = some f := ⟨l[i]'(by have := (List.getElem?_eq_some_iff.1 ht).1; have := h.cp.len; omega), by simp⟩
  have hc := h.cp.code i f t hf ht
  exact own_apart hc h.brow (by decide) (by rw [← e]; exact At.blk_slice _ _ _ _) q
/-- One more number behind the arguments' copy. -/
theorem Al.app {W wr : World} {Q : Nat} {l : List Fn} {qv : Value} {tq : List At} {bv : Value} {k : Nat} {ys : List Int} (h : Al W wr Q l qv tq bv k ys) (hk : k = ys.length) (hl : k * 8 ≤ 140737488351232) (y : Int) :
    ∃ g cap w', (Builtin.append_ #[25, 25] 25 #[bv, .slice (some ⟨wr.heap.size, 0, none⟩) 1 1]).run Tryz.prog (wr.alloc (.cells #[.int .i64 y] 2)) = .ok (.slice (some ⟨g, 0, none⟩) (k + 1) cap) w' ∧ Al W w' Q l qv tq (.slice (some ⟨g, 0, none⟩) (k + 1) cap) (k + 1) (ys ++ [y]) := by
  have hal := Keeps.alloc None wr (.cells #[.int .i64 y] 2)
  have h1 := h.more hal
  obtain ⟨g, cap, w', hr, ho, hke, hme⟩ := row_app (wr.alloc (.cells #[.int .i64 y] 2)) 0 25 25 2 1 8 _ Tryz.underlying25 Tryz.infoI64 rfl (by decide) bv _ _ h1.brow wr.heap.size _ (heap_alloc_new wr _) rfl (fun u hu => by simp at hu; subst hu; rfl) (Nat.zero_le _) (by omega) (by unfold maxLen; omega)
  refine ⟨g, cap, w', hr, h1.grow hke ?_ (fun g' e => ?_)⟩
  · rw [show ints (ys ++ [y]) = ints ys ++ [.int .i64 y] by simp [ints]]
    exact ho
  · simp [Value.ownBlock] at e
    subst e
    rcases hme with e | e
    · exact h1.blow g e
    · have := h1.keep.size
      omega
def bumpL (zs : List Int) : List Int := zs.map (fun x => wrap64 (x + 1))
theorem bumpL_ok (zs : List Int) : ∀ x ∈ bumpL zs, okI x := fun x hx => by
  unfold bumpL at hx
  obtain ⟨y, _, rfl⟩ := List.mem_map.1 hx
  exact wrap_ok _
theorem bumpL_len (zs : List Int) : (bumpL zs).length = zs.length := by simp [bumpL]
set_option maxHeartbeats 8000000 in
set_option maxRecDepth 1000000 in
theorem dagOf_walk (a : Option Addr) (n c : Nat) (l : List Fn) (aa : Option Addr) (an ac : Nat) (zs : List Int) (fuel : Int) (w : World) (hT : Tabs w) (hS : SeenF w a n l) (hok : ∀ f ∈ l, f.Ok) (hr : n * 48 ≤ 140737488351232 ∧ ∀ f ∈ l, f.code.length * 40 ≤ 140737488351232) (hZ : SeenA w aa an zs) (hrz : an * 8 ≤ 140737488351232) (hfu : okI fuel) :
    Calls Tryz.prog 3 #[.agg #[.slice a n c], .slice aa an ac, .int .i64 fuel] w fun e w' => e = .returned (.bool true) ∧ Keeps None w w' := by
  have b1 := heap_alloc_new w (.cells #[.slice a n c] 24)
  have hk1 := Keeps.alloc None w (.cells #[.slice a n c] 24)
  obtain ⟨W, hW⟩ : ∃ W, W = w.alloc (.cells #[.slice a n c] 24) := ⟨_, rfl⟩
  obtain ⟨B, hB⟩ : ∃ B, B = w.heap.size := ⟨_, rfl⟩
  rw [← hW, ← hB] at b1
  rw [← hW] at hk1
  have d0 : W.cell? ⟨B, 0, none⟩ = some (.slice a n c) := (blk_cell b1 0).trans rfl
  have han : (an : Int) ≤ 4611686018427387904 := by omega
  have hnb : (n : Int) ≤ 4611686018427387904 := by have := hr.1; omega
  have HD : Hid (W.cell? ⟨B, 0, none⟩ = some (.slice a n c)) := d0
  have HC : Hid (Tabs W ∧ SeenF W a n l ∧ (∀ f ∈ l, f.Ok) ∧ (n * 48 ≤ 140737488351232 ∧ ∀ f ∈ l, f.code.length * 40 ≤ 140737488351232) ∧ SeenA W aa an zs ∧ Keeps None w W ∧ okI fuel ∧ an * 8 ≤ 140737488351232) := ⟨hT.more hk1, hS.more hk1, hok, hr, hZ.more hk1, hk1, hfu, hrz⟩
  have hcp := twin_own a n c l W (hS.more hk1) hr.1 hr.2
  have HCP : Hid (Calls Tryz.prog 4 #[.agg #[.slice a n c]] W (CopiedOwn W l n)) := hcp
  clear hT hS hok hr hZ hrz hfu hk1 b1 hcp
  go_enter Tryz.func3, Tryz.ntmps3
  go_upto_region 1 with fail
  rw [← hW, ← hB]
  clear hW hB
  go_upto_region 2 with (go_at_call 4; refine Calls.mono HCP.out ?_; rintro _ w2 ⟨qa, qc, tq, rfl, hq2, hk2⟩)
  have hal := Keeps.alloc None w2 (.cells #[.slice qa n qc] 24)
  have b2 := heap_alloc_new w2 (.cells #[.slice qa n qc] 24)
  obtain ⟨V, hV⟩ : ∃ V, V = w2.alloc (.cells #[.slice qa n qc] 24) := ⟨_, rfl⟩
  obtain ⟨Q, hQ⟩ : ∃ Q, Q = w2.heap.size := ⟨_, rfl⟩
  rw [← hV] at hal b2
  rw [← hQ] at b2
  rw [← hV, ← hQ]
  have HA0 : Hid (Al W V Q l (.slice qa n qc) tq (.slice none 0 0) 0 []) := ⟨hk2.trans hal (fun _ f _ => f), by rw [hQ]; exact hk2.size, b2, hq2.more hal, ⟨rfl, .inl ⟨rfl, rfl⟩⟩, fun g e => by simp [Value.ownBlock] at e⟩
  clear hal b2 hV hQ hk2 hq2 d0
  go_wp2_with fail
  go_loopw [8, 9] (fun s8 s9 wr => ∃ (k : Nat) (bv : Value), k ≤ an ∧ s8 = bv ∧ s9 = .int .i64 k ∧ Al W wr Q l (.slice qa n qc) tq bv k (bumpL (zs.take k))) (fun _ i _ => an - (intOf i).toNat)
  case atStart => exact ⟨0, _, Nat.zero_le _, rfl, rfl, HA0.out⟩
  case round =>
    obtain ⟨k, bv, hk, h8, rfl, hA⟩ := hrel
    have h8' := h8.symm
    subst h8'
    have hzl := HC.out.2.2.2.2.1.len
    have h8n := HC.out.2.2.2.2.2.2.2
    by_cases hka : k < an
    · as_aux_lemma =>
        obtain ⟨x, hx⟩ : ∃ x, zs[k]? = some x := ⟨zs[k]'(by omega), by simp⟩
        obtain ⟨b, off, rfl, _, hcc⟩ := (HC.out.2.2.2.2.1.more hA.keep).ex (by omega)
        have c1 := hcc k x hx
        obtain ⟨g, cap, w7, hr7, hA7⟩ := hA.app (by rw [bumpL_len, List.length_take]; omega) (by omega) (wrap64 (x + 1))
        have eu : bumpL (zs.take k) ++ [wrap64 (x + 1)] = bumpL (zs.take (k + 1)) := by
          unfold bumpL
          rw [List.take_add_one, hx]
          simp
        rw [eu] at hA7
        have i1 : (k : Int) < (an : Int) := by omega
        have HX : Hid _ := hA7
        clear hA hx hcc eu hA7 hzl h8n
        go_wp2_with (at_builtin; refine wpList_append_run rfl (.tmp 31) (.tmp 37) 25 25 rfl rfl rfl hr7 ?_)
        exact ⟨⟨k + 1, _, by omega, rfl, by go_num, HX.out⟩, by simp [intOf]; omega⟩
    · have hkn : an = k := by omega
      subst hkn
      have i1 : ¬ (an : Int) < (an : Int) := by omega
      rw [List.take_of_length_le (by omega)] at hA
      obtain ⟨g, cap, w7, hr7, hA7⟩ := hA.app (by rw [bumpL_len]; omega) h8n (-77)
      obtain ⟨gb, hgb, hsb, hmk, hcap⟩ := mark_seen hA7.brow (by rw [bumpL_len]; omega) (by omega) (bumpL_ok zs)
      obtain rfl : g = gb := by injection hgb with e; injection e
      have i2 : (an : Int) ≤ (cap : Int) := by omega
      have hof := of_any qa n qc l (some ⟨g, 0, none⟩) an cap (bumpL zs) fuel w7 (HC.out.1.more hA7.keep) (hA7.seenQ HC.out.2.1.len) HC.out.2.2.1 hsb (bumpL_ok zs) (by omega) HC.out.2.2.2.2.2.2.1
      have HOF : Hid (Calls Tryz.prog 5 #[.agg #[.slice qa n qc], .slice (some ⟨g, 0, none⟩) an cap, .int .i64 fuel] w7 (fun e w' => (∃ v, e = .returned v) ∧ Keeps None w7 w')) := Calls.mono hof (fun e w' h => by obtain ⟨ea, ec, he, _, hk⟩ := of_one h; exact ⟨⟨_, he⟩, hk⟩)
      have q7 : w7.cell? ⟨Q, 0, none⟩ = some (.slice qa n qc) := (blk_cell hA7.qb 0).trans rfl
      have HX : Hid (Al W w7 Q l (.slice qa n qc) tq (.slice (some ⟨g, 0, none⟩) (an + 1) cap) (an + 1) (bumpL zs ++ [-77]) ∧ (bumpL zs).length = an) := ⟨hA7, by rw [bumpL_len]; omega⟩
      clear hA hA7 hsb hmk hof hgb hzl h8n
      go_upto_region 9 with (at_builtin; refine wpList_append_run rfl (.tmp 39) (.tmp 40) 25 25 rfl rfl rfl hr7 ?_)
      go_cut [49] (fun s49 wx => Keeps None w7 wx)
      case first =>
        go_wp2_with (go_at_call 5; refine Calls.mono HOF.out ?_; rintro _ w9 ⟨⟨v, rfl⟩, hk9⟩)
        go_meet
        exact hk9
      case rest =>
        rename_i hK
        apply hK
        exact of_B a n c l aa an ac zs fuel w W wc B Q qa (some ⟨g, 0, none⟩) qc cap tq HC HD han hnb (bumpL zs) ⟨HX.out.1.more hcut, HX.out.2⟩
end Go.Proofs.YtbdpdojeaahpjaaGreatDoor
