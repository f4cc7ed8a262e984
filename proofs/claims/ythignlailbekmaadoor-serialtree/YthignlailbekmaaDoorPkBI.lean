import Derived.Test.YthignlailbekmaaDoorPkBH
/-! SerialTree: the walk, from region 33 on. -/
namespace Go.Proofs.YthignlailbekmaaDoor
set_option linter.unusedVariables false
set_option maxRecDepth 20000
open Go.RowKit Go.HeapKit Go.PlainOps

theorem putK_len {l : List Fn} {i k : Nat} {f : Fn} {x : Ins} {y : Int} (h : ∀ f ∈ l, f.code.length * 40 ≤ 140737488351232) (hf : l[i]? = some f) : ∀ f' ∈ l.set i { f with code := f.code.set k { x with k := y } }, f'.code.length * 40 ≤ 140737488351232 := fun f' hf' => by
  rcases List.mem_or_eq_of_mem_set hf' with h1 | h1
  · exact h f' h1
  · subst h1
    simp only [List.length_set]
    exact h f (List.mem_of_getElem? hf)
set_option maxHeartbeats 8000000 in
set_option maxRecDepth 1000000 in
theorem tree_D (a : Option Addr) (n c : Nat) (l : List Fn) (aa : Option Addr) (an : Nat) (zs : List Int) (fuel : Int) (w W w32 : World) (Q : Nat) (qa ba : Option Addr) (qc bc : Nat) (tq : List At) (HC : Hid (Tabs W ∧ SeenF W a n l ∧ (∀ f ∈ l, f.Ok) ∧ (n * 48 ≤ 140737488351232 ∧ ∀ f ∈ l, f.code.length * 40 ≤ 140737488351232) ∧ SeenA W aa an zs ∧ Keeps None w W ∧ okI fuel ∧ an * 8 ≤ 140737488351232)) (han : (an : Int) ≤ 4611686018427387904) (hnb : (n : Int) ≤ 4611686018427387904) (HA32 : Hid (Al W w32 Q l (.slice qa n qc) tq (.slice ba an bc) an zs)) {u0 u1 u3 u4 u5 u6 u9 u10 u11 u12 u13 u14 u15 u16 u17 u18 u19 u20 u21 u22 u23 u24 u25 u26 u27 u28 u29 u30 u31 u32 u33 u34 u35 u36 u37 u38 u39 u40 u41 u42 u43 u44 u45 u46 u47 u48 u49 u50 u51 u52 u53 u54 u55 u56 u57 u58 u59 u60 u61 u62 u63 u64 u65 u66 u67 u68 u69 u70 u71 u72 u73 u74 u75 u76 u77 u78 u79 u80 u81 u82 u83 u84 u85 u86 u87 u88 u89 u90 u91 u92 u93 u94 u95 u96 u97 u98 u99 u100 u101 u102 u103 u104 u105 u106 u107 u108 u109 u110 u111 u112 u113 u114 u115 u116 u117 u118 u119 u120 u121 u122 u123 u124 u125 u126 u127 u128 u129 u130 u131 u132 u133 u134 u135 u136 u137 u138 u139 u140 u141 u142 u143 u144 u145 u146 u147 u148 u149 u150 u151 u152 u153 u154 u155 u156 u157 u158 u159 u160 u161 u162 u163 u164 u165 u166 u167 u168 u169 u170 u171 u172 u173 u174 u175 u176 u177 u178 u179 u180 u181 u182 u183 u184 u185 u186 u187 u188 u189 u190 u191 u192 u193 u194 u195 u196 u197 u198 u199 u200 u201 u202 u203 u204 u205 u206 u207 u208 u209 u210 u211 u212 u213 u214 u215 u216 u217 u218 u219 u220 u221 u222 u223 u224 u225 u226 u227 u228 u229 u230 u231 u232 u233 u234 u235 u236 u237 u238 u239 u240 u241 u242 u243 u244 u245 u246 u247 u248 u249 u250 u251 u252 u253 u254 u255 u256 u257 u258 u259 u260 u261 u262 u263 u264 u265 u266 u267 u268 u269 u270 u271 u272 u273 u274 u275 u276 u277 u278 u279 u280 u281 u282 u283 u284 u285 u286 u287 u288 u289 u290 u291 u292 u293 u294 u295 u296 u297 u298 u299 u300 u301 u302 u303 : Value} :
    Code.wp Tryd.prog (treeTail 33) (bodyPost Tryd.prog Tryd.f4 fun e w' => e = .returned (.bool true) ∧ Keeps None w w') ⟨#[u0, u1, .int .i64 fuel, u3, u4, u5, u6, .pointer (some ⟨Q, 0, none⟩), .slice ba an bc, u9, u10, u11, u12, u13, u14, u15, u16, u17, u18, u19, u20, u21, u22, u23, u24, u25, u26, u27, u28, u29, u30, u31, u32, u33, u34, u35, u36, u37, u38, u39, u40, u41, u42, u43, u44, u45, u46, u47, u48, u49, u50, u51, u52, u53, u54, u55, u56, u57, u58, u59, u60, u61, u62, u63, u64, u65, u66, u67, u68, u69, u70, u71, u72, u73, u74, u75, u76, u77, u78, u79, u80, u81, u82, u83, u84, u85, u86, u87, u88, u89, u90, u91, u92, u93, u94, u95, u96, u97, u98, u99, u100, u101, u102, u103, u104, u105, u106, u107, u108, u109, u110, u111, u112, u113, u114, u115, u116, u117, u118, u119, u120, u121, u122, u123, u124, u125, u126, u127, u128, u129, u130, u131, u132, u133, u134, u135, u136, u137, u138, u139, u140, u141, u142, u143, u144, u145, u146, u147, u148, u149, u150, u151, u152, u153, u154, u155, u156, u157, u158, u159, u160, u161, u162, u163, u164, u165, u166, u167, u168, u169, u170, u171, u172, u173, u174, u175, u176, u177, u178, u179, u180, u181, u182, u183, u184, u185, u186, u187, u188, u189, u190, u191, u192, u193, u194, u195, u196, u197, u198, u199, u200, u201, u202, u203, u204, u205, u206, u207, u208, u209, u210, u211, u212, u213, u214, u215, u216, u217, u218, u219, u220, u221, u222, u223, u224, u225, u226, u227, u228, u229, u230, u231, u232, u233, u234, u235, u236, u237, u238, u239, u240, u241, u242, u243, u244, u245, u246, u247, u248, u249, u250, u251, u252, u253, u254, u255, u256, u257, u258, u259, u260, u261, u262, u263, u264, u265, u266, u267, u268, u269, u270, u271, u272, u273, u274, u275, u276, u277, u278, u279, u280, u281, u282, u283, u284, u285, u286, u287, u288, u289, u290, u291, u292, u293, u294, u295, u296, u297, u298, u299, u300, u301, u302, u303], []⟩ w32 := by
  conv => arg 2; whnf
  go_wp2_with fail
  go_loopw [22] (fun s22 wr => ∃ (k : Nat) (ys : List Int), k ≤ an ∧ an = ys.length ∧ (∀ x ∈ ys, okI x) ∧ s22 = .int .i64 k ∧ Al W wr Q l (.slice qa n qc) tq (.slice ba an bc) an ys) (fun i _ => an - (intOf i).toNat)
  case atStart => exact ⟨0, zs, Nat.zero_le _, HC.out.2.2.2.2.1.len, HC.out.2.2.2.2.1.ok, rfl, HA32.out⟩
  case round =>
    obtain ⟨k, ys, hk, hys, hyk, rfl, hA⟩ := hrel
    by_cases hka : k < an
    · skip
      obtain ⟨x, hx⟩ : ∃ x, ys[k]? = some x := ⟨ys[k]'(by omega), by simp⟩
      obtain ⟨gB, rfl, hfz, hce, hput⟩ := hA.putB hys hx
      have i4 : (k : Int) < (an : Int) := by omega
      have HX : Hid (_ ∧ _ ∧ _) := And.intro hput (And.intro hys hyk)
      clear hA hx hput hys hyk
      go_wp2_with fail
      exact ⟨⟨k + 1, _, by omega, by rw [List.length_set]; exact HX.out.2.1, ok_put HX.out.2.2 (flip_ok _ _), by simp, HX.out.1 _⟩, by simp [intOf]; omega⟩
    · skip
      have hkn2 : an = k := by omega
      subst hkn2
      have i4 : ¬ (an : Int) < (an : Int) := by omega
      have HY : Hid (an = ys.length ∧ (∀ x ∈ ys, okI x)) := ⟨hys, hyk⟩
      have HA36 : Hid _ := hA
      clear hys hyk hA HA32
      go_upto_region 37 with fail
      go_wp2_with fail
      go_loopw [23] (fun s23 wr => ∃ (i : Nat) (l2 : List Fn), i ≤ n ∧ n = l2.length ∧ (∀ f ∈ l2, f.Ok) ∧ (∀ f ∈ l2, f.code.length * 40 ≤ 140737488351232) ∧ s23 = .int .i64 i ∧ Al W wr Q l2 (.slice qa n qc) tq (.slice ba an bc) an ys) (fun i _ => n - (intOf i).toNat)
      case atStart => exact ⟨0, l, Nat.zero_le _, HC.out.2.1.len, HC.out.2.2.1, HC.out.2.2.2.1.2, rfl, HA36.out⟩
      case round =>
        obtain ⟨i, l2, hi, hl2, hok2, hrc2, rfl, hA⟩ := hrel
        have q0 : wr.cell? ⟨Q, 0, none⟩ = some (.slice qa n qc) := (blk_cell hA.qb 0).trans rfl
        by_cases hin : i < n
        · skip
          obtain ⟨f, hf⟩ : ∃ f, l2[i]? = some f := ⟨l2[i]'(by omega), by simp⟩
          obtain ⟨m, hm⟩ : ∃ m, m = f.code.length := ⟨_, rfl⟩
          have i5 : (i : Int) < (n : Int) := by omega
          have HI : Hid (n = l2.length ∧ (∀ f ∈ l2, f.Ok) ∧ (∀ f ∈ l2, f.code.length * 40 ≤ 140737488351232) ∧ Al W wr Q l2 (.slice qa n qc) tq (.slice ba an bc) an ys ∧ l2[i]? = some f ∧ m = f.code.length) := ⟨hl2, hok2, hrc2, hA, hf, hm⟩
          have hmb : (m : Int) ≤ 4611686018427387904 := by have := hrc2 f (List.mem_of_getElem? hf); omega
          clear hl2 hok2 hrc2 hA hf hm
          go_wp2_with fail
          go_loopw [24] (fun s24 wr => ∃ (k : Nat) (l3 : List Fn) (f3 : Fn), k ≤ m ∧ n = l3.length ∧ (∀ f ∈ l3, f.Ok) ∧ (∀ f ∈ l3, f.code.length * 40 ≤ 140737488351232) ∧ l3[i]? = some f3 ∧ m = f3.code.length ∧ s24 = .int .i64 k ∧ Al W wr Q l3 (.slice qa n qc) tq (.slice ba an bc) an ys) (fun i _ => m - (intOf i).toNat)
          case atStart => exact ⟨0, l2, f, Nat.zero_le _, HI.out.1, HI.out.2.1, HI.out.2.2.1, HI.out.2.2.2.2.1, HI.out.2.2.2.2.2, rfl, HI.out.2.2.2.1⟩
          case round =>
            obtain ⟨k, l3, f3, hk, hl3, hok3, hrc3, hf3, hm3, rfl, hA⟩ := hrel
            have p0 : wr.cell? ⟨Q, 0, none⟩ = some (.slice qa n qc) := (blk_cell hA.qb 0).trans rfl
            by_cases hkm : k < m
            · obtain ⟨x, hx⟩ : ∃ x, f3.code[k]? = some x := ⟨f3.code[k]'(by omega), by simp⟩
              obtain ⟨g, cb, cc, rfl, hcc, hin5, hfz, hne1, hne2, hput⟩ := hA.putK hl3 hf3 hx
              rw [← hm3] at hcc
              have y0 := hin5.kind
              have y4 := hin5.k
              have i6 : (k : Int) < (m : Int) := by omega
              by_cases hx0 : (x.kind == 0) = true
              · have HX : Hid (n = l3.length ∧ (∀ f ∈ l3, f.Ok) ∧ (∀ f ∈ l3, f.code.length * 40 ≤ 140737488351232) ∧ l3[i]? = some f3 ∧ f3.code[k]? = some x ∧ m = f3.code.length ∧ ∀ y, Al W (wr.setCell ⟨cb, k * 5 + 4, none⟩ (.int .i64 y)) Q (l3.set i { f3 with code := f3.code.set k { x with k := y } }) (.slice (some ⟨g, 0, none⟩) n qc) tq (.slice ba an bc) an ys) := ⟨hl3, hok3, hrc3, hf3, hx, hm3, hput⟩
                clear hl3 hok3 hrc3 hf3 hm3 hA hput hin5 hx
                go_upto_region 44 with fail
                have zf : wr.drew.frozen? ⟨cb, k * 5 + 4, none⟩ = false := hfz
                have zc : wr.drew.cell? ⟨cb, k * 5 + 4, none⟩ = some (.int .i64 x.k) := y4
                have zp : wr.drew.cell? ⟨Q, 0, none⟩ = some (.slice (some ⟨g, 0, none⟩) n qc) := p0
                have zg : wr.drew.cell? ⟨g, i * 4 + 3, none⟩ = some (.slice (some ⟨cb, 0, none⟩) m cc) := hcc
                go_region
                clear zf zc zp zg y0 y4 hfz hcc p0 q0
                go_wp2_with fail
                exact ⟨⟨k + 1, _, _, by omega, by rw [List.length_set]; exact HX.out.1, putK_ok HX.out.2.1 HX.out.2.2.2.1 HX.out.2.2.2.2.1 (flip_ok _ _), putK_len HX.out.2.2.1 HX.out.2.2.2.1, List.getElem?_set_self (by have := HX.out.1; omega), by simpa using HX.out.2.2.2.2.2.1, by simp, (HX.out.2.2.2.2.2.2 _).more (Keeps.drew None _)⟩, by simp [intOf]; omega⟩
              · replace hx0 : (x.kind == 0) = false := by simpa using hx0
                have HX : Hid (n = l3.length ∧ (∀ f ∈ l3, f.Ok) ∧ (∀ f ∈ l3, f.code.length * 40 ≤ 140737488351232) ∧ l3[i]? = some f3 ∧ m = f3.code.length ∧ Al W wr Q l3 (.slice (some ⟨g, 0, none⟩) n qc) tq (.slice ba an bc) an ys) := ⟨hl3, hok3, hrc3, hf3, hm3, hA⟩
                clear hl3 hok3 hrc3 hf3 hm3 hA hput hin5 hx
                go_wp2_with fail
                exact ⟨⟨k + 1, l3, f3, by omega, HX.out.1, HX.out.2.1, HX.out.2.2.1, HX.out.2.2.2.1, HX.out.2.2.2.2.1, by simp, HX.out.2.2.2.2.2⟩, by simp [intOf]; omega⟩
            · have hkn2 : m = k := by omega
              subst hkn2
              obtain ⟨b, off, f4, ca, cc, rfl, hf4, hat⟩ := (hA.seenQ hl3).at hin
              have e4 : f4 = f3 := by rw [hf3] at hf4; exact (Option.some.inj hf4).symm
              subst e4
              have y3 := hat.code
              rw [← hm3] at y3
              have i6 : ¬ (m : Int) < (m : Int) := by omega
              have HX : Hid (n = l3.length ∧ (∀ f ∈ l3, f.Ok) ∧ (∀ f ∈ l3, f.code.length * 40 ≤ 140737488351232) ∧ Al W wr Q l3 (.slice (some ⟨b, off, none⟩) n qc) tq (.slice ba an bc) an ys) := ⟨hl3, hok3, hrc3, hA⟩
              clear hl3 hok3 hrc3 hf3 hm3 hA hf4 hat
              go_wp2_with fail
              exact ⟨⟨i + 1, l3, by omega, HX.out.1, HX.out.2.1, HX.out.2.2.1, by simp, HX.out.2.2.2⟩, by simp [intOf]; omega⟩
        · skip
          have hkn2 : n = i := by omega
          subst hkn2
          have i5 : ¬ (n : Int) < (n : Int) := by omega
          have hTw := HC.out.1.more hA.keep
          have hqs := hA.seenQ hl2
          have hbs := hA.seenB HY.out.1 (by omega) HY.out.2
          have hNm := treeL_most l2 ys fuel hok2 HY.out.2
          have t45 := tree_all qa n qc l2 ba an bc ys fuel wr hTw hqs hok2 hbs (by omega) HC.out.2.2.2.2.2.2.1
          have t46 := fun wx (hx : Keeps None wr wx) => rtree_all qa n qc l2 ba an bc ys fuel wx (hqs.more hx) hok2 (hbs.more hx) (by omega) HC.out.2.2.2.2.2.2.1
          have t47 := fun wx (hx : Keeps None wr wx) => eval_any qa n qc l2 ba an bc ys fuel wx (hTw.more hx) (hqs.more hx) hok2 (hbs.more hx) (by omega) HC.out.2.2.2.2.2.2.1
          have t48 := fun wx (hx : Keeps None wr wx) => reval_any qa n qc l2 ba an bc ys fuel wx (hqs.more hx) hok2 (hbs.more hx) (by omega) HC.out.2.2.2.2.2.2.1
          obtain ⟨⟨e0, e1, e2, e3, e4⟩, hvv⟩ : ∃ ev, ev = (evalV l2 ys fuel).1 := ⟨_, rfl⟩
          rw [← hvv] at t47 t48
          unfold valC at t47 t48
          clear hvv
          generalize (evalV l2 ys fuel).2 = er5 at t45 t46 t47 t48
          generalize treeL l2 ys fuel = L5 at t45 t46 hNm
          obtain ⟨N5, hN5⟩ : ∃ N5, N5 = L5.length := ⟨_, rfl⟩
          rw [← hN5] at t45 t46 hNm
          unfold TP at t45 t46
          have H46 : Hid _ := t46
          have H47 : Hid _ := t47
          have H48 : Hid _ := t48
          have heq := eqVal6 e0 e1 e2 e3 e4
          have hN5b : (N5 : Int) ≤ 4611686018427387904 := by omega
          have HK0 : Hid _ := hA.keep
          clear t46 t47 t48 hA hl2 hok2 hrc2 hTw hqs hbs hN5 hNm
          go_upto_region 46 with (go_at_call 10; refine t45.mono ?_; rintro _ w45 ⟨xa, xc, rfl, hk45, _, _, hs45⟩)
          have q45 := hk45.cell q0 (fun f => f)
          have t46 := H46.out w45 hk45
          have HS45 : Hid (Keeps None wr w45 ∧ SeenD w45 xa N5 L5) := ⟨hk45, hs45⟩
          clear t45 hk45 hs45 q0 H46
          go_upto_region 47 with (go_at_call 11; refine t46.mono ?_; rintro _ w46 ⟨ya, yc, rfl, hk46, _, _, hs46⟩)
          have q46 := hk46.cell q45 (fun f => f)
          have k46 := HS45.out.1.trans hk46 (fun _ f _ => f)
          have t47 := H47.out w46 k46
          have HS46 : Hid (Keeps None wr w46 ∧ SeenD w46 xa N5 L5 ∧ SeenD w46 ya N5 L5) := ⟨k46, HS45.out.2.more hk46, hs46⟩
          clear t46 hk46 hs46 q45 H47 HS45 k46
          go_upto_region 48 with (go_at_call 6; refine t47.mono ?_; rintro _ w47 ⟨rfl, hk47⟩)
          have k48 := hk47.andAlloc (.cells #[.int .i64 e0, .int .i64 e1, .int .i64 e2, .int .i64 e3, .int .i64 e4] 28)
          have b48 := heap_alloc_new w47 (.cells #[.int .i64 e0, .int .i64 e1, .int .i64 e2, .int .i64 e3, .int .i64 e4] 28)
          obtain ⟨w48, hw48⟩ : ∃ w48, w48 = w47.alloc (.cells #[.int .i64 e0, .int .i64 e1, .int .i64 e2, .int .i64 e3, .int .i64 e4] 28) := ⟨_, rfl⟩
          obtain ⟨G, hG⟩ : ∃ G, G = w47.heap.size := ⟨_, rfl⟩
          rw [← hw48] at k48 b48
          rw [← hG] at b48
          rw [← hw48, ← hG]
          have q48 := k48.cell q46 (fun f => f)
          have kk48 := HS46.out.1.trans k48 (fun _ f _ => f)
          have t48 := H48.out w48 kk48
          have HS48 : Hid (Keeps None wr w48 ∧ SeenD w48 xa N5 L5 ∧ SeenD w48 ya N5 L5 ∧ w48.heap[G]? = some (.cells #[.int .i64 e0, .int .i64 e1, .int .i64 e2, .int .i64 e3, .int .i64 e4] 28 (0, 0))) := ⟨kk48, HS46.out.2.1.more k48, HS46.out.2.2.more k48, b48⟩
          clear hw48 hG t47 hk47 k48 b48 q46 H48 HS46 kk48
          go_upto_region 49 with (go_at_call 7; refine t48.mono ?_; rintro _ w49 ⟨rfl, hk49⟩)
          have k50 := hk49.andAlloc (.cells #[.int .i64 e0, .int .i64 e1, .int .i64 e2, .int .i64 e3, .int .i64 e4] 28)
          have b50 := heap_alloc_new w49 (.cells #[.int .i64 e0, .int .i64 e1, .int .i64 e2, .int .i64 e3, .int .i64 e4] 28)
          obtain ⟨w50, hw50⟩ : ∃ w50, w50 = w49.alloc (.cells #[.int .i64 e0, .int .i64 e1, .int .i64 e2, .int .i64 e3, .int .i64 e4] 28) := ⟨_, rfl⟩
          obtain ⟨G2, hG2⟩ : ∃ G2, G2 = w49.heap.size := ⟨_, rfl⟩
          rw [← hw50] at k50 b50
          rw [← hG2] at b50
          rw [← hw50, ← hG2]
          have hsn := sameNodes_any xa N5 xc ya yc L5 w50 (HS48.out.2.1.more k50) (HS48.out.2.2.1.more k50) hN5b
          have HS50 : Hid (Keeps None wr w50 ∧ w50.heap[G]? = some (.cells #[.int .i64 e0, .int .i64 e1, .int .i64 e2, .int .i64 e3, .int .i64 e4] 28 (0, 0)) ∧ w50.heap[G2]? = some (.cells #[.int .i64 e0, .int .i64 e1, .int .i64 e2, .int .i64 e3, .int .i64 e4] 28 (0, 0))) := ⟨HS48.out.1.trans k50 (fun _ f _ => f), blk_kept HS48.out.2.2.2 k50 (fun f => f), b50⟩
          clear hw50 hG2 t48 hk49 k50 b50 q48 HS48
          go_wp2_with (go_at_call 12; refine hsn.mono ?_; rintro _ w51 ⟨rfl, hk51⟩; have bg := blk_kept HS50.out.2.1 hk51 (fun f => f); have bp := blk_kept HS50.out.2.2 hk51 (fun f => f); have g0 : w51.cell? ⟨G, 0, none⟩ = some (.int .i64 e0) := (blk_cell bg 0).trans rfl; have g1 : w51.cell? ⟨G, 1, none⟩ = some (.int .i64 e1) := (blk_cell bg 1).trans rfl; have g2 : w51.cell? ⟨G, 2, none⟩ = some (.int .i64 e2) := (blk_cell bg 2).trans rfl; have g3 : w51.cell? ⟨G, 3, none⟩ = some (.int .i64 e3) := (blk_cell bg 3).trans rfl; have g4 : w51.cell? ⟨G, 4, none⟩ = some (.int .i64 e4) := (blk_cell bg 4).trans rfl; have p0 : w51.cell? ⟨G2, 0, none⟩ = some (.int .i64 e0) := (blk_cell bp 0).trans rfl; have p1 : w51.cell? ⟨G2, 1, none⟩ = some (.int .i64 e1) := (blk_cell bp 1).trans rfl; have p2 : w51.cell? ⟨G2, 2, none⟩ = some (.int .i64 e2) := (blk_cell bp 2).trans rfl; have p3 : w51.cell? ⟨G2, 3, none⟩ = some (.int .i64 e3) := (blk_cell bp 3).trans rfl; have p4 : w51.cell? ⟨G2, 4, none⟩ = some (.int .i64 e4) := (blk_cell bp 4).trans rfl; have HK51 : Hid _ := hk51; clear bg bp hk51)
          go_ret
          exact ⟨rfl, ((HC.out.2.2.2.2.2.1.trans HK0.out (fun _ f _ => f)).trans HS50.out.1 (fun _ f _ => f)).trans HK51.out (fun _ f _ => f)⟩
end Go.Proofs.YthignlailbekmaaDoor
