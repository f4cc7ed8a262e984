import Derived.Test.YthignlailbekmaaDoorPkBJ
/-! SerialTree: the walk, from region 15 on. -/
namespace Go.Proofs.YthignlailbekmaaDoor
set_option linter.unusedVariables false
set_option maxRecDepth 20000
open Go.RowKit Go.HeapKit Go.PlainOps

set_option maxHeartbeats 8000000 in
set_option maxRecDepth 1000000 in
theorem tree_B (a : Option Addr) (n c : Nat) (l : List Fn) (aa : Option Addr) (an ac : Nat) (zs : List Int) (fuel : Int) (w W : World) (Q : Nat) (qa ba : Option Addr) (qc bc : Nat) (tq : List At) (L : List Nd) (N : Nat) (er : Int) (la ma ua : Option Addr) (lc mc uc : Nat) (B : Nat) (hLm : N ≤ 8388608) (w16 : World) (HC : Hid (Tabs W ∧ SeenF W a n l ∧ (∀ f ∈ l, f.Ok) ∧ (n * 48 ≤ 140737488351232 ∧ ∀ f ∈ l, f.code.length * 40 ≤ 140737488351232) ∧ SeenA W aa an zs ∧ Keeps None w W ∧ okI fuel ∧ an * 8 ≤ 140737488351232)) (HD : Hid (W.cell? ⟨B, 0, none⟩ = some (.slice a n c))) (HTR : Hid (∀ wx, Keeps None W wx → Calls Tryd.prog 10 #[.agg #[.slice a n c], .slice aa an ac, .int .i64 fuel] wx (TP L N er wx))) (HTM : Hid (∀ a' c' a2 c2 wx, Tabs wx → SeenF wx a' n l → SeenA wx a2 an zs → Calls Tryd.prog 10 #[.agg #[.slice a' n c'], .slice a2 an c2, .int .i64 fuel] wx (TP L N er wx))) (HN : Hid (N = L.length)) (hNb : (N : Int) ≤ 4611686018427387904) (han : (an : Int) ≤ 4611686018427387904) (hnb : (n : Int) ≤ 4611686018427387904) (HC16 : Hid (C3 W w16 Q l (.slice qa n qc) tq (.slice ba an bc) an zs (.slice la N lc) (.slice ma N mc) (.slice ua N uc) N (ndVals L) (ndVals L))) {u0 u4 u5 u6 u10 u13 u14 u17 u18 u19 u20 u21 u22 u23 u24 u25 u26 u27 u28 u29 u30 u31 u32 u33 u34 u35 u36 u37 u38 u39 u40 u41 u42 u43 u44 u45 u46 u47 u48 u49 u50 u51 u52 u53 u54 u55 u56 u57 u58 u59 u60 u61 u62 u63 u64 u65 u66 u67 u68 u69 u70 u71 u72 u73 u74 u75 u76 u77 u78 u79 u80 u81 u82 u83 u84 u85 u86 u87 u88 u89 u90 u91 u92 u93 u94 u95 u96 u97 u98 u99 u100 u101 u102 u103 u104 u105 u106 u107 u108 u109 u110 u111 u112 u113 u114 u115 u116 u117 u118 u119 u120 u121 u122 u123 u124 u125 u126 u127 u128 u129 u130 u131 u132 u133 u134 u135 u136 u137 u138 u139 u140 u141 u142 u143 u144 u145 u146 u147 u148 u149 u150 u151 u152 u153 u154 u155 u156 u157 u158 u159 u160 u161 u162 u163 u164 u165 u166 u167 u168 u169 u170 u171 u172 u173 u174 u175 u176 u177 u178 u179 u180 u181 u182 u183 u184 u185 u186 u187 u188 u189 u190 u191 u192 u193 u194 u195 u196 u197 u198 u199 u200 u201 u202 u203 u204 u205 u206 u207 u208 u209 u210 u211 u212 u213 u214 u215 u216 u217 u218 u219 u220 u221 u222 u223 u224 u225 u226 u227 u228 u229 u230 u231 u232 u233 u234 u235 u236 u237 u238 u239 u240 u241 u242 u243 u244 u245 u246 u247 u248 u249 u250 u251 u252 u253 u254 u255 u256 u257 u258 u259 u260 u261 u262 u263 u264 u265 u266 u267 u268 u269 u270 u271 u272 u273 u274 u275 u276 u277 u278 u279 u280 u281 u282 u283 u284 u285 u286 u287 u288 u289 u290 u291 u292 u293 u294 u295 u296 u297 u298 u299 u300 u301 u302 u303 : Value} :
    Code.wp Tryd.prog (treeTail 15) (bodyPost Tryd.prog Tryd.f4 fun e w' => e = .returned (.bool true) ∧ Keeps None w w') ⟨#[u0, .slice aa an ac, .int .i64 fuel, .pointer (some ⟨B, 0, none⟩), u4, u5, u6, .pointer (some ⟨Q, 0, none⟩), .slice ba an bc, .slice la N lc, u10, .slice ma N mc, .int .i64 er, u13, u14, .slice ua N uc, .int .i64 er, u17, u18, u19, u20, u21, u22, u23, u24, u25, u26, u27, u28, u29, u30, u31, u32, u33, u34, u35, u36, u37, u38, u39, u40, u41, u42, u43, u44, u45, u46, u47, u48, u49, u50, u51, u52, u53, u54, u55, u56, u57, u58, u59, u60, u61, u62, u63, u64, u65, u66, u67, u68, u69, u70, u71, u72, u73, u74, u75, u76, u77, u78, u79, u80, u81, u82, u83, u84, u85, u86, u87, u88, u89, u90, u91, u92, u93, u94, u95, u96, u97, u98, u99, u100, u101, u102, u103, u104, u105, u106, u107, u108, u109, u110, u111, u112, u113, u114, u115, u116, u117, u118, u119, u120, u121, u122, u123, u124, u125, u126, u127, u128, u129, u130, u131, u132, u133, u134, u135, u136, u137, u138, u139, u140, u141, u142, u143, u144, u145, u146, u147, u148, u149, u150, u151, u152, u153, u154, u155, u156, u157, u158, u159, u160, u161, u162, u163, u164, u165, u166, u167, u168, u169, u170, u171, u172, u173, u174, u175, u176, u177, u178, u179, u180, u181, u182, u183, u184, u185, u186, u187, u188, u189, u190, u191, u192, u193, u194, u195, u196, u197, u198, u199, u200, u201, u202, u203, u204, u205, u206, u207, u208, u209, u210, u211, u212, u213, u214, u215, u216, u217, u218, u219, u220, u221, u222, u223, u224, u225, u226, u227, u228, u229, u230, u231, u232, u233, u234, u235, u236, u237, u238, u239, u240, u241, u242, u243, u244, u245, u246, u247, u248, u249, u250, u251, u252, u253, u254, u255, u256, u257, u258, u259, u260, u261, u262, u263, u264, u265, u266, u267, u268, u269, u270, u271, u272, u273, u274, u275, u276, u277, u278, u279, u280, u281, u282, u283, u284, u285, u286, u287, u288, u289, u290, u291, u292, u293, u294, u295, u296, u297, u298, u299, u300, u301, u302, u303], []⟩ w16 := by
  have hsn := sameNodes_any la N lc ma mc L w16 (seenD_of HN.out HC16.out.bl.lrow) (seenD_of HN.out HC16.out.bl.mrow) hNb
  conv => arg 2; whnf
  go_upto_region 17 with (go_at_call 12; refine hsn.mono ?_; rintro _ w17 ⟨rfl, hk17⟩)
  have HC17 : Hid _ := HC16.out.more hk17
  clear HC16 hsn hk17
  go_wp2_with fail
  go_loopw [17] (fun s17 wr => ∃ (k : Nat) (M : List Nd), k ≤ N ∧ M.length = N ∧ s17 = .int .i64 k ∧ C3 W wr Q l (.slice qa n qc) tq (.slice ba an bc) an zs (.slice la N lc) (.slice ma N mc) (.slice ua N uc) N (ndVals M) (ndVals L) ∧ ∀ i : Nat, i < k → M[i]? = some (mkN i)) (fun i _ => N - (intOf i).toNat)
  case atStart => exact ⟨0, L, Nat.zero_le _, HN.out.symm, rfl, HC17.out, fun i hi => by omega⟩
  case round =>
    obtain ⟨k, M, hk, hM, rfl, hC3, hmk⟩ := hrel
    by_cases hkN : k < N
    · skip
      obtain ⟨g, rfl, hfz, hcl, hput⟩ := hC3.put hM hkN (mkN k)
      obtain ⟨y, hy⟩ : ∃ y, M[k]? = some y := ⟨M[k]'(by omega), by simp⟩
      have y0 := hcl y hy 0 _ rfl
      have y1 := hcl y hy 1 _ rfl
      have y2 := hcl y hy 2 _ rfl
      have y3 := hcl y hy 3 _ rfl
      have y4 := hcl y hy 4 _ rfl
      have y5 := hcl y hy 5 _ rfl
      have y6 := hcl y hy 6 _ rfl
      simp only [Nat.add_zero] at y0
      have z0 := hfz (k * 7)
      have z1 := hfz (k * 7 + 1)
      have z2 := hfz (k * 7 + 2)
      have z3 := hfz (k * 7 + 3)
      have z4 := hfz (k * 7 + 4)
      have z5 := hfz (k * 7 + 5)
      have z6 := hfz (k * 7 + 6)
      have i1 : (k : Int) < (N : Int) := by omega
      have HX : Hid (C3 W (putNd wr g k (mkN k)) Q l (.slice qa n qc) tq (.slice ba an bc) an zs (.slice (some ⟨g, 0, none⟩) N lc) (.slice ma N mc) (.slice ua N uc) N (ndVals (M.set k (mkN k))) (ndVals L) ∧ (M.set k (mkN k)).length = N ∧ ∀ i : Nat, i < k + 1 → (M.set k (mkN k))[i]? = some (mkN i)) := ⟨hput, by simpa using hM, fun i hi => by
        by_cases hik : i = k
        · subst hik; rw [List.getElem?_set_self (by omega)]
        · rw [List.getElem?_set_ne (by omega)]; exact hmk i (by omega)⟩
      clear hput hcl hfz hmk hC3 hy
      go_wp2_with fail
      exact ⟨⟨k + 1, M.set k (mkN k), by omega, HX.out.2.1, by simp, HX.out.1, HX.out.2.2⟩, by simp [intOf]; omega⟩
    · skip
      have hkn2 : N = k := by omega
      subst hkn2
      have i1 : ¬ (N : Int) < (N : Int) := by omega
      have hal := Keeps.alloc None wr (.cells #[.int .i64 (-7), .int .i64 0, .int .i64 0, .int .i64 0, .int .i64 0, .int .i64 0, .int .i64 0] 41)
      have hC4 := hC3.more hal
      obtain ⟨mb, mcap, w20, hr20, hsm20, hk20, hls20⟩ := nodes_more la N lc M ⟨-7, 0, 0, 0, 0, 0, 0⟩ wr.heap.size 35 (wr.alloc (.cells #[.int .i64 (-7), .int .i64 0, .int .i64 0, .int .i64 0, .int .i64 0, .int .i64 0, .int .i64 0] 41)) hM.symm hC4.bl.lrow (by omega) (heap_alloc_new _ _)
      have D20 := hC4.app HN.out hM.symm rfl hk20 hsm20 hls20
      have HD20 : Hid _ := D20
      have HMK : Hid _ := hmk
      have hsn := sameNodes_any ua N uc ma mc L w20 D20.us D20.ms hNb
      clear hC3 hC4 hM hmk hal hsm20 hk20 hls20 D20 HC17
      go_upto_region 22 with (at_builtin; refine wpList_append_run rfl (.tmp 137) (.tmp 139) 35 35 rfl rfl rfl hr20 ?_)
      clear hr20
      go_upto_region 24 with (go_at_call 12; refine hsn.mono ?_; rintro _ w22 ⟨rfl, hk22⟩)
      have D22 := HD20.out.later hk22
      have HD22 : Hid _ := D22
      have d22 := D22.al.keep.cell HD.out (fun f => f)
      have t22 := HTR.out w22 D22.al.keep
      unfold TP at t22
      clear hk22 hsn D22 HD20
      go_cut [19, 20] (fun s19 s20 wx => ∃ ka kc, s19 = .slice ka N kc ∧ s20 = .int .i64 er ∧ Keeps None w22 wx ∧ SeenD wx ka N L)
      case first =>
        go_wp2_with (go_at_call 10; refine t22.mono ?_; rintro _ w24 ⟨ka, kc, rfl, hk24, hl24, ho24, hs24⟩)
        go_meet
        exact ⟨ka, kc, rfl, rfl, hk24, hs24⟩
      case rest =>
        obtain ⟨ka, kc, rfl, rfl, hk24, hs24⟩ := hcut
        rename_i hK
        apply hK
        exact tree_C a n c l aa an ac zs fuel w W Q qa ba qc bc tq L N er la ma ua lc mc uc ka kc mb mcap M wc HC HTM HN hNb han hnb HMK hs24 (HD22.out.later hk24)
end Go.Proofs.YthignlailbekmaaDoor
