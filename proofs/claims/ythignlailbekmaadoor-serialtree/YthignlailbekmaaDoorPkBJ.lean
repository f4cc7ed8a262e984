import Derived.Test.YthignlailbekmaaDoorPkBI
/-! SerialTree: the walk, from region 25 on. -/
namespace Go.Proofs.YthignlailbekmaaDoor
set_option linter.unusedVariables false
set_option maxRecDepth 20000
open Go.RowKit Go.HeapKit Go.PlainOps

set_option maxHeartbeats 8000000 in
set_option maxRecDepth 1000000 in
theorem tree_C (a : Option Addr) (n c : Nat) (l : List Fn) (aa : Option Addr) (an ac : Nat) (zs : List Int) (fuel : Int) (w W : World) (Q : Nat) (qa ba : Option Addr) (qc bc : Nat) (tq : List At) (L : List Nd) (N : Nat) (er : Int) (la ma ua : Option Addr) (lc mc uc : Nat) (ka : Option Addr) (kc mb mcap : Nat) (M : List Nd) (w24 : World) (HC : Hid (Tabs W ∧ SeenF W a n l ∧ (∀ f ∈ l, f.Ok) ∧ (n * 48 ≤ 140737488351232 ∧ ∀ f ∈ l, f.code.length * 40 ≤ 140737488351232) ∧ SeenA W aa an zs ∧ Keeps None w W ∧ okI fuel ∧ an * 8 ≤ 140737488351232)) (HTM : Hid (∀ a' c' a2 c2 wx, Tabs wx → SeenF wx a' n l → SeenA wx a2 an zs → Calls Tryd.prog 10 #[.agg #[.slice a' n c'], .slice a2 an c2, .int .i64 fuel] wx (TP L N er wx))) (HN : Hid (N = L.length)) (hNb : (N : Int) ≤ 4611686018427387904) (han : (an : Int) ≤ 4611686018427387904) (hnb : (n : Int) ≤ 4611686018427387904) (HMK : Hid (∀ i : Nat, i < N → M[i]? = some (mkN i))) (hs24 : SeenD w24 ka N L) (D24 : D4 W w24 Q l (.slice qa n qc) tq (.slice ba an bc) an zs la ma ua mb N M L) {u0 u1 u3 u4 u5 u6 u10 u13 u14 u15 u16 u17 u21 u22 u23 u24 u25 u26 u27 u28 u29 u30 u31 u32 u33 u34 u35 u36 u37 u38 u39 u40 u41 u42 u43 u44 u45 u46 u47 u48 u49 u50 u51 u52 u53 u54 u55 u56 u57 u58 u59 u60 u61 u62 u63 u64 u65 u66 u67 u68 u69 u70 u71 u72 u73 u74 u75 u76 u77 u78 u79 u80 u81 u82 u83 u84 u85 u86 u87 u88 u89 u90 u91 u92 u93 u94 u95 u96 u97 u98 u99 u100 u101 u102 u103 u104 u105 u106 u107 u108 u109 u110 u111 u112 u113 u114 u115 u116 u117 u118 u119 u120 u121 u122 u123 u124 u125 u126 u127 u128 u129 u130 u131 u132 u133 u134 u135 u136 u137 u138 u139 u140 u141 u142 u143 u144 u145 u146 u147 u148 u149 u150 u151 u152 u153 u154 u155 u156 u157 u158 u159 u160 u161 u162 u163 u164 u165 u166 u167 u168 u169 u170 u171 u172 u173 u174 u175 u176 u177 u178 u179 u180 u181 u182 u183 u184 u185 u186 u187 u188 u189 u190 u191 u192 u193 u194 u195 u196 u197 u198 u199 u200 u201 u202 u203 u204 u205 u206 u207 u208 u209 u210 u211 u212 u213 u214 u215 u216 u217 u218 u219 u220 u221 u222 u223 u224 u225 u226 u227 u228 u229 u230 u231 u232 u233 u234 u235 u236 u237 u238 u239 u240 u241 u242 u243 u244 u245 u246 u247 u248 u249 u250 u251 u252 u253 u254 u255 u256 u257 u258 u259 u260 u261 u262 u263 u264 u265 u266 u267 u268 u269 u270 u271 u272 u273 u274 u275 u276 u277 u278 u279 u280 u281 u282 u283 u284 u285 u286 u287 u288 u289 u290 u291 u292 u293 u294 u295 u296 u297 u298 u299 u300 u301 u302 u303 : Value} :
    Code.wp Tryd.prog (treeTail 25) (bodyPost Tryd.prog Tryd.f4 fun e w' => e = .returned (.bool true) ∧ Keeps None w w') ⟨#[u0, u1, .int .i64 fuel, u3, u4, u5, u6, .pointer (some ⟨Q, 0, none⟩), .slice ba an bc, .slice la N lc, u10, .slice ma N mc, .int .i64 er, u13, u14, u15, u16, u17, .slice (some ⟨mb, 0, none⟩) (N + 1) mcap, .slice ka N kc, .int .i64 er, u21, u22, u23, u24, u25, u26, u27, u28, u29, u30, u31, u32, u33, u34, u35, u36, u37, u38, u39, u40, u41, u42, u43, u44, u45, u46, u47, u48, u49, u50, u51, u52, u53, u54, u55, u56, u57, u58, u59, u60, u61, u62, u63, u64, u65, u66, u67, u68, u69, u70, u71, u72, u73, u74, u75, u76, u77, u78, u79, u80, u81, u82, u83, u84, u85, u86, u87, u88, u89, u90, u91, u92, u93, u94, u95, u96, u97, u98, u99, u100, u101, u102, u103, u104, u105, u106, u107, u108, u109, u110, u111, u112, u113, u114, u115, u116, u117, u118, u119, u120, u121, u122, u123, u124, u125, u126, u127, u128, u129, u130, u131, u132, u133, u134, u135, u136, u137, u138, u139, u140, u141, u142, u143, u144, u145, u146, u147, u148, u149, u150, u151, u152, u153, u154, u155, u156, u157, u158, u159, u160, u161, u162, u163, u164, u165, u166, u167, u168, u169, u170, u171, u172, u173, u174, u175, u176, u177, u178, u179, u180, u181, u182, u183, u184, u185, u186, u187, u188, u189, u190, u191, u192, u193, u194, u195, u196, u197, u198, u199, u200, u201, u202, u203, u204, u205, u206, u207, u208, u209, u210, u211, u212, u213, u214, u215, u216, u217, u218, u219, u220, u221, u222, u223, u224, u225, u226, u227, u228, u229, u230, u231, u232, u233, u234, u235, u236, u237, u238, u239, u240, u241, u242, u243, u244, u245, u246, u247, u248, u249, u250, u251, u252, u253, u254, u255, u256, u257, u258, u259, u260, u261, u262, u263, u264, u265, u266, u267, u268, u269, u270, u271, u272, u273, u274, u275, u276, u277, u278, u279, u280, u281, u282, u283, u284, u285, u286, u287, u288, u289, u290, u291, u292, u293, u294, u295, u296, u297, u298, u299, u300, u301, u302, u303], []⟩ w24 := by
  have HD24 : Hid _ := D24
  conv => arg 2; whnf
  have hsn := sameNodes_any ka N kc ma mc L w24 hs24 D24.ms hNb
  have m24 := D24.more
  have i2 : (N : Int) < (N : Int) + 1 := by omega
  clear hs24 D24
  go_upto_region 27 with (go_at_call 12; refine hsn.mono ?_; rintro _ w25 ⟨rfl, hk25⟩; have m25 := hk25.cell m24 (fun f => f))
  have HD25 : Hid _ := HD24.out.later hk25
  clear hsn m24 m25 hk25 HD24 i2
  go_wp2_with fail
  go_loopw [21] (fun s21 wr => ∃ k : Nat, k ≤ N ∧ s21 = .int .i64 k ∧ Keeps None w25 wr) (fun i _ => N - (intOf i).toNat)
  case atStart => exact ⟨0, Nat.zero_le _, rfl, Keeps.refl _ _⟩
  case round =>
    obtain ⟨k, hk, rfl, hkp⟩ := hrel
    by_cases hkN : k < N
    · skip
      obtain ⟨g, rfl, _, hc⟩ := (HD25.out.ls.more hkp).ex (by omega)
      have hx := HMK.out k hkN
      have y0 := hc k _ hx 0 (k : Int) rfl
      have y1 := hc k _ hx 1 0 rfl
      have y2 := hc k _ hx 2 0 rfl
      have y3 := hc k _ hx 3 0 rfl
      have y4 := hc k _ hx 4 0 rfl
      have y5 := hc k _ hx 5 0 rfl
      have y6 := hc k _ hx 6 (-1) rfl
      simp only [Nat.add_zero] at y0
      have i3 : (k : Int) < (N : Int) := by omega
      have hne := neqNd6 (k : Int) 0 0 0 0 0 (-1)
      have HK : Hid _ := hkp
      clear hkp hx hc
      go_wp2_with fail
      exact ⟨⟨k + 1, by omega, by simp, HK.out⟩, by simp [intOf]; omega⟩
    · skip
      have hkn2 : N = k := by omega
      subst hkn2
      have D31 := HD25.out.later hkp
      have HA31 : Hid _ := D31.al
      have q31 : wr.cell? ⟨Q, 0, none⟩ = some (.slice qa n qc) := (blk_cell D31.al.qb 0).trans rfl
      have t31 := HTM.out qa qc ba bc wr (HC.out.1.more D31.al.keep) (D31.al.seenQ HC.out.2.1.len) (D31.al.seenB HC.out.2.2.2.2.1.len (by omega) HC.out.2.2.2.2.1.ok)
      unfold TP at t31
      clear hkp D31 HD25 HMK
      go_upto_region 32 with fail
      go_cut [194] (fun s194 wx => Keeps None wr wx)
      case first =>
        go_wp2_with (go_at_call 10; refine t31.mono ?_; rintro _ w32 ⟨_, _, rfl, hk32, _, _, _⟩)
        go_meet
        exact hk32
      case rest =>
        rename_i hK
        apply hK
        exact tree_D a n c l aa an zs fuel w W wc Q qa ba qc bc tq HC han hnb (HA31.out.more hcut)
end Go.Proofs.YthignlailbekmaaDoor
