import Derived.Test.YtcjmceedkfjbeaaDoorPkBF
import Derived.Deep.RegionHeld3
import Derived.Deep.QuietTactic
import Derived.BigQuiet
/-! ProgDecode: the walk, from region 12 on. -/
namespace Go.Proofs.YtcjmceedkfjbeaaDoor
set_option linter.unusedVariables false
set_option maxRecDepth 20000
open Go.RowKit Go.HeapKit

set_option maxHeartbeats 8000000 in
set_option maxRecDepth 1000000 in
theorem pd_B (a : Option Addr) (n c : Nat) (zs : List Int) (w w1 w5 : World) (va xa ya : Option Addr) (m vc xc yc P0 P1 P2 L N2 lo1 hi lo2 : Nat) (er : Int) (ds : List Fn) (HC : Hid (Tabs w ∧ SeenW w a n zs ∧ Keeps None w w1 ∧ n = zs.length ∧ SeenF w1 va m ds ∧ w1.heap[P0]? = some (.cells #[.slice va m vc] 25 (0, 0)) ∧ ds = (decV zs).2 ∧ N2 = n + 2 ∧ (∀ f ∈ ds, f.code.length ≤ 512))) (hc : n ≤ c) (hcm : c ≤ maxLen) (hr : n * 8 ≤ 140737488351232) (hm32 : m ≤ 32) (HS : Hid (Sd w1 w5 lo1 hi lo2 L P1 P2 m xa ya xc yc (zs ++ [123, 456]) ds ds)) {u1 u2 u7 u12 u13 u14 u15 u16 u17 u18 u19 u20 u21 u22 u23 u24 u25 u26 u27 u28 u29 u30 u31 u32 u33 u34 u35 u36 u37 u38 u39 u40 u41 u42 u43 u44 u45 u46 u47 u48 u49 u50 u51 u52 u53 u54 u55 u56 u57 u58 u59 u60 u61 u62 u63 u64 u65 u66 u67 u68 u69 u70 u71 u72 u73 u74 u75 u76 u77 u78 u79 u80 u81 u82 u83 u84 u85 u86 u87 u88 u89 u90 u91 u92 u93 u94 u95 u96 u97 u98 u99 u100 u101 u102 u103 u104 u105 u106 u107 u108 u109 u110 u111 u112 u113 u114 u115 u116 u117 u118 u119 u120 u121 u122 u123 u124 u125 u126 u127 u128 u129 u130 u131 u132 u133 u134 u135 u136 u137 u138 u139 u140 u141 u142 u143 u144 u145 u146 u147 u148 u149 u150 u151 u152 u153 u154 u155 u156 u157 u158 u159 u160 u161 u162 u163 u164 u165 u166 u167 u168 u169 u170 u171 u172 u173 u174 u175 u176 u177 u178 u179 u180 u181 u182 u183 u184 u185 u186 u187 u188 u189 u190 u191 u192 u193 u194 u195 u196 u197 u198 u199 u200 u201 u202 u203 u204 : Value} :
    Code.wp Tryd.prog (decTail 12) (bodyPost Tryd.prog Tryd.f4 fun e w' => e = .returned (.bool true) ∧ Keeps None w w') ⟨#[.slice a n c, u1, u2, .pointer (some ⟨P0, 0, none⟩), .int .i64 er, .int .i64 (n : Int), .slice (some ⟨L, 0, none⟩) N2 N2, u7, .pointer (some ⟨P1, 0, none⟩), .int .i64 er, .pointer (some ⟨P2, 0, none⟩), .int .i64 er, u12, u13, u14, u15, u16, u17, u18, u19, u20, u21, u22, u23, u24, u25, u26, u27, u28, u29, u30, u31, u32, u33, u34, u35, u36, u37, u38, u39, u40, u41, u42, u43, u44, u45, u46, u47, u48, u49, u50, u51, u52, u53, u54, u55, u56, u57, u58, u59, u60, u61, u62, u63, u64, u65, u66, u67, u68, u69, u70, u71, u72, u73, u74, u75, u76, u77, u78, u79, u80, u81, u82, u83, u84, u85, u86, u87, u88, u89, u90, u91, u92, u93, u94, u95, u96, u97, u98, u99, u100, u101, u102, u103, u104, u105, u106, u107, u108, u109, u110, u111, u112, u113, u114, u115, u116, u117, u118, u119, u120, u121, u122, u123, u124, u125, u126, u127, u128, u129, u130, u131, u132, u133, u134, u135, u136, u137, u138, u139, u140, u141, u142, u143, u144, u145, u146, u147, u148, u149, u150, u151, u152, u153, u154, u155, u156, u157, u158, u159, u160, u161, u162, u163, u164, u165, u166, u167, u168, u169, u170, u171, u172, u173, u174, u175, u176, u177, u178, u179, u180, u181, u182, u183, u184, u185, u186, u187, u188, u189, u190, u191, u192, u193, u194, u195, u196, u197, u198, u199, u200, u201, u202, u203, u204], []⟩ w5 := by
  have hq1 := HS.out.p
  have hsa := fun wx (hx : Keeps None w5 wx) => (same_dec xa va m m xc vc zs wx (by have := (HS.out.more hx).p.seen; rw [← HC.out.2.2.2.2.2.2.1]; exact this) (by have := HC.out.2.2.2.2.1.more (HS.out.more hx).keep; rw [← HC.out.2.2.2.2.2.2.1]; exact this)).2
  have hsb := fun wx (hx : Keeps None w1 wx) (hy : AnsD lo2 wx ya m ds) => (same_dec ya va m m yc vc zs wx (by have := hy.seen; rw [← HC.out.2.2.2.2.2.2.1]; exact this) (by have := HC.out.2.2.2.2.1.more hx; rw [← HC.out.2.2.2.2.2.2.1]; exact this)).2
  have HSA : Hid _ := hsa
  have HSB : Hid _ := hsb
  have hm2 : (m : Int) ≤ 32 := by omega
  have g1 : w5.cell? ⟨P1, 0, none⟩ = some (.slice xa m xc) := (cell_of_heap HS.out.b1 0).trans rfl
  have g2 : w5.cell? ⟨P2, 0, none⟩ = some (.slice ya m yc) := (cell_of_heap HS.out.b2 0).trans rfl
  have g0 : w5.cell? ⟨P0, 0, none⟩ = some (.slice va m vc) := HS.out.keep.cell ((cell_of_heap HC.out.2.2.2.2.2.1 0).trans rfl) (fun f => f)
  clear hq1 hsa hsb
  conv => arg 2; whnf
  have hsa := HSA.out w5 (Keeps.refl None w5)
  go_wp2_with fail
  refine hsa.mono ?_
  rintro _ w6 ⟨rfl, hk6⟩
  have g2' := hk6.cell g2 (fun f => f)
  have g0' := hk6.cell g0 (fun f => f)
  have hsb := HSB.out w6 (HS.out.more hk6).keep (HS.out.more hk6).q
  clear hsa g0 g1 g2
  go_wp2_with fail
  refine hsb.mono ?_
  rintro _ w7 ⟨rfl, hk7⟩
  have HS7 : Hid _ := HS.out.more (hk6.trans hk7 (fun _ f _ => f))
  clear hk6 hk7 g0' g2' HSA hsb
  go_wp2_with fail
  go_loopw [12] (fun s12 wr => ∃ (i : Nat) (fs : List Fn), i ≤ m ∧ s12 = .int .i64 i ∧ Over ds fs i 0 ∧ Sd w1 wr lo1 hi lo2 L P1 P2 m xa ya xc yc (zs ++ [123, 456]) ds fs) (fun i _ => m - (intOf i).toNat)
  case atStart => exact ⟨0, ds, Nat.zero_le _, rfl, over_start ds, HS7.out⟩
  case round =>
    obtain ⟨i, fs, hi', rfl, hW, hD⟩ := hrel
    have d1 : wr.cell? ⟨P1, 0, none⟩ = some (.slice xa m xc) := (cell_of_heap hD.b1 0).trans rfl
    have HML : Hid (m = fs.length) := hD.p.len
    by_cases him : i < m
    · have i1 : (i : Int) < (m : Int) := by omega
      obtain ⟨f, hf⟩ : ∃ f, ds[i]? = some f := ⟨ds[i]'(by have := hW.1; have := HML.out; omega), by simp⟩
      obtain ⟨K, hK⟩ : ∃ K, K = f.code.length := ⟨_, rfl⟩
      have hKb : K ≤ 512 := by rw [hK]; exact HC.out.2.2.2.2.2.2.2.2 f (List.mem_of_getElem? hf)
      have HI : Hid (Over ds fs i 0 ∧ ds[i]? = some f ∧ K = f.code.length ∧ Sd w1 wr lo1 hi lo2 L P1 P2 m xa ya xc yc (zs ++ [123, 456]) ds fs) := ⟨hW, hf, hK, hD⟩
      clear hW hf hK hD HS7
      go_wp2_with fail
      clear d1
      go_loopw [13] (fun s13 wr => ∃ (k : Nat) (fs : List Fn), k ≤ K ∧ s13 = .int .i64 k ∧ Over ds fs i k ∧ Sd w1 wr lo1 hi lo2 L P1 P2 m xa ya xc yc (zs ++ [123, 456]) ds fs) (fun i _ => K - (intOf i).toNat)
      case atStart => exact ⟨0, fs, Nat.zero_le _, rfl, HI.out.1, HI.out.2.2.2⟩
      case round =>
        obtain ⟨k, fs, hk, rfl, hW, hD⟩ := hrel
        have d1 : wr.cell? ⟨P1, 0, none⟩ = some (.slice xa m xc) := (cell_of_heap hD.b1 0).trans rfl
        obtain ⟨g, hg, hgl, _⟩ := hW.2 i f HI.out.2.1
        obtain ⟨gb, cb, rfl, hcc, hco, ncg, ncp, hput⟩ := hD.at hg
        rw [hgl, ← HI.out.2.2.1] at hcc
        by_cases hkK : k < K
        · have i2 : (k : Int) < (K : Int) := by omega
          obtain ⟨o, ho⟩ : ∃ o : Int, o = 70 + ((i : Int) + (k : Int)) := ⟨_, rfl⟩
          have hod := fun wx => odd_all ((i : Int) + (k : Int)) wx (by omega)
          unfold insV oddI at hod
          rw [← ho] at hod
          simp only at hod
          have ew : IntKind.i64.wrap ((i : Int) + (k : Int)) = (i : Int) + (k : Int) := Go.IntWalk.i64_in _ (by omega)
          rw [← ew] at hod
          clear ew
          have HX : Hid (Over ds fs i k ∧ fs[i]? = some g ∧ g.code.length = K ∧ o = 70 + ((i : Int) + (k : Int)) ∧ IsCode wr cb g.code ∧ (∀ (w' : World), Keeps None wr w' → ∀ k (x : Ins), k < g.code.length → Sd w1 (set5 w' cb (k * 5) x) lo1 hi lo2 L P1 P2 m (some ⟨gb, 0, none⟩) ya xc yc (zs ++ [123, 456]) ds (fs.set i { g with code := g.code.set k x }))) := ⟨hW, hg, by rw [hgl, ← HI.out.2.2.1], ho, hco, hput⟩
          have HO : Hid _ := hod
          have s0 : wr.drew.cell? ⟨P1, 0, none⟩ = some (.slice (some ⟨gb, 0, none⟩) m xc) ∧ wr.drew.cell? ⟨gb, i * 4 + 3, none⟩ = some (.slice (some ⟨cb, 0, none⟩) K K) := ⟨d1, hcc⟩
          clear hW hg hgl hco hput ho hod
          go_upto_region 20 with fail
          go_region_held3 (fun w' => w'.cell? ⟨P1, 0, none⟩ = some (.slice (some ⟨gb, 0, none⟩) m xc) ∧ w'.cell? ⟨gb, i * 4 + 3, none⟩ = some (.slice (some ⟨cb, 0, none⟩) K K)) (first | with_reducible exact sE | with_reducible exact s5 | go_keep) (first
            | (go_at_call 13; refine (HO.out _).mono ?_; rintro _ w9 ⟨rfl, hk9⟩; have k09 : Keeps None wr w9 := (Keeps.drew None wr).trans hk9 (fun _ f _ => f); have s5 : w9.cell? ⟨P1, 0, none⟩ = some (.slice (some ⟨gb, 0, none⟩) m xc) ∧ w9.cell? ⟨gb, i * 4 + 3, none⟩ = some (.slice (some ⟨cb, 0, none⟩) K K) := ⟨k09.cell d1 (fun f => f), k09.cell hcc (fun f => f)⟩; have hc9 := HX.out.2.2.2.2.1.kept k09 (fun f => f); have hi9 := hc9.isC.at (List.getElem?_eq_getElem (by have := HX.out.2.2.1; omega : k < g.code.length)); have Y0 := hi9.kind; have Y1 := hi9.a; have Y2 := hi9.b; have Y3 := hi9.c; have Y4 := hi9.k; have Z0 := blk_free hc9.blk (k * 5); have Z1 := blk_free hc9.blk (k * 5 + 1); have Z2 := blk_free hc9.blk (k * 5 + 2); have Z3 := blk_free hc9.blk (k * 5 + 3); have Z4 := blk_free hc9.blk (k * 5 + 4); have sE : (set5 w9 cb (k * 5) ⟨o, -1, -2, -3, -4⟩).cell? ⟨P1, 0, none⟩ = some (.slice (some ⟨gb, 0, none⟩) m xc) ∧ (set5 w9 cb (k * 5) ⟨o, -1, -2, -3, -4⟩).cell? ⟨gb, i * 4 + 3, none⟩ = some (.slice (some ⟨cb, 0, none⟩) K K) := ⟨(set5_keeps w9 cb (k * 5) ⟨o, -1, -2, -3, -4⟩).cell s5.1 (fun e => ncp e.symm), (set5_keeps w9 cb (k * 5) ⟨o, -1, -2, -3, -4⟩).cell s5.2 (fun e => ncg e.symm)⟩; simp only [set5] at sE; clear hi9 hc9))
          clear s0 d1 hcc sE s5 Y0 Y1 Y2 Y3 Y4 Z0 Z1 Z2 Z3 Z4
          go_wp2_with fail
          exact ⟨⟨k + 1, _, by omega, by simp, HX.out.1.step HX.out.2.1 (by have := HX.out.2.2.1; omega), by have hz := HX.out.2.2.2.2.2 w9 k09 k (oddI ((i : Int) + (k : Int))) (by have := HX.out.2.2.1; omega); have ho := HX.out.2.2.2.1; rw [ho]; exact hz⟩, by simp [intOf]; omega⟩
        · have i2 : ¬ ((K : Int) < (K : Int)) := by omega
          have hkK2 : K = k := by omega
          subst hkK2
          have HX : Hid (Over ds fs i K ∧ Sd w1 wr lo1 hi lo2 L P1 P2 m (some ⟨gb, 0, none⟩) ya xc yc (zs ++ [123, 456]) ds fs) := ⟨hW, hD⟩
          clear hW hg hgl hco hput hD
          go_wp2_with fail
          exact ⟨⟨i + 1, fs, by omega, by simp, HX.out.1.next HI.out.2.1 (by have := HI.out.2.2.1; omega), HX.out.2⟩, by simp [intOf]; omega⟩
    · have i1 : ¬ ((m : Int) < (m : Int)) := by omega
      have him2 : m = i := by omega
      subst him2
      have HM : Hid (Over ds fs m 0 ∧ Sd w1 wr lo1 hi lo2 L P1 P2 m xa ya xc yc (zs ++ [123, 456]) ds fs) := ⟨hW, hD⟩
      obtain ⟨wb, hwb⟩ : ∃ wb, wb = wr := ⟨_, rfl⟩
      have HB : Hid (Over ds fs m 0 ∧ Sd w1 wb lo1 hi lo2 L P1 P2 m xa ya xc yc (zs ++ [123, 456]) ds fs ∧ wb = wr) := ⟨hW, by rw [hwb]; exact hD, hwb⟩
      clear hW hD HM HS7
      go_upto_region 21 with fail
      rw [← hwb]
      clear hwb d1
      go_wp2_with fail
      go_loopw [14] (fun s14 wr => ∃ i : Nat, i ≤ m ∧ s14 = .int .i64 i ∧ Keeps None wb wr) (fun i _ => m - (intOf i).toNat)
      case atStart => exact ⟨0, Nat.zero_le _, rfl, Keeps.refl _ _⟩
      case round =>
        obtain ⟨i, hi', rfl, hkp⟩ := hrel
        have hD := HB.out.2.1.more hkp
        have d1 : wr.cell? ⟨P1, 0, none⟩ = some (.slice xa m xc) := (cell_of_heap hD.b1 0).trans rfl
        by_cases him : i < m
        · have i1 : (i : Int) < (m : Int) := by omega
          obtain ⟨g, hg⟩ : ∃ g, fs[i]? = some g := ⟨fs[i]'(by have := HML.out; omega), by simp⟩
          obtain ⟨K, hK⟩ : ∃ K, K = g.code.length := ⟨_, rfl⟩
          obtain ⟨f, hf⟩ : ∃ f, ds[i]? = some f := ⟨ds[i]'(by have := HB.out.1.1; have := HML.out; omega), by simp⟩
          have hKb : K ≤ 512 := by
            obtain ⟨g', h1, h2, _⟩ := HB.out.1.2 i f hf
            rw [hg] at h1
            obtain rfl := Option.some.inj h1
            rw [hK, h2]
            exact HC.out.2.2.2.2.2.2.2.2 f (List.mem_of_getElem? hf)
          obtain ⟨gb, cb, rfl, hcc, hco, ncg, ncp, _⟩ := hD.at hg
          rw [← hK] at hcc
          obtain ⟨wk, hwk⟩ : ∃ wk, wk = wr := ⟨_, rfl⟩
          have HW : Hid (Keeps None wb wk ∧ IsC wk cb g.code ∧ K = g.code.length ∧ wk.cell? ⟨P1, 0, none⟩ = some (.slice (some ⟨gb, 0, none⟩) m xc) ∧ wk.cell? ⟨gb, i * 4 + 3, none⟩ = some (.slice (some ⟨cb, 0, none⟩) K K)) := by rw [hwk]; exact ⟨hkp, hco.isC, hK, d1, hcc⟩
          clear hkp hD hg hf hK hco
          go_upto_region 25 with fail
          rw [← hwk]
          clear hwk d1 hcc
          go_wp2_with fail
          go_loopw [16, 15] (fun s16 s15 wx => ∃ j : Nat, j ≤ 64 ∧ s16 = .int .i64 j ∧ Keeps None wk wx ∧ (j = 0 ∧ s15 = .slice (some ⟨cb, 0, none⟩) K K ∨ ∃ (is : List Ins) (M1 : Nat), M1 = K + j ∧ M1 = is.length ∧ wx.ownsRow wk.heap.size 42 5 s15 M1 (insVals is))) (fun i _ _ => 64 - (intOf i).toNat)
          case atStart => exact ⟨0, by omega, rfl, Keeps.refl _ _, .inl ⟨rfl, rfl⟩⟩
          case round =>
            obtain ⟨j, hj, rfl, hkj, hor⟩ := hrel
            have hod := fun wx => odd_all (-1) wx (by omega)
            unfold insV oddI at hod
            simp only [show (70 : Int) + -1 = 69 from rfl] at hod
            by_cases hj64 : j < 64
            · have i2 : (j : Int) < 64 := by omega
              have HO : Hid _ := hod
              rcases hor with ⟨rfl, rfl⟩ | ⟨is, M1, hM1, hzs, hrow⟩
              · have HJ : Hid (Keeps None wk wr) := hkj
                clear hod hkj
                go_wp2_with (first
                  | (go_at_call 13; refine (HO.out _).mono ?_; rintro _ w9 ⟨rfl, hk9⟩; obtain ⟨g7, cap7, w10, hr7, ho7, hk7⟩ := ins_full cb K g.code ⟨69, -1, -2, -3, -4⟩ 38 w9.heap.size (w9.alloc (.cells #[.int .i64 69, .int .i64 (-1), .int .i64 (-2), .int .i64 (-3), .int .i64 (-4)] 42)) HW.out.2.2.1 hKb (((HW.out.2.1.kept HJ.out (fun f => f)).kept hk9 (fun f => f)).kept (Keeps.alloc None w9 _) (fun f => f)) (heap_alloc_new _ _); have HQ : Hid (Keeps None wk w10 ∧ w10.ownsRow wk.heap.size 42 5 (.slice (some ⟨g7, 0, none⟩) (K + 1) cap7) (K + 1) (insVals (g.code ++ [⟨69, -1, -2, -3, -4⟩]))) := ⟨((HJ.out.trans hk9 (fun _ f _ => f)).trans (Keeps.alloc None w9 _) (fun _ f _ => f)).trans hk7 (fun _ f _ => f), own_less ho7 (by have h1 := HJ.out.size; have h2 := hk9.size; have h3 := (Keeps.alloc None w9 (.cells #[.int .i64 69, .int .i64 (-1), .int .i64 (-2), .int .i64 (-3), .int .i64 (-4)] 42)).size; omega)⟩; clear hk9 ho7 hk7)
                  | (at_builtin; refine wpList_append_run rfl (.tmp 129) (.tmp 131) 38 38 rfl rfl rfl hr7 ?_))
                exact ⟨⟨0 + 1, by omega, by simp, HQ.out.1, .inr ⟨_, K + 1, rfl, by rw [List.length_append, ← HW.out.2.2.1]; rfl, HQ.out.2⟩⟩, by simp [intOf]⟩
              · have HJ : Hid (Keeps None wk wr ∧ M1 = K + j ∧ M1 = is.length ∧ wr.ownsRow wk.heap.size 42 5 u15 M1 (insVals is)) := ⟨hkj, hM1, hzs, hrow⟩
                clear hod hkj hM1 hzs hrow
                go_wp2_with (first
                  | (go_at_call 13; refine (HO.out _).mono ?_; rintro _ w9 ⟨rfl, hk9⟩; obtain ⟨g7, cap7, w10, hr7, ho7, hk7⟩ := ins_more wk.heap.size u15 is ⟨69, -1, -2, -3, -4⟩ M1 w9.heap.size 38 (w9.alloc (.cells #[.int .i64 69, .int .i64 (-1), .int .i64 (-2), .int .i64 (-3), .int .i64 (-4)] 42)) HJ.out.2.2.1 ((Keeps.alloc None w9 _).own (hk9.own HJ.out.2.2.2 (fun _ _ f => f)) (fun _ _ f => f)) (by have h1 := HJ.out.1.size; have h2 := hk9.size; have h3 := (Keeps.alloc None w9 (.cells #[.int .i64 69, .int .i64 (-1), .int .i64 (-2), .int .i64 (-3), .int .i64 (-4)] 42)).size; omega) (by have := HJ.out.2.1; omega) (heap_alloc_new _ _); have HQ : Hid (Keeps None wk w10 ∧ w10.ownsRow wk.heap.size 42 5 (.slice (some ⟨g7, 0, none⟩) (M1 + 1) cap7) (M1 + 1) (insVals (is ++ [⟨69, -1, -2, -3, -4⟩]))) := ⟨((HJ.out.1.trans hk9 (fun _ f _ => f)).trans (Keeps.alloc None w9 _) (fun _ f _ => f)).trans hk7 (fun i e hi => by have := own_from HJ.out.2.2.2 e; omega), ho7⟩; clear hk9 ho7 hk7)
                  | (at_builtin; refine wpList_append_run rfl (.tmp 129) (.tmp 131) 38 38 rfl rfl rfl hr7 ?_))
                exact ⟨⟨j + 1, by omega, by simp, HQ.out.1, .inr ⟨_, M1 + 1, by have := HJ.out.2.1; omega, by rw [List.length_append, ← HJ.out.2.2.1]; rfl, HQ.out.2⟩⟩, by simp [intOf]; omega⟩
            · have hj2 : j = 64 := by omega
              subst hj2
              rcases hor with ⟨h0, _⟩ | ⟨is, M1, hM1, hzs, hrow⟩
              · omega
              · rcases hrow.2 with ⟨_, h0⟩ | ⟨g7, cap7, cur7, rfl, _⟩
                · omega
                · have i2 : ¬ ((64 : Int) < 64) := by omega
                  have p1 := hkj.cell HW.out.2.2.2.1 (fun f => f)
                  have p2 := hkj.cell HW.out.2.2.2.2 (fun f => f)
                  have HJ : Hid (Keeps None wb wr) := HW.out.1.trans hkj (fun _ f _ => f)
                  have q1 : (M1 : Int) = (K : Int) + 64 := by omega
                  have hKi : (K : Int) ≤ 512 := by omega
                  clear hod hkj hrow hzs hM1
                  go_wp2_with fail
                  exact ⟨⟨i + 1, by omega, by simp, HJ.out⟩, by simp [intOf]; omega⟩
        · have i1 : ¬ ((m : Int) < (m : Int)) := by omega
          have him2 : m = i := by omega
          subst him2
          obtain ⟨wc, hwc⟩ : ∃ wc, wc = wr := ⟨_, rfl⟩
          have HCc : Hid (Sd w1 wc lo1 hi lo2 L P1 P2 m xa ya xc yc (zs ++ [123, 456]) ds fs) := by rw [hwc]; exact hD
          clear hkp hD
          go_upto_region 31 with fail
          rw [← hwc]
          clear hwc d1
          go_wp2_with fail
          go_loopw [17] (fun s17 wr => ∃ i : Nat, i ≤ m ∧ s17 = .int .i64 i ∧ Keeps None wc wr) (fun i _ => m - (intOf i).toNat)
          case atStart => exact ⟨0, Nat.zero_le _, rfl, Keeps.refl _ _⟩
          case round =>
            obtain ⟨i, hi', rfl, hkp⟩ := hrel
            have hD := HCc.out.more hkp
            have d1 : wr.cell? ⟨P1, 0, none⟩ = some (.slice xa m xc) := (cell_of_heap hD.b1 0).trans rfl
            by_cases him : i < m
            · have i1 : (i : Int) < (m : Int) := by omega
              obtain ⟨f, hf⟩ : ∃ f, ds[i]? = some f := ⟨ds[i]'(by have := HB.out.1.1; have := HML.out; omega), by simp⟩
              obtain ⟨g, hg, hgl, hgo⟩ := HB.out.1.2 i f hf
              obtain ⟨K, hK⟩ : ∃ K, K = g.code.length := ⟨_, rfl⟩
              have hKb : K ≤ 512 := by rw [hK, hgl]; exact HC.out.2.2.2.2.2.2.2.2 f (List.mem_of_getElem? hf)
              obtain ⟨gb, cb, rfl, hcc, hco, ncg, ncp, _⟩ := hD.at hg
              rw [← hK] at hcc
              obtain ⟨wk, hwk⟩ : ∃ wk, wk = wr := ⟨_, rfl⟩
              have HW : Hid (Keeps None wc wk ∧ IsC wk cb g.code ∧ wk.cell? ⟨P1, 0, none⟩ = some (.slice (some ⟨gb, 0, none⟩) m xc) ∧ wk.cell? ⟨gb, i * 4 + 3, none⟩ = some (.slice (some ⟨cb, 0, none⟩) K K) ∧ ∀ q, q < K → g.code[q]? = some (oddI ((i : Int) + (q : Int)))) := by rw [hwk]; exact ⟨hkp, hco.isC, d1, hcc, fun q hq => hgo q (by omega) (.inl him)⟩
              clear hkp hD hg hf hK hco hgl hgo
              go_upto_region 34 with fail
              rw [← hwk]
              clear hwk d1 hcc
              go_wp2_with fail
              go_loopw [18] (fun s18 wx => ∃ k : Nat, k ≤ K ∧ s18 = .int .i64 k ∧ Keeps None wk wx) (fun i _ => K - (intOf i).toNat)
              case atStart => exact ⟨0, Nat.zero_le _, rfl, Keeps.refl _ _⟩
              case round =>
                obtain ⟨k, hk, rfl, hkj⟩ := hrel
                have p1 := hkj.cell HW.out.2.2.1 (fun f => f)
                have p2 := hkj.cell HW.out.2.2.2.1 (fun f => f)
                by_cases hkK : k < K
                · have i2 : (k : Int) < (K : Int) := by omega
                  obtain ⟨o, ho⟩ : ∃ o : Int, o = 70 + ((i : Int) + (k : Int)) := ⟨_, rfl⟩
                  have hod := fun wx => odd_all ((i : Int) + (k : Int)) wx (by omega)
                  have hia := HW.out.2.1.at (HW.out.2.2.2.2 k hkK)
                  have Y0 := hkj.cell hia.kind (fun f => f)
                  have Y1 := hkj.cell hia.a (fun f => f)
                  have Y2 := hkj.cell hia.b (fun f => f)
                  have Y3 := hkj.cell hia.c (fun f => f)
                  have Y4 := hkj.cell hia.k (fun f => f)
                  unfold insV oddI at hod
                  simp only [oddI] at Y0 Y1 Y2 Y3 Y4
                  rw [← ho] at hod Y0
                  simp only at hod
                  have ew : IntKind.i64.wrap ((i : Int) + (k : Int)) = (i : Int) + (k : Int) := Go.IntWalk.i64_in _ (by omega)
                  rw [← ew] at hod
                  have HO : Hid _ := hod
                  have hne := neqIns' o (-1) (-2) (-3) (-4)
                  have HJ : Hid (Keeps None wk wr) := hkj
                  clear ew ho hod hia hkj
                  go_upto_region 37 with fail
                  go_cut [175] (fun s175 wx => s175 = .bool false ∧ Keeps None wr wx)
                  case first =>
                    go_region_held3 (fun w' => w'.cell? ⟨P1, 0, none⟩ = some (.slice (some ⟨gb, 0, none⟩) m xc) ∧ w'.cell? ⟨gb, i * 4 + 3, none⟩ = some (.slice (some ⟨cb, 0, none⟩) K K) ∧ w'.cell? ⟨cb, k * 5, none⟩ = some (.int .i64 o) ∧ w'.cell? ⟨cb, k * 5 + 1, none⟩ = some (.int .i64 (-1)) ∧ w'.cell? ⟨cb, k * 5 + 2, none⟩ = some (.int .i64 (-2)) ∧ w'.cell? ⟨cb, k * 5 + 3, none⟩ = some (.int .i64 (-3)) ∧ w'.cell? ⟨cb, k * 5 + 4, none⟩ = some (.int .i64 (-4))) (go_keep) (first
                      | (go_at_call 13; refine (HO.out _).mono ?_; rintro _ w9 ⟨rfl, hk9⟩; have k09 : Keeps None wr w9 := (Keeps.drew None wr).trans hk9 (fun _ f _ => f); have r1 := k09.cell p1 (fun f => f); have r2 := k09.cell p2 (fun f => f); have r3 := k09.cell Y0 (fun f => f); have r4 := k09.cell Y1 (fun f => f); have r5 := k09.cell Y2 (fun f => f); have r6 := k09.cell Y3 (fun f => f); have r7 := k09.cell Y4 (fun f => f)))
                    all_goals (go_wp2_with fail; go_meet)
                    all_goals exact ⟨rfl, (Keeps.drew None wr).trans hk9 (fun _ f _ => f)⟩
                  case rest =>
                    obtain ⟨rfl, hkc⟩ := hcut
                    have HKC : Hid _ := hkc
                    clear hkc p1 p2 Y0 Y1 Y2 Y3 Y4 hne
                    go_wp2_with fail
                    exact ⟨⟨k + 1, by omega, by simp, HJ.out.trans HKC.out (fun _ f _ => f)⟩, by simp [intOf]; omega⟩
                · have i2 : ¬ ((K : Int) < (K : Int)) := by omega
                  have hkK2 : K = k := by omega
                  subst hkK2
                  have HJ : Hid (Keeps None wc wr) := HW.out.1.trans hkj (fun _ f _ => f)
                  clear hkj
                  go_wp2_with fail
                  exact ⟨⟨i + 1, by omega, by simp, HJ.out⟩, by simp [intOf]; omega⟩
            · have i1 : ¬ ((m : Int) < (m : Int)) := by omega
              have him2 : m = i := by omega
              subst him2
              have hsb := HSB.out wr hD.keep hD.q
              have g2 : wr.cell? ⟨P2, 0, none⟩ = some (.slice ya m yc) := (cell_of_heap hD.b2 0).trans rfl
              have g0 : wr.cell? ⟨P0, 0, none⟩ = some (.slice va m vc) := hD.keep.cell ((cell_of_heap HC.out.2.2.2.2.2.1 0).trans rfl) (fun f => f)
              have e0 := HC.out.2.2.2.1
              have l1 : wr.cell? ⟨L, n, none⟩ = some (.int .i64 123) := hD.l.at (by rw [e0, List.getElem?_append_right (Nat.le_refl _)]; simp)
              have l2 : wr.cell? ⟨L, n + 1, none⟩ = some (.int .i64 456) := hD.l.at (by rw [e0, List.getElem?_append_right (by omega)]; simp)
              have eN := HC.out.2.2.2.2.2.2.2.1
              have j1 : (n : Int) ≤ (N2 : Int) := by omega
              have j2 : (n : Int) < (N2 : Int) := by omega
              have j3 : (n : Int) + 1 < (N2 : Int) := by omega
              have hnb : (n : Int) ≤ 4611686018427387904 := by omega
              have HZ : Hid (Sd w1 wr lo1 hi lo2 L P1 P2 m xa ya xc yc (zs ++ [123, 456]) ds fs) := hD
              clear hkp hD e0 eN
              go_wp2_with fail
              refine hsb.mono ?_
              rintro _ wA ⟨rfl, hkA⟩
              have kwA := (HC.out.2.2.1.trans HZ.out.keep (fun _ f _ => f)).trans hkA (fun _ f _ => f)
              have hsw := sameWords_any (some ⟨L, 0, none⟩) a n N2 c zs wA (((HZ.out.more hkA).l.firstW HC.out.2.2.2.1 (by omega) HC.out.2.1.ok).z (by omega)) ((HC.out.2.1.more kwA).z (by omega))
              have l1' := hkA.cell l1 (fun f => f)
              have l2' := hkA.cell l2 (fun f => f)
              have HA : Hid (Keeps None w wA) := kwA
              clear hsb g0 g2 l1 l2 d1 kwA hkA
              go_wp2_with fail
              refine hsw.mono ?_
              rintro _ wB ⟨rfl, hkB⟩
              have kwB := HA.out.trans hkB (fun _ f _ => f)
              have hdp := decodePlaced_any a n c zs wB (HC.out.1.more kwB) (HC.out.2.1.more kwB) hc hcm hr
              have l1 := hkB.cell l1' (fun f => f)
              have l2 := hkB.cell l2' (fun f => f)
              have HBB : Hid (Keeps None w wB) := kwB
              clear hsw l1' l2' kwB hkB
              go_wp2_with fail
              refine hdp.mono ?_
              rintro _ wC ⟨rfl, hkC⟩
              have HF : Hid (Keeps None w wC) := HBB.out.trans hkC (fun _ f _ => f)
              clear hdp hkC l1 l2
              go_wp2_with fail
              go_ret
              exact ⟨rfl, HF.out⟩
end Go.Proofs.YtcjmceedkfjbeaaDoor
