import Derived.Test.YteahlgaaifoabaaPkNew
/-! ParkNew. -/
namespace Go.Proofs.Yteahlgaaifoabaa
open Go.RowKit Go.HeapKit Go.IntWalk

structure E3 (p q : Nat) (F : Nat → Prop) (B : Ar) (vc vl : Value) (wb w : World) : Prop where
  kp : Keeps (fun i => wb.heap.size ≤ i) wb w
  ar : ArF w p F B
  mm : IsMem w q vc vl B
  z : B.log.length ≤ 1000
section
variable {p q : Nat} {F : Nat → Prop} {B : Ar} {vc vl : Value} {wb w w' : World}
theorem E3.kept (h : E3 p q F B vc vl wb w) (hk : Keeps None w w') : E3 p q F B vc vl wb w' :=
  ⟨h.kp.trans hk (fun _ f _ => f.elim), h.ar.kept hk (fun _ _ f => f), h.mm.kept hk (fun _ _ f => f), h.z⟩
theorem E3.all (h : E3 p q F B vc vl wb w) : w.cell? ⟨q, 0, none⟩ = some vc ∧ w.cell? ⟨q, 3, none⟩ = some vl ∧ E3 p q F B vc vl wb w := ⟨h.mm.c0, h.mm.c3, h⟩
theorem E3.below (h : E3 p q F B vc vl wb w) : Below wb.heap.size wb w := h.kp.below _ (Nat.le_refl _) (fun _ f => f)
theorem new_own3 {e : TypeId} {size n : Nat} {xs : List Value} {g : Nat} (hg : w.heap[g]? = some (.cells xs.toArray e (0, 0))) (hl : xs.length = n * size) (hn : n ≤ maxLen) :
    w.ownsRow 0 e size (.slice (some ⟨g, 0, none⟩) n n) n xs :=
  ⟨hl, .inr ⟨g, n, xs.toArray, rfl, Nat.zero_le _, hg, Nat.le_refl _, hn, by simpa using hl, by rw [← hl]; simp⟩⟩
theorem e3_cells (h : E3 p q F B vc vl wb w) :
    Calls Try.prog 14 #[.pointer (some ⟨p, 0, none⟩)] w fun e w' => ∃ ao, e = .returned (.slice ao B.cells.length B.cells.length) ∧
      w'.ownsRow 0 2 1 (.slice ao B.cells.length B.cells.length) B.cells.length (B.cells.map (Value.int .i64)) ∧ E3 p q F B vc vl wb w' := by
  obtain ⟨c, l, hA, -⟩ := h.ar
  have hf := hA.fit
  refine (cells_any p c l B w hA).mono ?_
  rintro e w' ⟨rfl, hg, hk⟩
  exact ⟨_, rfl, new_own3 hg (by simp) (by unfold maxLen; omega), h.kept hk⟩
theorem e3_log (h : E3 p q F B vc vl wb w) :
    Calls Try.prog 16 #[.pointer (some ⟨p, 0, none⟩)] w fun e w' => ∃ ao, e = .returned (.slice ao B.log.length B.log.length) ∧
      w'.ownsRow 0 95 6 (.slice ao B.log.length B.log.length) B.log.length (logVals B.log) ∧ E3 p q F B vc vl wb w' := by
  obtain ⟨c, l, hA, -⟩ := h.ar
  have hz := h.z
  refine (log_any p c l B w hA (by omega)).mono ?_
  rintro e w' ⟨rfl, hg, hk⟩
  exact ⟨_, rfl, new_own3 hg (logVals_length _) (by unfold maxLen; omega), h.kept hk⟩
theorem e3_same (va : Value) (h : E3 p q F B vc vl wb w) (ho : w.ownsRow 0 2 1 va B.cells.length (B.cells.map (Value.int .i64))) :
    Calls Try.prog 13 #[va, vc] w fun e w' => e = .returned (.bool true) ∧ E3 p q F B vc vl wb w' := by
  have hf := h.mm.fit
  refine (sameInts_same va vc B.cells w ho h.mm.cells (by omega)).mono ?_
  rintro e w' ⟨rfl, m, rfl⟩
  exact ⟨rfl, h.kept (Keeps.drewN None w m)⟩
theorem e3_same2 (va : Value) (h : E3 p q F B vc vl wb w) (ho : w.ownsRow 0 95 6 va B.log.length (logVals B.log)) :
    Calls Try.prog 15 #[va, vl] w fun e w' => e = .returned (.bool true) ∧ E3 p q F B vc vl wb w' := by
  have hz := h.z
  refine (sameLog_same va vl B.log w ho h.mm.log (by omega)).mono ?_
  rintro e w' ⟨rfl, m, rfl⟩
  exact ⟨rfl, h.kept (Keeps.drewN None w m)⟩
end
theorem newA_mem {w w1 w2 : World} {p n : Nat} {ys : List Int} {v : Value} (hn : n ≤ 4096) (hy : ys.length ≤ n) (hN : NewA w w1 p ⟨n, ys, true, 0, []⟩) (ho : w2.ownsRow 0 2 1 v ys.length (ys.map (Value.int .i64))) (hk : Keeps None w1 w2) (hv : ∀ k, v.ownBlock = some k → w1.heap.size ≤ k) :
    ∃ F G, ArF (w2.alloc (.cells #[v, .int .i64 n, .int .i64 0, .slice none 0 0] 30)) p F ⟨n, ys, true, 0, []⟩ ∧ MmF (w2.alloc (.cells #[v, .int .i64 n, .int .i64 0, .slice none 0 0] 30)) w2.heap.size G ⟨n, ys, true, 0, []⟩ ∧
      (∀ k, F k → ¬ G k) ∧ (∀ k, F k ∨ G k → w.heap.size ≤ k) ∧ Keeps None w (w2.alloc (.cells #[v, .int .i64 n, .int .i64 0, .slice none 0 0] 30)) := by
  obtain ⟨F, hF, h1, hf⟩ := hN
  have s1 := h1.size
  have s2 := hk.size
  have hka := Keeps.alloc None w2 (.cells #[v, .int .i64 n, .int .i64 0, .slice none 0 0] 30)
  have hG : ∀ k, Foot w2.heap.size v (.slice none 0 0) k → w1.heap.size ≤ k := by
    rintro k (rfl | e | e)
    · exact s2
    · exact hv k e
    · simp [Value.ownBlock] at e
  refine ⟨F, _, (hF.kept hk (fun _ _ f => f)).kept hka (fun _ _ f => f), ⟨v, .slice none 0 0, ⟨new_at w2 _ _ rfl, hka.own ho (fun _ _ f => f), World.ownsRow_nil _ _ _ _, ⟨hy, show n ≤ 1048576 by omega⟩, rfl⟩, rfl⟩, fun k f g => ?_, fun k f => ?_, (h1.trans hk (fun _ f _ => f)).trans hka (fun _ f _ => f)⟩
  · have := hF.lt f; have := hG k g; omega
  · rcases f with f | f
    · exact hf k f
    · have := hG k f; omega
set_option maxHeartbeats 4000000 in
set_option maxRecDepth 100000 in
theorem parkNew_walk (x : Int) (ao : Option Addr) (len cap : Nat) (zs : List Int) (f : Int) (w : World) (hlen : len ≤ cap) (hz : zs.length = len) (hc : Ints w ao zs) (hnone : ao = none → cap = 0) :
    Calls Try.prog 3 #[.int .i64 x, .slice ao len cap, .int .i64 f] w fun e w' => e = .returned (.bool true) ∧ Below w.heap.size w w' := by
  have hm0 := Int.emod_nonneg x (show (4097 : Int) ≠ 0 by decide)
  have hm1 := Int.emod_lt_of_pos x (show (0 : Int) < 4097 by decide)
  have hmod := mod3_any x 4097 (by decide) (by decide) w
  have e4 : ((4097 : Nat) : Int) = 4097 := rfl
  rw [e4] at hmod
  obtain ⟨n, hs⟩ : ∃ n : Nat, x % 4097 = n := ⟨(x % 4097).toNat, by omega⟩
  rw [hs] at hmod hm0 hm1
  have hsize : n ≤ 4096 := by omega
  clear hs hm0 hm1 e4
  obtain ⟨ys, hy1, hy2, hy3, HI⟩ : ∃ ys : List Int, ys.length ≤ n ∧ (len ≤ n → ys.length = len) ∧ (n < len → ys.length = n) ∧ Hid (Ints w ao ys) := by
    refine ⟨zs.take n, by simp; omega, fun h => by simp; omega, fun h => by simp; omega, ?_⟩
    intro hp
    simp at hp
    obtain ⟨b, off, h1, h2, h3⟩ := hc (by omega)
    refine ⟨b, off, h1, h2, fun i hi => ?_⟩
    simp at hi
    rw [h3 i (by omega)]
    have hi2 : i < n := by omega
    simp [List.getD, hi2]
  have HN : Hid ((len ≤ n → ys.length = len) ∧ (n < len → ys.length = n)) := ⟨hy2, hy3⟩
  have HO : Hid (ao = none → cap = 0) := hnone
  clear hc hy2 hy3 hnone
  go_enter Try.func3, Try.ntmps3
  go_upto_if 21 with (go_at_call 9; refine hmod.mono ?_; rintro e w' ⟨rfl, hw⟩; have hw2 := hw.symm; subst hw2; clear hw)
  clear hmod
  go_cut [1] (fun s1 wx => s1 = .slice ao ys.length cap ∧ wx = w)
  case first =>
    by_cases h4 : n < len
    · have H6 : Hid (ys.length = n) := HN.out.2 h4
      have h5 : (n : Int) ≤ (cap : Int) := by omega
      have h7 : (n : Int) < (len : Int) := by omega
      have h8 : (0 : Int) ≤ (n : Int) := by omega
      go_wp2
      go_meet
      case rel => exact ⟨by rw [H6.out], rfl⟩
    · have H6 : Hid (ys.length = len) := HN.out.1 (by omega)
      have h7 : ¬ (n : Int) < (len : Int) := by omega
      go_wp2
      go_meet
      case rel => exact ⟨by rw [H6.out], rfl⟩
  case rest =>
    obtain ⟨rfl, rfl⟩ := hcut
    clear HN
    have har := arena_any n ao cap ys wc (by omega) hy1 HI.out
    go_wp2_with fail
    refine har.mono ?_
    rintro e w1 ⟨rfl, hN⟩
    obtain ⟨v', w2, hr, ho, hk2, hv⟩ := copy_begin ao cap ys w1 (HI.out.kept hN.keeps) HO.out (by omega)
    obtain ⟨vo, vcap, rfl⟩ := own_shape ho
    obtain ⟨F, G, hF, hG, hFG, hge, hk3⟩ := newA_mem hsize hy1 hN ho hk2 hv
    have hlF := hF
    have hR := lotAns_log ⟨n, ys, true, 0, []⟩ f
    have hnew := pnew_any wc.heap.size F _ f _ hF (show n ≤ 1048576 by omega) (by simp)
    have hrnew := fun w5 hM => rpnew_any w2.heap.size G ⟨n, ys, true, 0, []⟩ f w5 hM (show n ≤ 1048576 by omega) (by simp)
    generalize lotAns ⟨n, ys, true, 0, []⟩ f = R at hR hnew hrnew
    obtain ⟨R1, R2, R3, B⟩ := R
    simp only at hR hnew hrnew
    have HA : Hid _ := And.intro hF (And.intro hG (And.intro hFG (And.intro hge hk3)))
    have HR : Hid _ := hR
    clear hN ho hk2 hv har hF hG hFG hge hk3 hlF hR
    go_wp2_with (at_builtin; refine wpList_append_run rfl (.tmp 34) (.tmp 35) 22 22 rfl rfl rfl hr ?_)
    refine hnew.mono ?_
    rintro e w4 ⟨rfl, F4, hF4, hk4, hf4⟩
    have hG5 : MmF (w4.alloc (.cells #[.int .i64 R1, .int .i64 R2] 32)) w2.heap.size G ⟨n, ys, true, 0, []⟩ := (HA.out.2.1.kept hk4 (fun k g f => HA.out.2.2.1 k f g)).kept (Keeps.alloc None w4 _) (fun _ _ f => f)
    have hr5 := hrnew _ hG5
    have H4 : Hid _ := And.intro hF4 (And.intro hk4 hf4)
    clear hG5 hF4 hk4 hf4 hnew hrnew hr
    go_wp2_with fail
    refine hr5.mono ?_
    rintro e w6 ⟨rfl, G6, ⟨mc, ml, hM6, rfl⟩, hk6, hg6⟩
    have hGlt : ∀ k, G k → k < w2.heap.size + 1 := fun k g => by have := HA.out.2.1.lt g; simpa using this
    have hs4 := H4.out.2.1.size
    have hs6 := hk6.size
    simp at hs4 hs6
    have hnG : ¬ G w4.heap.size := fun g => by have := hGlt _ g; omega
    have hd6 := (hk6.block w4.heap.size (by simp) hnG).trans (new_at w4 _ _ rfl)
    have ka := Keeps.alloc None w6 (.cells #[.int .i64 R1, .int .i64 R2] 36)
    have d0 : (w6.alloc (.cells #[.int .i64 R1, .int .i64 R2] 36)).cell? ⟨w4.heap.size, 0, none⟩ = some (.int .i64 R1) := ka.cell ((cell_of_block hd6 0).trans rfl) (fun f => f)
    have d1 : (w6.alloc (.cells #[.int .i64 R1, .int .i64 R2] 36)).cell? ⟨w4.heap.size, 1, none⟩ = some (.int .i64 R2) := ka.cell ((cell_of_block hd6 1).trans rfl) (fun f => f)
    have hE : E3 wc.heap.size w2.heap.size F4 B mc ml wc (w6.alloc (.cells #[.int .i64 R1, .int .i64 R2] 36)) := by
      refine E3.kept ⟨?_, ?_, hM6, ?_⟩ ka
      · have hsz := HA.out.2.2.2.2.size
        have k1 := HA.out.2.2.2.2.mono (T := fun i => wc.heap.size ≤ i) (fun _ f _ => f.elim)
        have k2 := k1.trans H4.out.2.1 (fun i f _ => HA.out.2.2.2.1 i (.inl f))
        exact (k2.andAlloc _).trans hk6 (fun i g _ => HA.out.2.2.2.1 i (.inr g))
      · refine (H4.out.1.kept (Keeps.alloc None w4 _) (fun _ _ f => f)).kept hk6 (fun k f g => ?_)
        rcases H4.out.2.2 k f with f | f
        · exact HA.out.2.2.1 k f g
        · have := hGlt k g; simp at f; omega
      · have := HR.out; simp at this; omega
    clear hM6 hk6 hg6 hGlt hnG hd6 ka hr5 H4 HA
    obtain ⟨co, cc, rfl⟩ := own_shape hE.mm.cells
    obtain ⟨lo, lc, rfl⟩ := own_shape hE.mm.log
    have hnl := fun w => pnew_nil f w
    obtain ⟨cn, hc1, hc2⟩ := pcells_both f
    go_wp2_with fail
    go_cut [86] (fun s86 wx => s86 = .bool false ∧ E3 wc.heap.size w2.heap.size F4 B (.slice co B.cells.length cc) (.slice lo B.log.length lc) wc wx)
    case first =>
      go_region_held3 (fun w' => w'.cell? ⟨w2.heap.size, 0, none⟩ = some (.slice co B.cells.length cc) ∧ w'.cell? ⟨w2.heap.size, 3, none⟩ = some (.slice lo B.log.length lc) ∧ E3 wc.heap.size w2.heap.size F4 B (.slice co B.cells.length cc) (.slice lo B.log.length lc) wc w')
        (first | exact E3.all hE5 | exact E3.all hE4 | exact E3.all hE3 | exact E3.all hE2 | exact E3.all (hE.kept (Keeps.drew None _)) | assumption)
        (first
        | (go_at_call 14; go_split_ands; refine (e3_cells (by assumption)).mono ?_; rintro e x ⟨ao0, rfl, ho0, hE2⟩)
        | (go_at_call 16; go_split_ands; refine (e3_log (by assumption)).mono ?_; rintro e x ⟨bo0, rfl, lo0, hE4⟩)
        | (go_at_call 13; go_split_ands; refine (e3_same _ hE2 ho0).mono ?_; rintro e x ⟨rfl, hE3⟩)
        | (go_at_call 15; go_split_ands; refine (e3_same2 _ hE4 lo0).mono ?_; rintro e x ⟨rfl, hE5⟩))
      all_goals (go_wp2_with fail; go_meet)
      all_goals exact ⟨rfl, hE5⟩
    case rest =>
      obtain ⟨rfl, hE6⟩ := hcut
      have HE6 : Hid _ := hE6
      clear hE6 hE
      go_wp2_with fail
      refine (hnl _).mono ?_
      rintro e w8 ⟨rfl, hk8⟩
      have HE8 : Hid _ := (HE6.out.kept hk8).kept (Keeps.alloc None w8 (.cells #[.int .i64 0, .int .i64 0] 32))
      clear hk8
      go_wp2_with fail
      refine (hc1 _).mono ?_
      rintro e w' ⟨rfl, hw⟩
      have hw2 := hw.symm
      subst hw2
      clear hw
      go_wp2_with fail
      refine (hc2 _).mono ?_
      rintro e w' ⟨rfl, hw⟩
      have hw2 := hw.symm
      subst hw2
      clear hw
      go_wp2_with fail
      go_ret
      exact ⟨by simp, HE8.out.below⟩
end Go.Proofs.Yteahlgaaifoabaa
