import Derived.Test.YtloahjkndhcjfabPlayWalks
import Derived.Test.YtloahjkndhcjfabSharedHolds
import Derived.Test.YtloahjkndhcjfabSharedPair
import Derived.Test.YtloahjkndhcjfabOpenStruct
/-! The walk of CellsAlike. -/
namespace Go.Proofs.Ytloahjkndhcjfab
open Go.RowKit Go.HeapKit

/-- An arena without its log and its actor: what a Shared has of it. -/
def Ar.strip (A : Ar) : Ar := ⟨A.size, A.cells, false, 0, []⟩
theorem strip_noted (A : Ar) (x : Acc) : (A.noted x).strip = A.strip := by unfold Ar.noted; split <;> rfl
theorem strip_did (A : Ar) (u kind x a b : Int) : (A.strip).did kind x a b = ((({ A with actor := u } : Ar).did kind x a b).1, (({ A with actor := u } : Ar).did kind x a b).2.strip) := by
  have h : A.strip.on = false := rfl
  have e1 : A.strip.has x = ({ A with actor := u } : Ar).has x := rfl
  have e2 : ∀ k, A.strip.val k = ({ A with actor := u } : Ar).val k := fun _ => rfl
  have e3 : ∀ k v, (({ A with actor := u } : Ar).put k v).strip = A.strip.put k v := fun _ _ => rfl
  have e4 : ∀ k, (({ A with actor := u } : Ar).more k).strip = A.strip.more k := fun _ => rfl
  have e5 : ({ A with actor := u } : Ar).strip = A.strip := rfl
  have e6 : A.strip.size = ({ A with actor := u } : Ar).size := rfl
  have e7 : A.strip.cells.length = ({ A with actor := u } : Ar).cells.length := rfl
  unfold Ar.did
  rw [e1, e6, e7]
  simp only [e2]
  generalize ({ A with actor := u } : Ar) = C at *
  by_cases k0 : kind = 0
  · simp only [if_pos k0]
    cases C.has x <;> simp [noted_off h, strip_noted, e5]
  simp only [if_neg k0]
  by_cases k1 : kind = 1
  · simp only [if_pos k1]
    cases C.has x <;> simp [put_off h, strip_noted, e3, e5]
  simp only [if_neg k1]
  by_cases k2 : kind = 2
  · simp only [if_pos k2]
    cases C.has x
    · simp [e5]
    · by_cases hv : C.val x.toNat = a <;> simp [hv, noted_off h, put_off h, strip_noted, e3, e5]
  simp only [if_neg k2]
  by_cases k3 : kind = 3
  · simp only [if_pos k3]
    cases C.has x <;> simp [put_off h, strip_noted, e3, e5]
  simp only [if_neg k3]
  by_cases h1 : a < 1
  · simp only [if_pos h1, e5]
  simp only [if_neg h1]
  by_cases h2 : (A.size : Int) - A.cells.length < a
  · simp only [if_pos h2, e5]
  · simp only [if_neg h2, more_off h, strip_noted, e4]
theorem strip_turn (A : Ar) (u kind x a b : Int) (hk : 0 ≤ kind ∧ kind ≤ 4) : (A.strip).did kind x a b = ((A.turn u kind x a b).1, (A.turn u kind x a b).2.strip) := by
  rw [strip_did A u]
  simp [Ar.turn, Ar.acted, hk]
theorem strip_idle (A : Ar) (u kind x a b : Int) (hk : ¬ (0 ≤ kind ∧ kind ≤ 4)) : (A.turn u kind x a b) = (bad 23, { A with actor := u }) := by
  simp only [Ar.turn, Ar.acted, if_neg hk]

theorem own_of_block {w : World} {g : Nat} {T : TypeId} {l : List Value} (h : w.heap[g]? = some (.cells l.toArray T (0, 0))) (hl : l.length ≤ 1048576) : w.ownsRow 0 T 1 (.slice (some ⟨g, 0, none⟩) l.length l.length) l.length l :=
  ⟨by simp, .inr ⟨g, l.length, l.toArray, rfl, Nat.zero_le _, h, Nat.le_refl _, by unfold maxLen; omega, by simp, by simp⟩⟩

theorem grid_fives {w : World} {ao : Option Addr} {len cap : Nat} {g : List (List Int)} (h : IsGrid 5 w ao len cap g) : len ≤ cap ∧ Fives w ao len (fun i j => ((g.getD i []).getD j 0)) := by
  rcases h with ⟨rfl, rfl, rfl, rfl⟩ | ⟨x, rfl, hl, hm, hlen, hrow⟩
  · exact ⟨Nat.le_refl _, fun h => by omega⟩
  · refine ⟨hl, fun hpos => ?_⟩
    have hspot : x.spot = none := by
      obtain ⟨ns, h1, h2, h3, h4⟩ := hrow 0 (by omega)
      match ns, h2 with
      | m0 :: _, _ =>
        have := h4 0 m0 rfl
        rw [Nat.zero_mul] at this
        have e : (x.add 0).add 0 = x := by unfold Addr.add; simp
        rw [e] at this
        unfold World.cell? at this
        split at this
        · split at this
          · cases this
          · rename_i hs; simpa using hs
        · cases this
    obtain ⟨b0, off, sp⟩ := x
    simp only at hspot
    subst hspot
    have hat : ∀ i j, (((⟨b0, off, none⟩ : Addr).add (i * 5)).add j) = ⟨b0, off + i * 5 + j, none⟩ := by
      intro i j
      unfold Addr.add
      split <;> split <;> simp_all
    have hcell : ∀ i, i < len → ∀ j, j < 5 → w.cell? ⟨b0, off + i * 5 + j, none⟩ = some (.int .i64 ((g.getD i []).getD j 0)) := by
      intro i hi j hj
      obtain ⟨ns, h1, h2, h3, h4⟩ := hrow i (by omega)
      have hg : g.getD i [] = ns := by simp [List.getD, h1]
      rw [hg, ← hat i j]
      exact h4 j _ (by simp [List.getD, h2, hj])
    refine ⟨b0, off, rfl, ?_, fun i hi => ⟨hcell i hi 0 (by decide), hcell i hi 1 (by decide), hcell i hi 2 (by decide), hcell i hi 3 (by decide), hcell i hi 4 (by decide)⟩⟩
    have hc0 := hcell 0 hpos 0 (by decide)
    cases hb : w.heap[b0]? with
    | none => simp [World.cell?, hb] at hc0
    | some o => exact (Array.getElem?_eq_some_iff.1 hb).1

theorem mod4097b (x : Int) (w : World) : Calls Try.prog 12 #[.int .i64 x, .int .i64 4097] w fun e w' => e = .returned (.int .i64 (x % 4097)) ∧ w' = w := mod_any x 4097 (by decide) (by decide) w

set_option maxHeartbeats 4000000 in
set_option maxRecDepth 100000 in
theorem alike_walk (x : Int) (ao : Option Addr) (len cap : Nat) (M : Nat → Nat → Int) (w : World) (hlen : len ≤ cap) (hcap : cap * 40 ≤ 140737488351232) (hM : Fives w ao len M) :
    Calls Try.prog 6 #[.int .i64 x, .slice ao len cap] w fun e w' => e = .returned (.bool true) ∧ Below w.heap.size w w' := by
  have hm0 := Int.emod_nonneg x (show (4097 : Int) ≠ 0 by decide)
  have hm1 := Int.emod_lt_of_pos x (show (0 : Int) < 4097 by decide)
  have hmod := mod4097b x w
  obtain ⟨n, hs⟩ : ∃ n : Nat, x % 4097 = n := ⟨(x % 4097).toNat, by omega⟩
  rw [hs] at hmod hm0 hm1
  have hsize : n ≤ 4096 := by omega
  clear hs hm0 hm1
  obtain ⟨m, hm, hm4, hm5, hm6⟩ : ∃ m, m ≤ len ∧ m ≤ 4096 ∧ (len ≤ 4096 → m = len) ∧ (4096 < len → m = 4096) := ⟨min len 4096, by omega, by omega, fun _ => by omega, fun _ => by omega⟩
  have HM : Hid (Fives w ao m M) := by
    intro hpos
    obtain ⟨b0, off, h1, h2, h3⟩ := hM (by omega)
    exact ⟨b0, off, h1, h2, fun i hi => h3 i (by omega)⟩
  have HN : Hid ((len ≤ 4096 → m = len) ∧ (4096 < len → m = 4096)) := ⟨hm5, hm6⟩
  clear hM hm5 hm6
  go_enter Try.func6, Try.ntmps6
  go_upto_if 18 with (go_at_call 12; refine hmod.mono ?_; rintro e w' ⟨rfl, hw⟩; have hw2 := hw.symm; subst hw2; clear hw)
  clear hmod
  go_cut [5] (fun s5 wx => s5 = .slice ao m cap ∧ wx = w)
  case first =>
    by_cases h4 : 4096 < len
    · have := HN.out.2 h4
      subst this
      have h5 : (4096 : Int) ≤ (cap : Int) := by omega
      go_wp2
      go_meet
      case rel => exact ⟨rfl, rfl⟩
    · have := HN.out.1 (by omega)
      subst this
      go_wp2
      go_meet
      case rel => exact ⟨rfl, rfl⟩
  case rest =>
    obtain ⟨rfl, rfl⟩ := hcut
    clear HN
    have hpl := play_ok n (by omega) ao m cap M wc hm4 HM.out
    go_wp2_with fail
    refine hpl.mono ?_
    rintro e w1 ⟨v, rfl, ⟨gE, gC, gL, E, rfl, hE, hEf, hC, hL⟩, hb1⟩
    clear hpl
    have hsn := snew_ok n (w1.alloc (.cells #[.slice (some ⟨gE, 0, none⟩) m m, .slice (some ⟨gC, 0, none⟩) (stAt (Ar.watched n) M m).cells.length (stAt (Ar.watched n) M m).cells.length, .slice (some ⟨gL, 0, none⟩) (stAt (Ar.watched n) M m).log.length (stAt (Ar.watched n) M m).log.length] 73)) (by omega)
    go_wp2_with fail
    refine hsn.mono ?_
    rintro e w3 ⟨rfl, hS3, hk3⟩
    have hr3 := none_keep hk3 (new_at w1 _ _ rfl)
    have hE3 := none_keep hk3 (alloc_keep hE _)
    have hC3 := none_keep hk3 (alloc_keep hC _)
    have r0 := (cell_of_block hr3 0).trans rfl
    clear hsn
    simp only [World.size_alloc] at hS3
    have hAl : ∃ F, Hid (IsSh w3 (.pointer (some ⟨w1.heap.size + 1 + 1, 0, none⟩)) F (Ar.new n)) ∧ Hid (∀ k, F k → w1.heap.size + 1 ≤ k) := by
      refine ⟨_, ⟨.inr ⟨_, _, rfl, hS3, fun _ => Iff.rfl⟩⟩, ?_⟩
      rintro k (rfl | e)
      · omega
      · simp [Value.ownBlock] at e; omega
    obtain ⟨F, HS3, HF⟩ := hAl
    have HB3 : Hid (Below wc.heap.size wc w3) := (hb1.trans ((Below.refl _ _).alloc (by have := hb1.size; omega) _)).trans (hk3.below _ (by have := hb1.size; simp; omega) (fun _ f => f.elim))
    have hsz1 := hb1.size
    clear hS3 hb1 hk3 hE hC hL
    go_wp2_with fail
    go_loopw [10, 11, 12] (fun i _ _ wr => ∃ k : Nat, k ≤ m ∧ i = .int .i64 k ∧ IsSh wr (.pointer (some ⟨w1.heap.size + 1 + 1, 0, none⟩)) F (stAt (Ar.watched n) M k).strip ∧ Below wc.heap.size wc wr ∧
        wr.heap[w1.heap.size]? = some (.cells #[.slice (some ⟨gE, 0, none⟩) m m, .slice (some ⟨gC, 0, none⟩) (stAt (Ar.watched n) M m).cells.length (stAt (Ar.watched n) M m).cells.length, .slice (some ⟨gL, 0, none⟩) (stAt (Ar.watched n) M m).log.length (stAt (Ar.watched n) M m).log.length] 73 (0, 0)) ∧
        wr.heap[gE]? = some (.cells E 36 (0, 0)) ∧ wr.heap[gC]? = some (.cells ((stAt (Ar.watched n) M m).cells.map (Value.int .i64)).toArray 2 (0, 0))) (fun i _ _ _ => m - (intOf i).toNat)
    case atStart => exact ⟨0, Nat.zero_le _, rfl, HS3.out, HB3.out, hr3, hE3, hC3⟩
    case round =>
      clear HS3 HB3 hr3 hE3 hC3 r0
      obtain ⟨k, hk, rfl, hS, hb, hr, hE, hC⟩ := hrel
      have HR : Hid (IsSh wr (.pointer (some ⟨w1.heap.size + 1 + 1, 0, none⟩)) F (stAt (Ar.watched n) M k).strip ∧ Below wc.heap.size wc wr ∧
        wr.heap[w1.heap.size]? = some (.cells #[.slice (some ⟨gE, 0, none⟩) m m, .slice (some ⟨gC, 0, none⟩) (stAt (Ar.watched n) M m).cells.length (stAt (Ar.watched n) M m).cells.length, .slice (some ⟨gL, 0, none⟩) (stAt (Ar.watched n) M m).log.length (stAt (Ar.watched n) M m).log.length] 73 (0, 0)) ∧
        wr.heap[gE]? = some (.cells E 36 (0, 0)) ∧ wr.heap[gC]? = some (.cells ((stAt (Ar.watched n) M m).cells.map (Value.int .i64)).toArray 2 (0, 0))) := ⟨hS, hb, hr, hE, hC⟩
      clear hS hb hr hE hC
      by_cases hkn : k < m
      · obtain ⟨b0, off, rfl, hb0, hcell⟩ := HM.out (by omega)
        have m0 := (HR.out.2.1.cell (p := ⟨b0, off + k * 5, none⟩) hb0).trans (hcell k hkn).1
        have m1 := (HR.out.2.1.cell (p := ⟨b0, off + k * 5 + 1, none⟩) hb0).trans (hcell k hkn).2.1
        have m2 := (HR.out.2.1.cell (p := ⟨b0, off + k * 5 + 2, none⟩) hb0).trans (hcell k hkn).2.2.1
        have m3 := (HR.out.2.1.cell (p := ⟨b0, off + k * 5 + 3, none⟩) hb0).trans (hcell k hkn).2.2.2.1
        have m4 := (HR.out.2.1.cell (p := ⟨b0, off + k * 5 + 4, none⟩) hb0).trans (hcell k hkn).2.2.2.2
        have i1 : (k : Int) < (m : Int) := by omega
        have hEk := hEf.2 k hkn
        have HT : Hid (effAt (Ar.watched n) M k = ((stAt (Ar.watched n) M k).turn (M k 0) (M k 1) (M k 2) (M k 3) (M k 4)).1 ∧ stAt (Ar.watched n) M (k + 1) = ((stAt (Ar.watched n) M k).turn (M k 0) (M k 1) (M k 2) (M k 3) (M k 4)).2) := ⟨rfl, rfl⟩
        clear hcell
        generalize M k 0 = u at m0 HT
        generalize M k 1 = kind at m1 HT
        generalize M k 2 = x' at m2 HT
        generalize M k 3 = a at m3 HT
        generalize M k 4 = b at m4 HT
        have hr4 := alloc_keep HR.out.2.2.1 (.cells #[.int .i64 u, .int .i64 kind, .int .i64 x', .int .i64 a, .int .i64 b] 40)
        have hE4 := alloc_keep HR.out.2.2.2.1 (.cells #[.int .i64 u, .int .i64 kind, .int .i64 x', .int .i64 a, .int .i64 b] 40)
        have hC4 := alloc_keep HR.out.2.2.2.2 (.cells #[.int .i64 u, .int .i64 kind, .int .i64 x', .int .i64 a, .int .i64 b] 40)
        have hS4 := HR.out.1.alloc (.cells #[.int .i64 u, .int .i64 kind, .int .i64 x', .int .i64 a, .int .i64 b] 40)
        have hlt := (Array.getElem?_eq_some_iff.1 HR.out.2.2.1).1
        have hB4 : Below wc.heap.size wc (wr.alloc (.cells #[.int .i64 u, .int .i64 kind, .int .i64 x', .int .i64 a, .int .i64 b] 40)) := HR.out.2.1.trans ((Below.refl _ _).alloc (by have := HR.out.2.1.size; omega) _)
        have r0 := (cell_of_block hr4 0).trans rfl
        by_cases hkind : 0 ≤ kind ∧ kind ≤ 4
        · have hc1 := shared_any _ F _ 0 kind x' a b _ hS4
          rw [strip_turn (stAt (Ar.watched n) M k) u kind x' a b hkind, ← HT.out.1, ← HT.out.2] at hc1
          generalize effAt (Ar.watched n) M k = D at hc1 hEk
          obtain ⟨v, ok, err⟩ := D
          simp only [Eff.value] at hc1 hEk
          have k0 : ¬ kind < 0 := by omega
          have k4 : ¬ 4 < kind := by omega
          have HX4 : Hid (IsSh (wr.alloc (.cells #[.int .i64 u, .int .i64 kind, .int .i64 x', .int .i64 a, .int .i64 b] 40)) (.pointer (some ⟨w1.heap.size + 1 + 1, 0, none⟩)) F (stAt (Ar.watched n) M k).strip ∧ Below wc.heap.size wc (wr.alloc (.cells #[.int .i64 u, .int .i64 kind, .int .i64 x', .int .i64 a, .int .i64 b] 40)) ∧ _ ∧ _ ∧ _) := ⟨hS4, hB4, hr4, hE4, hC4⟩
          have HEk : Hid (_ ∧ _ ∧ _) := hEk
          clear hS4 hB4 hr4 hE4 hC4 HR HT hkind hEk
          go_wp2_with fail
          refine hc1.mono ?_
          rintro e w5 ⟨rfl, hS5, hk5⟩
          have hr6 := alloc_keep (sh_keep HX4.out.1 hk5 HX4.out.2.2.1 (by decide) (by decide)) (.cells #[.int .i64 v, .bool ok, .int .i64 err] 36)
          have hE6 := alloc_keep (sh_keep HX4.out.1 hk5 HX4.out.2.2.2.1 (by decide) (by decide)) (.cells #[.int .i64 v, .bool ok, .int .i64 err] 36)
          have hC6 := alloc_keep (sh_keep HX4.out.1 hk5 HX4.out.2.2.2.2 (by decide) (by decide)) (.cells #[.int .i64 v, .bool ok, .int .i64 err] 36)
          have hS6 := hS5.alloc (.cells #[.int .i64 v, .bool ok, .int .i64 err] 36)
          have hs4 := HX4.out.2.1.size
          have hB6 : Below wc.heap.size wc (w5.alloc (.cells #[.int .i64 v, .bool ok, .int .i64 err] 36)) := (HX4.out.2.1.trans (hk5.below _ hs4 (fun i f => by have := HF.out i f; omega))).trans ((Below.refl _ _).alloc (by have := hk5.size; omega) _)
          have y0 := (cell_of_block hE6 (k * 3)).trans HEk.out.1
          have y1 := (cell_of_block hE6 (k * 3 + 1)).trans HEk.out.2.1
          have y2 := (cell_of_block hE6 (k * 3 + 2)).trans HEk.out.2.2
          have rr := (cell_of_block hr6 0).trans rfl
          have HZ : Hid (IsSh (w5.alloc (.cells #[.int .i64 v, .bool ok, .int .i64 err] 36)) (.pointer (some ⟨w1.heap.size + 1 + 1, 0, none⟩)) F (stAt (Ar.watched n) M (k + 1)).strip ∧ Below wc.heap.size wc (w5.alloc (.cells #[.int .i64 v, .bool ok, .int .i64 err] 36)) ∧ _ ∧ _ ∧ _) := ⟨hS6, hB6, hr6, hE6, hC6⟩
          clear hS5 hk5 hr6 hE6 hC6 hS6 hs4 hB6 hc1 HX4 HEk r0 m0 m1 m2 m3 m4
          go_wp2_with fail
          go_quiet (fail)
          go_wp2
          go_roundw
          case rel => exact ⟨k + 1, by omega, by go_num, HZ.out.1.kept (Keeps.drewN None _ _) (fun _ _ f => f), HZ.out.2.1.trans ((Keeps.drewN None _ _).below _ HZ.out.2.1.size (fun _ f => f.elim)), HZ.out.2.2.1, HZ.out.2.2.2.1, HZ.out.2.2.2.2⟩
          case measure => simp [intOf]; omega
        · have hidle := strip_idle (stAt (Ar.watched n) M k) u kind x' a b hkind
          rw [hidle] at HT
          rw [HT.out.1] at hEk
          have e2 := (cell_of_block hE4 (k * 3 + 2)).trans hEk.2.2
          have HZ : Hid (IsSh (wr.alloc (.cells #[.int .i64 u, .int .i64 kind, .int .i64 x', .int .i64 a, .int .i64 b] 40)) (.pointer (some ⟨w1.heap.size + 1 + 1, 0, none⟩)) F (stAt (Ar.watched n) M (k + 1)).strip) := by
            rw [HT.out.2]
            exact hS4
          have HX : Hid (Below wc.heap.size wc (wr.alloc (.cells #[.int .i64 u, .int .i64 kind, .int .i64 x', .int .i64 a, .int .i64 b] 40)) ∧ _ ∧ _ ∧ _) := ⟨hB4, hr4, hE4, hC4⟩
          have hk' : kind < 0 ∨ (¬ kind < 0 ∧ 4 < kind) := by omega
          change _ = some (Value.int .i64 23) at e2
          clear hidle hEk hB4 hr4 hE4 hC4 hS4 HR HT hkind
          rcases hk' with h0 | ⟨h0, h4⟩
          · go_wp2
            go_roundw
            case rel => exact ⟨k + 1, by omega, by go_num, HZ.out, HX.out⟩
            case measure => simp [intOf]; omega
          · go_wp2
            go_roundw
            case rel => exact ⟨k + 1, by omega, by go_num, HZ.out, HX.out⟩
            case measure => simp [intOf]; omega
      · obtain rfl : k = m := by omega
        have r1 := (cell_of_block HR.out.2.2.1 1).trans rfl
        have hfit : (stAt (Ar.watched n) M k).cells.length ≤ 1048576 := by
          rcases HR.out.1.ex with ⟨_, h, _⟩ | ⟨_, _, _, hs, _⟩
          · have : (stAt (Ar.watched n) M k).cells = [] := congrArg Ar.cells h
            rw [this]; decide
          · have := hs.fit
            simp only [Ar.strip] at this
            omega
        have ho := own_of_block HR.out.2.2.2.2 (by simpa using hfit)
        simp only [List.length_map] at ho
        have hh := holds_any _ _ F _ wr HR.out.1 ho hfit
        have HE : Hid (Below wc.heap.size wc wr) := HR.out.2.1
        clear HR ho
        go_wp2_with fail
        refine hh.mono ?_
        rintro e w' ⟨rfl, rfl⟩
        clear hh
        go_wp2
        go_ret
        exact ⟨rfl, HE.out⟩
end Go.Proofs.Ytloahjkndhcjfab
