import Derived.Test.YtheginjjncnheaaHiFits
/-! What a history is: plainly, and by the document's program. -/
namespace Go.Proofs.Ytheginjjncnheaa
set_option linter.unusedVariables false
set_option maxRecDepth 20000
open Go.RowKit Go.HeapKit

/-- y, of the same actor, stands ahead of x and had ended when x began. -/
def behind (y x : Cl) : Bool := decide (y.who = x.who → y.fin ≠ -1 ∧ y.fin < x.beg)
def okB (l : List Cl) (k : Nat) : Bool := match l[k]? with
  | none => false
  | some x => fitsB x && (l.take k).all (fun y => behind y x)
def histB (l : List Cl) : Bool := (List.range l.length).all (okB l)
theorem okB_of {l : List Cl} {k : Nat} {x : Cl} (hx : l[k]? = some x) : okB l k = (fitsB x && (l.take k).all (fun y => behind y x)) := by unfold okB; rw [hx]
theorem histB_all {l : List Cl} (h : ∀ k, k < l.length → okB l k = true) : histB l = true := List.all_eq_true.2 fun k hk => h k (List.mem_range.1 hk)
theorem histB_at {l : List Cl} (h : histB l = true) {k : Nat} (hk : k < l.length) : okB l k = true := List.all_eq_true.1 h k (List.mem_range.2 hk)
theorem histB_not {l : List Cl} {k : Nat} (hk : k < l.length) (h : okB l k = false) : histB l = false := by
  cases e : histB l with
  | false => rfl
  | true => rw [histB_at e hk] at h; cases h
theorem hist_fits {l : List Cl} (h : histB l = true) {k : Nat} {x : Cl} (hx : l[k]? = some x) : fitsB x = true := by
  have := histB_at h (List.getElem?_eq_some_iff.1 hx).1
  rw [okB_of hx] at this
  simp at this
  exact this.1
def histE (l : List Cl) : Int := if histB l then 0 else 40
theorem histE_ok {l : List Cl} (h : histB l = true) : histE l = 0 := by unfold histE; rw [h]; rfl
theorem histE_bad {l : List Cl} (h : histB l = false) : histE l = 40 := by unfold histE; rw [h]; rfl
def badE (l : List Cl) (most : Int) : Int := if 40 < l.length then 2 else if 1 ≤ most ∧ most ≤ 4096 then histE l else 3
theorem badE_zero {l : List Cl} {most : Int} (h : badE l most = 0) : l.length ≤ 40 ∧ (∃ m : Nat, most = m ∧ 1 ≤ m ∧ m ≤ 4096) ∧ histB l = true := by
  unfold badE at h
  split at h
  · omega
  · split at h
    · rename_i h1 h2
      refine ⟨by omega, ⟨most.toNat, by omega, by omega, by omega⟩, ?_⟩
      cases e : histB l with
      | true => rfl
      | false => rw [histE_bad e] at h; omega
    · omega

set_option maxHeartbeats 4000000 in
theorem history_ok (a : Option Addr) (n c : Nat) (l : List Cl) (w : World) (hS : Seen w a n l) (h40 : n ≤ 40) :
    Calls Try.prog 41 #[.slice a n c] w fun e w' => e = .returned (.bool (histB l)) ∧ Keeps None w w' := by
  have HL : Hid (n = l.length) := hS.len
  have HS : Hid (Seen w a n l) := hS
  clear hS
  obtain ⟨R, hR⟩ : ∃ R, R = histB l := ⟨_, rfl⟩
  have HR : Hid (R = histB l) := hR
  rw [← hR]
  clear hR
  go_enter Try.func41, Try.ntmps41
  go_wp2_with fail
  go_loopw [3, 4] (fun i _ wr => ∃ k : Nat, k ≤ n ∧ i = .int .i64 k ∧ (∀ q, q < k → okB l q = true) ∧ Keeps None w wr) (fun i _ _ => n - (intOf i).toNat)
  case atStart => exact ⟨0, Nat.zero_le _, rfl, fun q h => by omega, Keeps.refl _ _⟩
  case round =>
    obtain ⟨k, hk, rfl, hall, hkp⟩ := hrel
    by_cases hkn : k < n
    · have hSx := HS.out.more hkp
      obtain ⟨b, off, rfl, hb, hc⟩ := hSx.ex (by omega)
      obtain ⟨x, hx⟩ : ∃ x, l[k]? = some x := ⟨l[k]'(by have := HL.out; omega), by simp⟩
      obtain ⟨y0, y1, y2, y3, y4, y5, y6⟩ := hc k x hx
      have i1 : (k : Int) < (n : Int) := by omega
      have HA : Hid (∀ q, q < k → okB l q = true) := hall
      have HX : Hid (l[k]? = some x) := hx
      have HK : Hid (Keeps None w wr) := hkp
      have hs := single_ok x wr
      clear hc hSx hx hall hkp
      cases hfx : fitsB x with
      | false =>
        rw [hfx] at hs
        have HF : Hid (R = false) := by
          rw [HR.out]
          exact histB_not (k := k) (by have := HL.out; omega) (by rw [okB_of HX.out, hfx]; rfl)
        clear hfx
        go_wp2_with fail
        refine hs.mono ?_
        rintro e w2 ⟨rfl, hk2⟩
        clear hs
        go_wp2
        go_ret
        exact ⟨by rw [HF.out]; rfl, HK.out.trans hk2 (fun _ f _ => f)⟩
      | true =>
        rw [hfx] at hs
        have HF : Hid (fitsB x = true) := hfx
        clear hfx
        go_wp2_with fail
        refine hs.mono ?_
        rintro e w2 ⟨rfl, hk2⟩
        have HK2 : Hid (Keeps None w w2) := HK.out.trans hk2 (fun _ f _ => f)
        clear hs hk2 HK y0 y1 y2 y3 y4 y5 y6
        go_wp2_with fail
        go_loopw [4] (fun j wr => ∃ q : Nat, q ≤ k ∧ j = .int .i64 q ∧ (l.take q).all (fun y => behind y x) = true ∧ Keeps None w wr) (fun j _ => k - (intOf j).toNat)
        case atStart => exact ⟨0, Nat.zero_le _, rfl, rfl, HK2.out⟩
        case round =>
          clear HK2
          obtain ⟨q, hq, rfl, hbe, hkp⟩ := hrel
          by_cases hqk : q < k
          · have hSx := HS.out.more hkp
            obtain ⟨b', off', e', hb', hc⟩ := hSx.ex (by omega)
            injection e' with e'
            injection e' with e1 e2
            subst e1 e2
            obtain ⟨y, hy⟩ : ∃ y, l[q]? = some y := ⟨l[q]'(by have := HL.out; omega), by simp⟩
            obtain ⟨y0, y1, y2, y3, y4, y5, y6⟩ := hc k x HX.out
            obtain ⟨z0, z1, z2, z3, z4, z5, z6⟩ := hc q y hy
            have i2 : (q : Int) < (k : Int) := by omega
            have i3 : (q : Int) < (n : Int) := by omega
            have HY : Hid (behind y x = true → (l.take (q + 1)).all (fun y => behind y x) = true) := fun h => by rw [take_more hy, List.all_append, hbe]; simp [h]
            have HZ : Hid (behind y x = false → R = false) := fun h => by
              rw [HR.out]
              refine histB_not (k := k) (by have := HL.out; omega) ?_
              rw [okB_of HX.out, HF.out, Bool.true_and]
              cases e : (l.take k).all (fun y => behind y x) with
              | false => rfl
              | true =>
                have := List.all_eq_true.1 e y (List.mem_of_getElem? (i := q) (by rw [List.getElem?_take, if_pos hqk]; exact hy))
                rw [h] at this
                cases this
            have HK3 : Hid (∀ t, Keeps None w (wr.drewN t)) := fun t => hkp.trans (keeps_drewN t) (fun _ f _ => f)
            clear hc hSx hy hbe hkp y1 y2 y4 y5 y6 z1 z2 z3 z5 z6
            by_cases g1 : y.who = x.who
            · have b1 : (y.who == x.who) = true := by simpa using g1
              by_cases g2 : y.fin = -1
              · have b2 : (y.fin == -1) = true := by simpa using g2
                have HQ : Hid (R = false) := HZ.out (by simp [behind, g1, g2])
                clear g1 g2 HY HZ
                go_wp2
                go_quiet (fail)
                go_wp2
                go_ret
                exact ⟨by rw [HQ.out]; rfl, HK3.out _⟩
              · have b2 : (y.fin == -1) = false := by simpa using g2
                by_cases g3 : x.beg ≤ y.fin
                · have HQ : Hid (R = false) := HZ.out (by simp [behind, g1, g2]; omega)
                  have d3 : decide (x.beg ≤ y.fin) = true := by simpa using g3
                  clear g1 g2 HY HZ
                  go_wp2
                  go_quiet (fail)
                  go_wp2
                  go_ret
                  exact ⟨by rw [HQ.out]; rfl, HK3.out _⟩
                · have HQ : Hid ((l.take (q + 1)).all (fun y => behind y x) = true) := HY.out (by simp [behind, g2]; omega)
                  have d3 : decide (x.beg ≤ y.fin) = false := by simpa using g3
                  clear g1 g2 HY HZ
                  go_wp2
                  go_quiet (fail)
                  go_wp2
                  go_roundw
                  case rel => exact ⟨q + 1, by omega, by go_num, HQ.out, HK3.out _⟩
                  case measure => simp [intOf]; omega
            · have b1 : (y.who == x.who) = false := by simpa using g1
              have HQ : Hid ((l.take (q + 1)).all (fun y => behind y x) = true) := HY.out (by simp [behind, g1])
              clear g1 HY HZ
              go_wp2
              go_quiet (fail)
              go_wp2
              go_roundw
              case rel => exact ⟨q + 1, by omega, by go_num, HQ.out, HK3.out _⟩
              case measure => simp [intOf]; omega
          · have hqk2 : q = k := by omega
            subst hqk2
            have HN : Hid (∀ p, p < q + 1 → okB l p = true) := by
              intro p hp
              by_cases hpq : p < q
              · exact HA.out p hpq
              · obtain rfl : p = q := by omega
                rw [okB_of HX.out, HF.out, hbe]; rfl
            have HK4 : Hid (Keeps None w wr) := hkp
            clear hbe hkp
            go_wp2
            exact ⟨⟨q + 1, by omega, by go_num, HN.out, HK4.out⟩, by simp [intOf]; omega⟩
    · have HF : Hid (R = true) := by
        rw [HR.out]
        exact histB_all (fun q hq => hall q (by have := HL.out; omega))
      have HK : Hid (Keeps None w wr) := hkp
      clear hall hkp
      go_wp2
      go_ret
      exact ⟨by rw [HF.out]; rfl, HK.out⟩

theorem bad_ok (a : Option Addr) (n c : Nat) (l : List Cl) (most : Int) (w : World) (hS : Seen w a n l) (hn : (n + 1) * 56 ≤ 140737488355328) :
    Calls Try.prog 27 #[.slice a n c, .int .i64 most] w fun e w' => e = .returned (.int .i64 (badE l most)) ∧ Keeps None w w' := by
  have hlen := hS.len
  unfold badE
  rw [← hlen]
  by_cases h40 : 40 < n
  · rw [if_pos h40]
    have i1 : (40 : Int) < (n : Int) := by omega
    clear hS hlen
    go_enter Try.func27, Try.ntmps27
    go_wp2
    go_ret
    exact ⟨rfl, Keeps.refl _ _⟩
  · rw [if_neg h40]
    have i1 : ¬ (40 : Int) < (n : Int) := by omega
    by_cases hm : 1 ≤ most ∧ most ≤ 4096
    · rw [if_pos hm]
      have i2 : ¬ most < 1 := by omega
      have i3 : ¬ 4096 < most := by omega
      have hh := history_ok a n c l w hS (by omega)
      clear hS hlen hm
      cases e : histB l with
      | true =>
        rw [e] at hh
        rw [histE_ok e]
        clear e
        go_enter Try.func27, Try.ntmps27
        go_wp2_with fail
        refine hh.mono ?_
        rintro e w2 ⟨rfl, hk2⟩
        clear hh
        go_wp2
        go_ret
        exact ⟨rfl, hk2⟩
      | false =>
        rw [e] at hh
        rw [histE_bad e]
        clear e
        go_enter Try.func27, Try.ntmps27
        go_wp2_with fail
        refine hh.mono ?_
        rintro e w2 ⟨rfl, hk2⟩
        clear hh
        go_wp2
        go_ret
        exact ⟨rfl, hk2⟩
    · rw [if_neg hm]
      by_cases i2 : most < 1
      · clear hS hlen hm
        go_enter Try.func27, Try.ntmps27
        go_wp2
        go_ret
        exact ⟨rfl, Keeps.refl _ _⟩
      · have i3 : 4096 < most := by omega
        clear hS hlen hm
        go_enter Try.func27, Try.ntmps27
        go_wp2
        go_ret
        exact ⟨rfl, Keeps.refl _ _⟩
end Go.Proofs.Ytheginjjncnheaa
