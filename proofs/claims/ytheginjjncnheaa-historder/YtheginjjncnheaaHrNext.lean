import Derived.Test.YtheginjjncnheaaHoDet
/-! The document's search for an order: the next call of an actor; are all through? -/
namespace Go.Proofs.Ytheginjjncnheaa
set_option linter.unusedVariables false
set_option maxRecDepth 20000
set_option linter.unusedSimpArgs false
open Go.RowKit Go.HeapKit

def nxI (o : Option Int) : Int := o.getD (-1)
theorem mine_pre (l : List Cl) (i : Nat) : ∀ d k, ∃ r, mineL l (k + d) i = mineL l k i ++ r
  | 0, k => ⟨[], by simp⟩
  | d + 1, k => by
    obtain ⟨r, hr⟩ := mine_pre l i d k
    refine ⟨r ++ (if (clAt l ((k + d : Nat) : Int)).who = i then [((k + d : Nat) : Int)] else []), ?_⟩
    show mineL l (k + d + 1) i = _
    simp only [mineL]
    rw [hr, List.append_assoc]
theorem own_at {l : List Cl} {q who : Nat} {x : Cl} (hx : l[q]? = some x) (hw : x.who = who) : (ownL l who)[(mineL l q who).length]? = some (q : Int) := by
  have hq := (List.getElem?_eq_some_iff.1 hx).1
  obtain ⟨r, hr⟩ := mine_pre l who (l.length - (q + 1)) (q + 1)
  rw [show q + 1 + (l.length - (q + 1)) = l.length by omega] at hr
  unfold ownL
  rw [hr]
  have e : mineL l (q + 1) who = mineL l q who ++ [(q : Int)] := by
    simp only [mineL]
    rw [clAt_of hx, if_pos hw]
  rw [e, List.append_assoc, List.getElem?_append_right (Nat.le_refl _)]
  simp
theorem mine_step {l : List Cl} {q who : Nat} {x : Cl} (hx : l[q]? = some x) (hw : x.who = who) : (mineL l (q + 1) who).length = (mineL l q who).length + 1 := by
  simp only [mineL]
  rw [clAt_of hx, if_pos hw]
  simp
theorem mine_stay {l : List Cl} {q who : Nat} {x : Cl} (hx : l[q]? = some x) (hw : x.who ≠ who) : (mineL l (q + 1) who).length = (mineL l q who).length := by
  simp only [mineL]
  rw [clAt_of hx, if_neg hw]
  simp
set_option maxHeartbeats 1000000 in
theorem rnext_ok (a : Option Addr) (n c : Nat) (l : List Cl) (who cnt : Nat) (w : World) (hS : Seen w a n l) (h40 : n ≤ 40) (hc : cnt ≤ 1000) :
    Calls Try.prog 49 #[.slice a n c, .int .i64 (who : Int), .int .i64 (cnt : Int)] w fun e w' => e = .returned (.int .i64 (nxI (ownL l who)[cnt]?)) ∧ Keeps None w w' := by
  have HS : Hid (Seen w a n l ∧ n = l.length) := ⟨hS, hS.len⟩
  obtain ⟨R, hR⟩ : ∃ R, R = nxI (ownL l who)[cnt]? := ⟨_, rfl⟩
  have HR : Hid (R = nxI (ownL l who)[cnt]?) := hR
  rw [← hR]
  clear hS hR
  go_enter Try.func49, Try.ntmps49
  go_wp2_with fail
  go_loopw [2, 7] (fun s2 s7 wr => ∃ i m : Nat, i ≤ n ∧ s7 = .int .i64 i ∧ s2 = .int .i64 m ∧ m + (mineL l i who).length = cnt ∧ Keeps None w wr) (fun _ i _ => n - (intOf i).toNat)
  case atStart => exact ⟨0, cnt, Nat.zero_le _, rfl, rfl, by simp [mineL], Keeps.refl _ _⟩
  case round =>
    obtain ⟨i, m, hi, rfl, rfl, hm, hkp⟩ := hrel
    by_cases hin : i < n
    · obtain ⟨b, off, rfl, hb, hc⟩ := (HS.out.1.more hkp).ex (by omega)
      obtain ⟨x, hx⟩ : ∃ x, l[i]? = some x := ⟨l[i]'(by have := HS.out.2; omega), by simp⟩
      obtain ⟨y0, y1, y2, y3, y4, y5, y6⟩ := hc i x hx
      have i1 : (i : Int) < (n : Int) := by omega
      have HK : Hid (Keeps None w wr) := hkp
      by_cases hw : x.who = who
      · have q1 : (x.who == (who : Int)) = true := by simpa using hw
        rcases m with _ | m
        · have HF : Hid (R = (i : Int)) := by
            rw [HR.out, ← show (mineL l i who).length = cnt by omega, own_at hx hw]
            rfl
          clear hc hx hkp hm hw y1 y2 y3 y4 y5 y6
          go_wp2_with fail
          go_ret
          exact ⟨by rw [HF.out]; rfl, HK.out⟩
        · have q2 : (((m + 1 : Nat) : Int) == 0) = false := by simp; omega
          have HF : Hid (m + (mineL l (i + 1) who).length = cnt) := by
            unfold Hid
            rw [mine_step hx hw]
            omega
          have hm2 : m ≤ 1000 := by omega
          clear hc hx hkp hm hw y1 y2 y3 y4 y5 y6
          go_wp2_with fail
          go_roundw
          case rel => exact ⟨i + 1, m, by omega, by go_num, by go_num, HF.out, HK.out⟩
          case measure => simp [intOf]; omega
      · have q1 : (x.who == (who : Int)) = false := by simpa using hw
        have HF : Hid (m + (mineL l (i + 1) who).length = cnt) := by
          rw [mine_stay hx hw]
          exact hm
        clear hc hx hkp hm hw y1 y2 y3 y4 y5 y6
        go_wp2_with fail
        go_roundw
        case rel => exact ⟨i + 1, m, by omega, by go_num, rfl, HF.out, HK.out⟩
        case measure => simp [intOf]; omega
    · have i1 : ¬ ((i : Int) < (n : Int)) := by omega
      have HF : Hid (R = -1 ∧ Keeps None w wr) := by
        refine ⟨?_, hkp⟩
        have hn := HS.out.2
        have hin2 : i = l.length := by omega
        subst hin2
        have e : (ownL l who)[cnt]? = none := List.getElem?_eq_none (by unfold ownL; omega)
        rw [HR.out, e]
        rfl
      clear hm hkp
      go_wp2_with fail
      go_ret
      exact ⟨by rw [HF.out.1]; rfl, HF.out.2⟩
end Go.Proofs.Ytheginjjncnheaa
