import Derived.Test.YtdiabpoafennlaaHyRedLaw
import Derived.Test.YtdiabpoafennlaaHySim
/-! Looks compared. -/
namespace Go.Proofs.Ytdiabpoafennlaa
set_option linter.unusedVariables false
set_option maxRecDepth 20000
set_option linter.unusedSimpArgs false
open Go.RowKit Go.HeapKit

/-- A list of lists that can be read. -/
structure SeenL (w : World) (a : Option Addr) (n : Nat) (l : List (List Int)) : Prop where
  len : n = l.length
  ex : ∀ k x, l[k]? = some x → ∃ b off y c, a = some ⟨b, off, none⟩ ∧ w.cell? ⟨b, off + k, none⟩ = some (.slice y x.length c) ∧ SeenV w y x.length (iv x)
theorem SeenL.more {w w' : World} {a : Option Addr} {n : Nat} {l : List (List Int)} (h : SeenL w a n l) (hk : Keeps None w w') : SeenL w' a n l :=
  ⟨h.len, fun k x hx => by
    obtain ⟨b, off, y, c, e, h1, h2⟩ := h.ex k x hx
    exact ⟨b, off, y, c, e, hk.cell h1 (fun f => f), h2.more hk⟩⟩
theorem Fin.looks {w : World} {B : Nat} {X : PX} {K : Ky → Value} {s : PS} (h : Fin w B X K s) : SeenL w X.la s.lk.length s.lk := by
  refine ⟨rfl, fun k x hx => ?_⟩
  have hk := (List.getElem?_eq_some_iff.1 hx).1
  obtain ⟨g, e, _, _, _, hc, _⟩ := own_cellS h.vw.looks (k := k) (range_get _ hk)
  have hr := h.vw.rows (.inr k)
  have e2 : Lf s.vs s.lk (.inr k) = x := by simp [Lf, hx]
  rw [e2] at hr
  obtain ⟨y, c, h3⟩ := row_shape hr
  rw [h3] at hr hc
  exact ⟨g, 0, y, c, e, by rw [Nat.zero_add]; exact hc, own_seen1 hr⟩
set_option maxHeartbeats 1600000 in
theorem sameLooks_ok (a b : Option Addr) (n c d : Nat) (l : List (List Int)) (w : World) (ha : SeenL w a n l) (hb : SeenL w b n l) (hn : n ≤ 5000) (hz : ∀ x ∈ l, x.length ≤ 5000) :
    Calls Try.prog 19 #[.slice a n c, .slice b n d] w fun e w' => e = .returned (.bool true) ∧ Keeps None w w' := by
  have HH : Hid (SeenL w a n l ∧ SeenL w b n l ∧ ∀ x ∈ l, x.length ≤ 5000) := ⟨ha, hb, hz⟩
  have HLen : Hid (n = l.length) := ha.len
  clear ha hb hz
  go_enter Try.func19, Try.ntmps19
  go_wp2_with fail
  go_loopw [5] (fun i wr => ∃ k : Nat, k ≤ n ∧ i = .int .i64 k ∧ Keeps None w wr) (fun i _ => n - (intOf i).toNat)
  case atStart => exact ⟨0, Nat.zero_le _, rfl, Keeps.refl _ _⟩
  case round =>
    obtain ⟨k, hk, rfl, hkp⟩ := hrel
    by_cases hkn : k < n
    · obtain ⟨x, hx⟩ : ∃ x, l[k]? = some x := ⟨l[k]'(by have := HLen.out; omega), by simp⟩
      obtain ⟨ga, oa, ya, ca, rfl, u0, sa⟩ := (HH.out.1.more hkp).ex k x hx
      obtain ⟨gb, ob, yb, cb, rfl, u1, sb⟩ := (HH.out.2.1.more hkp).ex k x hx
      have hxl := HH.out.2.2 x (List.mem_of_getElem? hx)
      have i1 : (k : Int) < (n : Int) := by omega
      obtain ⟨N, hN⟩ : ∃ N, N = x.length := ⟨_, rfl⟩
      rw [← hN] at u0 u1
      have HS : Hid (∀ wx, Keeps None wr wx → SeenV wx ya N (iv x) ∧ SeenV wx yb N (iv x) ∧ N ≤ 5000 ∧ N = x.length) := fun wx hk => by
        rw [hN]
        exact ⟨sa.more hk, sb.more hk, hxl, rfl⟩
      have HK : Hid (Keeps None w wr) := hkp
      have v0 : wr.drew.cell? ⟨ga, oa + k, none⟩ = some (.slice ya N ca) := u0
      have v1 : wr.drew.cell? ⟨gb, ob + k, none⟩ = some (.slice yb N cb) := u1
      clear hx sa sb HH hkp hxl hN
      go_upto_region 6 with fail
      go_region_held3 (fun w' => w'.cell? ⟨ga, oa + k, none⟩ = some (.slice ya N ca) ∧ w'.cell? ⟨gb, ob + k, none⟩ = some (.slice yb N cb)) (first | with_reducible exact hs2 | exact ⟨v0, v1⟩ | go_keep) (first
        | (go_at_call 12; refine Calls.mono (sameInts_ok ya yb N ca cb x _ (HS.out _ (Keeps.drew None _)).1 (HS.out _ (Keeps.drew None _)).2.1 (by have := (HS.out _ (Keeps.drew None wr)).2.2.1; omega)) ?_; rintro _ w4 ⟨rfl, hk4⟩; have hkd := (Keeps.drew None wr).trans hk4 (fun _ f _ => f); have hs2 := (⟨hkd.cell u0 (fun f => f), hkd.cell u1 (fun f => f)⟩ : w4.cell? ⟨ga, oa + k, none⟩ = some (.slice ya N ca) ∧ w4.cell? ⟨gb, ob + k, none⟩ = some (.slice yb N cb))))
      all_goals (go_wp2_with fail; exact ⟨⟨k + 1, by omega, by go_num, HK.out.trans hkd (fun _ f _ => f)⟩, by simp [intOf]; omega⟩)
    · have HK : Hid (Keeps None w wr) := hkp
      have i1 : ¬ (k : Int) < (n : Int) := by omega
      clear HH hkp
      go_wp2
      go_ret
      exact ⟨rfl, HK.out⟩
end Go.Proofs.Ytdiabpoafennlaa
