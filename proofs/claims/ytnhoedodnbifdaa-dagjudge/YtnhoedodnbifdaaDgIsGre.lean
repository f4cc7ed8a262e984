import Derived.Test.YtnhoedodnbifdaaDgFull
import Derived.Shelf.RegionOpenPlain
/-! Whether a schedule is greedy: what isGreedy asks. -/
namespace Go.Proofs.Ytnhoedodnbifdaa
set_option linter.unusedVariables false
set_option maxRecDepth 20000
open Go.RowKit Go.HeapKit

def tm (zs : List Int) (v : Nat) : Int := zs.getD v 0
/-- From when on a node stands ready, by the first edges. -/
def sinceF (zs : List Int) (l : List Ed) (i v : Nat) : Int := ((l.take i).filter (fun e => e.t == (v : Int))).foldl (fun a e => max a (tm zs e.f.toNat + 1)) 1
theorem since_zero (zs : List Int) (l : List Ed) (v : Nat) : sinceF zs l 0 v = 1 := rfl
theorem since_succ {zs : List Int} {l : List Ed} {i : Nat} {e : Ed} (he : l[i]? = some e) (v : Nat) : sinceF zs l (i + 1) v = if e.t = (v : Int) then max (sinceF zs l i v) (tm zs e.f.toNat + 1) else sinceF zs l i v := by
  unfold sinceF
  rw [List.take_add_one, he]
  simp only [Option.toList_some, List.filter_append, List.foldl_append]
  by_cases h : e.t = (v : Int)
  · simp [h]
  · simp [h]
theorem since_ge (zs : List Int) (l : List Ed) (v : Nat) (i : Nat) : 1 ≤ sinceF zs l i v := by
  induction i with
  | zero => rw [since_zero]; omega
  | succ i ih =>
    cases he : l[i]? with
    | none =>
      have : sinceF zs l (i + 1) v = sinceF zs l i v := by unfold sinceF; rw [List.take_add_one, he]; simp
      rw [this]; exact ih
    | some e =>
      rw [since_succ he]
      split
      · omega
      · exact ih
theorem since_le {p : Int} {n : Nat} {zs : List Int} {l : List Ed} (hn : n = zs.length) (hd : Dag (n : Int) l) (hs : isSched p zs l) (v : Nat) (hv : v < n) (i : Nat) : sinceF zs l i v ≤ tm zs v := by
  induction i with
  | zero =>
    rw [since_zero]
    have h1 := (hs.1 v (zs[v]'(by omega)) (by omega) (by simp)).1
    unfold tm
    rw [List.getD_eq_getElem?_getD, List.getElem?_eq_getElem (by omega)]
    exact h1
  | succ i ih =>
    cases he : l[i]? with
    | none =>
      have : sinceF zs l (i + 1) v = sinceF zs l i v := by unfold sinceF; rw [List.take_add_one, he]; simp
      rw [this]; exact ih
    | some e =>
      rw [since_succ he]
      split
      · rename_i hev
        have h2 := hs.2 i e (List.getElem?_eq_some_iff.1 he).1 he
        have h3 : e.t.toNat = v := by omega
        rw [h3] at h2
        unfold tm at ih ⊢
        omega
      · exact ih
def cb (F : List Int) (x : Int) : Nat := F.countP (· < x)
/-- The first k nodes wait through full times only. -/
def grOk (p : Nat) (zs : List Int) (l : List Ed) (k : Nat) : Prop := ∀ v, v < k → (cb (fullV p zs) (tm zs v) : Int) - cb (fullV p zs) (sinceF zs l l.length v) = tm zs v - sinceF zs l l.length v
theorem gr_more {p : Nat} {zs : List Int} {l : List Ed} {k : Nat} (h : grOk p zs l k) (h1 : (cb (fullV p zs) (tm zs k) : Int) - cb (fullV p zs) (sinceF zs l l.length k) = tm zs k - sinceF zs l l.length k) : grOk p zs l (k + 1) := by
  intro v hv
  by_cases e : v = k
  · subst e; exact h1
  · exact h v (by omega)
theorem srt_sorted (zs : List Int) : (srt zs).Pairwise (· ≤ ·) := by
  have := List.pairwise_mergeSort (le := fun x y : Int => decide (x ≤ y)) (fun a b c h1 h2 => by simp at h1 h2 ⊢; omega) (fun a b => by simp; omega) zs
  exact this.imp (fun h => by simpa using h)
theorem full_in {p : Nat} {s : List Int} {k : Nat} {x : Int} (hx : x ∈ fullL p s k) (hk : k ≤ s.length) : ∃ j, j < k ∧ s[j]? = some x := by
  induction k with
  | zero => simp [fullL] at hx
  | succ k ih =>
    unfold fullL at hx
    rw [List.mem_append] at hx
    rcases hx with hx | hx
    · obtain ⟨j, hj, h⟩ := ih hx (by omega)
      exact ⟨j, by omega, h⟩
    · split at hx
      · simp at hx
        subst hx
        refine ⟨k, by omega, ?_⟩
        rw [List.getElem?_eq_getElem (by omega)]
        rfl
      · cases hx
theorem full_sorted {p : Nat} {s : List Int} (hs : s.Pairwise (· ≤ ·)) (k : Nat) (hk : k ≤ s.length) : (fullL p s k).Pairwise (· ≤ ·) := by
  induction k with
  | zero => exact List.Pairwise.nil
  | succ k ih =>
    unfold fullL
    rw [List.pairwise_append]
    refine ⟨ih (by omega), ?_, ?_⟩
    · split <;> simp
    · intro a ha b hb
      split at hb
      · simp at hb
        subst hb
        obtain ⟨j, hj, h⟩ := full_in ha (by omega)
        have h1 := (List.pairwise_iff_getElem.1 hs) j k (by omega) (by omega) hj
        rw [List.getElem?_eq_getElem (by omega)] at h
        injection h with h
        rw [List.getElem?_eq_getElem (by omega)]
        simp only [Option.getD_some]
        omega
      · cases hb
theorem fullV_sorted (p : Nat) (zs : List Int) : (fullV p zs).Pairwise (· ≤ ·) := full_sorted (srt_sorted zs) _ (by rw [srt_len]; omega)
theorem search_any (base : Nat) (fa : Option Addr) (m fc : Nat) (F : List Int) (x : Int) (w : World) (h : w.ownsRow base 3 1 (.slice fa m fc) m (iv F)) (hm : m ≤ 4096) (hs : F.Pairwise (· ≤ ·)) :
    Calls Try.prog 43 #[.slice fa m fc, .int .i64 x] w fun e w' => ∃ b : Bool, e = .returned (.tuple #[.int .i64 (cb F x : Nat), .bool b]) ∧ Keeps None w w' := by
  have hl : m = F.length := by have := h.1; rw [iv_len] at this; omega
  cases m with
  | zero =>
    have hF : F = [] := List.eq_nil_of_length_eq_zero hl.symm
    refine (Any.slices_BinarySearch_int_empty Try.searchA fa fc x w).mono ?_
    rintro e w' ⟨rfl, rfl⟩
    exact ⟨false, by rw [hF]; rfl, Keeps.refl _ _⟩
  | succ m =>
    obtain ⟨g, rfl, _, _⟩ := row_at h (k := 0) (x := F[0]'(by omega)) (by simp)
    have := Any.slices_BinarySearch_int Try.searchA g 0 (m + 1) fc F x w (by omega) (by omega) (fun j hj => by
      obtain ⟨g2, e2, h2, _⟩ := row_at h (k := j) (x := F[j]) (by simp)
      injection e2 with e2
      injection e2 with e2
      subst e2
      rw [Nat.zero_add, h2, List.getD_eq_getElem?_getD, List.getElem?_eq_getElem hj]
      rfl) (by rw [hl, List.take_length]; exact hs)
    refine Calls.mono this ?_
    rintro e w' ⟨rfl, q, rfl⟩
    refine ⟨(F.take (m + 1)).contains x, ?_, Keeps.drewN None w q⟩
    have e : F.take (m + 1) = F := by rw [hl, List.take_length]
    rw [e]
    rfl
set_option maxHeartbeats 3200000 in
theorem isgre_any (n : Nat) (a : Option Addr) (m c : Nat) (l : List Ed) (p : Nat) (hp : 1 ≤ p ∧ p ≤ 64) (ap : Option Addr) (cp : Nat) (zs : List Int) (w : World) (h : SeenE w a m l) (hz : SeenZ w ap n zs) (hd : Dag (n : Int) l) (hs : isSched p zs l) :
    Calls Try.prog 31 #[dagV n a m c, .int .i64 p, .slice ap n cp] w fun e w' => BoolAns (grOk p zs l n) w e w' := by
  have mixed : Try.prog.follows Departure.mixedOrders = true := by kernel_rfl
  have HD : Hid (Dag (n : Int) l ∧ isSched p zs l ∧ n = zs.length ∧ m = l.length) := ⟨hd, hs, hz.len, h.len⟩
  have HS : Hid (SeenE w a m l) := h
  have HZ : Hid (SeenZ w ap n zs) := hz
  have hn : n ≤ 4096 := by have := hd.hi; omega
  have hm : m ≤ 16384 := by have := hd.len; have := h.len; omega
  clear hd h hz hs
  obtain ⟨s0, hs0⟩ : ∃ s0, s0 = w.heap.size := ⟨_, rfl⟩
  unfold dagV
  go_enter Try.func31, Try.ntmps31
  go_wp2_with fail
  have hbox := blk_new w (.cells #[.int .i64 n, .slice a m c] 24) _ rfl
  have hk0 := keeps1 w (.cells #[.int .i64 n, .slice a m c] 24)
  refine (full_any p hp n ap cp zs _ (HZ.out.more hk0) hn).mono ?_
  rintro e w2 ⟨v, rfl, hr2, hk2⟩
  obtain ⟨fa, fc, rfl⟩ := row_shape hr2
  obtain ⟨F, hF⟩ : ∃ F, F = fullV p zs := ⟨_, rfl⟩
  rw [← hF] at hr2 ⊢
  obtain ⟨q, hq⟩ : ∃ q, q = F.length := ⟨_, rfl⟩
  rw [← hq] at hr2 ⊢
  rw [← hs0] at hbox ⊢
  obtain ⟨g, hg⟩ : ∃ g, g = w2.heap.size := ⟨_, rfl⟩
  have hq4 : q ≤ 4096 := by
    have := fullL_len p (srt zs) zs.length
    have := HD.out.2.2.1
    rw [hq, hF]
    unfold fullV
    omega
  have H2 : Hid (w2.heap[s0]? = some (.cells #[.int .i64 n, .slice a m c] 24 (0, 0)) ∧ Keeps None w w2 ∧ w2.ownsRow 0 3 1 (.slice fa q fc) q (iv F) ∧ g = w2.heap.size) :=
    ⟨blk_kept hbox hk2 (fun f => f), hk0.trans hk2 (fun _ f _ => f), row_base hr2 (Nat.zero_le _), hg⟩
  have HF : Hid (F = fullV p zs ∧ q = F.length) := ⟨hF, hq⟩
  have hmk := make_ints n w2 hn
  have d0 : w2.cell? ⟨s0, 0, none⟩ = some (.int .i64 n) := (blk_cell H2.out.1 0).trans rfl
  rw [← hg] at hmk
  have hN0 : IsN (w2.alloc (.cells ((List.range n).map (fun _ => Value.int .i64 0)).toArray 3)) g n (fun _ => 0) := blk_new _ _ _ hg.symm
  have hkm := keeps1 w2 (.cells ((List.range n).map (fun _ => Value.int .i64 0)).toArray 3)
  generalize hwm : w2.alloc (.cells ((List.range n).map (fun _ => Value.int .i64 0)).toArray 3) = wm at hmk hN0 hkm
  have hdm := hkm.cell d0 (fun f => f)
  have HM : Hid (IsN wm g n (fun _ => 0) ∧ Keeps None w2 wm) := ⟨hN0, hkm⟩
  clear hwm hg hs0 hbox hk0 hk2 hr2 hF hq hN0 hkm
  go_wp2_with fail
  go_loopw [25, 9] (fun s25 _ wr => ∃ k : Nat, s25 = .int .i64 k ∧ k ≤ n ∧ IsN wr g n (fun j => if j < k then 1 else 0) ∧ Keeps None w2 wr) (fun s25 _ _ => n - (intOf s25).toNat)
  case atStart => exact ⟨0, rfl, Nat.zero_le _, HM.out.1.congr (fun k _ => by simp), HM.out.2⟩
  case round =>
    obtain ⟨k, rfl, hk, hN, hkp⟩ := hrel
    by_cases hlt : k < n
    · have hlt2 : (k : Int) < (n : Int) := by omega
      have n0 : ¬ n = 0 := by omega
      have x0 := hN.at hlt
      have z0 := hN.free k
      have HN : Hid (IsN (wr.setCell ⟨g, k, none⟩ (.int .i64 1)) g n (fun j => if j < k + 1 then 1 else 0) ∧ Keeps None w2 (wr.setCell ⟨g, k, none⟩ (.int .i64 1))) := by
        refine ⟨(hN.set k 1).congr (fun j hj => ?_), hkp.andSet (x := ⟨g, k, none⟩) (.inr (by show w2.heap.size ≤ g; rw [H2.out.2.2.2]; exact Nat.le_refl _)) _⟩
        unfold upd
        by_cases e1 : j = k
        · subst e1; simp
        · rw [if_neg e1]
          show (if j < k then (1 : Int) else 0) = _
          by_cases e2 : j < k
          · rw [if_pos e2, if_pos (by omega)]
          · rw [if_neg e2, if_neg (by omega)]
      clear hN hkp
      go_wp2_with fail
      exact ⟨⟨k + 1, by go_num, by omega, HN.out⟩, by simp [intOf]; omega⟩
    · have hlt2 : ¬ (k : Int) < (n : Int) := by omega
      have hdr : wr.cell? ⟨s0, 1, none⟩ = some (.slice a m c) := hkp.cell ((blk_cell H2.out.1 1).trans rfl) (fun f => f)
      have HN : Hid (IsN wr g n (sinceF zs l 0) ∧ Keeps None w2 wr) := ⟨hN.congr (fun j hj => by rw [if_pos (by omega), since_zero]), hkp⟩
      clear hN hkp
      go_wp2_with fail
      go_loopw [35, 11] (fun s35 _ ws => ∃ i : Nat, s35 = .int .i64 i ∧ i ≤ m ∧ IsN ws g n (sinceF zs l i) ∧ Keeps None w2 ws) (fun s35 _ _ => m - (intOf s35).toNat)
      case atStart => exact ⟨0, rfl, Nat.zero_le _, HN.out⟩
      case round =>
        obtain ⟨i, rfl, hi, hN, hkp⟩ := hrel
        clear HN hdr hdm
        by_cases hlt : i < m
        · have hlt3 : (i : Int) < (m : Int) := by omega
          obtain ⟨b, off, e, rfl, he, hat⟩ := (HS.out.more (H2.out.2.1.trans hkp (fun _ f _ => f))).at hlt
          have hok := HD.out.1.ok e (List.mem_of_getElem? he)
          obtain ⟨ef, et⟩ := e
          simp only at hok
          obtain ⟨u, rfl⟩ := Int.eq_ofNat_of_zero_le hok.1
          obtain ⟨v, rfl⟩ := Int.eq_ofNat_of_zero_le (show 0 ≤ et by omega)
          have e0 := hat.f
          have e1 := hat.t
          simp only at e0 e1
          have m0 : ¬ m = 0 := by omega
          have n0 : ¬ n = 0 := by omega
          have u1 : (u : Int) < (n : Int) := by omega
          have v1 : (v : Int) < (n : Int) := by omega
          obtain ⟨bp, offp, x, rfl, hx, hox, ex⟩ := (HZ.out.more (H2.out.2.1.trans hkp (fun _ f _ => f))).at (k := u) (by omega)
          obtain ⟨bq, offq, x2, hpq, hx2, hox2, ey⟩ := (HZ.out.more (H2.out.2.1.trans hkp (fun _ f _ => f))).at (k := v) (by omega)
          have htu : tm zs u = x := by unfold tm; rw [List.getD_eq_getElem?_getD, hx]; rfl
          have htv : tm zs v = x2 := by unfold tm; rw [List.getD_eq_getElem?_getD, hx2]; rfl
          have hxx : x < x2 := by
            have h1 := HD.out.2.1.2 i _ (List.getElem?_eq_some_iff.1 he).1 he
            simp only [Int.toNat_natCast] at h1
            unfold tm at htu htv
            omega
          have hx9 : x + 1 ≤ 9223372036854775807 := by have := hox2.2; omega
          have hx8 : -9223372036854775808 ≤ x + 1 := by have := hox.1; omega
          obtain ⟨y, hy⟩ : ∃ y, y = sinceF zs l i v := ⟨_, rfl⟩
          have ea := keeps1 wr (Obj.cells #[.int .i64 u, .int .i64 v] 52)
          have ex2 := ea.cell ex (fun f => f)
          have hN2 := hN.kept ea (fun f => f)
          have ey2 := hN2.at (k := v) (by omega)
          rw [← hy] at ey2
          have z2 := hN2.free v
          have hss := since_succ (zs := zs) he
          simp only [Int.toNat_natCast, htu] at hss
          have HN : Hid (IsN ((wr.alloc (Obj.cells #[.int .i64 u, .int .i64 v] 52)).setCell ⟨g, v, none⟩ (.int .i64 (max y (x + 1)))) g n (sinceF zs l (i + 1)) ∧ Keeps None w2 ((wr.alloc (Obj.cells #[.int .i64 u, .int .i64 v] 52)).setCell ⟨g, v, none⟩ (.int .i64 (max y (x + 1))))) := by
            refine ⟨(hN2.set v _).congr (fun j hj => ?_), (hkp.andAlloc _).andSet (x := ⟨g, v, none⟩) (.inr (by show w2.heap.size ≤ g; rw [H2.out.2.2.2]; exact Nat.le_refl _)) _⟩
            rw [hss j]
            unfold upd
            by_cases e1 : j = v
            · subst e1; rw [if_pos rfl, if_pos rfl, hy]
            · rw [if_neg e1, if_neg (by omega)]
          have HY : Hid (y = sinceF zs l i v) := hy
          clear hpq ey hx hx2 hox hox2 htu htv hxx hat he hN hkp hN2 hss hy ea hok
          go_wp2_with fail
          go_region_o
          all_goals go_wp2_with fail
          all_goals exact ⟨⟨i + 1, by go_num, by omega, HN.out.1.kept (Keeps.drew None _) (fun f => f), HN.out.2.andDrew⟩, by simp [intOf]; omega⟩
        · have hlt3 : ¬ (i : Int) < (m : Int) := by omega
          have hdr : wr.cell? ⟨s0, 0, none⟩ = some (.int .i64 n) := hkp.cell d0 (fun f => f)
          have HN : Hid (IsN wr g n (sinceF zs l l.length) ∧ Keeps None w2 wr) := ⟨by rw [show l.length = i by have := HD.out.2.2.2; omega]; exact hN, hkp⟩
          clear hN hkp
          go_wp2_with fail
          go_loopw [58, 12, 13, 14, 15, 16] (fun s58 _ _ _ _ _ ws => ∃ k : Nat, s58 = .int .i64 k ∧ k ≤ n ∧ IsN ws g n (sinceF zs l l.length) ∧ Keeps None w2 ws ∧ grOk p zs l k) (fun s58 _ _ _ _ _ _ => n - (intOf s58).toNat)
          case atStart => exact ⟨0, rfl, Nat.zero_le _, HN.out.1, HN.out.2, fun v hv => by omega⟩
          case round =>
            obtain ⟨k, rfl, hk, hN, hkp, hG⟩ := hrel
            clear HN hdr
            have HI : Hid (IsN wr g n (sinceF zs l l.length) ∧ Keeps None w2 wr ∧ grOk p zs l k) := ⟨hN, hkp, hG⟩
            clear hN hkp hG
            by_cases hlt : k < n
            · have hlt4 : (k : Int) < (n : Int) := by omega
              have n0 : ¬ n = 0 := by omega
              obtain ⟨bp, offp, x, rfl, hx, hox, ex⟩ := (HZ.out.more (H2.out.2.1.trans HI.out.2.1 (fun _ f _ => f))).at hlt
              have htk : tm zs k = x := by unfold tm; rw [List.getD_eq_getElem?_getD, hx]; rfl
              have hsl := since_le HD.out.2.2.1 HD.out.1 HD.out.2.1 k hlt l.length
              have hsg := since_ge zs l k l.length
              have ey := HI.out.1.at hlt
              obtain ⟨y, hy⟩ : ∃ y, y = sinceF zs l l.length k := ⟨_, rfl⟩
              rw [← hy] at ey hsl hsg
              rw [htk] at hsl
              have hx9 : x ≤ 9223372036854775807 := hox.2
              have hFs : F.Pairwise (· ≤ ·) := by rw [HF.out.1]; exact fullV_sorted _ _
              have hc1 : cb F y ≤ 4096 := by have := HF.out.2; exact Nat.le_trans List.countP_le_length (by omega)
              have hc2 : cb F x ≤ 4096 := by have := HF.out.2; exact Nat.le_trans List.countP_le_length (by omega)
              have HY : Hid (y = sinceF zs l l.length k ∧ tm zs k = x ∧ F.Pairwise (· ≤ ·)) := ⟨hy, htk, hFs⟩
              clear hx hox htk hy hFs
              go_wp2_with fail
              refine (search_any 0 fa q fc F y wr (row_kept H2.out.2.2.1 HI.out.2.1 (fun _ _ f => f)) hq4 HY.out.2.2).mono ?_
              rintro e w4 ⟨b4, rfl, hk4⟩
              have ex4 := hk4.cell ex (fun f => f)
              have ey4 := hk4.cell ey (fun f => f)
              have H4 : Hid (IsN w4 g n (sinceF zs l l.length) ∧ Keeps None w2 w4) := ⟨HI.out.1.kept hk4 (fun f => f), HI.out.2.1.trans hk4 (fun _ f _ => f)⟩
              clear hk4 ex ey
              go_wp2_with fail
              refine (search_any 0 fa q fc F x w4 (row_kept H2.out.2.2.1 H4.out.2 (fun _ _ f => f)) hq4 HY.out.2.2).mono ?_
              rintro e w5 ⟨b5, rfl, hk5⟩
              have ex5 := hk5.cell ex4 (fun f => f)
              have ey5 := hk5.cell ey4 (fun f => f)
              have H5 : Hid (IsN w5 g n (sinceF zs l l.length) ∧ Keeps None w2 w5) := ⟨H4.out.1.kept hk5 (fun f => f), H4.out.2.trans hk5 (fun _ f _ => f)⟩
              clear hk5 ex4 ey4
              obtain ⟨c1, hcc1⟩ : ∃ c1, c1 = cb F y := ⟨_, rfl⟩
              obtain ⟨c2, hcc2⟩ : ∃ c2, c2 = cb F x := ⟨_, rfl⟩
              rw [← hcc1] at hc1 ⊢
              rw [← hcc2] at hc2 ⊢
              have HC : Hid (c1 = cb F y ∧ c2 = cb F x) := ⟨hcc1, hcc2⟩
              clear hcc1 hcc2
              by_cases hne : (c2 : Int) - (c1 : Int) = x - y
              · have hb : ((c2 : Int) - (c1 : Int) != x - y) = false := by simp [hne]
                have HE : Hid ((c2 : Int) - (c1 : Int) = x - y) := hne
                clear hne
                go_wp2_with fail
                go_quiet (fail)
                all_goals go_wp2_with fail
                all_goals refine ⟨⟨k + 1, by go_num, by omega, H5.out.1.kept (Keeps.drewN None _ _) (fun f => f), H5.out.2.trans (Keeps.drewN None _ _) (fun _ f _ => f), gr_more HI.out.2.2 ?_⟩, by simp [intOf]; omega⟩
                all_goals rw [← HF.out.1, HY.out.2.1, ← HY.out.1, ← HC.out.1, ← HC.out.2]
                all_goals exact HE.out
              · have hb : ((c2 : Int) - (c1 : Int) != x - y) = true := by simp [hne]
                have HE : Hid (¬ (c2 : Int) - (c1 : Int) = x - y) := hne
                clear hne
                go_wp2_with fail
                go_quiet (fail)
                all_goals go_wp2_with fail
                all_goals go_ret
                all_goals refine ⟨false, rfl, ⟨fun h => (by cases h), fun h => ?_⟩, (H2.out.2.1.trans H5.out.2 (fun _ f _ => f)).trans (Keeps.drewN None _ _) (fun _ f _ => f)⟩
                all_goals have h1 := h k hlt
                all_goals rw [← HF.out.1, HY.out.2.1, ← HY.out.1, ← HC.out.1, ← HC.out.2] at h1
                all_goals exact absurd h1 HE.out
            · have hlt4 : ¬ (k : Int) < (n : Int) := by omega
              have HE : Hid (grOk p zs l n) := by
                have h1 := HI.out.2.2
                rw [show k = n by omega] at h1
                exact h1
              go_wp2_with fail
              go_ret
              exact ⟨true, rfl, ⟨fun _ => HE.out, fun _ => rfl⟩, H2.out.2.1.trans HI.out.2.1 (fun _ f _ => f)⟩
end Go.Proofs.Ytnhoedodnbifdaa
