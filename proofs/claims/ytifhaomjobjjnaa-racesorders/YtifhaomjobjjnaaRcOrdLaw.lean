import Derived.Test.YtifhaomjobjjnaaRcROrd
/-! The walk of RacesOrders. -/
namespace Go.Proofs.Ytifhaomjobjjnaa
set_option linter.unusedVariables false
set_option maxRecDepth 20000
set_option linter.unusedSimpArgs false
open Go.RowKit Go.HeapKit

theorem ord_len (l : List Dd) : (natZ (ord1 l)).length ≤ 4096 ∧ (natZ (ord2 l)).length ≤ 4096 := by
  rw [natZ_len, natZ_len]
  unfold ord1 ord2
  by_cases h : chkE l = 0
  · rw [if_pos h, if_pos h]
    obtain ⟨hn, hf⟩ := chk_fine h
    obtain ⟨d, _, _, hI⟩ := hf.at l.length (Nat.le_refl _)
    rw [lof_len hI]
    simpa using hn
  · rw [if_neg h, if_neg h]
    simp
theorem RowZ.base {w : World} {b b' : Nat} {v : Value} {L : List Int} (h : RowZ w b v L) (hb : b' ≤ b) : RowZ w b' v L := row_base h hb
set_option maxHeartbeats 1600000 in
theorem ordersPlaced_ok (a : Option Addr) (n c : Nat) (l : List Dd) (w : World) (hS : Seen w a n l) (hn : (n + 2) * 16 ≤ 140737488355328) :
    Calls Try.prog 22 #[.slice a n c] w fun e w' => e = .returned (.bool true) ∧ Keeps None w w' := by
  have HS : Hid (Seen w a n l) := hS
  have HLen : Hid (n = l.length) := hS.len
  clear hS
  go_enter Try.func22, Try.ntmps22
  go_wp2_with fail
  refine (turned_ok a n c l w HS.out hn).mono ?_
  rintro e w1 ⟨v, rfl, hr1, hk1⟩
  obtain ⟨a1, c1, rfl⟩ := row_shape hr1
  have HR1 : Hid (w1.ownsRow w.heap.size 51 2 (.slice a1 n c1) n (ddVals (l.map turnD)) ∧ Keeps None w w1) := ⟨hr1, hk1⟩
  have hs1 := hk1.size
  clear hr1 hk1
  go_wp2_with fail
  refine (tspare_ok _ n (l.map turnD) w1 _ HR1.out.1 (by simpa using HLen.out) hn).mono ?_
  rintro e w2 ⟨g, rfl, hsp, hk2⟩
  have HR2 : Hid (Spare w2 w1.heap.size g n (l.map turnD) ∧ Keeps None w w2 ∧ Keeps None w1 w2) := ⟨hsp, HR1.out.2.trans hk2 (fun _ f _ => f), hk2⟩
  clear hsp hk2
  go_wp2_with fail
  refine (orders_ok _ n _ (l.map turnD) w2 HR2.out.1.seen).mono ?_
  rintro e w3 ⟨⟨v1, v2, rfl, hv1, hv2, hd12⟩, hk3⟩
  have HR3 : Hid (Spare w3 w1.heap.size g n (l.map turnD) ∧ Keeps None w w3 ∧ Keeps None w1 w3 ∧ RowZ w3 w2.heap.size v1 (natZ (ord1 (l.map turnD))) ∧ RowZ w3 w2.heap.size v2 (natZ (ord2 (l.map turnD))) ∧ g < w2.heap.size) := ⟨HR2.out.1.more hk3, HR2.out.2.1.trans hk3 (fun _ f _ => f), HR2.out.2.2.trans hk3 (fun _ f _ => f), hv1, hv2, HR2.out.1.2.lt⟩
  clear hk3 HR2 hv1 hv2 hd12
  go_wp2_with fail
  refine (lay_ok a n c g _ (n + 2) l (l.map turnD) w3 HR3.out.1 (HS.out.more HR3.out.2.1) (fun h0 b e e2 => by have h3 := HS.out.low h0 e; have := HR3.out.1.2.low; omega) (by omega) hn).mono ?_
  rintro e w5 ⟨rfl, hsp4, hk4⟩
  have HR5 : Hid (Spare w5 w1.heap.size g n l ∧ Keeps None w w5 ∧ Keeps None w1 w5 ∧ RowZ w5 w2.heap.size v1 (natZ (ord1 (l.map turnD))) ∧ RowZ w5 w2.heap.size v2 (natZ (ord2 (l.map turnD)))) := ⟨hsp4, HR3.out.2.1.trans hk4 (fun i e hi => by have := HR3.out.1.2.low; omega), HR3.out.2.2.1.trans hk4 (fun i e hi => by have := HR3.out.1.2.low; omega), HR3.out.2.2.2.1.kept hk4 (fun b e e2 => by have := row_low HR3.out.2.2.2.1 e; have := HR3.out.2.2.2.2.2; omega), HR3.out.2.2.2.2.1.kept hk4 (fun b e e2 => by have := row_low HR3.out.2.2.2.2.1 e; have := HR3.out.2.2.2.2.2; omega)⟩
  clear hsp4 hk4 HR3
  go_wp2_with fail
  refine (orders_ok _ n _ l w5 HR5.out.1.seen).mono ?_
  rintro e w6 ⟨⟨v3, v4, rfl, hv3, hv4, hd34⟩, hk6⟩
  have HR6 : Hid (Keeps None w w6 ∧ Keeps None w1 w6 ∧ RowZ w6 w2.heap.size v1 (natZ (ord1 (l.map turnD))) ∧ RowZ w6 w2.heap.size v2 (natZ (ord2 (l.map turnD))) ∧ RowZ w6 w5.heap.size v3 (natZ (ord1 l)) ∧ RowZ w6 w5.heap.size v4 (natZ (ord2 l))) := ⟨HR5.out.2.1.trans hk6 (fun _ f _ => f), HR5.out.2.2.1.trans hk6 (fun _ f _ => f), HR5.out.2.2.2.1.more hk6, HR5.out.2.2.2.2.more hk6, hv3, hv4⟩
  clear hk6 HR5 hv3 hv4 hd34
  go_wp2_with fail
  refine (rorders_ok a1 n c1 (l.map turnD) v1 v2 _ w6 ((Seen.of_row (by simpa using HLen.out) HR1.out.1).more HR6.out.2.1) HR6.out.2.2.1 HR6.out.2.2.2.1).mono ?_
  rintro e w7 ⟨rfl, hk7⟩
  have HR7 : Hid (Keeps None w w7 ∧ RowZ w7 w5.heap.size v3 (natZ (ord1 l)) ∧ RowZ w7 w5.heap.size v4 (natZ (ord2 l))) := ⟨HR6.out.1.trans hk7 (fun _ f _ => f), HR6.out.2.2.2.2.1.more hk7, HR6.out.2.2.2.2.2.more hk7⟩
  clear hk7 HR6
  go_wp2_with fail
  refine (rorders_ok a n c l v3 v4 _ w7 (HS.out.more HR7.out.1) HR7.out.2.1 HR7.out.2.2).mono ?_
  rintro e w8 ⟨rfl, hk8⟩
  go_wp2
  go_ret
  exact ⟨rfl, HR7.out.1.trans hk8 (fun _ f _ => f)⟩
set_option maxHeartbeats 4000000 in
theorem racesOrders_walk (a : Option Addr) (n c : Nat) (l : List Dd) (w : World) (hS : Seen w a n l) (hn : (n + 2) * 16 ≤ 140737488355328) :
    Calls Try.prog 5 #[.slice a n c] w fun e w' => e = .returned (.bool true) ∧ Below w.heap.size w w' := by
  have HS : Hid (Seen w a n l) := hS
  clear hS
  go_enter Try.func5, Try.ntmps5
  go_wp2_with fail
  refine (spare_ok a n c l w HS.out hn).mono ?_
  rintro e w1 ⟨g, rfl, hsp, hk1⟩
  have HR1 : Hid (Spare w1 w.heap.size g n l ∧ Keeps None w w1) := ⟨hsp, hk1⟩
  clear hsp hk1
  go_wp2_with fail
  refine (orders_ok _ n _ l w1 HR1.out.1.seen).mono ?_
  rintro e w2 ⟨⟨v1, v2, rfl, hv1, hv2, hd12⟩, hk2⟩
  have HR2 : Hid (Keeps None w1 w2 ∧ RowZ w2 w1.heap.size v1 (natZ (ord1 l)) ∧ RowZ w2 w1.heap.size v2 (natZ (ord2 l)) ∧ (∀ b, v1.ownBlock = some b → v2.ownBlock ≠ some b)) := ⟨hk2, hv1, hv2, hd12⟩
  clear hk2 hv1 hv2 hd12
  go_wp2_with fail
  refine (orders_ok _ n _ l w2 (HR1.out.1.more HR2.out.1).seen).mono ?_
  rintro e w3 ⟨⟨v3, v4, rfl, hv3, hv4, hd34⟩, hk3⟩
  obtain ⟨B, hB⟩ : ∃ B, B = w1.heap.size := ⟨_, rfl⟩
  obtain ⟨L1, hL1⟩ : ∃ L1, L1 = natZ (ord1 l) := ⟨_, rfl⟩
  obtain ⟨L2, hL2⟩ : ∃ L2, L2 = natZ (ord2 l) := ⟨_, rfl⟩
  have HD : Hid ((∀ b, v1.ownBlock = some b → v2.ownBlock ≠ some b) ∧ (∀ b, v3.ownBlock = some b → v4.ownBlock ≠ some b) ∧ (∀ b, v1.ownBlock = some b → v3.ownBlock ≠ some b) ∧ (∀ b, v1.ownBlock = some b → v4.ownBlock ≠ some b) ∧ (∀ b, v2.ownBlock = some b → v3.ownBlock ≠ some b) ∧ (∀ b, v2.ownBlock = some b → v4.ownBlock ≠ some b)) := by
    refine ⟨HR2.out.2.2.2, hd34, fun b e1 e2 => ?_, fun b e1 e2 => ?_, fun b e1 e2 => ?_, fun b e1 e2 => ?_⟩
    · have h1 := own_lt HR2.out.2.1 e1; have h2 := row_low hv3 e2; omega
    · have h1 := own_lt HR2.out.2.1 e1; have h2 := row_low hv4 e2; omega
    · have h1 := own_lt HR2.out.2.2.1 e1; have h2 := row_low hv3 e2; omega
    · have h1 := own_lt HR2.out.2.2.1 e1; have h2 := row_low hv4 e2; omega
  have HO : Hid (L1 = natZ (ord1 l) ∧ L2 = natZ (ord2 l) ∧ L1.length ≤ 4096 ∧ L2.length ≤ 4096 ∧ B = w1.heap.size ∧ w.heap.size ≤ B ∧ g < B) := ⟨hL1, hL2, by rw [hL1]; exact (ord_len l).1, by rw [hL2]; exact (ord_len l).2, hB, by rw [hB]; exact HR1.out.2.size, by rw [hB]; exact HR1.out.1.2.lt⟩
  have H3 : Hid (Keeps (fun i => B ≤ i) w1 w3 ∧ RowZ w3 B v1 L1 ∧ RowZ w3 B v2 L2 ∧ RowZ w3 B v3 L1 ∧ RowZ w3 B v4 L2) := by
    rw [hB, hL1, hL2]
    refine ⟨(HR2.out.1.trans hk3 (fun _ f _ => f)).mono (fun _ f _ => f.elim), HR2.out.2.1.more hk3, HR2.out.2.2.1.more hk3, hv3.base HR2.out.1.size, hv4.base HR2.out.1.size⟩
  clear hv3 hv4 hd34 hk3 hB hL1 hL2 HR2
  have seen : ∀ w', Keeps (fun i => B ≤ i) w1 w' → Seen w' a n l := fun w' hk => (HS.out.more HR1.out.2).kept hk (fun h0 b e hlt => by have := HS.out.low h0 e; have := HO.out.2.2.2.2.2.1; omega)
  have HSe : Hid _ := seen
  clear seen
  go_wp2_with fail
  refine (rorders_ok a n c l v1 v2 B w3 (HSe.out w3 H3.out.1) (by rw [← HO.out.1]; exact H3.out.2.1) (by rw [← HO.out.2.1]; exact H3.out.2.2.1)).mono ?_
  rintro e w4 ⟨rfl, hk4⟩
  have H4 : Hid (Keeps (fun i => B ≤ i) w1 w4 ∧ RowZ w4 B v1 L1 ∧ RowZ w4 B v2 L2 ∧ RowZ w4 B v3 L1 ∧ RowZ w4 B v4 L2) := ⟨H3.out.1.trans hk4 (fun _ f _ => f.elim), H3.out.2.1.more hk4, H3.out.2.2.1.more hk4, H3.out.2.2.2.1.more hk4, H3.out.2.2.2.2.more hk4⟩
  clear hk4 H3
  go_wp2_with fail
  refine (rorders_ok a n c l v3 v4 B w4 (HSe.out w4 H4.out.1) (by rw [← HO.out.1]; exact H4.out.2.2.2.1) (by rw [← HO.out.2.1]; exact H4.out.2.2.2.2)).mono ?_
  rintro e w5 ⟨rfl, hk5⟩
  have H5 : Hid (Keeps (fun i => B ≤ i) w1 w5 ∧ RowZ w5 B v1 L1 ∧ RowZ w5 B v2 L2 ∧ RowZ w5 B v3 L1 ∧ RowZ w5 B v4 L2) := ⟨H4.out.1.trans hk5 (fun _ f _ => f.elim), H4.out.2.1.more hk5, H4.out.2.2.1.more hk5, H4.out.2.2.2.1.more hk5, H4.out.2.2.2.2.more hk5⟩
  clear hk5 H4
  obtain ⟨D12, D34, D13, D14, D23, D24⟩ := HD.out
  have HDD : Hid ((∀ b, v1.ownBlock = some b → v2.ownBlock ≠ some b) ∧ (∀ b, v1.ownBlock = some b → v3.ownBlock ≠ some b) ∧ (∀ b, v1.ownBlock = some b → v4.ownBlock ≠ some b) ∧ (∀ b, v2.ownBlock = some b → v1.ownBlock ≠ some b) ∧ (∀ b, v2.ownBlock = some b → v3.ownBlock ≠ some b) ∧ (∀ b, v2.ownBlock = some b → v4.ownBlock ≠ some b) ∧ (∀ b, v3.ownBlock = some b → v1.ownBlock ≠ some b) ∧ (∀ b, v3.ownBlock = some b → v2.ownBlock ≠ some b) ∧ (∀ b, v3.ownBlock = some b → v4.ownBlock ≠ some b) ∧ (∀ b, v4.ownBlock = some b → v1.ownBlock ≠ some b) ∧ (∀ b, v4.ownBlock = some b → v2.ownBlock ≠ some b) ∧ (∀ b, v4.ownBlock = some b → v3.ownBlock ≠ some b)) :=
    ⟨D12, D13, D14, fun b e1 e2 => D12 b e2 e1, D23, D24, fun b e1 e2 => D13 b e2 e1, fun b e1 e2 => D23 b e2 e1, D34, fun b e1 e2 => D14 b e2 e1, fun b e1 e2 => D24 b e2 e1, fun b e1 e2 => D34 b e2 e1⟩
  clear D12 D34 D13 D14 D23 D24 HD
  obtain ⟨b1, d1, s1, _⟩ := H5.out.2.1.shape
  obtain ⟨b2, d2, s2, _⟩ := H5.out.2.2.1.shape
  obtain ⟨b3, d3, s3, _⟩ := H5.out.2.2.2.1.shape
  obtain ⟨b4, d4, s4, _⟩ := H5.out.2.2.2.2.shape
  have HSH : Hid (v1 = .slice b1 L1.length d1 ∧ v2 = .slice b2 L2.length d2 ∧ v3 = .slice b3 L1.length d3 ∧ v4 = .slice b4 L2.length d4) := ⟨s1, s2, s3, s4⟩
  clear s1 s2 s3 s4
  have HKB : Hid (∀ (u : Value) (L : List Int) (wx wy : World), Keeps (fun i => B ≤ i) w1 wx → RowZ wx B u L → Keeps (fun i => u.ownBlock = some i) wx wy → Keeps (fun i => B ≤ i) w1 wy) := fun u L wx wy h1 h2 h3 => h1.trans h3 (fun i e _ => row_low h2 e)
  go_wp2_with fail
  refine (fill_ok v1 L1 (-1) B w5 H5.out.2.1 (by first | exact HO.out.2.2.1 | exact HO.out.2.2.2.1)).mono ?_
  rintro e w6 ⟨rfl, hf1, hk6⟩
  have H6 : Hid (Keeps (fun i => B ≤ i) w1 w6 ∧ RowZ w6 B v1 (List.replicate L1.length (-1)) ∧ RowZ w6 B v2 L2 ∧ RowZ w6 B v3 L1 ∧ RowZ w6 B v4 L2) := ⟨HKB.out v1 _ _ _ H5.out.1 H5.out.2.1 hk6, hf1, H5.out.2.2.1.kept hk6 (fun b e1 e2 => HDD.out.2.2.2.1 b e1 e2), H5.out.2.2.2.1.kept hk6 (fun b e1 e2 => HDD.out.2.2.2.2.2.2.1 b e1 e2), H5.out.2.2.2.2.kept hk6 (fun b e1 e2 => HDD.out.2.2.2.2.2.2.2.2.2.1 b e1 e2)⟩
  clear hf1 hk6 H5
  go_wp2_with fail
  refine (fill_ok v2 L2 (-2) B w6 H6.out.2.2.1 (by first | exact HO.out.2.2.1 | exact HO.out.2.2.2.1)).mono ?_
  rintro e w7 ⟨rfl, hf2, hk7⟩
  have H7 : Hid (Keeps (fun i => B ≤ i) w1 w7 ∧ RowZ w7 B v1 (List.replicate L1.length (-1)) ∧ RowZ w7 B v2 (List.replicate L2.length (-2)) ∧ RowZ w7 B v3 L1 ∧ RowZ w7 B v4 L2) := ⟨HKB.out v2 _ _ _ H6.out.1 H6.out.2.2.1 hk7, H6.out.2.1.kept hk7 (fun b e1 e2 => HDD.out.1 b e1 e2), hf2, H6.out.2.2.2.1.kept hk7 (fun b e1 e2 => HDD.out.2.2.2.2.2.2.2.1 b e1 e2), H6.out.2.2.2.2.kept hk7 (fun b e1 e2 => HDD.out.2.2.2.2.2.2.2.2.2.2.1 b e1 e2)⟩
  clear hf2 hk7 H6
  go_wp2_with fail
  refine (fill_ok v3 L1 (-3) B w7 H7.out.2.2.2.1 (by first | exact HO.out.2.2.1 | exact HO.out.2.2.2.1)).mono ?_
  rintro e w8 ⟨rfl, hf3, hk8⟩
  have H8 : Hid (Keeps (fun i => B ≤ i) w1 w8 ∧ RowZ w8 B v1 (List.replicate L1.length (-1)) ∧ RowZ w8 B v2 (List.replicate L2.length (-2)) ∧ RowZ w8 B v3 (List.replicate L1.length (-3)) ∧ RowZ w8 B v4 L2) := ⟨HKB.out v3 _ _ _ H7.out.1 H7.out.2.2.2.1 hk8, H7.out.2.1.kept hk8 (fun b e1 e2 => HDD.out.2.1 b e1 e2), H7.out.2.2.1.kept hk8 (fun b e1 e2 => HDD.out.2.2.2.2.1 b e1 e2), hf3, H7.out.2.2.2.2.kept hk8 (fun b e1 e2 => HDD.out.2.2.2.2.2.2.2.2.2.2.2 b e1 e2)⟩
  clear hf3 hk8 H7
  go_wp2_with fail
  refine (fill_ok v4 L2 (-4) B w8 H8.out.2.2.2.2 (by first | exact HO.out.2.2.1 | exact HO.out.2.2.2.1)).mono ?_
  rintro e w9 ⟨rfl, hf4, hk9⟩
  have H9 : Hid (Keeps (fun i => B ≤ i) w1 w9 ∧ RowZ w9 B v1 (List.replicate L1.length (-1)) ∧ RowZ w9 B v2 (List.replicate L2.length (-2)) ∧ RowZ w9 B v3 (List.replicate L1.length (-3)) ∧ RowZ w9 B v4 (List.replicate L2.length (-4))) := ⟨HKB.out v4 _ _ _ H8.out.1 H8.out.2.2.2.2 hk9, H8.out.2.1.kept hk9 (fun b e1 e2 => HDD.out.2.2.1 b e1 e2), H8.out.2.2.1.kept hk9 (fun b e1 e2 => HDD.out.2.2.2.2.2.1 b e1 e2), H8.out.2.2.2.1.kept hk9 (fun b e1 e2 => HDD.out.2.2.2.2.2.2.2.2.1 b e1 e2), hf4⟩
  clear hf4 hk9 H8
  go_wp2_with fail
  refine (grown_ok v1 (List.replicate L1.length (-1)) (-11) B w9 H9.out.2.1 (by rw [List.length_replicate]; first | exact HO.out.2.2.1 | exact HO.out.2.2.2.1) (by have h1 := H9.out.1.size; have := HO.out.2.2.2.2.1; omega)).mono ?_
  rintro e w10 ⟨rfl, hf1, hk10⟩
  have H10 : Hid (Keeps (fun i => B ≤ i) w1 w10 ∧ SeesZ w10 v1 (List.replicate L1.length (-1)) ∧ RowZ w10 B v2 (List.replicate L2.length (-2)) ∧ RowZ w10 B v3 (List.replicate L1.length (-3)) ∧ RowZ w10 B v4 (List.replicate L2.length (-4))) := ⟨HKB.out v1 _ _ _ H9.out.1 H9.out.2.1 hk10, hf1, H9.out.2.2.1.kept hk10 (fun b e1 e2 => HDD.out.2.2.2.1 b e1 e2), H9.out.2.2.2.1.kept hk10 (fun b e1 e2 => HDD.out.2.2.2.2.2.2.1 b e1 e2), H9.out.2.2.2.2.kept hk10 (fun b e1 e2 => HDD.out.2.2.2.2.2.2.2.2.2.1 b e1 e2)⟩
  clear hf1 hk10 H9
  go_wp2_with fail
  refine (grown_ok v2 (List.replicate L2.length (-2)) (-12) B w10 H10.out.2.2.1 (by rw [List.length_replicate]; first | exact HO.out.2.2.1 | exact HO.out.2.2.2.1) (by have h1 := H10.out.1.size; have := HO.out.2.2.2.2.1; omega)).mono ?_
  rintro e w11 ⟨rfl, hf2, hk11⟩
  have H11 : Hid (Keeps (fun i => B ≤ i) w1 w11 ∧ SeesZ w11 v1 (List.replicate L1.length (-1)) ∧ SeesZ w11 v2 (List.replicate L2.length (-2)) ∧ RowZ w11 B v3 (List.replicate L1.length (-3)) ∧ RowZ w11 B v4 (List.replicate L2.length (-4))) := ⟨HKB.out v2 _ _ _ H10.out.1 H10.out.2.2.1 hk11, H10.out.2.1.kept hk11 (fun b e1 e2 => HDD.out.1 b e1 e2), hf2, H10.out.2.2.2.1.kept hk11 (fun b e1 e2 => HDD.out.2.2.2.2.2.2.2.1 b e1 e2), H10.out.2.2.2.2.kept hk11 (fun b e1 e2 => HDD.out.2.2.2.2.2.2.2.2.2.2.1 b e1 e2)⟩
  clear hf2 hk11 H10
  go_wp2_with fail
  refine (grown_ok v3 (List.replicate L1.length (-3)) (-13) B w11 H11.out.2.2.2.1 (by rw [List.length_replicate]; first | exact HO.out.2.2.1 | exact HO.out.2.2.2.1) (by have h1 := H11.out.1.size; have := HO.out.2.2.2.2.1; omega)).mono ?_
  rintro e w12 ⟨rfl, hf3, hk12⟩
  have H12 : Hid (Keeps (fun i => B ≤ i) w1 w12 ∧ SeesZ w12 v1 (List.replicate L1.length (-1)) ∧ SeesZ w12 v2 (List.replicate L2.length (-2)) ∧ SeesZ w12 v3 (List.replicate L1.length (-3)) ∧ RowZ w12 B v4 (List.replicate L2.length (-4))) := ⟨HKB.out v3 _ _ _ H11.out.1 H11.out.2.2.2.1 hk12, H11.out.2.1.kept hk12 (fun b e1 e2 => HDD.out.2.1 b e1 e2), H11.out.2.2.1.kept hk12 (fun b e1 e2 => HDD.out.2.2.2.2.1 b e1 e2), hf3, H11.out.2.2.2.2.kept hk12 (fun b e1 e2 => HDD.out.2.2.2.2.2.2.2.2.2.2.2 b e1 e2)⟩
  clear hf3 hk12 H11
  go_wp2_with fail
  refine (grown_ok v4 (List.replicate L2.length (-4)) (-14) B w12 H12.out.2.2.2.2 (by rw [List.length_replicate]; first | exact HO.out.2.2.1 | exact HO.out.2.2.2.1) (by have h1 := H12.out.1.size; have := HO.out.2.2.2.2.1; omega)).mono ?_
  rintro e w13 ⟨rfl, hf4, hk13⟩
  have H13 : Hid (Keeps (fun i => B ≤ i) w1 w13 ∧ SeesZ w13 v1 (List.replicate L1.length (-1)) ∧ SeesZ w13 v2 (List.replicate L2.length (-2)) ∧ SeesZ w13 v3 (List.replicate L1.length (-3)) ∧ SeesZ w13 v4 (List.replicate L2.length (-4))) := ⟨HKB.out v4 _ _ _ H12.out.1 H12.out.2.2.2.2 hk13, H12.out.2.1.kept hk13 (fun b e1 e2 => HDD.out.2.2.1 b e1 e2), H12.out.2.2.1.kept hk13 (fun b e1 e2 => HDD.out.2.2.2.2.2.1 b e1 e2), H12.out.2.2.2.1.kept hk13 (fun b e1 e2 => HDD.out.2.2.2.2.2.2.2.2.1 b e1 e2), hf4⟩
  clear hf4 hk13 H12
  go_wp2_with fail
  refine (full_ok v1 L1.length (-1) w13 b1 d1 HSH.out.1 H13.out.2.1 (by first | exact HO.out.2.2.1 | exact HO.out.2.2.2.1)).mono ?_
  rintro e wf1 ⟨rfl, hwf1⟩
  have hwf1' := hwf1.symm
  subst hwf1'
  go_wp2_with fail
  refine (full_ok v2 L2.length (-2) w13 b2 d2 HSH.out.2.1 H13.out.2.2.1 (by first | exact HO.out.2.2.1 | exact HO.out.2.2.2.1)).mono ?_
  rintro e wf2 ⟨rfl, hwf2⟩
  have hwf2' := hwf2.symm
  subst hwf2'
  go_wp2_with fail
  refine (full_ok v3 L1.length (-3) w13 b3 d3 HSH.out.2.2.1 H13.out.2.2.2.1 (by first | exact HO.out.2.2.1 | exact HO.out.2.2.2.1)).mono ?_
  rintro e wf3 ⟨rfl, hwf3⟩
  have hwf3' := hwf3.symm
  subst hwf3'
  go_wp2_with fail
  refine (full_ok v4 L2.length (-4) w13 b4 d4 HSH.out.2.2.2 H13.out.2.2.2.2 (by first | exact HO.out.2.2.1 | exact HO.out.2.2.2.1)).mono ?_
  rintro e wf4 ⟨rfl, hwf4⟩
  have hwf4' := hwf4.symm
  subst hwf4'
  have hkW : Keeps (fun i => B ≤ i) w1 w13 := H13.out.1
  have HKW : Hid (Keeps (fun i => B ≤ i) w1 w13) := hkW
  clear hkW
  go_wp2_with fail
  refine (untouched_ok a g n c _ l w13 (HR1.out.1.kept HKW.out (by have := HO.out.2.2.2.2.2.2; omega)) (HSe.out _ HKW.out) hn).mono ?_
  rintro e wu ⟨rfl, m, hwu⟩
  have hku : Keeps (fun i => B ≤ i) w1 wu := by rw [hwu]; exact HKW.out.trans (keeps_drewN _ m) (fun _ f _ => f.elim)
  have HKU : Hid (Keeps (fun i => B ≤ i) w1 wu) := hku
  clear hku hwu
  go_wp2_with fail
  refine (ordersPlaced_ok a n c l wu (HSe.out _ HKU.out) hn).mono ?_
  rintro e wz ⟨rfl, hkz⟩
  go_wp2
  go_ret
  refine ⟨rfl, ?_⟩
  have h1 : Keeps (fun i => w.heap.size ≤ i) w wz := (HR1.out.2.mono (fun _ f _ => f.elim)).trans (HKU.out.trans hkz (fun _ f _ => f.elim)) (fun i e hi => by have := HO.out.2.2.2.2.2.1; omega)
  exact h1.below _ (Nat.le_refl _) (fun i e => e)
end Go.Proofs.Ytifhaomjobjjnaa
