import Derived.Test.YtnhoedodnbifdaaDgRJud4
import Derived.Test.YtnhoedodnbifdaaDgLaw
/-! DagJudge: its walk. -/
namespace Go.Proofs.Ytnhoedodnbifdaa
set_option linter.unusedVariables false
set_option maxRecDepth 20000
open Go.RowKit Go.HeapKit

structure RoomI (w : World) (base g k cap : Nat) (zs : List Int) : Prop where
  len : k = zs.length
  row : w.ownsRow base 3 1 (.slice (some ⟨g, 0, none⟩) (k + 1) cap) (k + 1) (iv (zs ++ [-77]))
section
variable {w w' : World} {base g k cap : Nat} {zs : List Int}
theorem RoomI.kept {S : Nat → Prop} (h : RoomI w base g k cap zs) (hk : Keeps S w w') (hS : ¬ S g) : RoomI w' base g k cap zs :=
  ⟨h.len, row_kept h.row hk (fun j e => by simp [Value.ownBlock] at e; subst e; exact hS)⟩
theorem RoomI.low (h : RoomI w base g k cap zs) : base ≤ g := row_low h.row rfl
theorem RoomI.lt (h : RoomI w base g k cap zs) : g < w.heap.size := own_lt h.row rfl
theorem RoomI.fits (h : RoomI w base g k cap zs) : k + 1 ≤ cap := by
  rcases h.row.2 with ⟨e, _⟩ | ⟨g', cap', cur, e, _, _, hn, _⟩
  · cases e
  · injection e with _ _ e; subst e; exact hn
theorem RoomI.at (h : RoomI w base g k cap zs) {j : Nat} {x : Int} (hx : (zs ++ [-77])[j]? = some x) : w.cell? ⟨g, j, none⟩ = some (.int .i64 x) ∧ w.frozen? ⟨g, j, none⟩ = false := by
  obtain ⟨g', e, h1, h2⟩ := row_at h.row hx
  injection e with e
  injection e with e
  subst e
  exact ⟨h1, h2⟩
theorem RoomI.seen (h : RoomI w base g k cap zs) (ok : ∀ x ∈ zs, okI x) : SeenZ w (some ⟨g, 0, none⟩) k zs := by
  refine ⟨h.len, ok, fun h0 => ⟨g, 0, rfl, h.lt, fun j x hx => ?_⟩⟩
  have := (h.at (j := j) (x := x) (by rw [List.getElem?_append_left (List.getElem?_eq_some_iff.1 hx).1]; exact hx)).1
  rw [Nat.zero_add]
  exact this
theorem RoomI.put (h : RoomI w base g k cap zs) {j : Nat} (hj : j < k) (x : Int) : RoomI (w.setCell ⟨g, j, none⟩ (.int .i64 x)) base g k cap (zs.set j x) := by
  refine ⟨by simpa using h.len, ?_⟩
  have := row_set h.row j (.int .i64 x)
  rw [iv_set, List.set_append_left _ _ (by have := h.len; omega)] at this
  exact this
end
theorem take_setZ {l l' : List Int} {k : Nat} {x : Int} (hx : l[k]? = some x) (hl : k < l'.length) : (l.take k ++ l'.drop k).set k x = l.take (k + 1) ++ l'.drop (k + 1) := by
  have hk := (List.getElem?_eq_some_iff.1 hx).1
  rw [List.set_append_right _ _ (by simp; omega), List.length_take, Nat.min_eq_left (by omega), Nat.sub_self, List.take_add_one, hx, List.drop_eq_getElem_cons hl, List.set_cons_zero]
  simp
set_option maxHeartbeats 1600000 in
theorem sameZ_any (a a2 : Option Addr) (m c c2 : Nat) (l : List Int) (w : World) (h : SeenZ w a m l) (h2 : SeenZ w a2 m l) (hs : m * 8 ≤ 140737488351232) :
    Calls Try.prog 13 #[.slice a m c, .slice a2 m c2] w fun e w' => e = .returned (.bool true) ∧ Keeps None w w' := by
  have HS : Hid (SeenZ w a m l ∧ SeenZ w a2 m l) := ⟨h, h2⟩
  clear h h2
  go_enter Try.func13, Try.ntmps13
  go_wp2_with fail
  go_loopw [5] (fun s5 wr => ∃ k : Nat, s5 = .int .i64 k ∧ k ≤ m ∧ ∃ d, wr = w.drewN d) (fun s5 _ => m - (intOf s5).toNat)
  case atStart => exact ⟨0, rfl, Nat.zero_le _, 0, rfl⟩
  case round =>
    obtain ⟨k, rfl, hk, d, rfl⟩ := hrel
    by_cases hkn : k < m
    · obtain ⟨b, off, x, rfl, he, _, c1⟩ := HS.out.1.at hkn
      obtain ⟨b2, off2, x2, rfl, he2, _, c2⟩ := HS.out.2.at hkn
      rw [he] at he2
      injection he2 with he2
      subst he2
      have m0 : ¬ m = 0 := by omega
      have i1 : (k : Int) < (m : Int) := by omega
      clear he HS
      go_wp2_with fail
      go_quiet (fail)
      all_goals go_wp2_with fail
      all_goals exact ⟨⟨k + 1, by go_num, by omega, _, rfl⟩, by simp [intOf]; omega⟩
    · have i1 : ¬ (k : Int) < (m : Int) := by omega
      go_wp2_with fail
      go_ret
      exact ⟨rfl, Keeps.drewZ None _ _⟩
theorem St.kept2 {w wr w' : World} {s0 p g m cap g2 : Nat} {n : Int} {a : Option Addr} {c : Nat} {l L : List Ed} (h : St w wr s0 p g m cap n a c l L) (hk : Keeps (· = g2) wr w') (hg : g2 ≠ g ∧ g2 ≠ p ∧ g2 ≠ s0 ∧ w.heap.size ≤ g2) : St w w' s0 p g m cap n a c l L := by
  refine ⟨blk_kept h.b0 hk (fun e => hg.2.2.1 e.symm), blk_kept h.bc hk (fun e => hg.2.1 e.symm), h.room.kept hk (fun e => hg.1 e.symm), ⟨h.seen.len, fun h0 => ?_⟩, h.keeps.trans hk (fun i e hi => by subst e; exact absurd hg.2.2.2 (by omega)), h.gp, h.al⟩
  obtain ⟨b, off, e, hb, hc⟩ := h.seen.ex h0
  have hlt := h.al _ e h0
  exact ⟨b, off, e, Nat.lt_of_lt_of_le hb hk.size, fun k i hi => (hc k i hi).kept hk (fun e2 => by have := hg.2.2.2; simp at hlt; omega)⟩
set_option maxHeartbeats 6400000 in
theorem dagJudge_walk (n : Int) (a : Option Addr) (m c : Nat) (l : List Ed) (p_ : Int) (za : Option Addr) (k zc : Nat) (zs : List Int) (w : World) (o : okI n) (h : SeenE w a m l) (hok : ∀ i ∈ l, okI i.f ∧ okI i.t) (hs : m * 16 ≤ 140737488351232) (op : okI p_) (hz : SeenZ w za k zs) (hks : k * 8 ≤ 140737488351232) :
    Calls Try.prog 3 #[dagV n a m c, .int .i64 p_, .slice za k zc] w fun e w' => e = .returned (.bool true) ∧ Keeps None w w' := by
  have HS : Hid (SeenE w a m l) := h
  have HZ : Hid (SeenZ w za k zs) := hz
  clear h hz
  obtain ⟨s0, hs0⟩ : ∃ s0, s0 = w.heap.size := ⟨_, rfl⟩
  have HS0 : Hid (s0 = w.heap.size) := hs0
  unfold dagV
  go_enter Try.func3, Try.ntmps3
  go_wp2_with fail
  refine (moved_any n a m c l (w.alloc (.cells #[.int .i64 n, .slice a m c] 24)) (HS.out.more (keeps1 _ _)) hs).mono ?_
  rintro e w1 ⟨g, cap, rfl, hR, hk⟩
  have hsz : (w.alloc (.cells #[.int .i64 n, .slice a m c] 24)).heap.size = s0 + 1 := by simp; omega
  rw [hsz] at hR
  have hst := St.start (n := n) (c := c) (p := w1.heap.size) hs0 HS.out (blk_kept (blk_new w (.cells #[.int .i64 n, .slice a m c] 24) s0 hs0.symm) hk (fun f => f)) hR ((keeps1 w _).trans hk (fun _ f _ => f)) rfl
  obtain ⟨p, hp⟩ : ∃ p, p = w1.heap.size := ⟨_, rfl⟩
  rw [← hp] at hst
  have HT : Hid (St w (w1.alloc (.cells #[.int .i64 n, .slice (some ⟨g, 0, none⟩) m cap] 24)) s0 p g m cap n a c l (l.map mvE)) := hst
  unfold dagV
  rw [← hs0]
  clear hst hk hR hsz
  go_wp2_with fail
  rw [← hp]
  clear hp hs0
  generalize w1.alloc (.cells #[.int .i64 n, .slice (some ⟨g, 0, none⟩) m cap] 24) = wS at HT ⊢
  obtain ⟨B, hB⟩ : ∃ B, B = wS.heap.size := ⟨_, rfl⟩
  have HB : Hid (B = wS.heap.size) := hB
  clear hB
  go_loopw [9, 8] (fun s9 s8 ws => ∃ (i : Nat) (la : Option Addr) (lc : Nat) (l' : List Int), s9 = .int .i64 i ∧ s8 = .slice la i lc ∧ i ≤ k ∧ i = l'.length ∧ ws.ownsRow B 3 1 (.slice la i lc) i (iv l') ∧ (∀ x ∈ l', okI x) ∧ Keeps None wS ws) (fun s9 _ _ => k - (intOf s9).toNat)
  case atStart => exact ⟨0, none, 0, [], rfl, rfl, Nat.zero_le _, rfl, row_nil _ _ _ _, fun x hx => (by cases hx), Keeps.refl _ _⟩
  case round =>
    obtain ⟨i, la, lc, l', rfl, rfl, hi, hil, hrow, hok', hkp⟩ := hrel
    have HI : Hid (wr.ownsRow B 3 1 (.slice la i lc) i (iv l') ∧ (∀ x ∈ l', okI x) ∧ Keeps None wS wr ∧ i = l'.length) := ⟨hrow, hok', hkp, hil⟩
    have hsz : B ≤ wr.heap.size := by have := hkp.size; have := HB.out; omega
    clear hrow hok' hkp hil
    by_cases hlt : i < k
    · have i2 : (i : Int) < (k : Int) := by omega
      have n0 : ¬ k = 0 := by omega
      obtain ⟨J, hJ⟩ : ∃ J, J = k - 1 - i := ⟨_, rfl⟩
      have ej : (k : Int) - 1 - (i : Int) = (J : Int) := by omega
      have j1 : (J : Int) < (k : Int) := by omega
      obtain ⟨b, off, x, rfl, hx, hxo, x0⟩ := (HZ.out.more (HT.out.keeps.trans HI.out.2.2.1 (fun _ f _ => f))).at (k := J) (by omega)
      obtain ⟨gg, cc, w7, hr, ho, hk7, hm7⟩ := int_more B (.slice la i lc) l' x i 25 wr.heap.size (wr.alloc (.cells #[.int .i64 x] 3)) HI.out.2.2.2 (row_kept HI.out.1 (Keeps.alloc None wr _) (fun _ _ f => f)) (by simp; omega) (by omega) (blk_new _ _ _ rfl)
      have HE : Hid (w7.ownsRow B 3 1 (.slice (some ⟨gg, 0, none⟩) (i + 1) cc) (i + 1) (iv (l' ++ [x])) ∧ (∀ y ∈ l' ++ [x], okI y) ∧ Keeps None wS w7 ∧ i + 1 = (l' ++ [x]).length) := by
        refine ⟨ho, fun y hy => ?_, (HI.out.2.2.1.andAlloc _).trans hk7 (fun j e hj => ?_), by simp; exact HI.out.2.2.2⟩
        · rcases List.mem_append.1 hy with h9 | h9
          · exact HI.out.2.1 y h9
          · simp at h9; subst h9; exact hxo
        · have := row_low HI.out.1 e
          have := HB.out
          omega
      clear ho hk7 hm7 hJ hx hxo
      go_wp2_with (at_builtin; refine wpList_append_run rfl (.tmp 23) (.tmp 32) 25 25 rfl rfl rfl hr ?_)
      exact ⟨⟨i + 1, _, _, _, by go_num, rfl, by omega, HE.out.2.2.2, HE.out.1, HE.out.2.1, HE.out.2.2.1⟩, by simp [intOf]; omega⟩
    · have i2 : ¬ (i : Int) < (k : Int) := by omega
      obtain rfl : i = k := by omega
      obtain ⟨g2, cp2, w7, hr, ho, hk7, hm7⟩ := int_more B (.slice la i lc) l' (-77) i 25 wr.heap.size (wr.alloc (.cells #[.int .i64 (-77)] 3)) HI.out.2.2.2 (row_kept HI.out.1 (Keeps.alloc None wr _) (fun _ _ f => f)) (by simp; omega) (by omega) (blk_new _ _ _ rfl)
      have hRI : RoomI w7 B g2 i cp2 l' := ⟨HI.out.2.2.2, ho⟩
      have hf := hRI.fits
      have f1 : (i : Int) ≤ (cp2 : Int) := by omega
      have hkS : Keeps None wS w7 := (HI.out.2.2.1.andAlloc _).trans hk7 (fun j e hj => by have := row_low HI.out.1 e; have := HB.out; omega)
      have hT7 := HT.out.more hkS
      have H7 : Hid (St w w7 s0 p g m cap n a c l (l.map mvE) ∧ RoomI w7 B g2 i cp2 l' ∧ ∀ x ∈ l', okI x) := ⟨hT7, hRI, HI.out.2.1⟩
      have HG : Hid (g2 ≠ g ∧ g2 ≠ p ∧ g2 ≠ s0 ∧ w.heap.size ≤ g2) := by
        have q1 := hRI.low
        have q2 := HB.out
        have q3 := blk_lt HT.out.b0
        have q4 := blk_lt HT.out.bc
        have q5 := HT.out.room.lt
        have q6 := HT.out.keeps.size
        exact ⟨by omega, by omega, by omega, by omega⟩
      have p0 := hT7.p0
      have p1 := hT7.p1
      clear ho hk7 hm7 hRI hT7 hkS HI
      go_wp2_with (at_builtin; refine wpList_append_run rfl (.tmp 34) (.tmp 35) 25 25 rfl rfl rfl hr ?_)
      refine (judge_all n (some ⟨g, 0, none⟩) m cap _ p_ _ i cp2 l' _ H7.out.1.own hs (H7.out.2.1.seen H7.out.2.2)).mono ?_
      rintro e w2 ⟨v1, rfl, _, hk⟩
      have H2 : Hid (St w w2 s0 p g m cap n a c l (l.map mvE) ∧ RoomI w2 B g2 i cp2 l' ∧ ∀ x ∈ l', okI x) := ⟨H7.out.1.more hk, H7.out.2.1.kept hk (fun f => f), H7.out.2.2⟩
      clear H7 hk p0 p1
      have c0 := H2.out.1.c0
      rw [HS0.out] at c0
      have c1 := H2.out.1.c1
      rw [HS0.out] at c1
      have p0 := H2.out.1.p0
      have p1 := H2.out.1.p1
      go_wp2_with fail
      refine (back_any n n w.heap.size g m cap a c l _ _ H2.out.1.seen H2.out.1.room H2.out.1.apart hs).mono ?_
      rintro e w3 ⟨rfl, hR, hk⟩
      have H3 : Hid (St w w3 s0 p g m cap n a c l l ∧ RoomI w3 B g2 i cp2 l' ∧ ∀ x ∈ l', okI x) := ⟨H2.out.1.back hR hk, H2.out.2.1.kept hk (fun e => HG.out.1 e), H2.out.2.2⟩
      clear H2 hR hk c0 c1 p0 p1
      have c0 := H3.out.1.c0
      rw [HS0.out] at c0
      have c1 := H3.out.1.c1
      rw [HS0.out] at c1
      have p0 := H3.out.1.p0
      have p1 := H3.out.1.p1
      go_wp2_with fail
      refine (judge_all n (some ⟨g, 0, none⟩) m cap _ p_ _ i cp2 l' _ H3.out.1.own hs (H3.out.2.1.seen H3.out.2.2)).mono ?_
      rintro e w4 ⟨v2, rfl, _, hk⟩
      have H4 : Hid (St w w4 s0 p g m cap n a c l l ∧ RoomI w4 B g2 i cp2 l') := ⟨H3.out.1.more hk, H3.out.2.1.kept hk (fun f => f)⟩
      clear H3 hk c0 c1 p0 p1
      go_wp2_with fail
      go_loopw [10] (fun s10 ws => ∃ j : Nat, s10 = .int .i64 j ∧ j ≤ i ∧ St w ws s0 p g m cap n a c l l ∧ RoomI ws B g2 i cp2 (zs.take j ++ l'.drop j)) (fun s10 _ => i - (intOf s10).toNat)
      case atStart => exact ⟨0, rfl, Nat.zero_le _, H4.out.1, by simpa using H4.out.2⟩
      case round =>
        obtain ⟨j, rfl, hj, hst, hroom⟩ := hrel
        have HJ : Hid (St w wr s0 p g m cap n a c l l ∧ RoomI wr B g2 i cp2 (zs.take j ++ l'.drop j)) := ⟨hst, hroom⟩
        clear hst hroom
        by_cases hlt : j < i
        · have i2 : (j : Int) < (i : Int) := by omega
          have n0 : ¬ i = 0 := by omega
          have hl1 := H4.out.2.len
          have hl2 := HZ.out.len
          obtain ⟨b, off, x, rfl, hx, hxo, x0⟩ := (HZ.out.more HJ.out.1.keeps).at hlt
          obtain ⟨y, hy⟩ : ∃ y, (zs.take j ++ l'.drop j ++ [(-77 : Int)])[j]? = some y := ⟨_, List.getElem?_eq_getElem (by simp; omega)⟩
          obtain ⟨z0, f0⟩ := HJ.out.2.at hy
          have HN : Hid (St w (wr.setCell ⟨g2, j, none⟩ (.int .i64 x)) s0 p g m cap n a c l l ∧ RoomI (wr.setCell ⟨g2, j, none⟩ (.int .i64 x)) B g2 i cp2 (zs.take (j + 1) ++ l'.drop (j + 1))) := by
            have hr := HJ.out.2.put hlt x
            rw [take_setZ hx (by omega)] at hr
            exact ⟨HJ.out.1.kept2 (Keeps.setCell (S := (· = g2)) wr (a := ⟨g2, j, none⟩) rfl (.int .i64 x)) HG.out, hr⟩
          clear hl1 hl2 hx hxo hy
          go_wp2_with fail
          exact ⟨⟨j + 1, by go_num, by omega, HN.out⟩, by simp [intOf]; omega⟩
        · have i2 : ¬ (j : Int) < (i : Int) := by omega
          have h5 : RoomI wr B g2 i cp2 zs := by
            have := HJ.out.2
            have e1 := H4.out.2.len
            have e2 := HZ.out.len
            rw [List.take_of_length_le (by omega), List.drop_eq_nil_of_le (by omega), List.append_nil] at this
            exact this
          have H5 : Hid (St w wr s0 p g m cap n a c l l ∧ RoomI wr B g2 i cp2 zs) := ⟨HJ.out.1, h5⟩
          clear h5 HJ H4
          have c0 := H5.out.1.c0
          rw [HS0.out] at c0
          have c1 := H5.out.1.c1
          rw [HS0.out] at c1
          have p0 := H5.out.1.p0
          have p1 := H5.out.1.p1
          go_wp2_with fail
          refine (judge_all n (some ⟨g, 0, none⟩) m cap _ p_ _ i cp2 zs _ H5.out.1.own hs (H5.out.2.seen HZ.out.ok)).mono ?_
          rintro e w6 ⟨v3, rfl, hv3, hk⟩
          have H6 : Hid (St w w6 s0 p g m cap n a c l l ∧ RoomI w6 B g2 i cp2 zs ∧ JudP n p_ i zs l v3) := ⟨H5.out.1.more hk, H5.out.2.kept hk (fun f => f), hv3⟩
          clear H5 hk hv3 c0 c1 p0 p1
          obtain ⟨E, hE⟩ : ∃ E, E = judE n l p_ i := ⟨_, rfl⟩
          have HE : Hid (E = judE n l p_ i) := hE
          rw [← hE]
          clear hE
          have c0 := H6.out.1.c0
          rw [HS0.out] at c0
          have c1 := H6.out.1.c1
          rw [HS0.out] at c1
          have p0 := H6.out.1.p0
          have p1 := H6.out.1.p1
          go_wp2_with fail
          refine (rjudge_all n a m c l p_ za i zc zs _ H6.out.1.seen hs (HZ.out.more H6.out.1.keeps)).mono ?_
          rintro e w8 ⟨v4, rfl, hv4, hk⟩
          have hv : v3 = v4 := judP_one H6.out.2.2 hv4
          subst hv
          rw [← HE.out]
          have H8 : Hid (St w w8 s0 p g m cap n a c l l ∧ RoomI w8 B g2 i cp2 zs) := ⟨H6.out.1.more hk, H6.out.2.1.kept hk (fun f => f)⟩
          clear H6 hk hv4 c0 c1 p0 p1
          have z0 := (H8.out.2.at (j := i) (x := -77) (by rw [H8.out.2.len]; simp)).1
          have f1' : (i : Int) + 1 ≤ (cp2 : Int) := by have := H8.out.2.fits; omega
          have f2 : (i : Int) < (i : Int) + 1 := by omega
          have q1 : (v3 == v3) = true := by simp
          have q2 : (E == E) = true := by simp
          go_wp2_with fail
          refine (sameZ_any _ _ _ _ _ zs _ (H8.out.2.seen HZ.out.ok) (HZ.out.more H8.out.1.keeps) hks).mono ?_
          rintro e w9 ⟨rfl, hk⟩
          have H9 : Hid (St w w9 s0 p g m cap n a c l l) := H8.out.1.more hk
          clear H8 hk z0
          have p0 := H9.out.p0
          have p1 := H9.out.p1
          go_wp2_with fail
          refine (marked_any n _ g m cap _ _ H9.out.room hs).mono ?_
          rintro e w10 ⟨rfl, hk⟩
          have HA : Hid (St w w10 s0 p g m cap n a c l l) := H9.out.more hk
          clear H9 hk p0 p1
          have c0 := HA.out.c0
          rw [HS0.out] at c0
          have c1 := HA.out.c1
          rw [HS0.out] at c1
          have p0 := HA.out.p0
          have p1 := HA.out.p1
          go_wp2_with fail
          refine (sameEdges_any _ _ m _ _ l _ HA.out.own HA.out.seen hs).mono ?_
          rintro e w11 ⟨rfl, hk⟩
          have HB2 : Hid (St w w11 s0 p g m cap n a c l l) := HA.out.more hk
          clear HA hk c0 c1 p0 p1
          go_wp2_with fail
          go_ret
          exact ⟨rfl, HB2.out.keeps⟩
end Go.Proofs.Ytnhoedodnbifdaa
