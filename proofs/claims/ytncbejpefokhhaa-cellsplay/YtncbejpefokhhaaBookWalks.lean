import Derived.Test.YtncbejpefokhhaaTellWalks
/-! The statements' own book: lists that were handed out, written full and appended to. -/
namespace Go.Proofs.Ytncbejpefokhhaa
open Go.RowKit Go.HeapKit

structure IsBook (w : World) (pb : Nat) (vn va : Value) (nx : Int) (nN nA : Nat) (xs ys : List Value) : Prop where
  blk : w.heap[pb]? = some (.cells #[vn, va, .int .i64 nx] 36 (0, 0))
  num : w.ownsRow 0 68 5 vn nN xs
  acc : w.ownsRow 0 71 5 va nA ys
section
variable {w : World} {pb : Nat} {vn va : Value} {nx : Int} {nN nA : Nat} {xs ys : List Value}
theorem IsBook.lt (h : IsBook w pb vn va nx nN nA xs ys) : pb < w.heap.size := (Array.getElem?_eq_some_iff.1 h.blk).1
theorem IsBook.nnp (h : IsBook w pb vn va nx nN nA xs ys) : vn.ownBlock ≠ some pb := fun e => absurd (own_type h.num e h.blk) (by decide)
theorem IsBook.nap (h : IsBook w pb vn va nx nN nA xs ys) : va.ownBlock ≠ some pb := fun e => absurd (own_type h.acc e h.blk) (by decide)
theorem IsBook.kept {w' : World} {S : Nat → Prop} (h : IsBook w pb vn va nx nN nA xs ys) (hk : Keeps S w w') (hS : ∀ k, k = pb ∨ vn.ownBlock = some k ∨ va.ownBlock = some k → ¬ S k) : IsBook w' pb vn va nx nN nA xs ys :=
  ⟨(hk.block pb h.lt (hS pb (.inl rfl))).trans h.blk, hk.own h.num (fun k e => hS k (.inr (.inl e))), hk.own h.acc (fun k e => hS k (.inr (.inr e)))⟩
theorem IsBook.apart {T : TypeId} {size : Nat} {v : Value} {n : Nat} {zs : List Value} (h : IsBook w pb vn va nx nN nA xs ys) (ho : w.ownsRow 0 T size v n zs) (h1 : T ≠ 36) (h2 : T ≠ 68) (h3 : T ≠ 71)
    {k : Nat} (hk : k = pb ∨ vn.ownBlock = some k ∨ va.ownBlock = some k) : ¬ v.ownBlock = some k := by
  intro e
  obtain ⟨c, hc⟩ := own_block ho e
  rcases hk with rfl | hk | hk
  · rw [h.blk] at hc; simp at hc; exact h1 hc.2.symm
  · exact h2 (own_type h.num hk hc).symm
  · exact h3 (own_type h.acc hk hc).symm
end

def markOf (nx : Int) : Int := wrap64 (wrap64 (1000003 * wrap64 (nx + 16)) + 7)
theorem mark_book (pb : Nat) (vn va : Value) (nx : Int) (nN nA : Nat) (xs ys : List Value) (w : World) (h : IsBook w pb vn va nx nN nA xs ys) :
    Calls Try.prog 26 #[.pointer (some ⟨pb, 0, none⟩)] w fun e w' => e = .returned (.int .i64 (markOf nx)) ∧ IsBook w' pb vn va (wrap64 (nx + 16)) nN nA xs ys ∧ Keeps (· = pb) w w' := by
  have c2 : w.cell? ⟨pb, 2, none⟩ = some (.int .i64 nx) := by rw [cell_of_block h.blk]; rfl
  have f2 := free_of_block h.blk 2
  have hk : Keeps (· = pb) w (w.setCell ⟨pb, 2, none⟩ (.int .i64 (wrap64 (nx + 16)))) := Keeps.setCell (S := (· = pb)) w (a := ⟨pb, 2, none⟩) rfl _
  have HB : Hid (IsBook (w.setCell ⟨pb, 2, none⟩ (.int .i64 (wrap64 (nx + 16)))) pb vn va (wrap64 (nx + 16)) nN nA xs ys ∧ Keeps (· = pb) w (w.setCell ⟨pb, 2, none⟩ (.int .i64 (wrap64 (nx + 16))))) :=
    ⟨⟨(setCell_block h.blk _).trans rfl, hk.own h.num (fun k e e2 => h.nnp (e2 ▸ e)), hk.own h.acc (fun k e e2 => h.nap (e2 ▸ e))⟩, hk⟩
  clear hk h
  go_enter Try.func26, Try.ntmps26
  go_wp2
  go_ret
  exact ⟨rfl, HB.out⟩

/-- An append to a row that is full: a new block. -/
theorem append_full {P : Program} (w : World) (t ty e : TypeId) (i : TypeInfo) (z : Value) (size bytes : Nat) (ht : P.underlying t = some (.slice e)) (hi : P.info? e = some i) (hz : i.zero = some z)
    (hsize : i.size = size) (hby : i.bytes = bytes) (hzs : z.cells.size = size) (hsz : 0 < size) (ao : Option Addr) (n : Nat) (xs : List Value) (hown : w.ownsRow 0 e size (.slice ao n n) n xs)
    (g m c : Nat) (news : List Value) (hm : 0 < m) (hl : news.length = m * size) (hnews : ∀ j u, news[j]? = some u → w.cell? ⟨g, j, none⟩ = some u) (h1 : ∀ u ∈ news, u.oneCell' = true)
    (h63 : n + m ≤ maxLen) (hbytes : (n + m) * bytes ≤ 140737488355328) :
    ∃ cap w', (Builtin.append_ #[t, t] ty #[.slice ao n n, .slice (some ⟨g, 0, none⟩) m c]).run P w = .ok (.slice (some ⟨w.heap.size, 0, none⟩) (n + m) cap) w' ∧ w'.ownsRow 0 e size (.slice (some ⟨w.heap.size, 0, none⟩) (n + m) cap) (n + m) (xs ++ news) ∧ Keeps None w w' := by
  have hnews' : ∀ j u, news[j]? = some u → w.cell? ((⟨g, 0, none⟩ : Addr).add j) = some u := by
    intro j u hu
    rw [show (⟨g, 0, none⟩ : Addr).add j = ⟨g, j, none⟩ by unfold Addr.add; split <;> simp_all]
    exact hnews j u hu
  obtain ⟨v', w', hr, ho, hgr, _⟩ := run_append_own (P := P) w 0 t ty e i z size bytes ht hi hz hsize hby hzs hsz _ n xs hown ⟨g, 0, none⟩ m c news hl hnews' h1 h63 hbytes (Nat.zero_le _)
  subst hsize
  subst hby
  have hsmall : n + m ≤ 9223372036854775807 := by simp only [maxLen] at h63; omega
  have key : (∃ cap, v' = .slice (some ⟨w.heap.size, 0, none⟩) (n + m) cap) ∧ Keeps None w w' := by
    rcases hown.2 with ⟨he, rfl⟩ | ⟨g', cap, cur, he, hbg, hgg, hnc, hcm, hcs, htake⟩
    · injection he with e1 _ _
      subst e1
      have hr2 := run_append_nil (P := P) w t ty e i z ht hi hz ⟨g, 0, none⟩ m c news hl hnews' hm (by omega) (by have hb := hbytes; simp only [Nat.zero_add] at hb; omega)
      rw [hr] at hr2
      injection hr2 with q1 q2
      rw [q1, q2]
      exact ⟨⟨_, by rw [Nat.zero_add]⟩, ((Keeps.refl None w).andDrew).andAlloc _⟩
    · injection he with e1 _ e3
      subst e1 e3
      have hr2 := run_append_grow (P := P) w t ty e i z ht hi hz ⟨g', 0, none⟩ n n xs hown.1 (hown.cells (g := g') rfl) ⟨g, 0, none⟩ m c news hl hnews' (by omega) (by omega) (growslice_fits (by omega) hbytes)
      rw [hr] at hr2
      injection hr2 with q1 q2
      rw [q1, q2]
      exact ⟨⟨_, rfl⟩, ((Keeps.refl None w).andDrew).andAlloc _⟩
  obtain ⟨⟨cap, rfl⟩, k2⟩ := key
  exact ⟨cap, w', hr, ho, k2⟩

/-- 'append' of the numbers ns to a full row of numbers. -/
theorem nums_full (ao : Option Addr) (n : Nat) (zs : List Value) (w : World) (hown : w.ownsRow 0 2 1 (.slice ao n n) n zs) (ns : List Int) (hpos : 0 < ns.length) (hs : n + ns.length ≤ 2000000) :
    ∃ cap w', (Builtin.append_ #[24, 24] 24 #[.slice ao n n, .slice (some ⟨w.heap.size, 0, none⟩) ns.length ns.length]).run Try.prog (w.alloc (.cells (ns.map (Value.int .i64)).toArray 2)) = .ok (.slice (some ⟨w.heap.size + 1, 0, none⟩) (n + ns.length) cap) w' ∧
      w'.ownsRow 0 2 1 (.slice (some ⟨w.heap.size + 1, 0, none⟩) (n + ns.length) cap) (n + ns.length) (zs ++ ns.map (Value.int .i64)) ∧ Keeps None w w' := by
  obtain ⟨i0, hi, hz0, hz1, hz2⟩ := info_parts Try.infoI64
  obtain ⟨cap, w', hr, ho, hk⟩ := append_full (P := Try.prog) (w.alloc (.cells (ns.map (Value.int .i64)).toArray 2)) 24 24 2 i0 _ 1 8 Try.underlying24 hi hz0 hz1 hz2 rfl (by decide) ao n zs (hown.alloc _)
    w.heap.size ns.length ns.length (ns.map (Value.int .i64)) hpos (by simp) (fun j u hu => by rw [cell_of_block (new_at w _ _ rfl)]; simpa using hu) (fun u hu => by obtain ⟨x, _, rfl⟩ := List.mem_map.1 hu; rfl) (by unfold maxLen; omega) (by omega)
  simp only [World.size_alloc] at hr ho
  exact ⟨cap, w', hr, ho, (Keeps.alloc None w _).trans hk (fun _ f _ => f)⟩

/-- 'append' of one number to a row of the call's own. -/
theorem nums_more (v : Value) (n : Nat) (fs : List Int) (w : World) (hown : w.ownsRow 0 2 1 v n (fs.map (Value.int .i64))) (x : Int) (hs : n ≤ 2000000) :
    ∃ g cap w', (Builtin.append_ #[24, 24] 24 #[v, .slice (some ⟨w.heap.size, 0, none⟩) 1 1]).run Try.prog (w.alloc (.cells #[.int .i64 x] 2)) = .ok (.slice (some ⟨g, 0, none⟩) (n + 1) cap) w' ∧
      w'.ownsRow 0 2 1 (.slice (some ⟨g, 0, none⟩) (n + 1) cap) (n + 1) ((fs ++ [x]).map (Value.int .i64)) ∧ Keeps (fun k => v.ownBlock = some k) w w' ∧ (v.ownBlock = some g ∨ w.heap.size ≤ g) := by
  obtain ⟨i0, hi, hz0, hz1, hz2⟩ := info_parts Try.infoI64
  obtain ⟨v', w1, hr, ho, hgr, hm, -⟩ := run_append_moved (P := Try.prog) (w.alloc (.cells #[.int .i64 x] 2)) 0 24 24 2 i0 _ 1 8 Try.underlying24 hi hz0 hz1 hz2 rfl (by decide) v n _ (hown.alloc _)
    ⟨w.heap.size, 0, none⟩ 1 1 [.int .i64 x] rfl (by
      intro j u hu
      rw [show (⟨w.heap.size, 0, none⟩ : Addr).add j = ⟨w.heap.size, j, none⟩ by unfold Addr.add; split <;> simp_all, cell_of_block (new_at w _ _ rfl)]
      simpa using hu) (by intro u hu; simp at hu; subst hu; rfl) (by unfold maxLen; omega) (by omega) (Nat.zero_le _)
  obtain ⟨g, cap, rfl⟩ : ∃ g cap, v' = .slice (some ⟨g, 0, none⟩) (n + 1) cap := by
    rcases ho.2 with ⟨_, h0⟩ | ⟨b, cap, cur, rfl, _⟩
    · omega
    · exact ⟨b, cap, rfl⟩
  refine ⟨g, cap, w1, hr, by simpa using ho, ((Keeps.refl _ w).andAlloc _).andGrown hgr (fun k e => .inl e), ?_⟩
  rcases hm with hm | ⟨g', e, hg⟩
  · exact .inl (hm.symm.trans rfl)
  · simp [Value.ownBlock] at e; simp at hg; exact .inr (by omega)

theorem Try.infoKept : (Try.prog.info? 68).map (fun i => (i.zero, i.size, i.bytes)) = some (some (.agg #[.int .i64 0, .slice none 0 0, .slice none 0 0, .slice none 0 0, .slice none 0 0]), 5, 104) := by kernel_rfl

/-- One list more in the book: behind the append and the store of the field. -/
theorem kept_append (pb : Nat) (vn va : Value) (nx : Int) (nN nA : Nat) (xs ys : List Value) (m : Int) (a1 a2 a3 a4 : Option Addr) (n1 n2 n3 n4 c1 c2 c3 c4 : Nat) (w : World) (h : IsBook w pb vn va nx nN nA xs ys) (hN : nN ≤ 2097152) :
    ∃ g cap w', (Builtin.append_ #[33, 33] 33 #[vn, .slice (some ⟨w.heap.size, 0, none⟩) 1 1]).run Try.prog (w.alloc (.cells #[.int .i64 m, .slice a1 n1 c1, .slice a2 n2 c2, .slice a3 n3 c3, .slice a4 n4 c4] 68)) = .ok (.slice (some ⟨g, 0, none⟩) (nN + 1) cap) w' ∧
      w'.cell? ⟨pb, 0, none⟩ = some vn ∧ w'.frozen? ⟨pb, 0, none⟩ = false ∧
      IsBook (w'.setCell ⟨pb, 0, none⟩ (.slice (some ⟨g, 0, none⟩) (nN + 1) cap)) pb (.slice (some ⟨g, 0, none⟩) (nN + 1) cap) va nx (nN + 1) nA (xs ++ [.int .i64 m, .slice a1 n1 c1, .slice a2 n2 c2, .slice a3 n3 c3, .slice a4 n4 c4]) ys ∧
      Keeps (fun k => k = pb ∨ vn.ownBlock = some k) w (w'.setCell ⟨pb, 0, none⟩ (.slice (some ⟨g, 0, none⟩) (nN + 1) cap)) ∧ Moved w vn (.slice (some ⟨g, 0, none⟩) (nN + 1) cap) := by
  obtain ⟨i0, hi, hz0, hz1, hz2⟩ := info_parts Try.infoKept
  obtain ⟨v', w1, hr, ho, hgr, hm, -⟩ := run_append_moved (P := Try.prog) (w.alloc (.cells #[.int .i64 m, .slice a1 n1 c1, .slice a2 n2 c2, .slice a3 n3 c3, .slice a4 n4 c4] 68)) 0 33 33 68 i0 _ 5 104 Try.underlying33 hi hz0 hz1 hz2 rfl (by decide) vn nN xs (h.num.alloc _)
    ⟨w.heap.size, 0, none⟩ 1 1 [.int .i64 m, .slice a1 n1 c1, .slice a2 n2 c2, .slice a3 n3 c3, .slice a4 n4 c4] rfl (by
      intro j u hu
      rw [show (⟨w.heap.size, 0, none⟩ : Addr).add j = ⟨w.heap.size, j, none⟩ by unfold Addr.add; split <;> simp_all, cell_of_block (new_at w _ _ rfl)]
      simpa using hu) (by intro u hu; simp at hu; rcases hu with rfl | rfl | rfl | rfl | rfl <;> rfl) (by unfold maxLen; omega) (by omega) (Nat.zero_le _)
  obtain ⟨g, cap, rfl⟩ : ∃ g cap, v' = .slice (some ⟨g, 0, none⟩) (nN + 1) cap := by
    rcases ho.2 with ⟨_, h0⟩ | ⟨b, cap, cur, rfl, _⟩
    · omega
    · exact ⟨b, cap, rfl⟩
  have hk : Keeps (fun k => vn.ownBlock = some k) w w1 := ((Keeps.refl _ w).andAlloc _).andGrown hgr (fun k e => .inl e)
  have hb1 := (hk.block pb h.lt h.nnp).trans h.blk
  have hks : Keeps (· = pb) w1 (w1.setCell ⟨pb, 0, none⟩ (.slice (some ⟨g, 0, none⟩) (nN + 1) cap)) := Keeps.setCell (S := (· = pb)) w1 (a := ⟨pb, 0, none⟩) rfl _
  refine ⟨g, cap, w1, hr, (cell_of_block hb1 0).trans rfl, free_of_block hb1 0, ⟨(setCell_block hb1 _).trans rfl, hks.own ho (fun k e e2 => ?_), hks.own (hk.own h.acc (fun k e e2 => own_apart h.acc h.num (by decide) e e2)) (fun k e e2 => h.nap (e2 ▸ e))⟩, (hk.mono (fun _ e _ => .inr e)).andSet (x := ⟨pb, 0, none⟩) (.inl (.inl rfl)) _, ?_⟩
  · subst e2
    exact absurd (own_type ho e hb1) (by decide)
  · rcases hm with hm | ⟨g', e, hg⟩
    · exact .inl hm
    · exact .inr ⟨g', e, by simp at hg; omega⟩

set_option maxHeartbeats 4000000 in
set_option maxRecDepth 100000 in
theorem numbers_any (pb : Nat) (vn va : Value) (nx : Int) (nN nA : Nat) (xs ys : List Value) (ao : Option Addr) (n : Nat) (zs : List Int) (w : World) (h : IsBook w pb vn va nx nN nA xs ys) (ho : w.ownsRow 0 2 1 (.slice ao n n) n (zs.map (Value.int .i64))) (hzs : zs.length = n) (hn : n ≤ 1048576) (hN : nN ≤ 2097152) :
    Calls Try.prog 10 #[.pointer (some ⟨pb, 0, none⟩), .slice ao n n] w fun e w' => e = .returned (.tuple #[]) ∧ ∃ vn' xs', IsBook w' pb vn' va (wrap64 (nx + 16)) (nN + 1) nA xs' ys ∧
      Keeps (fun k => k = pb ∨ vn.ownBlock = some k ∨ (Value.slice ao n n).ownBlock = some k) w w' ∧ Moved w vn vn' := by
  have HH : Hid (IsBook w pb vn va nx nN nA xs ys ∧ w.ownsRow 0 2 1 (.slice ao n n) n (zs.map (Value.int .i64))) := ⟨h, ho⟩
  have hmk := mark_book pb vn va nx nN nA xs ys w h
  clear h ho
  generalize hmm : markOf nx = m at hmk
  clear hmm
  go_enter Try.func10, Try.ntmps10
  go_wp2_with fail
  refine hmk.mono ?_
  rintro e w1 ⟨rfl, hB1, hk1⟩
  have ho1 := hk1.own HH.out.2 (fun k e e2 => HH.out.1.apart HH.out.2 (by decide) (by decide) (by decide) (.inl e2) e)
  have H1 : Hid (IsBook w1 pb vn va (wrap64 (nx + 16)) nN nA xs ys ∧ w1.ownsRow 0 2 1 (.slice ao n n) n (zs.map (Value.int .i64)) ∧ Keeps (fun k => k = pb ∨ vn.ownBlock = some k ∨ (Value.slice ao n n).ownBlock = some k) w w1) := ⟨hB1, ho1, hk1.mono (fun _ e _ => .inl e)⟩
  clear hmk hB1 hk1 ho1
  go_wp2_with fail
  go_loopw [5] (fun i wr => ∃ k : Nat, k ≤ n ∧ i = .int .i64 k ∧ IsBook wr pb vn va (wrap64 (nx + 16)) nN nA xs ys ∧ (∃ zs : List Int, zs.length = n ∧ wr.ownsRow 0 2 1 (.slice ao n n) n (zs.map (Value.int .i64))) ∧ Keeps (fun k => k = pb ∨ vn.ownBlock = some k ∨ (Value.slice ao n n).ownBlock = some k) w wr) (fun i _ => n - (intOf i).toNat)
  case atStart => exact ⟨0, Nat.zero_le _, rfl, H1.out.1, ⟨zs, hzs, H1.out.2.1⟩, H1.out.2.2⟩
  case round =>
    clear H1
    obtain ⟨k, hk, rfl, hB, ⟨qs, hqs, hq⟩, hK⟩ := hrel
    by_cases hkn : k < n
    · obtain ⟨g, rfl, hc, hfz, hnext⟩ : ∃ g, ao = some ⟨g, 0, none⟩ ∧ (∃ u, wr.cell? ⟨g, k, none⟩ = some u) ∧ wr.frozen? ⟨g, k, none⟩ = false ∧ (wr.setCell ⟨g, k, none⟩ (.int .i64 m)).ownsRow 0 2 1 (.slice ao n n) n ((qs.set k m).map (Value.int .i64)) := by
        rcases hq.2 with ⟨_, h0⟩ | ⟨g, cap', cur, he, _, hg, _, _, hcs, ht⟩
        · omega
        · injection he with e1 e2 e3
          subst e1
          refine ⟨g, rfl, ⟨_, (cell_of_block hg k).trans (Array.getElem?_eq_getElem (by omega))⟩, free_of_block hg k, ?_⟩
          rw [List.map_set]
          exact own_set hq k _
      obtain ⟨u, hc⟩ := hc
      have hks : Keeps (· = g) wr (wr.setCell ⟨g, k, none⟩ (.int .i64 m)) := Keeps.setCell (S := (· = g)) wr (a := ⟨g, k, none⟩) rfl _
      have HN : Hid (IsBook (wr.setCell ⟨g, k, none⟩ (.int .i64 m)) pb vn va (wrap64 (nx + 16)) nN nA xs ys ∧ (∃ zs : List Int, zs.length = n ∧ (wr.setCell ⟨g, k, none⟩ (.int .i64 m)).ownsRow 0 2 1 (.slice (some ⟨g, 0, none⟩) n n) n (zs.map (Value.int .i64))) ∧ Keeps (fun k => k = pb ∨ vn.ownBlock = some k ∨ (Value.slice (some ⟨g, 0, none⟩) n n).ownBlock = some k) w (wr.setCell ⟨g, k, none⟩ (.int .i64 m))) :=
        ⟨hB.kept hks (fun i hi e => hB.apart hq (by decide) (by decide) (by decide) hi (by rw [e]; rfl)), ⟨_, by simpa using hqs, hnext⟩, hK.andSet (x := ⟨g, k, none⟩) (.inl (.inr (.inr rfl))) _⟩
      have i1 : (k : Int) < (n : Int) := by omega
      clear hnext hks hB hq hK HH
      go_wp2
      go_roundw
      case rel => exact ⟨k + 1, by omega, by go_num, HN.out⟩
      case measure => simp [intOf]; omega
    · have H2 : Hid (IsBook wr pb vn va (wrap64 (nx + 16)) nN nA xs ys ∧ wr.ownsRow 0 2 1 (.slice ao n n) n (qs.map (Value.int .i64)) ∧ Keeps (fun k => k = pb ∨ vn.ownBlock = some k ∨ (Value.slice ao n n).ownBlock = some k) w wr) := ⟨hB, hq, hK⟩
      clear hB hq hK
      obtain ⟨w3, hw3⟩ : ∃ w3, w3 = wr := ⟨_, rfl⟩
      subst hw3
      clear HH hzs zs
      go_wp2_with fail
      go_loopw [6, 7] (fun l i wr => ∃ k : Nat, k ≤ 64 ∧ i = .int .i64 k ∧ Keeps None w3 wr ∧ ((k = 0 ∧ l = .slice ao n n) ∨ ∃ g c fs, l = .slice (some ⟨g, 0, none⟩) (n + k) c ∧ w3.heap.size ≤ g ∧ wr.ownsRow 0 2 1 (.slice (some ⟨g, 0, none⟩) (n + k) c) (n + k) ((fs : List Int).map (Value.int .i64)))) (fun _ i _ => 64 - (intOf i).toNat)
      case atStart => exact ⟨0, Nat.zero_le _, rfl, Keeps.refl _ _, .inl ⟨rfl, rfl⟩⟩
      case round =>
        obtain ⟨q, hq, rfl, hKq, hfar⟩ := hrel
        by_cases hq64 : q < 64
        · rcases hfar with ⟨rfl, rfl⟩ | ⟨g, c, fs, rfl, hg, hof⟩
          · obtain ⟨cp, w4, hr, ho4, hk4⟩ := nums_full ao n _ wr (hKq.own H2.out.2.1 (fun _ _ f => f)) [wrap64 (m + 7)] (by simp) (by simp; omega)
            have HN : Hid (Keeps None w3 w4 ∧ ∃ g c fs, Value.slice (some ⟨wr.heap.size + 1, 0, none⟩) (n + 1) cp = .slice (some ⟨g, 0, none⟩) (n + 1) c ∧ w3.heap.size ≤ g ∧ w4.ownsRow 0 2 1 (.slice (some ⟨g, 0, none⟩) (n + 1) c) (n + 1) ((fs : List Int).map (Value.int .i64))) :=
              ⟨hKq.trans hk4 (fun _ f _ => f), _, _, qs ++ [wrap64 (m + 7)], rfl, by have := hKq.size; omega, by simpa using ho4⟩
            clear ho4 hk4 hKq H2
            go_wp2_with (at_builtin; refine wpList_append_run rfl (.tmp 28) (.tmp 31) 24 24 rfl rfl rfl hr ?_)
            exact ⟨⟨1, by decide, by simp, HN.out.1, .inr HN.out.2⟩, by simp [intOf]⟩
          · obtain ⟨g', cp, w4, hr, ho4, hk4, hm4⟩ := nums_more _ (n + q) fs wr hof (wrap64 (m + 7)) (by omega)
            have HN : Hid (Keeps None w3 w4 ∧ ∃ g c fs, Value.slice (some ⟨g', 0, none⟩) (n + q + 1) cp = .slice (some ⟨g, 0, none⟩) (n + (q + 1)) c ∧ w3.heap.size ≤ g ∧ w4.ownsRow 0 2 1 (.slice (some ⟨g, 0, none⟩) (n + (q + 1)) c) (n + (q + 1)) ((fs : List Int).map (Value.int .i64))) := by
              refine ⟨hKq.trans hk4 (fun i e hi => by simp [Value.ownBlock] at e; omega), g', cp, _, rfl, ?_, ho4⟩
              rcases hm4 with e | e
              · simp [Value.ownBlock] at e; omega
              · have := hKq.size; omega
            clear ho4 hk4 hKq hm4 H2
            go_wp2_with (at_builtin; refine wpList_append_run rfl (.tmp 28) (.tmp 31) 24 24 rfl rfl rfl hr ?_)
            exact ⟨⟨q + 1, by omega, by go_num, HN.out.1, .inr HN.out.2⟩, by simp [intOf]; omega⟩
        · have hl5 := hKq.own H2.out.2.1 (fun _ _ f => f)
          have hB5 := H2.out.1.kept hKq (fun _ _ f => f)
          obtain ⟨p1, w5, hr1, ho5, hk5⟩ := nums_full ao n _ wr hl5 [wrap64 (m + 1)] (by simp) (by simp; omega)
          have hl6 := hk5.own hl5 (fun _ _ f => f)
          have hB6 := hB5.kept hk5 (fun _ _ f => f)
          obtain ⟨p2, w6, hr2, ho6, hk6⟩ := nums_full ao n _ w5 hl6 [wrap64 (m + 2), wrap64 (m + 3)] (by simp) (by simp; omega)
          have hl7 := hk6.own hl6 (fun _ _ f => f)
          have hB7 := hB6.kept hk6 (fun _ _ f => f)
          obtain ⟨p3, w7, hr3, ho7, hk7⟩ := nums_full ao n _ w6 hl7 [wrap64 (m + 4), wrap64 (m + 5), wrap64 (m + 6)] (by simp) (by simp; omega)
          have hB8 := hB7.kept hk7 (fun _ _ f => f)
          obtain ⟨g9, p9, w9, hr9, d9, f9, hB9, hk9, hm9⟩ := kept_append pb vn va (wrap64 (nx + 16)) nN nA xs ys m ao (some ⟨wr.heap.size + 1, 0, none⟩) (some ⟨w5.heap.size + 1, 0, none⟩) (some ⟨w6.heap.size + 1, 0, none⟩) n (n + 1) (n + 2) (n + 3) n p1 p2 p3 w7 hB8 hN
          have e0 : w7.cell? ⟨pb, 0, none⟩ = some vn := (cell_of_block hB8.blk 0).trans rfl
          have e1 : (w7.alloc (.cells #[.int .i64 m, .slice ao n n, .slice (some ⟨wr.heap.size + 1, 0, none⟩) (n + 1) p1, .slice (some ⟨w5.heap.size + 1, 0, none⟩) (n + 2) p2, .slice (some ⟨w6.heap.size + 1, 0, none⟩) (n + 3) p3] 68)).cell? ⟨pb, 0, none⟩ = some vn := (Keeps.alloc None w7 _).cell e0 (fun f => f)
          have HN : Hid (∃ xs', IsBook (w9.setCell ⟨pb, 0, none⟩ (.slice (some ⟨g9, 0, none⟩) (nN + 1) p9)) pb (.slice (some ⟨g9, 0, none⟩) (nN + 1) p9) va (wrap64 (nx + 16)) (nN + 1) nA xs' ys ∧ Keeps (fun k => k = pb ∨ vn.ownBlock = some k ∨ (Value.slice ao n n).ownBlock = some k) w (w9.setCell ⟨pb, 0, none⟩ (.slice (some ⟨g9, 0, none⟩) (nN + 1) p9)) ∧ Moved w vn (.slice (some ⟨g9, 0, none⟩) (nN + 1) p9)) := by
            have ka := (((H2.out.2.2.trans hKq (fun _ f _ => f.elim)).trans hk5 (fun _ f _ => f.elim)).trans hk6 (fun _ f _ => f.elim)).trans hk7 (fun _ f _ => f.elim)
            refine ⟨_, hB9, ka.trans hk9 (fun i e _ => by rcases e with e | e; exact .inl e; exact .inr (.inl e)), ?_⟩
            rcases hm9 with hm | ⟨g', e, hg⟩
            · exact .inl hm
            · exact .inr ⟨g', e, by have := ka.size; omega⟩
          obtain ⟨av, cv, rfl⟩ := own_shape hB8.num
          clear hl5 hB5 hl6 hB6 hl7 hB7 hB8 hB9 hk9 hm9 ho5 ho6 ho7 hk5 hk6 hk7 hKq hfar H2
          go_wp2_with (first
            | (at_builtin; refine wpList_append_run rfl (.tmp 33) (.tmp 36) 24 24 rfl rfl rfl hr1 ?_)
            | (at_builtin; refine wpList_append_run rfl (.tmp 38) (.tmp 43) 24 24 rfl rfl rfl hr2 ?_)
            | (at_builtin; refine wpList_append_run rfl (.tmp 45) (.tmp 52) 24 24 rfl rfl rfl hr3 ?_)
            | (at_builtin; refine wpList_append_run rfl (.tmp 58) (.tmp 65) 33 33 rfl rfl rfl hr9 ?_))
          go_end0
          exact ⟨rfl, _, HN.out⟩
end Go.Proofs.Ytncbejpefokhhaa
