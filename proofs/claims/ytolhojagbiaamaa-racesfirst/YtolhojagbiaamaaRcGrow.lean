import Derived.Test.YtolhojagbiaamaaRcOrd
/-! What is appended to a list leaves what stands in it. -/
namespace Go.Proofs.Ytolhojagbiaamaa
set_option linter.unusedVariables false
set_option maxRecDepth 20000
set_option linter.unusedSimpArgs false
open Go.RowKit Go.HeapKit

/-- 'append': in its place, or in new memory and nothing else touched. -/
theorem run_append_apart {P : Program} (w : World) (base : Nat) (t ty e : TypeId) (i : TypeInfo) (z : Value) (size bytes : Nat) (ht : P.underlying t = some (.slice e)) (hi : P.info? e = some i) (hz : i.zero = some z)
    (hsize : i.size = size) (hby : i.bytes = bytes) (hzs : z.cells.size = size) (hsz : 0 < size)
    (v : Value) (n : Nat) (xs : List Value) (hown : w.ownsRow base e size v n xs)
    (a : Addr) (m c : Nat) (news : List Value) (hl : news.length = m * size) (hnews : ∀ j u, news[j]? = some u → w.cell? (a.add j) = some u) (h1 : ∀ u ∈ news, u.oneCell' = true)
    (h63 : n + m ≤ maxLen) (hbytes : (n + m) * bytes ≤ 140737488355328) (hbase : base ≤ w.heap.size) :
    ∃ v' w', (Builtin.append_ #[t, t] ty #[v, .slice (some a) m c]).run P w = .ok v' w' ∧ w'.ownsRow base e size v' (n + m) (xs ++ news) ∧ w.grownBy w' v.ownBlock ∧ Moved w v v' ∧ (v'.ownBlock = v.ownBlock ∨ Keeps None w w') := by
  obtain ⟨v', w', hr, ho, hg, hmv, hn⟩ := run_append_moved (P := P) w base t ty e i z size bytes ht hi hz hsize hby hzs hsz v n xs hown a m c news hl hnews h1 h63 hbytes hbase
  refine ⟨v', w', hr, ho, hg, hmv, ?_⟩
  subst hsize
  subst hby
  have hsmall : n + m ≤ 9223372036854775807 := by simp only [maxLen] at h63; omega
  rcases hown.2 with ⟨rfl, rfl⟩ | ⟨g, cap, cur, rfl, hbg, hgg, hnc, hcm, hcs, htake⟩
  · right
    exact (Keeps.refl None w).andGrown hg (fun k e => by simp [Value.ownBlock] at e)
  · by_cases hroom : n + m ≤ cap
    · left
      have hfit : n * i.size + news.length ≤ cur.size := by rw [hl, hcs, ← Nat.add_mul]; exact Nat.mul_le_mul_right _ hroom
      have hr2 := run_append_room (P := P) w t ty e i ht hi g n cap cur hgg a m c news hl hnews h1 hroom hfit
      rw [hr] at hr2
      injection hr2 with e1 e2
      rw [e1]
      rfl
    · right
      have holds : ∀ j u, xs[j]? = some u → w.cell? ((⟨g, 0, none⟩ : Addr).add j) = some u := hown.cells (g := g) rfl
      have hr2 := run_append_grow (P := P) w t ty e i z ht hi hz ⟨g, 0, none⟩ n cap xs hown.1 holds a m c news hl hnews (by omega) (by omega) (growslice_fits (by omega) hbytes)
      rw [hr] at hr2
      injection hr2 with e1 e2
      rw [e2]
      exact (Keeps.drew None w).andAlloc _
theorem intZ_more (base : Nat) (s : Value) (l : List Int) (x : Int) (ty : Nat) (w : World) (h : RowZ w base s l) (hb : base ≤ w.heap.size) (hlen : (l.length + 1) * 8 ≤ 140737488355328) {g0 : Nat}
    (hg0 : w.heap[g0]? = some (.cells #[.int .i64 x] 3 (0, 0))) :
    ∃ g cap w', (Builtin.append_ #[33, 33] ty #[s, .slice (some ⟨g0, 0, none⟩) 1 1]).run Try.prog w = .ok (.slice (some ⟨g, 0, none⟩) (l.length + 1) cap) w' ∧
      RowZ w' base (.slice (some ⟨g, 0, none⟩) (l.length + 1) cap) (l ++ [x]) ∧ Keeps (fun k => s.ownBlock = some k) w w' ∧ (s.ownBlock = some g ∨ (w.heap.size ≤ g ∧ Keeps None w w')) := by
  obtain ⟨i0, hi, hz0, hz1, hz2⟩ := info_parts Try.infoIntR
  obtain ⟨v', w1, hr, ho, hgr, hm, hk⟩ := run_append_apart (P := Try.prog) w base 33 ty 3 i0 _ 1 8 Try.underlying33 hi hz0 hz1 hz2 rfl (by decide) s l.length _ h
    ⟨g0, 0, none⟩ 1 1 [.int .i64 x] rfl (by
      intro j u hu
      rw [show (⟨g0, 0, none⟩ : Addr).add j = ⟨g0, j, none⟩ by unfold Addr.add; split <;> simp_all, blk_cell hg0]
      simpa using hu) (by
      intro u hu
      simp at hu
      subst hu; rfl) (by unfold maxLen; omega) hlen hb
  obtain ⟨g, cap, rfl⟩ : ∃ g cap, v' = .slice (some ⟨g, 0, none⟩) (l.length + 1) cap := by
    rcases ho.2 with ⟨_, h0⟩ | ⟨b, cap, cur, rfl, _⟩
    · omega
    · exact ⟨b, cap, rfl⟩
  refine ⟨g, cap, w1, hr, by unfold RowZ; simpa [ivZ] using ho, (Keeps.refl _ w).andGrown hgr (fun k e => .inl e), ?_⟩
  by_cases hs : s.ownBlock = some g
  · exact .inl hs
  · right
    rcases hm with hm | ⟨g', e, hg⟩
    · exact absurd hm.symm (by simpa [Value.ownBlock] using hs)
    · simp [Value.ownBlock] at e
      refine ⟨by omega, ?_⟩
      rcases hk with hk | hk
      · exact absurd hk.symm (by simpa [Value.ownBlock] using hs)
      · exact hk
set_option maxHeartbeats 1600000 in
theorem grown_ok (v : Value) (L : List Int) (x : Int) (base : Nat) (w : World) (h : RowZ w base v L) (hn : L.length ≤ 4096) (hb : base ≤ w.heap.size) :
    Calls Try.prog 20 #[v, .int .i64 x] w fun e w' => e = .returned (.tuple #[]) ∧ SeesZ w' v L ∧ Keeps (fun i => v.ownBlock = some i) w w' := by
  have HH : Hid (RowZ w base v L) := h
  clear h
  go_enter Try.func20, Try.ntmps20
  go_wp2_with fail
  go_loopw [0, 4] (fun s i wr => ∃ k : Nat, k ≤ 64 ∧ i = .int .i64 k ∧ RowZ wr base s (L ++ List.replicate k x) ∧ SeesZ wr v L ∧ Keeps (fun i => v.ownBlock = some i) w wr ∧ (s.ownBlock = v.ownBlock ∨ ∃ g, s.ownBlock = some g ∧ w.heap.size ≤ g)) (fun _ i _ => 64 - (intOf i).toNat)
  case atStart => exact ⟨0, Nat.zero_le _, rfl, by simpa using HH.out, HH.out.sees, Keeps.refl _ _, .inl rfl⟩
  case round =>
    obtain ⟨k, hk, rfl, hR, hSe, hkp, hbl⟩ := hrel
    obtain ⟨sa, sc, rfl, hsa⟩ := hR.shape
    have hlen : (L ++ List.replicate k x).length = L.length + k := by simp
    by_cases hkn : k < 64
    · have kA := Keeps.alloc None wr (.cells #[.int .i64 x] 3)
      obtain ⟨g, c2, w2, hr, hR2, hk2, hm⟩ := intZ_more base _ _ x 33 _ (hR.more kA) (by have := hkp.size; simp; omega) (by rw [hlen]; omega) (heap_alloc_new wr (.cells #[.int .i64 x] 3))
      have hkk : Keeps (fun i => v.ownBlock = some i) w w2 := by
        refine (hkp.andAlloc _).trans hk2 (fun i e hi => ?_)
        rcases hbl with hbl | ⟨g', hg', hlt⟩
        · rw [hbl] at e; exact e
        · rw [hg'] at e; injection e with e; omega
      have hSe2 : SeesZ w2 v L := by
        have hSA := hSe.kept kA (fun _ _ f => f)
        rcases hm with hm | ⟨hm, hkN⟩
        · rcases hbl with hbl | ⟨g', hg', hlt⟩
          · intro a c e q y hy
            obtain ⟨gv, rfl, _⟩ := hSA a c e q y hy
            subst e
            have hgv : gv = g := by
              rw [hbl] at hm
              simpa [Value.ownBlock] using hm
            subst hgv
            have hq := (List.getElem?_eq_some_iff.1 hy).1
            refine ⟨gv, rfl, ?_⟩
            have hR3 : RowZ w2 base (.slice (some ⟨gv, 0, none⟩) ((L ++ List.replicate k x) ++ [x]).length c2) ((L ++ List.replicate k x) ++ [x]) := by rw [List.length_append (bs := [x])]; exact hR2
            refine (hR3.at (k := q) (x := y) ?_).1
            rw [List.append_assoc, List.getElem?_append_left hq]
            exact hy
          · refine hSA.kept hk2 (fun b hb' e => ?_)
            rw [hg'] at e
            injection e with e
            obtain ⟨a, c, ev, _⟩ := HH.out.shape
            have := own_lt HH.out hb'
            omega
        · exact hSA.kept hkN (fun _ _ f => f)
      have hbl2 : (Value.slice (some ⟨g, 0, none⟩) ((L ++ List.replicate k x).length + 1) c2).ownBlock = v.ownBlock ∨ ∃ g', (Value.slice (some ⟨g, 0, none⟩) ((L ++ List.replicate k x).length + 1) c2).ownBlock = some g' ∧ w.heap.size ≤ g' := by
        rcases hm with hm | ⟨hm, _⟩
        · rcases hbl with hbl | ⟨g', hg', hlt⟩
          · left; rw [← hbl]; exact hm.symm
          · right; rw [hg'] at hm; injection hm with hm; exact ⟨g, rfl, by omega⟩
        · right
          exact ⟨g, rfl, by have := hkp.size; simp at hm; omega⟩
      have HN : Hid (RowZ w2 base (.slice (some ⟨g, 0, none⟩) ((L ++ List.replicate k x).length + 1) c2) (L ++ List.replicate (k + 1) x) ∧ SeesZ w2 v L ∧ Keeps (fun i => v.ownBlock = some i) w w2 ∧ ((Value.slice (some ⟨g, 0, none⟩) ((L ++ List.replicate k x).length + 1) c2).ownBlock = v.ownBlock ∨ ∃ g', (Value.slice (some ⟨g, 0, none⟩) ((L ++ List.replicate k x).length + 1) c2).ownBlock = some g' ∧ w.heap.size ≤ g')) := by
        refine ⟨?_, hSe2, hkk, hbl2⟩
        rw [List.replicate_succ', ← List.append_assoc]
        exact hR2
      obtain ⟨m, hm2⟩ : ∃ m, m = (L ++ List.replicate k x).length := ⟨_, rfl⟩
      rw [← hm2] at hr HN ⊢
      have i1 : (k : Int) < 64 := by omega
      clear hR hSe hkp hbl kA hR2 hk2 hm hkk hSe2 hbl2 hm2 hlen hsa
      go_wp2_with (at_builtin; refine wpList_append_run rfl (.tmp 9) (.tmp 11) 33 33 rfl rfl rfl hr ?_)
      exact ⟨⟨k + 1, by omega, by go_num, HN.out⟩, by simp [intOf]; omega⟩
    · have hk64 : k = 64 := by omega
      subst hk64
      have HN : Hid (SeesZ wr v L ∧ Keeps (fun i => v.ownBlock = some i) w wr) := ⟨hSe, hkp⟩
      clear hR hSe hkp hbl hsa
      go_wp2
      go_end0
      exact ⟨rfl, HN.out⟩
end Go.Proofs.Ytolhojagbiaamaa
