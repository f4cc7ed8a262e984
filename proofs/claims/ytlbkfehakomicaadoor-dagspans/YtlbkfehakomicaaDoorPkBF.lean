import Derived.Test.YtlbkfehakomicaaDoorPkBE
/-! A plan: what a node frees. -/
namespace Go.Proofs.YtlbkfehakomicaaDoor.Dg
set_option linter.unusedVariables false
set_option maxRecDepth 20000
open Go.RowKit Go.HeapKit

/-- How often a node stands among the first ones that another one is ahead of. -/
def cn (l : List Ed) (v j i : Nat) : Nat := ((flw l v).take j).count (i : Int)
theorem cn_zero (l : List Ed) (v i : Nat) : cn l v 0 i = 0 := by simp [cn]
theorem cn_succ {l : List Ed} {v j t : Nat} (h : (flw l v)[j]? = some (t : Int)) (i : Nat) : cn l v (j + 1) i = cn l v j i + if i = t then 1 else 0 := by
  unfold cn
  rw [List.take_add_one, h]
  simp only [Option.toList_some, List.count_append, List.count_singleton]
  by_cases e : i = t
  · subst e; simp
  · have : ¬ (t : Int) = i := by omega
    simp [e, this]
theorem cn_le (l : List Ed) (v j i : Nat) : cn l v j i ≤ (flw l v).count (i : Int) := by
  unfold cn
  exact (List.take_sublist j (flw l v)).count_le _
theorem cn_all (l : List Ed) (v i : Nat) : cn l v (flw l v).length i = (flw l v).count (i : Int) := by
  unfold cn
  rw [List.take_length]
theorem cn_mem {l : List Ed} {v j i : Nat} : (i : Int) ∈ (flw l v).take j ↔ 0 < cn l v j i := by
  unfold cn
  exact List.count_pos_iff.symm
/-- A plan as it lies: the lists, what is left ahead, the times, the heap; all but the heap's row below B. -/
structure Plan (w : World) (p B g gl gt n : Nat) (vs : Nat → Value) (l : List Ed) (F T : Nat → Int) (v : Value) (hl : List Int) : Prop where
  hp : HpIn w p B (.slice (some ⟨g, 0, none⟩) n n) (.slice (some ⟨gl, 0, none⟩) n n) (.slice (some ⟨gt, 0, none⟩) n n) v hl
  lists : IsL w 0 g n vs (flw l)
  left : IsN w gl n F
  times : IsN w gt n T
  low : g < B ∧ gl < B ∧ gt < B ∧ p < B ∧ ∀ k b, k < n → (vs k).ownBlock = some b → b < B
  ne : gl ≠ gt ∧ (∀ k, k < n → (vs k).ownBlock ≠ some gl) ∧ ∀ k, k < n → (vs k).ownBlock ≠ some gt
  size : B ≤ w.heap.size
section
variable {w w' : World} {p B g gl gt n : Nat} {vs : Nat → Value} {l : List Ed} {F T : Nat → Int} {v : Value} {hl : List Int}
theorem Plan.more (h : Plan w p B g gl gt n vs l F T v hl) (hk : Keeps None w w') : Plan w' p B g gl gt n vs l F T v hl :=
  ⟨h.hp.more hk, h.lists.more hk, h.left.kept hk (fun f => f), h.times.kept hk (fun f => f), h.low, h.ne, Nat.le_trans h.size hk.size⟩
theorem Plan.gp (h : Plan w p B g gl gt n vs l F T v hl) : g ≠ p ∧ gl ≠ p ∧ gt ≠ p ∧ g ≠ gl ∧ g ≠ gt := by
  have hb := h.hp.blk
  refine ⟨fun e => ?_, fun e => ?_, fun e => ?_, fun e => ?_, fun e => ?_⟩
  · have := h.lists.outer; rw [e, hb] at this; simp at this
  · have := h.left; rw [e] at this; unfold IsN at this; rw [hb] at this; simp at this
  · have := h.times; rw [e] at this; unfold IsN at this; rw [hb] at this; simp at this
  · have h1 := h.left; have h2 := h.lists.outer; rw [e] at h2; unfold IsN at h1; rw [h1] at h2; simp at h2
  · have h1 := h.times; have h2 := h.lists.outer; rw [e] at h2; unfold IsN at h1; rw [h1] at h2; simp at h2
theorem Plan.vp (h : Plan w p B g gl gt n vs l F T v hl) : ∀ k, k < n → (vs k).ownBlock ≠ some p := fun k hk e => absurd (own_type (h.lists.rows k hk) e h.hp.blk) (by decide)
theorem Plan.vg (h : Plan w p B g gl gt n vs l F T v hl) : ∀ q, v.ownBlock = some q → B ≤ q := fun q e => row_low h.hp.row e
/-- A store into what is left. -/
theorem Plan.setLeft (h : Plan w p B g gl gt n vs l F T v hl) (t : Nat) (x : Int) : Plan (w.setCell ⟨gl, t, none⟩ (.int .i64 x)) p B g gl gt n vs l (upd F t x) T v hl := by
  have hk : Keeps (· = gl) w (w.setCell ⟨gl, t, none⟩ (.int .i64 x)) := Keeps.setCell (S := (· = gl)) w rfl _
  have hg := h.gp
  refine ⟨h.hp.kept hk (fun e => hg.2.1 e.symm) (fun q e e2 => by have := h.vg q e; have := h.low.2.1; omega), h.lists.kept hk hg.2.2.2.1 (fun k b hkn e e2 => h.ne.2.1 k hkn (e2 ▸ e)), h.left.set t x, h.times.kept hk (fun e => h.ne.1 e.symm), h.low, h.ne, Nat.le_trans h.size hk.size⟩
theorem Plan.setTime (h : Plan w p B g gl gt n vs l F T v hl) (t : Nat) (x : Int) : Plan (w.setCell ⟨gt, t, none⟩ (.int .i64 x)) p B g gl gt n vs l F (setT T t x) v hl := by
  have hk : Keeps (· = gt) w (w.setCell ⟨gt, t, none⟩ (.int .i64 x)) := Keeps.setCell (S := (· = gt)) w rfl _
  have hg := h.gp
  refine ⟨h.hp.kept hk (fun e => hg.2.2.1 e.symm) (fun q e e2 => by have := h.vg q e; have := h.low.2.2.1; omega), h.lists.kept hk hg.2.2.2.2 (fun k b hkn e e2 => h.ne.2.2 k hkn (e2 ▸ e)), h.left.kept hk (fun e => h.ne.1 e), h.times.set t x, h.low, h.ne, Nat.le_trans h.size hk.size⟩
/-- The heap has changed, nothing else. -/
theorem Plan.heap {v' : Value} {hl' : List Int} (h : Plan w p B g gl gt n vs l F T v hl) (hI : HpIn w' p B (.slice (some ⟨g, 0, none⟩) n n) (.slice (some ⟨gl, 0, none⟩) n n) (.slice (some ⟨gt, 0, none⟩) n n) v' hl') (hk : Keeps (fun q => q = p ∨ v.ownBlock = some q) w w') : Plan w' p B g gl gt n vs l F T v' hl' := by
  have hg := h.gp
  have hv : ∀ q, q < B → q ≠ p → ¬ (q = p ∨ v.ownBlock = some q) := fun q hq hp e => by
    rcases e with e | e
    · exact hp e
    · have := h.vg q e; omega
  exact ⟨hI, h.lists.kept hk (hv g h.low.1 hg.1) (fun k b hkn e => hv b (h.low.2.2.2.2 k b hkn e) (fun e2 => h.vp k hkn (e2 ▸ e))), h.left.kept hk (hv gl h.low.2.1 hg.2.1), h.times.kept hk (hv gt h.low.2.2.1 hg.2.2.1), h.low, h.ne, Nat.le_trans h.size hk.size⟩
end
set_option maxHeartbeats 3200000 in
theorem free_any (p B g gl gt n : Nat) (vs : Nat → Value) (l : List Ed) (F T : Nat → Int) (v : Value) (hl : List Int) (S : Nat → Prop) (q : Nat) (w : World) (h : Plan w p B g gl gt n vs l F T v hl) (hd : Dag (n : Int) l) (hq : q < n)
    (hO : Of hl S) (hS : ∀ x, S x → x < n) (hF : ∀ i, i < n → ((flw l q).count (i : Int) : Int) ≤ F i ∧ F i ≤ 16384) (hno : ∀ x : Nat, (x : Int) ∈ flw l q → ¬ S x) :
    Calls Tryd.prog 38 #[.pointer (some ⟨p, 0, none⟩), .int .i64 q] w fun e w' => ∃ v' hl', e = .returned (.tuple #[]) ∧ Plan w' p B g gl gt n vs l (fun i => F i - ((flw l q).count (i : Int) : Nat)) T v' hl' ∧
      Of hl' (fun x => S x ∨ ((x : Int) ∈ flw l q ∧ F x - ((flw l q).count (x : Int) : Nat) = 0)) ∧ Keeps (fun i => i = p ∨ i = gl ∨ v.ownBlock = some i) w w' ∧ (v'.ownBlock = v.ownBlock ∨ ∃ i, v'.ownBlock = some i ∧ w.heap.size ≤ i) := by
  have H : Hid (Plan w p B g gl gt n vs l F T v hl ∧ Dag (n : Int) l ∧ Of hl S ∧ (∀ x, S x → x < n) ∧ (∀ i, i < n → ((flw l q).count (i : Int) : Int) ≤ F i ∧ F i ≤ 16384) ∧ ∀ x : Nat, (x : Int) ∈ flw l q → ¬ S x) := ⟨h, hd, hO, hS, hF, hno⟩
  have hn : n ≤ 4096 := by have := hd.hi; omega
  have c0 := h.hp.c0
  obtain ⟨len, hlen⟩ : ∃ len, len = (flw l q).length := ⟨_, rfl⟩
  have hrow := h.lists.rows q hq
  rw [← hlen] at hrow
  obtain ⟨sa, cs, hv⟩ := row_shape hrow
  have HV : Hid (vs q = .slice sa len cs ∧ len = (flw l q).length) := ⟨hv, hlen⟩
  have hcell := h.lists.at hq
  rw [hv] at hcell
  have hl16 : len ≤ 16384 := by rw [hlen]; exact Nat.le_trans (flw_len l q) hd.len
  have q1 : (q : Int) < (n : Int) := by omega
  have n0 : ¬ n = 0 := by omega
  clear h hd hO hS hF hno hrow hv hlen
  go_enter Tryd.func38, Tryd.ntmps38
  go_wp2_with fail
  go_loopw [14, 5] (fun s14 _ wr => ∃ (j : Nat) (v' : Value) (hl' : List Int), s14 = .int .i64 j ∧ j ≤ len ∧ Plan wr p B g gl gt n vs l (fun i => F i - (cn l q j i : Nat)) T v' hl' ∧ Of hl' (fun x => S x ∨ (0 < cn l q j x ∧ F x - (cn l q j x : Nat) = 0)) ∧
      Keeps (fun i => i = p ∨ i = gl ∨ v.ownBlock = some i) w wr ∧ (v'.ownBlock = v.ownBlock ∨ ∃ i, v'.ownBlock = some i ∧ w.heap.size ≤ i)) (fun s14 _ _ => len - (intOf s14).toNat)
  case atStart =>
    refine ⟨0, v, hl, rfl, Nat.zero_le _, ?_, H.out.2.2.1.congr (fun x => ?_), Keeps.refl _ _, .inl rfl⟩
    · have := H.out.1
      exact ⟨this.hp, this.lists, this.left.congr (fun k _ => by rw [cn_zero]; simp), this.times, this.low, this.ne, this.size⟩
    · rw [cn_zero]
      constructor
      · exact fun h => .inl h
      · rintro (h | h)
        · exact h
        · omega
  case round =>
    obtain ⟨j, v', hl', rfl, hj, hPl, hOf, hkp, hvv⟩ := hrel
    have HI : Hid (Plan wr p B g gl gt n vs l (fun i => F i - (cn l q j i : Nat)) T v' hl' ∧ Of hl' (fun x => S x ∨ (0 < cn l q j x ∧ F x - (cn l q j x : Nat) = 0)) ∧ Keeps (fun i => i = p ∨ i = gl ∨ v.ownBlock = some i) w wr ∧ (v'.ownBlock = v.ownBlock ∨ ∃ i, v'.ownBlock = some i ∧ w.heap.size ≤ i)) := ⟨hPl, hOf, hkp, hvv⟩
    clear hPl hOf hkp hvv
    by_cases hjl : j < len
    · obtain ⟨t, ht, hqt, htn, _⟩ := flw_at H.out.2.1 (k := q) (j := j) (by have := HV.out.2; omega)
      have htn : t < n := by omega
      have hrow := HI.out.1.lists.rows q hq
      rw [← HV.out.2, HV.out.1] at hrow
      obtain ⟨b, rfl, e0, _⟩ := row_at hrow ht
      have c1 := HI.out.1.hp.c1
      have x0 : wr.cell? ⟨gl, t, none⟩ = some (.int .i64 (F t - (cn l q j t : Nat))) := HI.out.1.left.at htn
      have z0 := HI.out.1.left.free t
      have j1 : (j : Int) < (len : Int) := by omega
      have l0 : ¬ len = 0 := by omega
      have t1 : (t : Int) < (n : Int) := by omega
      have hc1 := cn_succ ht
      have hcle := cn_le l q (j + 1) t
      have hct := hc1 t
      rw [if_pos rfl] at hct
      have hFt := H.out.2.2.2.2.1 t htn
      obtain ⟨f, hf⟩ : ∃ f, f = F t - (cn l q j t : Nat) := ⟨_, rfl⟩
      have hf1 : 1 ≤ f ∧ f ≤ 16384 := by omega
      rw [← hf] at x0
      have hPl2 := HI.out.1.setLeft t (f - 1)
      have hkS : Keeps (· = gl) wr (wr.setCell ⟨gl, t, none⟩ (.int .i64 (f - 1))) := Keeps.setCell (S := (· = gl)) wr rfl _
      have hcg : ∀ k, k < n → upd (fun i => F i - (cn l q j i : Nat)) t (f - 1) k = F k - (cn l q (j + 1) k : Nat) := by
        intro k hk
        rw [hc1 k]
        unfold upd
        by_cases e : k = t
        · subst e; rw [if_pos rfl, if_pos rfl, hf]; omega
        · rw [if_neg e, if_neg e]; simp
      have hPl3 : Plan (wr.setCell ⟨gl, t, none⟩ (.int .i64 (f - 1))) p B g gl gt n vs l (fun i => F i - (cn l q (j + 1) i : Nat)) T v' hl' :=
        ⟨hPl2.hp, hPl2.lists, hPl2.left.congr hcg, hPl2.times, hPl2.low, hPl2.ne, hPl2.size⟩
      have HN : Hid (Plan (wr.setCell ⟨gl, t, none⟩ (.int .i64 (f - 1))) p B g gl gt n vs l (fun i => F i - (cn l q (j + 1) i : Nat)) T v' hl' ∧ Keeps (fun i => i = p ∨ i = gl ∨ v.ownBlock = some i) w (wr.setCell ⟨gl, t, none⟩ (.int .i64 (f - 1))) ∧ wr.heap.size ≤ (wr.setCell ⟨gl, t, none⟩ (.int .i64 (f - 1))).heap.size) :=
        ⟨hPl3, HI.out.2.2.1.trans hkS (fun i e _ => .inr (.inl e)), hkS.size⟩
      have HC : Hid ((∀ i, cn l q (j + 1) i = cn l q j i + if i = t then 1 else 0) ∧ f = F t - (cn l q j t : Nat)) := ⟨hc1, hf⟩
      have c2 := hPl3.hp.c1
      have x1 : (wr.setCell ⟨gl, t, none⟩ (.int .i64 (f - 1))).cell? ⟨gl, t, none⟩ = some (.int .i64 (f - 1)) := by
        have := hPl2.left.at htn
        unfold upd at this
        rw [if_pos rfl] at this
        exact this
      have HNS : Hid (¬ S t) := H.out.2.2.2.2.2 t (List.mem_of_getElem? ht)
      clear hrow hPl2 hPl3 hkS hcg hc1 hcle hct hFt hf ht
      have hOfE : ∀ hz, Of hz (fun x => (S x ∨ (0 < cn l q j x ∧ F x - (cn l q j x : Nat) = 0)) ∨ (x = t ∧ f - 1 = 0)) → Of hz (fun x => S x ∨ (0 < cn l q (j + 1) x ∧ F x - (cn l q (j + 1) x : Nat) = 0)) := by
        intro hz h1
        refine h1.congr (fun x => ?_)
        have := HC.out.1 x
        have h2 := HC.out.2
        by_cases e : x = t
        · subst e
          rw [if_pos rfl] at this
          have : (cn l q (j + 1) x : Int) = cn l q j x + 1 := by omega
          constructor
          · rintro ((h | h) | h)
            · exact .inl h
            · omega
            · exact .inr ⟨by omega, by omega⟩
          · rintro (h | h)
            · exact .inl (.inl h)
            · exact .inr ⟨rfl, by omega⟩
        · rw [if_neg e] at this
          rw [this, Nat.add_zero]
          constructor
          · rintro (h | h)
            · exact h
            · exact absurd h.1 e
          · exact fun h => .inl h
      have HOE : Hid (∀ hz, Of hz (fun x => (S x ∨ (0 < cn l q j x ∧ F x - (cn l q j x : Nat) = 0)) ∨ (x = t ∧ f - 1 = 0)) → Of hz (fun x => S x ∨ (0 < cn l q (j + 1) x ∧ F x - (cn l q (j + 1) x : Nat) = 0))) := hOfE
      clear hOfE
      by_cases hz : f - 1 = 0
      · have hz1 : (f - 1 == 0) = true := by simpa using hz
        have HZ : Hid (f - 1 = 0) := hz
        clear hz
        have hSn : ∀ x, (S x ∨ (0 < cn l q j x ∧ F x - (cn l q j x : Nat) = 0)) → x < n := by
          rintro x (h | h)
          · exact H.out.2.2.2.1 x h
          · have hm := List.mem_of_mem_take (cn_mem.2 h.1)
            obtain ⟨e, he, h1, h2⟩ := mem_flw.1 hm
            have := H.out.2.1.ok e he
            omega
        have hnt : ¬ (S t ∨ (0 < cn l q j t ∧ F t - (cn l q j t : Nat) = 0)) := by
          rintro (h | h)
          · exact HNS.out h
          · have := HC.out.2; omega
        have hpl : hl'.length + 1 ≤ 4096 := Nat.le_trans (HI.out.2.1.len1 hSn hnt htn) hn
        have HST : Hid (¬ (S t ∨ (0 < cn l q j t ∧ F t - (cn l q j t : Nat) = 0))) := hnt
        clear hSn hnt
        go_wp2_with fail
        refine (push_any p B _ _ _ v' hl' t _ HN.out.1.hp HI.out.2.1.hp HN.out.1.size hpl).mono ?_
        rintro _ w4 ⟨v2, hl2, rfl, hI4, hp4, hperm, hk4, hv4⟩
        have HF4 : Hid (Plan w4 p B g gl gt n vs l (fun i => F i - (cn l q (j + 1) i : Nat)) T v2 hl2 ∧ Of hl2 (fun x => S x ∨ (0 < cn l q (j + 1) x ∧ F x - (cn l q (j + 1) x : Nat) = 0)) ∧
            Keeps (fun i => i = p ∨ i = gl ∨ v.ownBlock = some i) w w4 ∧ (v2.ownBlock = v.ownBlock ∨ ∃ i, v2.ownBlock = some i ∧ w.heap.size ≤ i)) := by
          have hw := HI.out.2.2.1.size
          have hw2 := HN.out.2.2
          refine ⟨HN.out.1.heap hI4 hk4, HOE.out _ ((HI.out.2.1.push HST.out hp4 hperm).congr (fun x => ?_)), HN.out.2.1.trans hk4 (fun i e hi => ?_), ?_⟩
          · constructor
            · rintro (h | h)
              · exact .inl h
              · exact .inr ⟨h, HZ.out⟩
            · rintro (h | h)
              · exact .inl h
              · exact .inr h.1
          · rcases e with e | e
            · exact .inl e
            · rcases HI.out.2.2.2 with h | ⟨i2, h, h3⟩
              · rw [h] at e; exact .inr (.inr e)
              · rw [h] at e; injection e with e; omega
          · rcases hv4 with h | ⟨i2, h, h3⟩
            · rcases HI.out.2.2.2 with h4 | ⟨i3, h4, h5⟩
              · exact .inl (h.trans h4)
              · exact .inr ⟨i3, h.trans h4, h5⟩
            · exact .inr ⟨i2, h, by omega⟩
        clear hI4 hp4 hperm hk4 hv4
        go_wp2_with fail
        exact ⟨⟨j + 1, v2, hl2, by go_num, by omega, HF4.out⟩, by simp [intOf]; omega⟩
      · have hz1 : (f - 1 == 0) = false := by simpa using hz
        have hz2 : ¬ f - 1 = 0 := hz
        have HZ : Hid (¬ f - 1 = 0) := hz
        clear hz
        go_wp2_with fail
        refine ⟨⟨j + 1, v', hl', by go_num, by omega, HN.out.1, HOE.out _ (HI.out.2.1.congr (fun x => ?_)), HN.out.2.1, HI.out.2.2.2⟩, by simp [intOf]; omega⟩
        constructor
        · exact fun h => .inl h
        · rintro (h | h)
          · exact h
          · exact absurd h.2 HZ.out
    · have j1 : ¬ (j : Int) < (len : Int) := by omega
      have HE : Hid (j = (flw l q).length) := by have := HV.out.2; show _ = _; omega
      go_wp2_with fail
      go_end0
      refine ⟨rfl, v', hl', ?_, ?_, HI.out.2.2⟩
      · have h1 := HI.out.1
        rw [HE.out] at h1
        exact ⟨h1.hp, h1.lists, h1.left.congr (fun k _ => by rw [cn_all]), h1.times, h1.low, h1.ne, h1.size⟩
      · have h1 := HI.out.2.1
        rw [HE.out] at h1
        refine h1.congr (fun x => ?_)
        rw [cn_all, List.count_pos_iff]
end Go.Proofs.YtlbkfehakomicaaDoor.Dg
