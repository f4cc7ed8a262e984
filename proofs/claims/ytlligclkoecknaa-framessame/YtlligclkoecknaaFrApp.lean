import Derived.Test.YtlligclkoecknaaFrJoin
/-! Holders and reads grow. -/
namespace Go.Proofs.Ytlligclkoecknaa
open Go.RowKit Go.HeapKit Go.IntWalk

theorem Try.infoInt8 : (Try.prog.info? 3).map (fun i => (i.zero, i.size, i.bytes)) = some (some (.int .i64 0), 1, 8) := by kernel_rfl
theorem Try.infoI648 : (Try.prog.info? 2).map (fun i => (i.zero, i.size, i.bytes)) = some (some (.int .i64 0), 1, 8) := by kernel_rfl
theorem Try.infoSl8 : (Try.prog.info? 48).map (fun i => (i.zero, i.size, i.bytes)) = some (some (.slice none 0 0), 1, 24) := by kernel_rfl
/-- The append of one value to a row of one-cell elements. -/
theorem one_append {t e : TypeId} {z : Value} {bytes : Nat} (ht : Try.prog.underlying t = some (.slice e)) (hinfo : (Try.prog.info? e).map (fun i => (i.zero, i.size, i.bytes)) = some (some z, 1, bytes)) (hzs : z.cells.size = 1) (hby : bytes ≤ 1000)
    (v u : Value) (n : Nat) (xs : List Value) (g ty : Nat) (w : World) (h : w.ownsRow 0 e 1 v n xs) (hlen : n < 1000000) (hu : u.oneCell' = true)
    (hg : w.heap[g]? = some (.cells #[u] e (0, 0))) :
    ∃ b cap w', (Builtin.append_ #[t, t] ty #[v, .slice (some ⟨g, 0, none⟩) 1 1]).run Try.prog w = .ok (.slice (some ⟨b, 0, none⟩) (n + 1) cap) w' ∧
      w'.ownsRow 0 e 1 (.slice (some ⟨b, 0, none⟩) (n + 1) cap) (n + 1) (xs ++ [u]) ∧ w.grownBy w' v.ownBlock ∧ Moved w v (.slice (some ⟨b, 0, none⟩) (n + 1) cap) := by
  obtain ⟨i0, hi, hz0, hz1, hz2⟩ := info_parts hinfo
  obtain ⟨v', w', hr, ho, hgr, hm, -⟩ := run_append_moved (P := Try.prog) w 0 t ty e i0 _ 1 bytes ht hi hz0 hz1 hz2 hzs (by decide) v n xs h
    ⟨g, 0, none⟩ 1 1 [u] rfl (by
      intro j y hy
      rw [add0, cell_of_block hg]
      simpa using hy) (by
      intro y hy
      simp at hy
      subst hy
      exact hu) (by unfold maxLen; omega) (by have : (n + 1) * bytes ≤ 1000000 * 1000 := Nat.mul_le_mul (by omega) hby; omega) (Nat.zero_le _)
  rcases ho.2 with ⟨_, h0⟩ | ⟨b, cap, cur, rfl, _⟩
  · omega
  · exact ⟨b, cap, w', hr, ho, hgr, hm⟩
section
variable {w0 w w1 : World} {P p : Nat} {F : Nat → Prop} {ao : Option Addr} {cap : Nat} {va vh vd : Value} {rs : List Value} {S : Pl}
/-- The holders, one more. -/
theorem IsPlay.held {vh' : Value} {u : Int} (h : IsPlay w0 w P p F ao cap va vh vd rs S) (hk : Keeps (fun k => vh.ownBlock = some k) w w1) (hm : Moved w vh vh') (ho : w1.ownsRow 0 3 1 vh' (S.holders.length + 1) (S.holders.map (Value.int .i64) ++ [.int .i64 u])) :
    IsPlay w0 (w1.setCell ⟨P, 10, none⟩ vh') P p F ao cap va vh' vd rs { S with holders := S.holders ++ [u] } := by
  have hs := h.kp.size
  have hs1 := hk.size
  obtain ⟨n1, n2, n3, n4⟩ := h.nP
  have hb : w1.heap[P]? = _ := (hk.block P h.lt n2).trans h.blk
  have hkp : Keeps (· = P) w1 (w1.setCell ⟨P, 10, none⟩ vh') := Keeps.setCell (S := (· = P)) w1 (a := ⟨P, 10, none⟩) rfl _
  have hall : Keeps (fun k => vh.ownBlock = some k ∨ k = P) w (w1.setCell ⟨P, 10, none⟩ vh') := (hk.mono (fun _ f _ => .inl f)).trans hkp (fun _ e _ => .inr e)
  have hlP := h.lo P (.inr (.inl rfl))
  have hnP' : vh'.ownBlock ≠ some P := fun e => absurd (own_type ho e hb) (by decide)
  have hG : ∀ k, GPl P va vh' vd rs k → GPl P va vh vd rs k ∨ w.heap.size ≤ k := by
    intro k g
    rcases g with e | e | e | e | e
    · exact .inl (.inl e)
    · exact .inl (.inr (.inl e))
    · rcases moved_off hm e with e | e
      · exact .inl (.inr (.inr (.inl e)))
      · exact .inr e
    · exact .inl (.inr (.inr (.inr (.inl e))))
    · exact .inl (.inr (.inr (.inr (.inr e))))
  refine ⟨(setCell_block hb vh').trans rfl, h.ar.kept hall (fun k f e => by rcases e with e | e; exact h.off k f (.inr (.inr (.inl e))); exact h.off k f (.inl e)), hall.own h.al (fun k e e2 => by rcases e2 with e2 | e2; exact own_apart h.ho h.al (by decide) e2 e; exact n1 (e2 ▸ e)), ?_, hall.own h.re (fun k e e2 => by rcases e2 with e2 | e2; exact own_apart h.ho h.re (by decide) e2 e; exact n3 (e2 ▸ e)), h.rl, fun i hi => hall.own (h.row i hi) (fun k e e2 => by rcases e2 with e2 | e2; exact own_apart h.ho (h.row i hi) (by decide) e2 e; exact n4 i (by rw [h.rl]; exact hi) (e2 ▸ e)), h.apart, fun k f g => ?_, h.kp.trans hall (fun k e hi => by rcases e with e | e; have := h.lo k (.inr (.inr (.inr (.inl e)))); omega; omega), fun k f => ?_, h.ro⟩
  · have := hkp.own ho (fun k e e2 => hnP' (e2 ▸ e))
    simpa using this
  · rcases hG k g with g | g
    · exact h.off k f g
    · have := h.ar.lt f; omega
  · rcases f with f | f
    · exact h.lo k (.inl f)
    · rcases hG k f with f | f
      · exact h.lo k (.inr f)
      · omega
/-- The reads, one list more, with nothing in it. -/
theorem IsPlay.opened {vd' : Value} (h : IsPlay w0 w P p F ao cap va vh vd rs S) (hk : Keeps (fun k => vd.ownBlock = some k) w w1) (hm : Moved w vd vd') (ho : w1.ownsRow 0 48 1 vd' (S.reads.length + 1) (rs ++ [.slice none 0 0])) :
    IsPlay w0 (w1.setCell ⟨P, 11, none⟩ vd') P p F ao cap va vh vd' (rs ++ [.slice none 0 0]) { S with reads := S.reads ++ [[]] } := by
  have hs := h.kp.size
  have hs1 := hk.size
  obtain ⟨n1, n2, n3, n4⟩ := h.nP
  have hb : w1.heap[P]? = _ := (hk.block P h.lt n3).trans h.blk
  have hkp : Keeps (· = P) w1 (w1.setCell ⟨P, 11, none⟩ vd') := Keeps.setCell (S := (· = P)) w1 (a := ⟨P, 11, none⟩) rfl _
  have hall : Keeps (fun k => vd.ownBlock = some k ∨ k = P) w (w1.setCell ⟨P, 11, none⟩ vd') := (hk.mono (fun _ f _ => .inl f)).trans hkp (fun _ e _ => .inr e)
  have hlP := h.lo P (.inr (.inl rfl))
  have hnP' : vd'.ownBlock ≠ some P := fun e => absurd (own_type ho e hb) (by decide)
  have hrs : ∀ i, i < (rs ++ [Value.slice none 0 0]).length → (i < rs.length ∧ (rs ++ [Value.slice none 0 0]).getD i undef = rs.getD i undef) ∨ (i = rs.length ∧ (rs ++ [Value.slice none 0 0]).getD i undef = .slice none 0 0) := by
    intro i hi
    simp only [List.length_append, List.length_singleton] at hi
    by_cases hlt : i < rs.length
    · exact .inl ⟨hlt, by simp only [List.getD_eq_getElem?_getD]; rw [List.getElem?_append_left hlt]⟩
    · obtain rfl : i = rs.length := by omega
      exact .inr ⟨rfl, by simp [List.getD_eq_getElem?_getD]⟩
  have hG : ∀ k, GPl P va vh vd' (rs ++ [.slice none 0 0]) k → GPl P va vh vd rs k ∨ w.heap.size ≤ k := by
    intro k g
    rcases g with e | e | e | e | ⟨i, hi, e⟩
    · exact .inl (.inl e)
    · exact .inl (.inr (.inl e))
    · exact .inl (.inr (.inr (.inl e)))
    · rcases moved_off hm e with e | e
      · exact .inl (.inr (.inr (.inr (.inl e))))
      · exact .inr e
    · rcases hrs i hi with ⟨h1, h2⟩ | ⟨-, h2⟩
      · rw [h2] at e; exact .inl (.inr (.inr (.inr (.inr ⟨i, h1, e⟩))))
      · rw [h2] at e; simp [Value.ownBlock] at e
  refine ⟨(setCell_block hb vd').trans rfl, h.ar.kept hall (fun k f e => by rcases e with e | e; exact h.off k f (.inr (.inr (.inr (.inl e)))); exact h.off k f (.inl e)), hall.own h.al (fun k e e2 => by rcases e2 with e2 | e2; exact own_apart h.re h.al (by decide) e2 e; exact n1 (e2 ▸ e)), hall.own h.ho (fun k e e2 => by rcases e2 with e2 | e2; exact own_apart h.re h.ho (by decide) e2 e; exact n2 (e2 ▸ e)), ?_, by simp [h.rl], fun i hi => ?_, fun i j k hi hj hij e => ?_, fun k f g => ?_, h.kp.trans hall (fun k e hi => by rcases e with e | e; have := h.lo k (.inr (.inr (.inr (.inr (.inl e))))); omega; omega), fun k f => ?_, h.ro⟩
  · have := hkp.own ho (fun k e e2 => hnP' (e2 ▸ e))
    simpa using this
  · have hi2 : i < (rs ++ [Value.slice none 0 0]).length := by simp [h.rl] at hi ⊢; exact hi
    rcases hrs i hi2 with ⟨h1, h2⟩ | ⟨h1, h2⟩
    · have hi3 : i < S.reads.length := by rw [← h.rl]; exact h1
      have e3 : (S.reads ++ [[]]).getD i [] = S.reads.getD i [] := by simp only [List.getD_eq_getElem?_getD]; rw [List.getElem?_append_left hi3]
      show World.ownsRow _ 0 _ 1 _ ((S.reads ++ [[]]).getD i []).length (((S.reads ++ [[]]).getD i []).map _)
      rw [h2, e3]
      exact hall.own (h.row i hi3) (fun k e e2 => by rcases e2 with e2 | e2; exact own_apart h.re (h.row i hi3) (by decide) e2 e; exact n4 i h1 (e2 ▸ e))
    · have e3 : (S.reads ++ [[]]).getD i [] = [] := by rw [h1, h.rl]; simp [List.getD_eq_getElem?_getD]
      show World.ownsRow _ 0 _ 1 _ ((S.reads ++ [[]]).getD i []).length (((S.reads ++ [[]]).getD i []).map _)
      rw [h2, e3]
      exact World.ownsRow_nil _ _ _ _
  · rcases hrs i hi with ⟨h1, h2⟩ | ⟨h1, h2⟩
    · rcases hrs j hj with ⟨h3, h4⟩ | ⟨h3, h4⟩
      · rw [h2] at e; rw [h4]; exact h.apart i j k h1 h3 hij e
      · rw [h4]; simp [Value.ownBlock]
    · rw [h2] at e; simp [Value.ownBlock] at e
  · rcases hG k g with g | g
    · exact h.off k f g
    · have := h.ar.lt f; omega
  · rcases f with f | f
    · exact h.lo k (.inl f)
    · rcases hG k f with f | f
      · exact h.lo k (.inr f)
      · omega
/-- A list of the reads, one number more. -/
theorem IsPlay.read {v' : Value} {r : Nat} {x : Int} {g c : Nat} (h : IsPlay w0 w P p F ao cap va vh vd rs S) (hr : r < S.reads.length) (hvd : vd = .slice (some ⟨g, 0, none⟩) S.reads.length c) (hk : Keeps (fun k => (rs.getD r undef).ownBlock = some k) w w1) (hm : Moved w (rs.getD r undef) v') (ho : w1.ownsRow 0 2 1 v' ((S.reads.getD r []).length + 1) ((S.reads.getD r []).map (Value.int .i64) ++ [.int .i64 x])) :
    IsPlay w0 (w1.setCell ⟨g, r, none⟩ v') P p F ao cap va vh vd (rs.set r v') { S with reads := S.reads.set r (S.reads.getD r [] ++ [x]) } := by
  have hs := h.kp.size
  have hs1 := hk.size
  have hrl : r < rs.length := by rw [h.rl]; exact hr
  obtain ⟨n1, n2, n3, n4⟩ := h.nP
  have hgb : vd.ownBlock = some g := by rw [hvd]; rfl
  have hgP : g ≠ P := fun e => n3 (e ▸ hgb)
  have hrow := h.row r hr
  have hb : w1.heap[P]? = _ := (hk.block P h.lt (n4 r hrl)).trans h.blk
  have hkg : Keeps (· = g) w1 (w1.setCell ⟨g, r, none⟩ v') := Keeps.setCell (S := (· = g)) w1 (a := ⟨g, r, none⟩) rfl _
  have hall : Keeps (fun k => (rs.getD r undef).ownBlock = some k ∨ k = g) w (w1.setCell ⟨g, r, none⟩ v') := (hk.mono (fun _ f _ => .inl f)).trans hkg (fun _ e _ => .inr e)
  have hlg := h.lo g (.inr (.inr (.inr (.inr (.inl hgb)))))
  have hre1 := hk.own h.re (fun k e e2 => own_apart h.re hrow (by decide) e e2)
  have hng' : v'.ownBlock ≠ some g := fun e => own_apart ho hre1 (by decide) e hgb
  have hget : ∀ i, i ≠ r → (rs.set r v').getD i undef = rs.getD i undef := fun i hi => by simp only [List.getD_eq_getElem?_getD]; rw [List.getElem?_set_ne (Ne.symm hi)]
  have hgetr : (rs.set r v').getD r undef = v' := by simp [List.getD_eq_getElem?_getD, hrl]
  have hG : ∀ k, GPl P va vh vd (rs.set r v') k → GPl P va vh vd rs k ∨ w.heap.size ≤ k := by
    intro k gg
    rcases gg with e | e | e | e | ⟨i, hi, e⟩
    · exact .inl (.inl e)
    · exact .inl (.inr (.inl e))
    · exact .inl (.inr (.inr (.inl e)))
    · exact .inl (.inr (.inr (.inr (.inl e))))
    · simp only [List.length_set] at hi
      by_cases hir : i = r
      · subst hir
        rw [hgetr] at e
        rcases moved_off hm e with e | e
        · exact .inl (.inr (.inr (.inr (.inr ⟨i, hi, e⟩))))
        · exact .inr e
      · rw [hget i hir] at e
        exact .inl (.inr (.inr (.inr (.inr ⟨i, hi, e⟩))))
  refine ⟨(hkg.block P (by have := h.lt; omega) (fun e => hgP e.symm)).trans hb, h.ar.kept hall (fun k f e => by rcases e with e | e; exact h.off k f (.inr (.inr (.inr (.inr ⟨r, hrl, e⟩)))); exact h.off k f (.inr (.inr (.inr (.inl (e ▸ hgb)))))), hall.own h.al (fun k e e2 => by rcases e2 with e2 | e2; exact own_apart hrow h.al (by decide) e2 e; exact own_apart h.re h.al (by decide) hgb (e2 ▸ e)), hall.own h.ho (fun k e e2 => by rcases e2 with e2 | e2; exact own_apart hrow h.ho (by decide) e2 e; exact own_apart h.re h.ho (by decide) hgb (e2 ▸ e)), ?_, by simp [h.rl], fun i hi => ?_, fun i j k hi hj hij e => ?_, fun k f gg => ?_, h.kp.trans hall (fun k e hi => by rcases e with e | e; have := h.lo k (.inr (.inr (.inr (.inr (.inr ⟨r, hrl, e⟩))))); omega; omega), fun k f => ?_, h.ro⟩
  · have hx := hre1
    rw [hvd] at hx ⊢
    have := own_set hx r v'
    simpa using this
  · simp only [List.length_set] at hi
    by_cases hir : i = r
    · subst hir
      have e3 : (S.reads.set i (S.reads.getD i [] ++ [x])).getD i [] = S.reads.getD i [] ++ [x] := by simp [List.getD_eq_getElem?_getD, hr]
      show World.ownsRow _ 0 _ 1 _ ((S.reads.set i (S.reads.getD i [] ++ [x])).getD i []).length (((S.reads.set i (S.reads.getD i [] ++ [x])).getD i []).map _)
      rw [hgetr, e3]
      have := hkg.own ho (fun k e e2 => hng' (e2 ▸ e))
      simpa using this
    · have e3 : (S.reads.set r (S.reads.getD r [] ++ [x])).getD i [] = S.reads.getD i [] := by simp only [List.getD_eq_getElem?_getD]; rw [List.getElem?_set_ne (Ne.symm hir)]
      show World.ownsRow _ 0 _ 1 _ ((S.reads.set r (S.reads.getD r [] ++ [x])).getD i []).length (((S.reads.set r (S.reads.getD r [] ++ [x])).getD i []).map _)
      rw [hget i hir, e3]
      exact hall.own (h.row i hi) (fun k e e2 => by rcases e2 with e2 | e2; exact h.apart r i k hrl (by rw [h.rl]; exact hi) (Ne.symm hir) e2 e; exact own_apart h.re (h.row i hi) (by decide) hgb (e2 ▸ e))
  · simp only [List.length_set] at hi hj
    by_cases hir : i = r
    · subst hir
      rw [hgetr] at e
      rw [hget j (Ne.symm hij)]
      rcases moved_off hm e with e | e
      · exact h.apart i j k hi hj hij e
      · intro e2; have := own_lt (h.row j (by rw [← h.rl]; exact hj)) e2; omega
    · rw [hget i hir] at e
      by_cases hjr : j = r
      · subst hjr
        rw [hgetr]
        intro e2
        rcases moved_off hm e2 with e2 | e2
        · exact h.apart i j k hi hj hij e e2
        · have := own_lt (h.row i (by rw [← h.rl]; exact hi)) e; omega
      · rw [hget j hjr]; exact h.apart i j k hi hj hij e
  · rcases hG k gg with gg | gg
    · exact h.off k f gg
    · have := h.ar.lt f; omega
  · rcases f with f | f
    · exact h.lo k (.inl f)
    · rcases hG k f with f | f
      · exact h.lo k (.inr f)
      · omega
end
end Go.Proofs.Ytlligclkoecknaa
