import Derived.Test.YtdiabpoafennlaaHyPM
/-! What becomes of a reducer's player in memory. -/
namespace Go.Proofs.Ytdiabpoafennlaa
set_option linter.unusedVariables false
set_option maxRecDepth 20000
set_option linter.unusedSimpArgs false
open Go.RowKit Go.HeapKit

theorem Lf_new (vs lk : List (List Int)) (k : Ky) : Lf (vs ++ [[]]) lk k = Lf vs lk k := by
  cases k with
  | inr i => rfl
  | inl i =>
    simp only [Lf, List.getD_eq_getElem?_getD]
    by_cases h : i < vs.length
    · rw [List.getElem?_append_left h]
    · rw [List.getElem?_append_right (by omega), List.getElem?_eq_none (l := vs) (by omega)]
      by_cases h2 : i - vs.length = 0
      · rw [h2]; rfl
      · rw [List.getElem?_eq_none (by simp; omega)]
theorem Lf_set {vs : List (List Int)} (lk : List (List Int)) {h : Nat} (l : List Int) (hh : h < vs.length) (k : Ky) : Lf (vs.set h l) lk k = if k = .inl h then l else Lf vs lk k := by
  cases k with
  | inr i => rfl
  | inl i =>
    simp only [Lf, List.getD_eq_getElem?_getD, Sum.inl.injEq]
    by_cases e : i = h
    · subst e; rw [if_pos rfl]; simp [hh]
    · rw [if_neg e, List.getElem?_set_ne (fun e2 => e e2.symm)]
theorem Lf_look (vs lk : List (List Int)) (l : List Int) (k : Ky) : Lf vs (lk ++ [l]) k = if k = .inr lk.length then l else Lf vs lk k := by
  cases k with
  | inl i => rfl
  | inr i =>
    simp only [Lf, List.getD_eq_getElem?_getD, Sum.inr.injEq]
    by_cases e : i = lk.length
    · subst e; rw [if_pos rfl]; simp
    · rw [if_neg e]
      by_cases h : i < lk.length
      · rw [List.getElem?_append_left h]
      · rw [List.getElem?_eq_none (by simp; omega), List.getElem?_eq_none (by omega)]
theorem vals_more (K : Ky → Value) (F : Nat → Ky) (hF : ∀ i j, F i = F j → i = j) (n : Nat) (V : Value) : (List.range (n + 1)).map (fun i => upd K (F n) V (F i)) = (List.range n).map (fun i => K (F i)) ++ [V] := by
  rw [List.range_succ, List.map_append, List.map_singleton, upd_eq]
  congr 1
  refine range_cong (F := fun i => upd K (F n) V (F i)) (G := fun i => K (F i)) (fun i hi => upd_ne (fun e => ?_))
  have := hF _ _ e
  omega
theorem vals_set (K : Ky → Value) (F : Nat → Ky) (hF : ∀ i j, F i = F j → i = j) (n h : Nat) (V : Value) : ((List.range n).map (fun i => K (F i))).set h V = (List.range n).map (fun i => upd K (F h) V (F i)) := by
  rw [range_setF (fun i => K (F i)) V]
  refine range_cong (fun i hi => ?_)
  by_cases e : i = h
  · subst e; rw [upd_eq, upd_eq]
  · rw [upd_ne e, upd_ne (fun e2 => e (hF _ _ e2))]
/-- Rows of which one is put in another's stead, in blocks of their own. -/
theorem upd_apart {K : Ky → Value} {V : Value} {k : Ky} {w : World} (ha : ∀ i j b, i ≠ j → (K i).ownBlock = some b → (K j).ownBlock ≠ some b) (hlt : ∀ i b, (K i).ownBlock = some b → b < w.heap.size) (hV : ∀ b, V.ownBlock = some b → (K k).ownBlock = some b ∨ w.heap.size ≤ b) :
    ∀ i j b, i ≠ j → (upd K k V i).ownBlock = some b → (upd K k V j).ownBlock ≠ some b := by
  intro i j b hij hi hj
  by_cases ei : i = k
  · subst ei
    rw [upd_eq] at hi
    rw [upd_ne (Ne.symm hij)] at hj
    rcases hV b hi with h | h
    · exact ha _ _ b hij h hj
    · have := hlt j b hj; omega
  · rw [upd_ne ei] at hi
    by_cases ej : j = k
    · subst ej
      rw [upd_eq] at hj
      rcases hV b hj with h | h
      · exact ha _ _ b hij hi h
      · have := hlt i b hi; omega
    · rw [upd_ne ej] at hj
      exact ha _ _ b hij hi hj
section
variable {w w1 : World} {base pb : Nat} {st : List Bool} {X : PX} {K : Ky → Value} {H R : Nat → Value} {s : PS}
theorem inl_inj : ∀ i j : Nat, (Sum.inl i : Ky) = .inl j → i = j := fun i j e => by injection e
theorem inr_inj : ∀ i j : Nat, (Sum.inr i : Ky) = .inr j → i = j := fun i j e => by injection e
/-- A new view. -/
theorem PM.newView (h : PM w base pb st X K H R s) {g cap : Nat} (ho : w1.ownsRow base 28 1 (.slice (some ⟨g, 0, none⟩) (s.vs.length + 1) cap) (s.vs.length + 1) (((List.range s.vs.length).map fun i => K (.inl i)) ++ [.slice none 0 0])) (hk : Keeps (fun k => (Value.slice X.va s.vs.length X.vc).ownBlock = some k) w w1)
    (hm : (Value.slice X.va s.vs.length X.vc).ownBlock = some g ∨ w.heap.size ≤ g) :
    PM (w1.setCell ⟨pb, 6, none⟩ (.slice (some ⟨g, 0, none⟩) (s.vs.length + 1) cap)) base pb st { X with va := some ⟨g, 0, none⟩, vc := cap } (upd K (.inl s.vs.length) (.slice none 0 0)) H R { s with vs := s.vs ++ [[]] } := by
  have hT := onlyT_own h.vw.views
  refine PM.put (c := X.cells st s) (blk_other h.blk hk hT (by decide)) h.low (by simp [PX.cells]) ?_ (h.tk.other hk hT (by decide) (by decide)) (h.ar.other hk (fun i e => row_low h.vw.views e)) (row_other h.mg hk hT (by decide))
  refine ⟨fun k => ?_, ?_, ?_, ?_, ?_⟩
  · rw [Lf_new]
    by_cases e : k = .inl s.vs.length
    · subst e
      rw [upd_eq, show Lf s.vs s.lk (.inl s.vs.length) = [] by simp [Lf]]
      exact row_nil _ _ _ _
    · rw [upd_ne e]
      exact row_other (h.vw.rows k) hk hT (by decide)
  · exact upd_apart h.vw.apart (fun i b e => own_lt (h.vw.rows i) e) (fun b e => by simp [Value.ownBlock] at e)
  · show w1.ownsRow base 28 1 (.slice (some ⟨g, 0, none⟩) (s.vs ++ [[]]).length cap) (s.vs ++ [[]]).length _
    rw [List.length_append, List.length_singleton, vals_more K .inl inl_inj]
    exact ho
  · rw [range_cong (G := fun i => K (.inr i)) (fun i hi => upd_ne (by simp))]
    exact row_kept h.vw.looks hk (fun b e e2 => h.vw.vl b _ _ _ _ e2 e)
  · intro b n c m d hb
    simp [Value.ownBlock] at hb
    subst hb
    intro e
    rcases hm with hm | hm
    · exact h.vw.vl g _ _ m d hm e
    · have := own_lt (v := .slice X.la s.lk.length X.lc) h.vw.looks (g := g) (by rw [own_a h.vw.looks e]; rfl)
      omega
/-- A view holds another row. -/
theorem PM.putView (h : PM w base pb st X K H R s) {v vb : Nat} {V : Value} {l : List Int} (hv : v < s.vs.length) (hva : X.va = some ⟨vb, 0, none⟩) (ho : w1.ownsRow base 2 1 V l.length (iv l)) (hk : Keeps (fun k => (K (.inl v)).ownBlock = some k) w w1) (hm : ∀ b, V.ownBlock = some b → (K (.inl v)).ownBlock = some b ∨ w.heap.size ≤ b) :
    PM (w1.setCell ⟨vb, v, none⟩ V) base pb st X (upd K (.inl v) V) H R { s with vs := s.vs.set v l } := by
  have hT := onlyT_own (h.vw.rows (.inl v))
  have hvw1 := row_other h.vw.views hk hT (by decide)
  have hb1 := blk_other h.blk hk hT (by decide)
  obtain ⟨cur, hcur⟩ := own_block hvw1 (g := vb) (by rw [hva]; rfl)
  have hk2 : Keeps (· = vb) w1 (w1.setCell ⟨vb, v, none⟩ V) := keeps_one (Keeps.refl _ _) _
  have hT2 : OnlyT (· = vb) w1 28 := onlyT_one hcur
  have hlo : base ≤ vb := row_low hvw1 (by rw [hva]; rfl)
  refine ⟨?_, h.low, ⟨fun k => ?_, ?_, ?_, ?_, h.vw.vl⟩, (h.tk.other hk hT (by decide) (by decide)).other hk2 hT2 (by decide) (by decide), (h.ar.other hk (fun i e => row_low (h.vw.rows (.inl v)) e)).other hk2 (fun i e => by omega), row_other (row_other h.mg hk hT (by decide)) hk2 hT2 (by decide)⟩
  · have := blk_other hb1 hk2 hT2 (by decide)
    rw [this]
    simp [PX.cells]
  · rw [Lf_set s.lk l hv]
    by_cases e : k = .inl v
    · subst e
      rw [if_pos rfl, upd_eq]
      exact row_other ho hk2 hT2 (by decide)
    · rw [if_neg e, upd_ne e]
      exact row_other (row_kept (h.vw.rows k) hk (fun b e1 e2 => h.vw.apart _ _ b e e1 e2)) hk2 hT2 (by decide)
  · exact upd_apart h.vw.apart (fun i b e => own_lt (h.vw.rows i) e) hm
  · show (w1.setCell ⟨vb, v, none⟩ V).ownsRow base 28 1 (.slice X.va (s.vs.set v l).length X.vc) (s.vs.set v l).length _
    rw [List.length_set, ← vals_set K .inl inl_inj]
    rw [hva] at hvw1 ⊢
    exact row_set hvw1 v V
  · rw [range_cong (G := fun i => K (.inr i)) (fun i hi => upd_ne (by simp))]
    refine row_kept (row_other h.vw.looks hk hT (by decide)) hk2 (fun b e e2 => ?_)
    subst e2
    exact h.vw.vl b s.vs.length X.vc _ _ (by rw [hva]; rfl) e
/-- A look is told. -/
theorem PM.newLook (h : PM w base pb st X K H R s) {V : Value} {l : List Int} {w2 : World} {g cap : Nat} (ho : w1.ownsRow base 2 1 V l.length (iv l)) (hk : Keeps None w w1) (hm : ∀ b, V.ownBlock = some b → w.heap.size ≤ b)
    (ho2 : w2.ownsRow base 28 1 (.slice (some ⟨g, 0, none⟩) (s.lk.length + 1) cap) (s.lk.length + 1) (((List.range s.lk.length).map fun i => K (.inr i)) ++ [V])) (hk2 : Keeps (fun k => (Value.slice X.la s.lk.length X.lc).ownBlock = some k) w1 w2)
    (hm2 : (Value.slice X.la s.lk.length X.lc).ownBlock = some g ∨ w1.heap.size ≤ g) :
    PM (w2.setCell ⟨pb, 10, none⟩ (.slice (some ⟨g, 0, none⟩) (s.lk.length + 1) cap)) base pb st { X with la := some ⟨g, 0, none⟩, lc := cap } (upd K (.inr s.lk.length) V) H R { s with lk := s.lk ++ [l] } := by
  have h1 := h.more hk
  have hT := onlyT_own h1.vw.looks
  refine PM.put (c := X.cells st s) (blk_other h1.blk hk2 hT (by decide)) h.low (by simp [PX.cells]) ?_ (h1.tk.other hk2 hT (by decide) (by decide)) (h1.ar.other hk2 (fun i e => row_low h1.vw.looks e)) (row_other h1.mg hk2 hT (by decide))
  refine ⟨fun k => ?_, ?_, ?_, ?_, ?_⟩
  · rw [Lf_look]
    by_cases e : k = .inr s.lk.length
    · subst e
      rw [upd_eq, if_pos rfl]
      exact row_other ho hk2 hT (by decide)
    · rw [upd_ne e, if_neg e]
      exact row_other (h1.vw.rows k) hk2 hT (by decide)
  · exact upd_apart h.vw.apart (fun i b e => own_lt (h.vw.rows i) e) (fun b e => .inr (hm b e))
  · rw [range_cong (G := fun i => K (.inl i)) (fun i hi => upd_ne (by simp))]
    exact row_kept h1.vw.views hk2 (fun b e e2 => h.vw.vl b _ _ _ _ e e2)
  · show w2.ownsRow base 28 1 (.slice (some ⟨g, 0, none⟩) (s.lk ++ [l]).length cap) (s.lk ++ [l]).length _
    rw [List.length_append, List.length_singleton, vals_more K .inr inr_inj]
    exact ho2
  · intro b n c m d hb e
    simp [Value.ownBlock] at e
    subst e
    rcases hm2 with hm | hm
    · exact h.vw.vl g n c _ _ hb hm
    · have := own_lt (v := .slice X.va s.vs.length X.vc) h1.vw.views (g := g) (by rw [own_a h1.vw.views hb]; rfl)
      omega
/-- A merge is told. -/
theorem PM.newMerge (h : PM w base pb st X K H R s) {x : Nat × Nat × Nat} {g cap : Nat} (ho : w1.ownsRow base 43 3 (.slice (some ⟨g, 0, none⟩) (s.mg.length + 1) cap) (s.mg.length + 1) (mgV (s.mg ++ [x]))) (hk : Keeps (fun k => (Value.slice X.ma s.mg.length X.mc).ownBlock = some k) w w1) :
    PM (w1.setCell ⟨pb, 9, none⟩ (.slice (some ⟨g, 0, none⟩) (s.mg.length + 1) cap)) base pb st { X with ma := some ⟨g, 0, none⟩, mc := cap } K H R { s with mg := s.mg ++ [x] } := by
  have hT := onlyT_own h.mg
  refine PM.put (c := X.cells st s) (blk_other h.blk hk hT (by decide)) h.low (by simp [PX.cells]) (h.vw.other hk hT (by decide) (by decide)) (h.tk.other hk hT (by decide) (by decide)) (h.ar.other hk (fun i e => row_low h.mg e)) ?_
  show w1.ownsRow base 43 3 (.slice (some ⟨g, 0, none⟩) (s.mg ++ [x]).length cap) (s.mg ++ [x]).length _
  rw [List.length_append, List.length_singleton]
  exact ho
/-- The next pick is taken. -/
theorem PM.nextPick (h : PM w base pb st X K H R s) {x : Int} {pk : List Int} {b off : Nat} (hp : s.pk = x :: pk) (ha : X.pa = some ⟨b, off, none⟩) :
    PM (w.setCell ⟨pb, 5, none⟩ (.slice (if X.pc = 1 then some ⟨b, off, none⟩ else some ⟨b, off + 1, none⟩) pk.length (X.pc - 1))) base pb st { X with pa := if X.pc = 1 then some ⟨b, off, none⟩ else some ⟨b, off + 1, none⟩, pc := X.pc - 1 } K H R { s with pk := pk } := by
  have hc := h.ar.capP
  rw [hp] at hc
  simp at hc
  refine PM.put (c := X.cells st s) h.blk h.low (by simp [PX.cells]) h.vw h.tk ⟨h.ar.seenS, ?_, h.ar.lowS, ?_, by show pk.length ≤ X.pc - 1; omega⟩ h.mg
  · have hs := h.ar.seenP
    rw [hp, ha] at hs
    obtain ⟨b', off', e, hlt, hcell⟩ := hs.ex (by simp)
    injection e with e
    injection e with e1 e2
    subst e1 e2
    refine ⟨(iv_len _).symm, fun h0 => ⟨b, off + 1, by show (if X.pc = 1 then _ else _) = _; rw [if_neg (by have h0' : 0 < pk.length := h0; omega)], hlt, fun k v hv => ?_⟩⟩
    have := hcell (k + 1) v (by simpa [iv] using hv)
    rwa [show off + (k + 1) = off + 1 + k by omega] at this
  · intro b' hb' h0
    have : b' = b := by
      have hb2 : blockOf (if X.pc = 1 then some (⟨b, off, none⟩ : Addr) else some ⟨b, off + 1, none⟩) = some b' := hb'
      split at hb2 <;> simpa [blockOf] using hb2.symm
    subst this
    exact h.ar.lowP b' (by rw [ha]; rfl) (by rw [hp]; simp)
end
end Go.Proofs.Ytdiabpoafennlaa
