import Derived.Test.YtnhoedodnbifdaaDgPush
import Derived.Test.YtnhoedodnbifdaaDgGreedyQ
/-! A plan: the nodes of one time; what a node frees. -/
namespace Go.Proofs.Ytnhoedodnbifdaa
set_option linter.unusedVariables false
set_option maxRecDepth 20000
open Go.RowKit Go.HeapKit

theorem nodup_le : ∀ (n : Nat) (l : List Int), l.Nodup → (∀ x ∈ l, 0 ≤ x ∧ x < (n : Int)) → l.length ≤ n := by
  intro n
  induction n with
  | zero =>
    intro l _ h
    cases l with
    | nil => simp
    | cons x l => have := h x (List.mem_cons_self ..); omega
  | succ n ih =>
    intro l nd h
    by_cases hm : (n : Int) ∈ l
    · have h1 := ih (l.erase (n : Int)) (nd.erase _) (fun x hx => by
        have h2 := (nd.mem_erase_iff).1 hx
        have := h x h2.2
        have := h2.1
        omega)
      rw [List.length_erase_of_mem hm] at h1
      omega
    · have h1 := ih l nd (fun x hx => by
        have := h x hx
        have : x ≠ n := fun e => hm (e ▸ hx)
        omega)
      omega
theorem Of.len {l : List Int} {S : Nat → Prop} (h : Of l S) {n : Nat} (hS : ∀ x, S x → x < n) : l.length ≤ n := by
  refine nodup_le n l h.nd (fun x hx => ?_)
  have h0 := h.pos x hx
  have := hS x.toNat ((h.mem x.toNat).1 (by rw [Int.toNat_of_nonneg h0]; exact hx))
  omega
theorem Of.len1 {l : List Int} {S : Nat → Prop} (h : Of l S) {n : Nat} (hS : ∀ x, S x → x < n) {x : Nat} (hx : ¬ S x) (hn : x < n) : l.length + 1 ≤ n := by
  have := nodup_le n ((x : Int) :: l) (List.nodup_cons.2 ⟨fun hm => hx ((h.mem x).1 hm), h.nd⟩) (fun y hy => by
    rcases List.mem_cons.1 hy with rfl | hy
    · omega
    · have h0 := h.pos y hy
      have := hS y.toNat ((h.mem y.toNat).1 (by rw [Int.toNat_of_nonneg h0]; exact hy))
      omega)
  simpa using this
theorem Of.empty {l : List Int} {S : Nat → Prop} (h : Of l S) : l.length = 0 ↔ ∀ x, ¬ S x := by
  constructor
  · intro h0 x hx
    have := (h.mem x).2 hx
    rw [List.eq_nil_of_length_eq_zero h0] at this
    cases this
  · intro h0
    cases l with
    | nil => rfl
    | cons y l =>
      have hp := h.pos y (List.mem_cons_self ..)
      exact absurd ((h.mem y.toNat).1 (by rw [Int.toNat_of_nonneg hp]; exact List.mem_cons_self ..)) (h0 _)
theorem drop_head {rs : List Nat} (hs : rs.Pairwise (· < ·)) {k : Nat} (hk : k < rs.length) : ∃ y, rs[k]? = some y ∧ rs.drop k = y :: rs.drop (k + 1) ∧ (∀ z ∈ rs.drop (k + 1), y < z) := by
  refine ⟨rs[k], List.getElem?_eq_getElem hk, List.drop_eq_getElem_cons hk, ?_⟩
  have h1 : (rs.drop k).Pairwise (· < ·) := List.Pairwise.drop hs
  rw [List.drop_eq_getElem_cons hk] at h1
  exact (List.pairwise_cons.1 h1).1
def nI (l : List Nat) : List Int := l.map (fun (x : Nat) => (x : Int))
theorem nI_take (rs : List Nat) (k : Nat) {y : Nat} (h : rs[k]? = some y) : nI (rs.take (k + 1)) = nI (rs.take k) ++ [(y : Int)] := by
  unfold nI
  rw [List.take_add_one, h]
  simp
set_option maxHeartbeats 3200000 in
theorem take_any (p base : Nat) (L Lf Tm v : Value) (hl : List Int) (rs : List Nat) (P n : Nat) (w : World) (h : HpIn w p base L Lf Tm v hl) (hO : Of hl (fun x => x ∈ rs)) (hs : rs.Pairwise (· < ·)) (hlt : ∀ x ∈ rs, x < n) (hn : n ≤ 4096) (hP : P ≤ 64) :
    Calls Try.prog 48 #[.pointer (some ⟨p, 0, none⟩), .int .i64 P] w fun e w' => ∃ s v' hl', e = .returned s ∧ w'.ownsRow w.heap.size 3 1 s (rs.take P).length (iv (nI (rs.take P))) ∧ HpIn w' p base L Lf Tm v' hl' ∧ Of hl' (fun x => x ∈ rs.drop P) ∧ Keeps (fun q => q = p ∨ v.ownBlock = some q) w w' ∧ v'.ownBlock = v.ownBlock := by
  have H : Hid (HpIn w p base L Lf Tm v hl ∧ Of hl (fun x => x ∈ rs) ∧ rs.Pairwise (· < ·) ∧ ∀ x ∈ rs, x < n) := ⟨h, hO, hs, hlt⟩
  clear h hO hs hlt
  go_enter Try.func48, Try.ntmps48
  go_wp2_with fail
  go_loopw [5, 7] (fun s5 s7 wr => ∃ (k : Nat) (v' : Value) (hl' : List Int) (sa : Option Addr) (sc : Nat), s7 = .int .i64 k ∧ s5 = .slice sa k sc ∧ k ≤ P ∧ k ≤ rs.length ∧ wr.ownsRow w.heap.size 3 1 (.slice sa k sc) k (iv (nI (rs.take k))) ∧ HpIn wr p base L Lf Tm v' hl' ∧ Of hl' (fun x => x ∈ rs.drop k) ∧ Keeps (fun q => q = p ∨ v.ownBlock = some q) w wr ∧ v'.ownBlock = v.ownBlock) (fun _ s7 _ => P - (intOf s7).toNat)
  case atStart => exact ⟨0, v, hl, none, 0, rfl, rfl, Nat.zero_le _, Nat.zero_le _, by simpa [nI, iv] using row_nil _ _ _ _, H.out.1, by simpa using H.out.2.1, Keeps.refl _ _, rfl⟩
  case round =>
    obtain ⟨k, v', hl', sa, sc, rfl, rfl, hk, hkr, hrow, hI, hOf, hkp, hv⟩ := hrel
    have HI : Hid (wr.ownsRow w.heap.size 3 1 (.slice sa k sc) k (iv (nI (rs.take k))) ∧ HpIn wr p base L Lf Tm v' hl' ∧ Of hl' (fun x => x ∈ rs.drop k) ∧ Keeps (fun q => q = p ∨ v.ownBlock = some q) w wr ∧ v'.ownBlock = v.ownBlock) := ⟨hrow, hI, hOf, hkp, hv⟩
    clear hrow hI hOf hkp hv
    by_cases hkP : k < P
    · have k1 : (k : Int) < (P : Int) := by omega
      by_cases hke : k < rs.length
      · have hne : ¬ hl'.length = 0 := by
          intro e
          obtain ⟨y, hy, hd, _⟩ := drop_head H.out.2.2.1 hke
          exact (HI.out.2.2.1.empty.1 e) y (by rw [hd]; exact List.mem_cons_self ..)
        have hl4 : hl'.length ≤ 4096 := Nat.le_trans (HI.out.2.2.1.len (n := n) (fun x hx => H.out.2.2.2 x (List.mem_of_mem_drop hx))) hn
        go_wp2_with fail
        refine (empty_any p base L Lf Tm v' hl' _ HI.out.2.1).mono ?_
        rintro _ wz ⟨rfl, hw⟩
        have hw2 := hw.symm
        subst hw2
        clear hw
        rw [decide_eq_false hne]
        go_wp2_with fail
        refine (pop_any p base L Lf Tm v' hl' wr HI.out.2.1 HI.out.2.2.1.hp (by omega) hl4).mono ?_
        rintro _ w3 ⟨v2, hl2, rfl, hI3, hp3, hperm, hk3, hv3⟩
        obtain ⟨y, hy, hd, hmin⟩ := drop_head H.out.2.2.1 hke
        obtain ⟨r, hr1, hr2, hr3⟩ := HI.out.2.2.1.first (by omega)
        have hry : r = y := by
          have h1 := hr3 y (by rw [hd]; exact List.mem_cons_self ..)
          rw [hd] at hr2
          rcases List.mem_cons.1 hr2 with h2 | h2
          · exact h2
          · have := hmin r h2; omega
        have hO3 : Of hl2 (fun x => x ∈ rs.drop (k + 1)) := by
          refine (HI.out.2.2.1.pop hp3 hperm).congr (fun x => ?_)
          rw [hd, hr1, hry]
          constructor
          · rintro ⟨h1, h2⟩
            rcases List.mem_cons.1 h1 with h3 | h3
            · exact absurd (by rw [h3]) h2
            · exact h3
          · intro h1
            have := hmin x h1
            exact ⟨List.mem_cons_of_mem _ h1, by omega⟩
        rw [hr1, hry]
        have hpn : ¬ (Value.slice sa k sc).ownBlock = some p := fun e => by
          have := row_low HI.out.1 e
          have := blk_lt H.out.1.blk
          omega
        have hvn : ∀ q, v'.ownBlock = some q → (Value.slice sa k sc).ownBlock ≠ some q := fun q e e2 => by
          have h1 := row_low HI.out.1 e2
          rw [HI.out.2.2.2.2] at e
          have := own_lt H.out.1.row e
          omega
        have hrow3 : w3.ownsRow w.heap.size 3 1 (.slice sa k sc) k (iv (nI (rs.take k))) := row_kept HI.out.1 hk3 (fun q e e2 => by
          rcases e2 with rfl | e2
          · exact hpn e
          · exact hvn q e2 e)
        have hlenk : k = (nI (rs.take k)).length := by simp [nI]; omega
        have hsz := HI.out.2.2.2.1.size
        have hsz3 := hk3.size
        obtain ⟨g, cp, w4, hap, ho, hk4, hm⟩ := int_more w.heap.size (.slice sa k sc) (nI (rs.take k)) y k 25 w3.heap.size (w3.alloc (.cells #[.int .i64 y] 3)) hlenk (row_kept hrow3 (Keeps.alloc None w3 _) (fun _ _ f => f)) (by simp; omega) (by omega) (blk_new _ _ _ rfl)
        rw [← nI_take rs k hy] at ho
        have HN : Hid (w4.ownsRow w.heap.size 3 1 (.slice (some ⟨g, 0, none⟩) (k + 1) cp) (k + 1) (iv (nI (rs.take (k + 1)))) ∧ HpIn w4 p base L Lf Tm v2 hl2 ∧ Of hl2 (fun x => x ∈ rs.drop (k + 1)) ∧ Keeps (fun q => q = p ∨ v.ownBlock = some q) w w4 ∧ v2.ownBlock = v.ownBlock) := by
          refine ⟨ho, (hI3.more (Keeps.alloc None w3 _)).kept hk4 hpn (fun q e e2 => hvn q (by rw [← hv3]; exact e) e2), hO3, ?_, hv3.trans HI.out.2.2.2.2⟩
          refine (((HI.out.2.2.2.1.trans hk3 (fun q e _ => ?_)).andAlloc _).trans hk4 (fun q e hq => ?_))
          · rw [HI.out.2.2.2.2] at e; exact e
          · have := row_low HI.out.1 e; omega
        clear hI3 hp3 hperm hk3 hv3 hy hd hmin hr1 hr2 hr3 hry hO3 hrow3 hlenk ho hk4 hm hpn hvn hsz hsz3 hne
        go_wp2_with (at_builtin; refine wpList_append_run rfl (.tmp 13) (.tmp 18) 25 25 rfl rfl rfl hap ?_)
        exact ⟨⟨k + 1, v2, hl2, _, _, by go_num, rfl, by omega, by omega, HN.out⟩, by simp [intOf]; omega⟩
      · have he : hl'.length = 0 := HI.out.2.2.1.empty.2 (fun x hx => by
          rw [List.drop_eq_nil_of_le (by omega)] at hx
          cases hx)
        have HE : Hid (rs.take P = rs.take k ∧ rs.drop P = rs.drop k ∧ (rs.take k).length = k) := by
          refine ⟨?_, ?_, ?_⟩
          · rw [List.take_of_length_le (by omega), List.take_of_length_le (by omega)]
          · rw [List.drop_eq_nil_of_le (by omega), List.drop_eq_nil_of_le (by omega)]
          · simp; omega
        go_wp2_with fail
        refine (empty_any p base L Lf Tm v' hl' _ HI.out.2.1).mono ?_
        rintro _ wz ⟨rfl, hw⟩
        have hw2 := hw.symm
        subst hw2
        clear hw
        rw [decide_eq_true he]
        go_wp2_with fail
        go_ret
        refine ⟨_, v', hl', rfl, ?_, HI.out.2.1, ?_, HI.out.2.2.2.1, HI.out.2.2.2.2⟩
        · rw [HE.out.1, HE.out.2.2]; exact HI.out.1
        · rw [HE.out.2.1]; exact HI.out.2.2.1
    · have k1 : ¬ (k : Int) < (P : Int) := by omega
      obtain rfl : P = k := by omega
      have HE : Hid ((rs.take P).length = P) := by show _ = _; simp; omega
      go_wp2_with fail
      go_ret
      refine ⟨_, rfl, by first | exact HI.out.1 | (rw [HE.out]; exact HI.out.1), v', hl', HI.out.2.1, HI.out.2.2.1, HI.out.2.2.2.1, HI.out.2.2.2.2⟩
end Go.Proofs.Ytnhoedodnbifdaa
