import Derived.Test.YtdiabpoafennlaaPkAP
import Derived.Laws.EntriesVeiled
import Derived.Test.YtdiabpoafennlaaPkAB
import Derived.WalkMore
import Derived.Deep.RegionHeld3
import Derived.Deep.DeepCutAuto
/-! The face: what is refused, and what a play tells. -/
namespace Go.Proofs.Ytdiabpoafennlaa
set_option linter.unusedVariables false
set_option maxRecDepth 20000
set_option linter.unusedSimpArgs false
open Go.RowKit Go.HeapKit

def refE (l : List Dd) (st : List Bool) (pk : List Int) : Int := if l.length > 4096 ∨ st.length > 4096 ∨ pk.length > 1048576 then 2 else chkE l
theorem check_raw (a : Option Addr) (n c : Nat) (l : List Dd) (w : World) (hS : Seen w a n l) :
    Calls Try.prog 23 #[.slice a n c] w fun e w' => e = .returned (.agg #[.int .i64 (chkE l), .int .i64 (chkA l)]) ∧ Keeps None w w' := check_ok a n c l w hS
theorem field_spot (x y : Int) (w : World) : Sem.run Try.prog (Instr.field 55 (.agg #[.int .i64 x, .int .i64 y]) 0) w = .ok (.int .i64 x) w := by kernel_rfl
set_option maxHeartbeats 800000 in
theorem refused_ok (a : Option Addr) (n c : Nat) (l : List Dd) (sa : Option Addr) (m sc : Nat) (st : List Bool) (pa : Option Addr) (k pc : Nat) (pk : List Int) (w : World) (hS : Seen w a n l) (hm : m = st.length) (hk : k = pk.length) :
    Calls Try.prog 25 #[.slice a n c, .slice sa m sc, .slice pa k pc] w fun e w' => e = .returned (.int .i64 (refE l st pk)) ∧ Keeps None w w' := by
  have HS : Hid (Seen w a n l ∧ n = l.length) := ⟨hS, hS.len⟩
  have hn := hS.len
  clear hS
  by_cases h1 : 4096 < n ∨ 4096 < m
  · have h2 : (4096 : Int) < max (n : Int) (m : Int) := by omega
    have hE : refE l st pk = 2 := by unfold refE; rw [if_pos (by omega)]
    have HE : Hid (refE l st pk = 2) := hE
    clear hE hn hm hk h1
    go_enter Try.func25, Try.ntmps25
    go_wp2
    all_goals (go_ret; exact ⟨by rw [HE.out]; rfl, Keeps.refl _ _⟩)
  · have h2 : ¬ (4096 : Int) < max (n : Int) (m : Int) := by omega
    by_cases h3 : 1048576 < k
    · have h4 : (1048576 : Int) < (k : Int) := by omega
      have hE : refE l st pk = 2 := by unfold refE; rw [if_pos (by omega)]
      have HE : Hid (refE l st pk = 2) := hE
      clear hE hn hm hk h1 h3
      go_enter Try.func25, Try.ntmps25
      go_wp2
      all_goals (go_ret; exact ⟨by rw [HE.out]; rfl, Keeps.refl _ _⟩)
    · have h4 : ¬ (1048576 : Int) < (k : Int) := by omega
      have hE : refE l st pk = chkE l := by unfold refE; rw [if_neg (by omega)]
      have HE : Hid (refE l st pk = chkE l) := hE
      clear hE hn hm hk h1 h3
      go_enter Try.func25, Try.ntmps25
      go_wp2_with fail
      all_goals
        refine (check_raw a n c l w HS.out.1).mono ?_
        rintro e w1 ⟨rfl, hk1⟩
        have HK : Hid (Keeps None w w1) := hk1
        clear hk1
        rw [← HE.out]
        have hf := field_spot (refE l st pk) (chkA l) w1
        go_wp2
        go_ret
        exact ⟨rfl, HK.out⟩
theorem set_four {w1 : World} {g : Nat} {c : Array Value} {t : TypeId} (hc : c.size = 4) (hb : w1.heap[g]? = some (.cells c t (0, 0))) (v0 v1 v2 v3 : Value) :
    ((((w1.setCell ⟨g, 0, none⟩ v0).setCell ⟨g, 1, none⟩ v1).setCell ⟨g, 2, none⟩ v2).setCell ⟨g, 3, none⟩ v3).heap[g]? = some (.cells #[v0, v1, v2, v3] t (0, 0)) ∧ Keeps (· = g) w1 ((((w1.setCell ⟨g, 0, none⟩ v0).setCell ⟨g, 1, none⟩ v1).setCell ⟨g, 2, none⟩ v2).setCell ⟨g, 3, none⟩ v3) := by
  refine ⟨?_, (((keeps_one (g := g) (Keeps.refl _ _) _).andSet (x := ⟨g, 1, none⟩) (.inl rfl) _).andSet (x := ⟨g, 2, none⟩) (.inl rfl) _).andSet (x := ⟨g, 3, none⟩) (.inl rfl) _⟩
  rw [blk_set (blk_set (blk_set (blk_set hb v0) v1) v2) v3]
  obtain ⟨l⟩ := c
  match l, hc with
  | [_, _, _, _], _ => rfl
theorem load_kind (w : World) (g : Nat) (t : TypeId) (v0 v1 v2 v3 : Value) (hb : w.heap[g]? = some (.cells #[v0, v1, v2, v3] t (0, 0))) : (loadVar 65 ⟨g, 0, none⟩).run Try.prog w = .ok (.agg #[v0, v1, v2, v3]) w :=
  run_loadVar_row _ g t 65 _ _ _ hb Try.underlying65 rfl (by kernel_rfl)
theorem load_views (w : World) (g : Nat) (t : TypeId) (v0 v1 v2 v3 : Value) (hb : w.heap[g]? = some (.cells #[v0, v1, v2, v3] t (0, 0))) : (loadVar 39 ⟨g, 0, none⟩).run Try.prog w = .ok (.agg #[v0, v1, v2, v3]) w :=
  run_loadVar_row _ g t 39 _ _ _ hb Try.underlying39 rfl (by kernel_rfl)
theorem results_two {P : Program} {fn : Func} {q r : Tmp} {ty : TypeId} (h : fn.results = #[.cell q ty, .tmp r]) {tmps : Array Value} {w : World} {g : Nat} (ha : tmps.getD q undef = .pointer (some ⟨g, 0, none⟩)) {v u : Value} (hr : tmps.getD r undef = u)
    (hl : (loadVar ty ⟨g, 0, none⟩).run P w = .ok v w) : (results fn tmps).run P w = .ok (.tuple #[v, u]) w := by
  have ha' : tmps[q]?.getD undef = .pointer (some ⟨g, 0, none⟩) := by simpa using ha
  have hr' : tmps[r]?.getD undef = u := by simpa using hr
  simp [results, h, ha', hr', asAddr, hl]
/-- How Play ends. -/
theorem views_end {Q : Ending → World → Prop} {a : Act} {w1 : World} {g : Nat} {c : Array Value} {t : TypeId} {fn : Func} {u : Value} (q r : Tmp) (hfn : fn.results = #[.cell q 39, .tmp r]) (hc : c.size = 4) (hb : w1.heap[g]? = some (.cells c t (0, 0)))
    (ha : a.tmps.getD q undef = .pointer (some ⟨g, 0, none⟩)) (hr : a.tmps.getD r undef = u) (hd : a.defers = []) (v0 v1 v2 v3 : Value) (hQ : ∀ w', Keeps (· = g) w1 w' → Q (.returned (.tuple #[.agg #[v0, v1, v2, v3], u])) w') :
    bodyPost Try.prog fn Q .ret a ((((w1.setCell ⟨g, 0, none⟩ v0).setCell ⟨g, 1, none⟩ v1).setCell ⟨g, 2, none⟩ v2).setCell ⟨g, 3, none⟩ v3) :=
  bodyPost_ret (results_two (q := q) (r := r) (ty := 39) hfn ha hr (load_views _ g t v0 v1 v2 v3 (set_four hc hb v0 v1 v2 v3).1)) hd (hQ _ (set_four hc hb v0 v1 v2 v3).2)
theorem lists_ok (w : World) : Calls Try.prog 27 #[] w fun e w' => e = .returned (.agg #[.func (.func 37) #[] #[], .func (.func 38) #[] #[], .func (.func 39) #[] #[], .func (.func 40) #[] #[]]) ∧ Keeps None w w' := by
  have hb := blk_new w (.cells #[.func (.func 37) #[] #[], .func (.func 38) #[] #[], .func (.func 39) #[] #[], .func (.func 40) #[] #[]] 65) w.heap.size rfl
  have hl := load_kind _ _ _ _ _ _ _ hb
  have hk := Keeps.alloc None w (.cells #[.func (.func 37) #[] #[], .func (.func 38) #[] #[], .func (.func 39) #[] #[], .func (.func 40) #[] #[]] 65)
  have HF : Hid _ := hl
  have HK : Hid _ := hk
  clear hb hl hk
  go_enter Try.func27, Try.ntmps27
  go_wp2_with fail
  exact bodyPost_ret (results_one (q := 0) (ty := 65) rfl rfl HF.out) rfl ⟨rfl, HK.out⟩
def finPS (l : List Dd) (st : List Bool) (pk : List Int) : PS := ⟨(endMS listK st (l.map dp) pk).vs, [], (endMS listK st (l.map dp) pk).pk, (endHS listK st (l.map dp) pk).spn, (endMS listK st (l.map dp) pk).mg, (endHS listK st (l.map dp) pk).lk⟩
theorem play_raw (a : Option Addr) (n c : Nat) (l : List Dd) (sa : Option Addr) (m sc : Nat) (st : List Bool) (pa : Option Addr) (k pc : Nat) (pk : List Int) (w : World) (hS : Seen w a n l) (hT : SeenV w sa m (bv' st)) (hP : SeenV w pa k (iv pk)) (hpc : k ≤ pc) (hE : refE l st pk = 0) :
    Calls Try.prog 26 #[.agg #[.func (.func 37) #[] #[], .func (.func 38) #[] #[], .func (.func 39) #[] #[], .func (.func 40) #[] #[]], .slice a n c, .slice sa m sc, .slice pa k pc] w fun e w' =>
      ∃ pb X K R, e = .returned (.pointer (some ⟨pb, 0, none⟩)) ∧ PM w' w.heap.size pb st X K R R (finPS l st pk) ∧ Keeps None w w' := by
  have h1 : ¬ (l.length > 4096 ∨ st.length > 4096 ∨ pk.length > 1048576) ∧ chkE l = 0 := by
    unfold refE at hE
    split at hE
    · omega
    · exact ⟨by assumption, hE⟩
  have hm := hT.len
  have hk := hP.len
  rw [bv_len] at hm
  rw [iv_len] at hk
  subst hm hk
  have hc : chkL l 0 0 = none := by
    have := h1.2
    unfold chkE at this
    rw [if_neg (by omega)] at this
    split at this
    · omega
    · assumption
  exact play_ok a n c l sa sc st pa pc pk w hS hT hP hpc (by have := hS.len; omega) (by omega) hc
theorem fin_pos (l : List Dd) (st : List Bool) (pk : List Int) (hc : ∀ d ∈ l.map dp, d.1 = 0 ∨ d.1 = 1 ∨ d.1 = 2 ∨ d.1 = 3 ∨ d.1 = 4) : 0 < (finPS l st pk).vs.length := by
  show 0 < (endMS listK st (l.map dp) pk).vs.length
  rw [made_all listK st (l.map dp) pk hc]
  omega
theorem kinds_of {l : List Dd} {i d : Nat} (h : chkL l i d = none) : KindsOk (l.map dp) := by
  induction l generalizing i d with
  | nil => intro x hx; simp at hx
  | cons x l ih =>
    unfold chkL at h
    by_cases hb : badK x.k d = true
    · rw [if_pos hb] at h; cases h
    · rw [if_neg hb] at h
      intro y hy
      rw [List.map_cons] at hy
      rcases List.mem_cons.1 hy with rfl | hy
      · exact (badK_ok hb).1
      · exact ih h y hy
theorem refE_ok {l : List Dd} {st : List Bool} {pk : List Int} (hE : refE l st pk = 0) : l.length ≤ 4096 ∧ st.length ≤ 4096 ∧ pk.length ≤ 1048576 ∧ chkL l 0 0 = none := by
  unfold refE at hE
  split at hE
  · omega
  · refine ⟨by omega, by omega, by omega, ?_⟩
    unfold chkE at hE
    rw [if_neg (by omega)] at hE
    split at hE
    · omega
    · assumption
/-- What a play has told, in memory. -/
structure Fin (w : World) (B : Nat) (X : PX) (K : Ky → Value) (s : PS) : Prop where
  vw : Vw w B X.va X.vc X.la X.lc K s.vs s.lk
  mg : w.ownsRow B 43 3 (.slice X.ma s.mg.length X.mc) s.mg.length (mgV s.mg)
theorem Fin.kept {S : Nat → Prop} {w w' : World} {B : Nat} {X : PX} {K : Ky → Value} {s : PS} (h : Fin w B X K s) (hk : Keeps S w w') (hS : ∀ i, B ≤ i → i < w.heap.size → ¬ S i) : Fin w' B X K s :=
  ⟨⟨fun k => row_kept (h.vw.rows k) hk (fun b e => hS b (row_low (h.vw.rows k) e) (own_lt (h.vw.rows k) e)), h.vw.apart, row_kept h.vw.views hk (fun b e => hS b (row_low h.vw.views e) (own_lt h.vw.views e)), row_kept h.vw.looks hk (fun b e => hS b (row_low h.vw.looks e) (own_lt h.vw.looks e)), h.vw.vl⟩, row_kept h.mg hk (fun b e => hS b (row_low h.mg e) (own_lt h.mg e))⟩
theorem Fin.more {w w' : World} {B : Nat} {X : PX} {K : Ky → Value} {s : PS} (h : Fin w B X K s) (hk : Keeps None w w') : Fin w' B X K s := h.kept hk (fun _ _ _ f => f)
theorem PM.fin {w : World} {base pb : Nat} {st : List Bool} {X : PX} {K : Ky → Value} {H R : Nat → Value} {s : PS} (h : PM w base pb st X K H R s) : Fin w base X K s := ⟨h.vw, h.mg⟩
set_option maxHeartbeats 1600000 in
theorem Play_ok (a : Option Addr) (n c : Nat) (l : List Dd) (sa : Option Addr) (m sc : Nat) (st : List Bool) (pa : Option Addr) (k pc : Nat) (pk : List Int) (w : World) (hS : Seen w a n l) (hT : SeenV w sa m (bv' st)) (hP : SeenV w pa k (iv pk)) (hpc : k ≤ pc) :
    Calls Try.prog 16 #[.slice a n c, .slice sa m sc, .slice pa k pc] w fun e w' =>
      (refE l st pk ≠ 0 → e = .returned (.tuple #[.agg #[.slice none 0 0, .int .i64 0, .slice none 0 0, .slice none 0 0], .int .i64 (refE l st pk)])) ∧
      (refE l st pk = 0 → ∃ B X K, e = .returned (.tuple #[.agg #[K (.inl 0), .int .i64 (finPS l st pk).vs.length, .slice X.ma (finPS l st pk).mg.length X.mc, .slice X.la (finPS l st pk).lk.length X.lc], .int .i64 0]) ∧ w.heap.size ≤ B ∧ Fin w' B X K (finPS l st pk)) ∧ Keeps None w w' := by
  have HS : Hid (Seen w a n l ∧ SeenV w sa m (bv' st) ∧ SeenV w pa k (iv pk)) := ⟨hS, hT, hP⟩
  have hm := hT.len
  have hk := hP.len
  rw [bv_len] at hm
  rw [iv_len] at hk
  have HL : Hid (m = st.length ∧ k = pk.length ∧ k ≤ pc) := ⟨hm, hk, hpc⟩
  clear hS hT hP hm hk hpc
  have hb0 := blk_new w (.cells #[.slice none 0 0, .int .i64 0, .slice none 0 0, .slice none 0 0] 39) w.heap.size rfl
  have hkb := Keeps.alloc None w (.cells #[.slice none 0 0, .int .i64 0, .slice none 0 0, .slice none 0 0] 39)
  obtain ⟨db, hdb⟩ : ∃ db, db = w.heap.size := ⟨_, rfl⟩
  rw [← hdb] at hb0
  go_enter Try.func16, Try.ntmps16
  go_upto_region 1 with fail
  rw [← hdb]
  have HDB : Hid (db = w.heap.size) := hdb
  clear hdb
  generalize w.alloc (.cells #[.slice none 0 0, .int .i64 0, .slice none 0 0, .slice none 0 0] 39) = wa at *
  have HA : Hid (wa.heap[db]? = some (.cells #[.slice none 0 0, .int .i64 0, .slice none 0 0, .slice none 0 0] 39 (0, 0)) ∧ Keeps None w wa) := ⟨hb0, hkb⟩
  clear hb0 hkb
  go_wp2_with fail
  refine (refused_ok a n c l sa m sc st pa k pc pk wa (HS.out.1.more HA.out.2) HL.out.1 HL.out.2.1).mono ?_
  rintro e w1 ⟨rfl, hk1⟩
  have HB : Hid (w1.heap[db]? = some (.cells #[.slice none 0 0, .int .i64 0, .slice none 0 0, .slice none 0 0] 39 (0, 0)) ∧ Keeps None w w1) := ⟨blk_kept HA.out.1 hk1 (fun f => f), HA.out.2.trans hk1 (fun _ f _ => f)⟩
  clear hk1 HA
  obtain ⟨E, hE⟩ : ∃ E, E = refE l st pk := ⟨_, rfl⟩
  rw [← hE]
  have HE : Hid (E = refE l st pk) := hE
  clear hE
  by_cases h0 : E = 0
  · subst h0
    go_wp2_with fail
    refine (lists_ok w1).mono ?_
    rintro e w2 ⟨rfl, hk2⟩
    have HC : Hid (w2.heap[db]? = some (.cells #[.slice none 0 0, .int .i64 0, .slice none 0 0, .slice none 0 0] 39 (0, 0)) ∧ Keeps None w w2) := ⟨blk_kept HB.out.1 hk2 (fun f => f), HB.out.2.trans hk2 (fun _ f _ => f)⟩
    clear hk2 HB
    go_wp2_with fail
    refine (play_raw a n c l sa m sc st pa k pc pk w2 (HS.out.1.more HC.out.2) (HS.out.2.1.more HC.out.2) (HS.out.2.2.more HC.out.2) HL.out.2.2 HE.out.symm).mono ?_
    rintro e w3 ⟨pb, X, K0, R, rfl, hM, hk3⟩
    obtain ⟨S, hSS⟩ : ∃ S, S = finPS l st pk := ⟨_, rfl⟩
    rw [← hSS] at hM
    have HSq : Hid (S = finPS l st pk) := hSS
    have hpos : 0 < S.vs.length := by rw [hSS]; exact fin_pos l st pk (kinds_of (refE_ok HE.out.symm).2.2.2)
    obtain ⟨vb, hva, hvc, u1, -⟩ := hM.viewAt hpos
    obtain ⟨-, -, -, -, -, -, q6, -, -, q9, q10⟩ := hM.c0
    rw [hva] at q6
    have HVA : Hid (X.va = some ⟨vb, 0, none⟩) := hva
    have hr0 := hM.vw.rows (.inl 0)
    obtain ⟨va, vc, hv0⟩ := row_shape hr0
    rw [hv0] at u1
    have HM : Hid (PM w3 w2.heap.size pb st X K0 R R S ∧ w3.heap[db]? = some (.cells #[.slice none 0 0, .int .i64 0, .slice none 0 0, .slice none 0 0] 39 (0, 0)) ∧ Keeps None w w3 ∧ K0 (.inl 0) = .slice va (Lf S.vs S.lk (.inl 0)).length vc ∧ w.heap.size ≤ w2.heap.size ∧ db < w2.heap.size) := ⟨hM, blk_kept HC.out.1 hk3 (fun f => f), HC.out.2.trans hk3 (fun _ f _ => f), hv0, HC.out.2.size, blk_lt HC.out.1⟩
    obtain ⟨N0, hN0⟩ : ∃ N, N = (Lf S.vs S.lk (.inl 0)).length := ⟨_, rfl⟩
    rw [← hN0] at u1 HM
    have hi0 : (0 : Int) < (S.vs.length : Int) := by omega
    clear hM hr0 hv0 hva hvc hk3 HC hN0 HS HL hSS
    go_upto_region 5 with fail
    have g0 : w3.cell? ⟨db, 0, none⟩ = some (.slice none 0 0) := blk_cell HM.out.2.1 0
    have g1 : w3.cell? ⟨db, 1, none⟩ = some (.int .i64 0) := blk_cell HM.out.2.1 1
    have g2 : w3.cell? ⟨db, 2, none⟩ = some (.slice none 0 0) := blk_cell HM.out.2.1 2
    have g3 : w3.cell? ⟨db, 3, none⟩ = some (.slice none 0 0) := blk_cell HM.out.2.1 3
    have f0 := blk_free HM.out.2.1 0
    have f1 := blk_free HM.out.2.1 1
    have f2 := blk_free HM.out.2.1 2
    have f3 := blk_free HM.out.2.1 3
    have hk4 := (set_four (w1 := w3.drew) (g := db) (c := #[.slice none 0 0, .int .i64 0, .slice none 0 0, .slice none 0 0]) (t := 39) rfl HM.out.2.1 (.slice va N0 vc) (.int .i64 S.vs.length) (.slice X.ma S.mg.length X.mc) (.slice X.la S.lk.length X.lc)).2
    have hdp : ¬ pb = db := by
      intro e
      have := HM.out.1.low
      have := HM.out.2.2.2.2.2
      omega
    have hdv : ¬ vb = db := by
      intro e
      have h1 := HM.out.1.vw.views
      obtain ⟨g', e2, h2, -⟩ := own_cellS h1 (k := 0) (range_get _ hpos)
      have := HM.out.2.2.2.2.2
      have h3 := HVA.out.symm.trans e2
      injection h3 with h3
      injection h3 with h3
      omega
    have k6 := hk4.cell (show w3.drew.cell? ⟨pb, 6, none⟩ = _ from q6) hdp
    have k9 := hk4.cell (show w3.drew.cell? ⟨pb, 9, none⟩ = _ from q9) hdp
    have k10 := hk4.cell (show w3.drew.cell? ⟨pb, 10, none⟩ = _ from q10) hdp
    have kv := hk4.cell (show w3.drew.cell? ⟨vb, 0, none⟩ = _ from u1) hdv
    clear hk4
    refine wp_region_held_drew (S := (fun w' => w'.cell? ⟨pb, 6, none⟩ = some (.slice (some ⟨vb, 0, none⟩) S.vs.length X.vc) ∧ w'.cell? ⟨pb, 9, none⟩ = some (.slice X.ma S.mg.length X.mc) ∧ w'.cell? ⟨pb, 10, none⟩ = some (.slice X.la S.lk.length X.lc) ∧ w'.cell? ⟨vb, 0, none⟩ = some (.slice va N0 vc))) (by kernel_rfl) ?_ (fun hHeld => ?_)
    · (try dsimp only); first | with_reducible exact ⟨q6, q9, q10, u1⟩ | with_reducible exact ⟨k6, k9, k10, kv⟩ | exact ⟨q6, q9, q10, u1⟩ | exact ⟨k6, k9, k10, kv⟩
    refine wpAnyH_take (i := 0) (oi := { dst := some 23, op := Op.move (Operand.tmp 9), type := 58, pos := "hyper.go:16", after := #[], guard := none }) (v := ?_) rfl (by kernel_rfl) (by kernel_rfl) (by kernel_rfl) (fun _ _ _ h => h) (Or.inl ⟨by rfl, ?_⟩) (by assumption) ?_
    rotate_left
    · (intro wz hSw; (try dsimp only at hSw); go_simp; try with_reducible rfl)
    simp only [Act.put, List.setIfInBounds_toArray, List.set_cons_zero, List.set_cons_succ]
    refine wpAnyH_take (i := 1) (oi := { dst := some 24, op := Op.nilCheck (Operand.tmp 23), type := 0, pos := "hyper.go:16", after := #[{ on := 0, ground := Ground.data }], guard := none }) (v := ?_) rfl (by kernel_rfl) (by kernel_rfl) (by kernel_rfl) (fun _ _ _ h => h) (Or.inl ⟨by rfl, ?_⟩) (by assumption) ?_
    rotate_left
    · (intro wz hSw; (try dsimp only at hSw); go_simp; try with_reducible rfl)
    simp only [Act.put, List.setIfInBounds_toArray, List.set_cons_zero, List.set_cons_succ]
    refine wpAnyH_take (i := 2) (oi := { dst := some 25, op := Op.fieldAddr 69 (Operand.tmp 24) 3, type := 0, pos := "hyper.go:16", after := #[{ on := 1, ground := Ground.data }], guard := none }) (v := ?_) rfl (by kernel_rfl) (by kernel_rfl) (by kernel_rfl) (fun _ _ _ h => h) (Or.inl ⟨by rfl, ?_⟩) (by assumption) ?_
    rotate_left
    · (intro wz hSw; (try dsimp only at hSw); go_simp; try with_reducible rfl)
    simp only [Act.put, List.setIfInBounds_toArray, List.set_cons_zero, List.set_cons_succ]
    refine wpAnyH_take (i := 3) (oi := { dst := some 26, op := Op.load 37 (Operand.tmp 25), type := 37, pos := "hyper.go:16", after := #[{ on := 2, ground := Ground.data }], guard := none }) (v := ?_) rfl (by kernel_rfl) (by kernel_rfl) (by kernel_rfl) (fun _ _ _ h => h) (Or.inl ⟨by rfl, ?_⟩) (by assumption) ?_
    rotate_left
    · (intro wz hSw; (try dsimp only at hSw); go_simp; try with_reducible rfl)
    simp only [Act.put, List.setIfInBounds_toArray, List.set_cons_zero, List.set_cons_succ]
    refine wpAnyH_take (i := 4) (oi := { dst := some 27, op := Op.indexAddr 37 (Operand.tmp 26) (Operand.const (Value.int IntKind.i64 0)), type := 0, pos := "hyper.go:16", after := #[{ on := 3, ground := Ground.data }], guard := none }) (v := ?_) rfl (by kernel_rfl) (by kernel_rfl) (by kernel_rfl) (fun _ _ _ h => h) (Or.inl ⟨by rfl, ?_⟩) (by assumption) ?_
    rotate_left
    · (intro wz hSw; (try dsimp only at hSw); go_simp; try with_reducible rfl)
    simp only [Act.put, List.setIfInBounds_toArray, List.set_cons_zero, List.set_cons_succ]
    refine wpAnyH_take (i := 5) (oi := { dst := some 28, op := Op.load 28 (Operand.tmp 27), type := 28, pos := "hyper.go:16", after := #[{ on := 4, ground := Ground.data }], guard := none }) (v := ?_) rfl (by kernel_rfl) (by kernel_rfl) (by kernel_rfl) (fun _ _ _ h => h) (Or.inl ⟨by rfl, ?_⟩) (by assumption) ?_
    rotate_left
    · (intro wz hSw; (try dsimp only at hSw); go_simp; try with_reducible rfl)
    simp only [Act.put, List.setIfInBounds_toArray, List.set_cons_zero, List.set_cons_succ]
    refine wpAnyH_take (i := 6) (oi := { dst := some 29, op := Op.move (Operand.tmp 9), type := 58, pos := "hyper.go:16", after := #[], guard := none }) (v := ?_) rfl (by kernel_rfl) (by kernel_rfl) (by kernel_rfl) (fun _ _ _ h => h) (Or.inl ⟨by rfl, ?_⟩) (by assumption) ?_
    rotate_left
    · (intro wz hSw; (try dsimp only at hSw); go_simp; try with_reducible rfl)
    simp only [Act.put, List.setIfInBounds_toArray, List.set_cons_zero, List.set_cons_succ]
    refine wpAnyH_take (i := 7) (oi := { dst := some 30, op := Op.nilCheck (Operand.tmp 29), type := 0, pos := "hyper.go:16", after := #[{ on := 6, ground := Ground.data }], guard := none }) (v := ?_) rfl (by kernel_rfl) (by kernel_rfl) (by kernel_rfl) (fun _ _ _ h => h) (Or.inl ⟨by rfl, ?_⟩) (by assumption) ?_
    rotate_left
    · (intro wz hSw; (try dsimp only at hSw); go_simp; try with_reducible rfl)
    simp only [Act.put, List.setIfInBounds_toArray, List.set_cons_zero, List.set_cons_succ]
    refine wpAnyH_take (i := 8) (oi := { dst := some 31, op := Op.fieldAddr 69 (Operand.tmp 30) 3, type := 0, pos := "hyper.go:16", after := #[{ on := 7, ground := Ground.data }], guard := none }) (v := ?_) rfl (by kernel_rfl) (by kernel_rfl) (by kernel_rfl) (fun _ _ _ h => h) (Or.inl ⟨by rfl, ?_⟩) (by assumption) ?_
    rotate_left
    · (intro wz hSw; (try dsimp only at hSw); go_simp; try with_reducible rfl)
    simp only [Act.put, List.setIfInBounds_toArray, List.set_cons_zero, List.set_cons_succ]
    refine wpAnyH_take (i := 9) (oi := { dst := some 32, op := Op.load 37 (Operand.tmp 31), type := 37, pos := "hyper.go:16", after := #[{ on := 8, ground := Ground.data }], guard := none }) (v := ?_) rfl (by kernel_rfl) (by kernel_rfl) (by kernel_rfl) (fun _ _ _ h => h) (Or.inl ⟨by rfl, ?_⟩) (by assumption) ?_
    rotate_left
    · (intro wz hSw; (try dsimp only at hSw); go_simp; try with_reducible rfl)
    simp only [Act.put, List.setIfInBounds_toArray, List.set_cons_zero, List.set_cons_succ]
    refine wpAnyH_take (i := 11) (oi := { dst := some 34, op := Op.move (Operand.tmp 9), type := 58, pos := "hyper.go:16", after := #[], guard := none }) (v := ?_) rfl (by kernel_rfl) (by kernel_rfl) (by kernel_rfl) (fun _ _ _ h => h) (Or.inl ⟨by rfl, ?_⟩) (by assumption) ?_
    rotate_left
    · (intro wz hSw; (try dsimp only at hSw); go_simp; try with_reducible rfl)
    simp only [Act.put, List.setIfInBounds_toArray, List.set_cons_zero, List.set_cons_succ]
    refine wpAnyH_take (i := 12) (oi := { dst := some 35, op := Op.nilCheck (Operand.tmp 34), type := 0, pos := "hyper.go:16", after := #[{ on := 11, ground := Ground.data }], guard := none }) (v := ?_) rfl (by kernel_rfl) (by kernel_rfl) (by kernel_rfl) (fun _ _ _ h => h) (Or.inl ⟨by rfl, ?_⟩) (by assumption) ?_
    rotate_left
    · (intro wz hSw; (try dsimp only at hSw); go_simp; try with_reducible rfl)
    simp only [Act.put, List.setIfInBounds_toArray, List.set_cons_zero, List.set_cons_succ]
    refine wpAnyH_take (i := 13) (oi := { dst := some 36, op := Op.fieldAddr 69 (Operand.tmp 35) 6, type := 0, pos := "hyper.go:16", after := #[{ on := 12, ground := Ground.data }], guard := none }) (v := ?_) rfl (by kernel_rfl) (by kernel_rfl) (by kernel_rfl) (fun _ _ _ h => h) (Or.inl ⟨by rfl, ?_⟩) (by assumption) ?_
    rotate_left
    · (intro wz hSw; (try dsimp only at hSw); go_simp; try with_reducible rfl)
    simp only [Act.put, List.setIfInBounds_toArray, List.set_cons_zero, List.set_cons_succ]
    refine wpAnyH_take (i := 14) (oi := { dst := some 37, op := Op.load 36 (Operand.tmp 36), type := 36, pos := "hyper.go:16", after := #[{ on := 13, ground := Ground.data }], guard := none }) (v := ?_) rfl (by kernel_rfl) (by kernel_rfl) (by kernel_rfl) (fun _ _ _ h => h) (Or.inl ⟨by rfl, ?_⟩) (by assumption) ?_
    rotate_left
    · (intro wz hSw; (try dsimp only at hSw); go_simp; try with_reducible rfl)
    simp only [Act.put, List.setIfInBounds_toArray, List.set_cons_zero, List.set_cons_succ]
    refine wpAnyH_take (i := 15) (oi := { dst := some 38, op := Op.move (Operand.tmp 9), type := 58, pos := "hyper.go:16", after := #[], guard := none }) (v := ?_) rfl (by kernel_rfl) (by kernel_rfl) (by kernel_rfl) (fun _ _ _ h => h) (Or.inl ⟨by rfl, ?_⟩) (by assumption) ?_
    rotate_left
    · (intro wz hSw; (try dsimp only at hSw); go_simp; try with_reducible rfl)
    simp only [Act.put, List.setIfInBounds_toArray, List.set_cons_zero, List.set_cons_succ]
    refine wpAnyH_take (i := 16) (oi := { dst := some 39, op := Op.nilCheck (Operand.tmp 38), type := 0, pos := "hyper.go:16", after := #[{ on := 15, ground := Ground.data }], guard := none }) (v := ?_) rfl (by kernel_rfl) (by kernel_rfl) (by kernel_rfl) (fun _ _ _ h => h) (Or.inl ⟨by rfl, ?_⟩) (by assumption) ?_
    rotate_left
    · (intro wz hSw; (try dsimp only at hSw); go_simp; try with_reducible rfl)
    simp only [Act.put, List.setIfInBounds_toArray, List.set_cons_zero, List.set_cons_succ]
    refine wpAnyH_take (i := 17) (oi := { dst := some 40, op := Op.fieldAddr 69 (Operand.tmp 39) 7, type := 0, pos := "hyper.go:16", after := #[{ on := 16, ground := Ground.data }], guard := none }) (v := ?_) rfl (by kernel_rfl) (by kernel_rfl) (by kernel_rfl) (fun _ _ _ h => h) (Or.inl ⟨by rfl, ?_⟩) (by assumption) ?_
    rotate_left
    · (intro wz hSw; (try dsimp only at hSw); go_simp; try with_reducible rfl)
    simp only [Act.put, List.setIfInBounds_toArray, List.set_cons_zero, List.set_cons_succ]
    refine wpAnyH_take (i := 18) (oi := { dst := some 41, op := Op.load 37 (Operand.tmp 40), type := 37, pos := "hyper.go:16", after := #[{ on := 17, ground := Ground.data }], guard := none }) (v := ?_) rfl (by kernel_rfl) (by kernel_rfl) (by kernel_rfl) (fun _ _ _ h => h) (Or.inl ⟨by rfl, ?_⟩) (by assumption) ?_
    rotate_left
    · (intro wz hSw; (try dsimp only at hSw); go_simp; try with_reducible rfl)
    simp only [Act.put, List.setIfInBounds_toArray, List.set_cons_zero, List.set_cons_succ]
    refine wpAnyH_ready (rs := [10]) (by kernel_rfl) (by simp) ?_
    refine AllReadyH.cons (o := { dst := some 33, op := Op.call { callee := Callee.builtin Builtin.len, args := #[Operand.tmp 32], argTypes := #[37] }, type := 3, pos := "hyper.go:16", after := #[{ on := 9, ground := Ground.data }], guard := none }) rfl (fun K hK => ?_) ?_
    · go_simp
      refine hK.out _ _ ?_ (fun hHeld2 => ?_)
      · (try dsimp only); first | with_reducible exact ⟨q6, q9, q10, u1⟩ | with_reducible exact ⟨k6, k9, k10, kv⟩ | exact ⟨q6, q9, q10, u1⟩ | exact ⟨k6, k9, k10, kv⟩
      clear hK K
      try simp only [Act.put, List.setIfInBounds_toArray, List.set_cons_zero, List.set_cons_succ]
      refine wpAnyH_take (i := 19) (oi := { dst := some 42, op := Op.build 39 #[(0, Operand.tmp 28), (1, Operand.tmp 33), (2, Operand.tmp 37), (3, Operand.tmp 41)], type := 39, pos := "hyper.go:16", after := #[{ on := 5, ground := Ground.data }, { on := 10, ground := Ground.data }, { on := 14, ground := Ground.data }, { on := 18, ground := Ground.data }], guard := none }) (v := ?_) rfl (by kernel_rfl) (by kernel_rfl) (by kernel_rfl) (fun _ _ _ h => h) (Or.inl ⟨by rfl, ?_⟩) (by assumption) ?_
      rotate_left
      · (intro wz hSw; (try dsimp only at hSw); go_simp; try with_reducible rfl)
      simp only [Act.put, List.setIfInBounds_toArray, List.set_cons_zero, List.set_cons_succ]
      refine wpAnyH_ready (rs := [20]) (by kernel_rfl) (by simp) ?_
      refine AllReadyH.cons (o := { dst := none, op := Op.store 39 (Operand.tmp 6) (Operand.tmp 42), type := 0, pos := "hyper.go:16", after := #[{ on := 19, ground := Ground.data }, { on := 0, ground := Ground.phase }, { on := 1, ground := Ground.phase }, { on := 2, ground := Ground.phase }, { on := 3, ground := Ground.phase }, { on := 4, ground := Ground.phase }, { on := 5, ground := Ground.phase }, { on := 6, ground := Ground.phase }, { on := 7, ground := Ground.phase }, { on := 8, ground := Ground.phase }, { on := 9, ground := Ground.phase }, { on := 10, ground := Ground.phase }, { on := 11, ground := Ground.phase }, { on := 12, ground := Ground.phase }, { on := 13, ground := Ground.phase }, { on := 14, ground := Ground.phase }, { on := 15, ground := Ground.phase }, { on := 16, ground := Ground.phase }, { on := 17, ground := Ground.phase }, { on := 18, ground := Ground.phase }, { on := 19, ground := Ground.phase }], guard := none }) rfl (fun K hK => ?_) ?_
      · go_simp
        refine hK.out _ _ ?_ (fun hHeld2 => ?_)
        · (try dsimp only); first | with_reducible exact ⟨q6, q9, q10, u1⟩ | with_reducible exact ⟨k6, k9, k10, kv⟩ | exact ⟨q6, q9, q10, u1⟩ | exact ⟨k6, k9, k10, kv⟩
        clear hK K
        try simp only [Act.put, List.setIfInBounds_toArray, List.set_cons_zero, List.set_cons_succ]
        refine wpAnyH_take (i := 21) (oi := { dst := some 7, op := Op.assign (Operand.const (Value.int IntKind.i64 0)), type := 29, pos := "hyper.go:16", after := #[{ on := 20, ground := Ground.chain }, { on := 0, ground := Ground.phase }, { on := 1, ground := Ground.phase }, { on := 2, ground := Ground.phase }, { on := 3, ground := Ground.phase }, { on := 4, ground := Ground.phase }, { on := 5, ground := Ground.phase }, { on := 6, ground := Ground.phase }, { on := 7, ground := Ground.phase }, { on := 8, ground := Ground.phase }, { on := 9, ground := Ground.phase }, { on := 10, ground := Ground.phase }, { on := 11, ground := Ground.phase }, { on := 12, ground := Ground.phase }, { on := 13, ground := Ground.phase }, { on := 14, ground := Ground.phase }, { on := 15, ground := Ground.phase }, { on := 16, ground := Ground.phase }, { on := 17, ground := Ground.phase }, { on := 18, ground := Ground.phase }, { on := 19, ground := Ground.phase }, { on := 20, ground := Ground.phase }], guard := none }) (v := ?_) rfl (by kernel_rfl) (by kernel_rfl) (by kernel_rfl) (fun _ _ _ h => h) (Or.inl ⟨by rfl, ?_⟩) (by assumption) ?_
        rotate_left
        · (intro wz hSw; (try dsimp only at hSw); go_simp; try with_reducible rfl)
        simp only [Act.put, List.setIfInBounds_toArray, List.set_cons_zero, List.set_cons_succ]
        refine wpAnyH_done (by kernel_rfl) ?_ _
        go_wp2_with fail
        exact views_end (w1 := w3.drew) (u := .int .i64 0) 6 7 rfl rfl HM.out.2.1 rfl rfl rfl (.slice va N0 vc) (.int .i64 S.vs.length) (.slice X.ma S.mg.length X.mc) (.slice X.la S.lk.length X.lc) (fun w' hk => ⟨fun h => absurd HE.out.symm h, fun _ => ⟨w2.heap.size, X, K0, by rw [HM.out.2.2.2.1, HSq.out], HM.out.2.2.2.2.1, by rw [← HSq.out]; exact (HM.out.1.more (Keeps.drew None _)).fin.kept hk (fun i h1 _ e => by have := HM.out.2.2.2.2.2; omega)⟩, (HM.out.2.2.1.andDrew).trans hk (fun i e hi => by have := HDB.out; omega)⟩)
      exact AllReadyH.nil
    exact AllReadyH.nil
  · have hf : (E != 0) = true := by simp [h0]
    have HB2 := HB.out.1
    have c0 : w1.cell? ⟨db, 0, none⟩ = some (.slice none 0 0) := blk_cell HB2 0
    have c1 : w1.cell? ⟨db, 1, none⟩ = some (.int .i64 0) := blk_cell HB2 1
    have c2 : w1.cell? ⟨db, 2, none⟩ = some (.slice none 0 0) := blk_cell HB2 2
    have c3 : w1.cell? ⟨db, 3, none⟩ = some (.slice none 0 0) := blk_cell HB2 3
    have f0 := blk_free HB2 0
    have f1 := blk_free HB2 1
    have f2 := blk_free HB2 2
    have f3 := blk_free HB2 3
    clear HB2 hf
    go_wp2_with fail
    exact views_end (u := .int .i64 E) 6 7 rfl rfl HB.out.1 rfl rfl rfl (.slice none 0 0) (.int .i64 0) (.slice none 0 0) (.slice none 0 0) (fun w' hk => ⟨fun _ => by rw [← HE.out], fun h => absurd (HE.out.trans h) h0, HB.out.2.trans hk (fun i e hi => by have := HDB.out; omega)⟩)
end Go.Proofs.Ytdiabpoafennlaa
/-! What is put, in the serial order: the program's Serial and the document's. -/
namespace Go.Proofs.Ytdiabpoafennlaa
set_option linter.unusedVariables false
set_option maxRecDepth 20000
set_option linter.unusedSimpArgs false
open Go.RowKit Go.HeapKit

/-- What is put by deeds. -/
def putsD (l : List Dd) : List Int := (l.filter (fun d => d.k == 4)).map (·.loc)
theorem putsD_app (a b : List Dd) : putsD (a ++ b) = putsD a ++ putsD b := by simp [putsD]
theorem takeD {l : List Dd} {k : Nat} {x : Dd} (hx : l[k]? = some x) : l.take (k + 1) = l.take k ++ [x] := by
  rw [List.take_add_one, hx]
  rfl
theorem putsD_more {l : List Dd} {k : Nat} {x : Dd} (hx : l[k]? = some x) : putsD (l.take (k + 1)) = putsD (l.take k) ++ if x.k = 4 then [x.loc] else [] := by
  rw [takeD hx, putsD_app]
  by_cases h : x.k = 4 <;> simp [putsD, h]
theorem putsD_len (l : List Dd) : (putsD l).length ≤ l.length := by
  unfold putsD
  rw [List.length_map]
  exact List.length_filter_le _ _
theorem check_two (a : Option Addr) (n c : Nat) (l : List Dd) (w : World) (hS : Seen w a n l) :
    Calls Try.prog 23 #[.slice a n c] w fun e w' => e = .returned (.agg #[.int .i64 (chkE l), .int .i64 (chkA l)]) ∧ Keeps None w w' := check_ok a n c l w hS
theorem rcheck_two (a : Option Addr) (n c : Nat) (l : List Dd) (w : World) (hS : Seen w a n l) :
    Calls Try.prog 24 #[.slice a n c] w fun e w' => e = .returned (.agg #[.int .i64 (chkE l), .int .i64 (chkA l)]) ∧ Keeps None w w' := rcheck_ok a n c l w hS
theorem chkE_ok {l : List Dd} (h : chkE l = 0) : l.length ≤ 4096 := by
  by_cases hl : l.length > 4096
  · have := (chk_long hl).1; omega
  · omega
set_option maxHeartbeats 1600000 in
theorem serial_ok (a : Option Addr) (n c : Nat) (l : List Dd) (w : World) (hS : Seen w a n l) :
    Calls Try.prog 10 #[.slice a n c] w fun e w' => ∃ v, e = .returned (.tuple #[v, .int .i64 (chkE l)]) ∧ (chkE l ≠ 0 → v = .slice none 0 0) ∧ (chkE l = 0 → w'.ownsRow w.heap.size 2 1 v (putsD l).length (iv (putsD l))) ∧ Keeps None w w' := by
  have HS : Hid (Seen w a n l) := hS
  have HLen : Hid (n = l.length) := hS.len
  clear hS
  go_enter Try.func10, Try.ntmps10
  go_wp2_with fail
  refine (check_two a n c l w HS.out).mono ?_
  rintro e w1 ⟨rfl, hk1⟩
  obtain ⟨E, hE⟩ : ∃ E, E = chkE l := ⟨_, rfl⟩
  obtain ⟨A1, hA⟩ : ∃ A1, A1 = chkA l := ⟨_, rfl⟩
  rw [← hE, ← hA]
  have HE : Hid (E = chkE l) := hE
  clear hE hA
  have b2 := heap_alloc_new w1 (.cells #[.int .i64 E, .int .i64 A1] 55)
  have k2 := hk1.andAlloc (.cells #[.int .i64 E, .int .i64 A1] 55)
  have g0 : (w1.alloc (.cells #[.int .i64 E, .int .i64 A1] 55)).cell? ⟨w1.heap.size, 0, none⟩ = some (.int .i64 E) := (blk_cell b2 0).trans rfl
  by_cases h0 : E = 0
  · subst h0
    have hl : l.length ≤ 4096 := chkE_ok HE.out.symm
    have hn : n ≤ 4096 := by have := HLen.out; omega
    have HK : Hid (Keeps None w (w1.alloc (.cells #[.int .i64 0, .int .i64 A1] 55))) := k2
    clear hk1 b2 k2
    go_wp2_with fail
    clear g0
    go_loopw [5, 17] (fun s i wr => ∃ k : Nat, k ≤ n ∧ i = .int .i64 k ∧ wr.ownsRow w.heap.size 2 1 s (putsD (l.take k)).length (iv (putsD (l.take k))) ∧ Keeps None w wr) (fun _ i _ => n - (intOf i).toNat)
    case atStart => exact ⟨0, Nat.zero_le _, rfl, row_nil _ _ _ _, HK.out⟩
    case round =>
      obtain ⟨k, hk, rfl, hrow, hkp⟩ := hrel
      have hlen := HLen.out
      obtain ⟨sa, cs, rfl⟩ := row_shape hrow
      by_cases hkn : k < n
      · obtain ⟨b, off, x, rfl, hb, hx, u0, u1⟩ := (HS.out.more hkp).elem hkn
        have i2 : (k : Int) < (n : Int) := by omega
        have hm := putsD_more hx
        obtain ⟨xk, xl⟩ := x
        by_cases e4 : xk = 4
        · subst e4
          have hbn : (((wr.alloc (.cells #[.int .i64 4, .int .i64 xl] 45)).alloc (.cells #[.int .i64 xl] 2))).heap[wr.heap.size + 1]? = some (.cells #[.int .i64 xl] 2 (0, 0)) := blk_new _ _ _ (by simp)
          have hpl := putsD_len (l.take k)
          have hpl2 : (l.take k).length ≤ 4096 := by rw [List.length_take]; omega
          obtain ⟨g, cp, w2, hr, ho, hk3, hm3⟩ := i64_more w.heap.size (.slice sa _ cs) (putsD (l.take k)) xl 28 _ _ ((hrow.alloc _).alloc _) (by have := hkp.size; simp; omega) (by omega) hbn
          have HN : Hid (w2.ownsRow w.heap.size 2 1 (.slice (some ⟨g, 0, none⟩) ((putsD (l.take k)).length + 1) cp) (putsD (l.take (k + 1))).length (iv (putsD (l.take (k + 1)))) ∧ Keeps None w w2) := by
            rw [hm]
            simp only [if_true]
            exact ⟨by rw [List.length_append]; exact ho, ((hkp.andAlloc _).andAlloc _).trans hk3 (fun i e hi => by have := row_low hrow e; omega)⟩
          clear hrow hkp hx hlen hm ho hk3 hm3 hbn HK
          go_wp2_with (at_builtin; refine wpList_append_run rfl (.tmp 24) (.tmp 27) 28 28 rfl rfl rfl hr ?_)
          go_roundw
          case rel => exact ⟨k + 1, by omega, by go_num, HN.out⟩
          case measure => simp [intOf]; omega
        · have HN : Hid (wr.ownsRow w.heap.size 2 1 (.slice sa (putsD (l.take k)).length cs) (putsD (l.take (k + 1))).length (iv (putsD (l.take (k + 1)))) ∧ Keeps None w wr) := by
            rw [hm, if_neg e4, List.append_nil]
            exact ⟨hrow, hkp⟩
          clear hrow hkp hx hlen hm HK
          go_wp2
          go_roundw
          case rel => exact ⟨k + 1, by omega, by go_num, HN.out.1.alloc _, HN.out.2.andAlloc _⟩
          case measure => simp [intOf]; omega
      · have hkn2 : k = n := by omega
        subst hkn2
        have ht : l.take k = l := List.take_of_length_le (by omega)
        have HN : Hid (wr.ownsRow w.heap.size 2 1 (.slice sa (putsD (l.take k)).length cs) (putsD l).length (iv (putsD l)) ∧ Keeps None w wr) := ⟨by rw [ht] at hrow ⊢; exact hrow, hkp⟩
        clear ht
        clear hrow hkp hlen HK
        go_wp2
        go_ret2
        rw [← HE.out]
        exact ⟨_, rfl, fun h => absurd rfl h, fun _ => HN.out.1, HN.out.2⟩
  · have HK : Hid (Keeps None w (w1.alloc (.cells #[.int .i64 E, .int .i64 A1] 55))) := k2
    clear hk1 b2 k2
    go_upto_region 3 with fail
    go_quiet (fail)
    go_wp2
    go_ret2
    rw [← HE.out]
    exact ⟨_, rfl, fun _ => rfl, fun h => absurd h h0, HK.out.trans (keeps_drewN _ _) (fun _ f _ => f)⟩
set_option maxHeartbeats 1600000 in
theorem rserial_ok (a : Option Addr) (n c : Nat) (l : List Dd) (w : World) (hS : Seen w a n l) :
    Calls Try.prog 11 #[.slice a n c] w fun e w' => ∃ v, e = .returned (.tuple #[v, .int .i64 (chkE l)]) ∧ (chkE l ≠ 0 → v = .slice none 0 0) ∧ (chkE l = 0 → w'.ownsRow w.heap.size 2 1 v (putsD l).length (iv (putsD l))) ∧ Keeps None w w' := by
  have HS : Hid (Seen w a n l) := hS
  have HLen : Hid (n = l.length) := hS.len
  clear hS
  go_enter Try.func11, Try.ntmps11
  go_wp2_with fail
  refine (rcheck_two a n c l w HS.out).mono ?_
  rintro e w1 ⟨rfl, hk1⟩
  obtain ⟨E, hE⟩ : ∃ E, E = chkE l := ⟨_, rfl⟩
  obtain ⟨A1, hA⟩ : ∃ A1, A1 = chkA l := ⟨_, rfl⟩
  rw [← hE, ← hA]
  have HE : Hid (E = chkE l) := hE
  clear hE hA
  have b2 := heap_alloc_new w1 (.cells #[.int .i64 E, .int .i64 A1] 55)
  have k2 := hk1.andAlloc (.cells #[.int .i64 E, .int .i64 A1] 55)
  have g0 : (w1.alloc (.cells #[.int .i64 E, .int .i64 A1] 55)).cell? ⟨w1.heap.size, 0, none⟩ = some (.int .i64 E) := (blk_cell b2 0).trans rfl
  by_cases h0 : E = 0
  · subst h0
    have hl : l.length ≤ 4096 := chkE_ok HE.out.symm
    have hn : n ≤ 4096 := by have := HLen.out; omega
    have HK : Hid (Keeps None w (w1.alloc (.cells #[.int .i64 0, .int .i64 A1] 55))) := k2
    clear hk1 b2 k2
    go_wp2_with fail
    clear g0
    go_loopw [5, 6] (fun s i wr => ∃ k : Nat, k ≤ n ∧ i = .int .i64 k ∧ wr.ownsRow w.heap.size 2 1 s (putsD (l.take k)).length (iv (putsD (l.take k))) ∧ Keeps None w wr) (fun _ i _ => n - (intOf i).toNat)
    case atStart => exact ⟨0, Nat.zero_le _, rfl, row_nil _ _ _ _, HK.out⟩
    case round =>
      obtain ⟨k, hk, rfl, hrow, hkp⟩ := hrel
      have hlen := HLen.out
      obtain ⟨sa, cs, rfl⟩ := row_shape hrow
      by_cases hkn : k < n
      · obtain ⟨b, off, x, rfl, hb, hx, u0, u1⟩ := (HS.out.more hkp).elem hkn
        have i2 : (k : Int) < (n : Int) := by omega
        have hm := putsD_more hx
        obtain ⟨xk, xl⟩ := x
        by_cases e4 : xk = 4
        · subst e4
          have hbn : (wr.alloc (.cells #[.int .i64 xl] 2)).heap[wr.heap.size]? = some (.cells #[.int .i64 xl] 2 (0, 0)) := blk_new _ _ _ rfl
          have hpl := putsD_len (l.take k)
          have hpl2 : (l.take k).length ≤ 4096 := by rw [List.length_take]; omega
          obtain ⟨g, cp, w2, hr, ho, hk3, hm3⟩ := i64_more w.heap.size (.slice sa _ cs) (putsD (l.take k)) xl 28 _ _ (hrow.alloc _) (by have := hkp.size; simp; omega) (by omega) hbn
          have HN : Hid (w2.ownsRow w.heap.size 2 1 (.slice (some ⟨g, 0, none⟩) ((putsD (l.take k)).length + 1) cp) (putsD (l.take (k + 1))).length (iv (putsD (l.take (k + 1)))) ∧ Keeps None w w2) := by
            rw [hm]
            simp only [if_true]
            exact ⟨by rw [List.length_append]; exact ho, (hkp.andAlloc _).trans hk3 (fun i e hi => by have := row_low hrow e; omega)⟩
          clear hrow hkp hx hlen hm ho hk3 hm3 hbn HK
          go_wp2_with (at_builtin; refine wpList_append_run rfl (.tmp 26) (.tmp 32) 28 28 rfl rfl rfl hr ?_)
          go_roundw
          case rel => exact ⟨k + 1, by omega, by go_num, HN.out⟩
          case measure => simp [intOf]; omega
        · have HN : Hid (wr.ownsRow w.heap.size 2 1 (.slice sa (putsD (l.take k)).length cs) (putsD (l.take (k + 1))).length (iv (putsD (l.take (k + 1)))) ∧ Keeps None w wr) := by
            rw [hm, if_neg e4, List.append_nil]
            exact ⟨hrow, hkp⟩
          clear hrow hkp hx hlen hm HK
          go_wp2
          go_roundw
          case rel => exact ⟨k + 1, by omega, by go_num, HN.out⟩
          case measure => simp [intOf]; omega
      · have hkn2 : k = n := by omega
        subst hkn2
        have ht : l.take k = l := List.take_of_length_le (by omega)
        have HN : Hid (wr.ownsRow w.heap.size 2 1 (.slice sa (putsD (l.take k)).length cs) (putsD l).length (iv (putsD l)) ∧ Keeps None w wr) := ⟨by rw [ht] at hrow ⊢; exact hrow, hkp⟩
        clear ht
        clear hrow hkp hlen HK
        go_wp2
        go_ret2
        rw [← HE.out]
        exact ⟨_, rfl, fun h => absurd rfl h, fun _ => HN.out.1, HN.out.2⟩
  · have HK : Hid (Keeps None w (w1.alloc (.cells #[.int .i64 E, .int .i64 A1] 55))) := k2
    clear hk1 b2 k2
    go_upto_region 3 with fail
    go_quiet (fail)
    go_wp2
    go_ret2
    rw [← HE.out]
    exact ⟨_, rfl, fun _ => rfl, fun h => absurd h h0, HK.out.trans (keeps_drewN _ _) (fun _ f _ => f)⟩
end Go.Proofs.Ytdiabpoafennlaa
/-! What the laws of reducers ask: may a game be played, what is put. -/
namespace Go.Proofs.Ytdiabpoafennlaa
set_option linter.unusedVariables false
set_option maxRecDepth 20000
set_option linter.unusedSimpArgs false
open Go.RowKit Go.HeapKit

def rightB (l : List Dd) (st : List Bool) (pk : List Int) : Bool := decide (refE l st pk = 0)
theorem right_long {l : List Dd} {st : List Bool} {pk : List Int} (h : 4096 < l.length ∨ 4096 < st.length ∨ 1048576 < pk.length) : rightB l st pk = false := by
  unfold rightB refE
  rw [if_pos (by omega)]
  decide
theorem right_chk {l : List Dd} {st : List Bool} {pk : List Int} (h : ¬ (4096 < l.length ∨ 4096 < st.length ∨ 1048576 < pk.length)) : (∀ i, chkL l 0 0 = some i → rightB l st pk = false) ∧ (chkL l 0 0 = none → rightB l st pk = true) := by
  unfold rightB refE chkE
  rw [if_neg (by omega), if_neg (by omega)]
  exact ⟨fun i hi => by rw [hi]; rfl, fun hi => by rw [hi]; rfl⟩
set_option maxHeartbeats 3200000 in
theorem right_ok (a0 a1 a2 : Option Addr) (n0 c0 n1 c1 n2 c2 : Nat) (l : List Dd) (st : List Bool) (pk : List Int) (w : World) (h0 : Seen w a0 n0 l) (h1 : n1 = st.length) (h2 : n2 = pk.length) :
    Calls Try.prog 15 #[.agg #[.slice a0 n0 c0, .slice a1 n1 c1, .slice a2 n2 c2]] w fun e w' => e = .returned (.bool (rightB l st pk)) ∧ Keeps None w w' := by
  have HL : Hid (n0 = l.length ∧ n1 = st.length ∧ n2 = pk.length) := ⟨h0.len, h1, h2⟩
  obtain ⟨p0, hp0⟩ : ∃ p0, p0 = w.heap.size := ⟨_, rfl⟩
  have hb0 := blk_new w (.cells #[.slice a0 n0 c0, .slice a1 n1 c1, .slice a2 n2 c2] 26) p0 hp0.symm
  have hkb := (Keeps.alloc None w (.cells #[.slice a0 n0 c0, .slice a1 n1 c1, .slice a2 n2 c2] 26))
  by_cases b0 : 4096 < n0 ∨ 4096 < n1 ∨ 1048576 < n2
  · have HE : Hid (rightB l st pk = false) := right_long (by have := HL.out; omega)
    have HK : Hid (Keeps None w (w.alloc (.cells #[.slice a0 n0 c0, .slice a1 n1 c1, .slice a2 n2 c2] 26))) := hkb
    clear h0 h1 h2 hb0 hkb hp0
    by_cases d0 : 4096 < n0
    · have i0 : (4096 : Int) < (n0 : Int) := by omega
      go_enter Try.func15, Try.ntmps15
      go_wp2
      go_ret
      exact ⟨by rw [HE.out]; rfl, HK.out⟩
    · by_cases d1 : 4096 < n1
      · have i0 : ¬ (4096 : Int) < (n0 : Int) := by omega
        have i1 : (4096 : Int) < (n1 : Int) := by omega
        go_enter Try.func15, Try.ntmps15
        go_wp2
        go_ret
        exact ⟨by rw [HE.out]; rfl, HK.out⟩
      · have i0 : ¬ (4096 : Int) < (n0 : Int) := by omega
        have i1 : ¬ (4096 : Int) < (n1 : Int) := by omega
        have i2 : (1048576 : Int) < (n2 : Int) := by omega
        go_enter Try.func15, Try.ntmps15
        go_wp2
        go_ret
        exact ⟨by rw [HE.out]; rfl, HK.out⟩
  · have HR : Hid ((∀ i, chkL l 0 0 = some i → rightB l st pk = false) ∧ (chkL l 0 0 = none → rightB l st pk = true)) := right_chk (by have := HL.out; omega)
    have i0 : ¬ (4096 : Int) < (n0 : Int) := by omega
    have i1 : ¬ (4096 : Int) < (n1 : Int) := by omega
    have i2 : ¬ (1048576 : Int) < (n2 : Int) := by omega
    have hn : n0 ≤ 4096 := by omega
    clear b0 h1 h2
    go_enter Try.func15, Try.ntmps15
    go_upto_region 1 with fail
    rw [← hp0]
    clear hp0
    generalize w.alloc (.cells #[.slice a0 n0 c0, .slice a1 n1 c1, .slice a2 n2 c2] 26) = wb at *
    have HB : Hid (wb.heap[p0]? = some (.cells #[.slice a0 n0 c0, .slice a1 n1 c1, .slice a2 n2 c2] 26 (0, 0)) ∧ Keeps None w wb ∧ Seen wb a0 n0 l) := ⟨hb0, hkb, h0.more hkb⟩
    have y0 : wb.cell? ⟨p0, 0, none⟩ = some (.slice a0 n0 c0) := blk_cell hb0 0
    have y1 : wb.cell? ⟨p0, 1, none⟩ = some (.slice a1 n1 c1) := blk_cell hb0 1
    have y2 : wb.cell? ⟨p0, 2, none⟩ = some (.slice a2 n2 c2) := blk_cell hb0 2
    clear hb0 hkb h0
    go_wp2_with fail
    go_loopw [3, 4] (fun d i wr => ∃ k dd : Nat, k ≤ n0 ∧ dd ≤ k ∧ i = .int .i64 k ∧ d = .int .i64 dd ∧ chkL l 0 0 = chkL (l.drop k) k dd ∧ wr = wb) (fun _ i _ => n0 - (intOf i).toNat)
    case atStart => exact ⟨0, 0, Nat.zero_le _, Nat.le_refl _, rfl, rfl, rfl, rfl⟩
    case round =>
      obtain ⟨k, dd, hk, hdd, rfl, rfl, hch, rfl⟩ := hrel
      by_cases hkn : k < n0
      · obtain ⟨b, off, x, rfl, hb, hx, u0, u1⟩ := HB.out.2.2.elem hkn
        have i3 : (k : Int) < (n0 : Int) := by omega
        have hch2 := hch.trans (chkL_step hx k dd)
        obtain ⟨xk, xl⟩ := x
        simp only at hch2 u0
        have i5 : ¬ (dd : Int) < 0 := by omega
        have i6 : ¬ ((dd : Int) + 1) < 0 := by omega
        by_cases e0 : xk = 0
        · subst e0
          have HC : Hid (chkL l 0 0 = chkL (l.drop (k + 1)) (k + 1) (dd + 1)) := by
            have h : chkL l 0 0 = chkL (l.drop (k + 1)) (k + 1) (dd + 1) := by rw [hch2, if_neg (by simp [badK])]; rfl
            exact h
          clear hch hch2 hx
          go_wp2
          go_roundw
          case rel => exact ⟨k + 1, dd + 1, by omega, by omega, by go_num, by go_num, HC.out, trivial⟩
          case measure => simp [intOf]; omega
        · by_cases e1 : xk = 1
          · subst e1
            by_cases ed : dd = 0
            · subst ed
              have HE : Hid (rightB l st pk = false) := by
                have h : chkL l 0 0 = some k := by rw [hch2, if_pos (by simp [badK])]
                exact HR.out.1 k h
              clear hch hch2 hx
              go_wp2
              go_ret
              exact ⟨by rw [HE.out]; rfl, HB.out.2.1⟩
            · have HC : Hid (chkL l 0 0 = chkL (l.drop (k + 1)) (k + 1) (dd - 1)) := by
                have h : chkL l 0 0 = chkL (l.drop (k + 1)) (k + 1) (dd - 1) := by rw [hch2, if_neg (by simp [badK, ed])]; rfl
                exact h
              have i7 : ¬ ((dd : Int) - 1) < 0 := by omega
              clear hch hch2 hx
              go_wp2
              go_roundw
              case rel => exact ⟨k + 1, dd - 1, by omega, by omega, by go_num, by go_num, HC.out, trivial⟩
              case measure => simp [intOf]; omega
          · by_cases e2 : xk = 2 ∨ xk = 3 ∨ xk = 4
            · have HC : Hid (chkL l 0 0 = chkL (l.drop (k + 1)) (k + 1) dd) := by
                have hb2 : ¬ badK xk dd = true := by unfold badK; simp; omega
                have hn2 : nxtK xk dd = dd := by unfold nxtK; rw [if_neg e0, if_neg e1]
                have h : chkL l 0 0 = chkL (l.drop (k + 1)) (k + 1) dd := by rw [hch2, if_neg hb2, hn2]
                exact h
              clear hch hch2 hx e0 e1
              rcases e2 with rfl | rfl | rfl
              all_goals
                go_wp2
                go_roundw
                case rel => exact ⟨k + 1, dd, by omega, by omega, by go_num, by go_num, HC.out, trivial⟩
                case measure => simp [intOf]; omega
            · have e3 : ¬ xk = 2 := fun h => e2 (.inl h)
              have e4 : ¬ xk = 3 := fun h => e2 (.inr (.inl h))
              have e5 : ¬ xk = 4 := fun h => e2 (.inr (.inr h))
              have HE : Hid (rightB l st pk = false) := by
                have hb2 : badK xk dd = true := by unfold badK; simp; omega
                have h : chkL l 0 0 = some k := by rw [hch2, if_pos hb2]
                exact HR.out.1 k h
              clear hch hch2 hx e2
              go_wp2
              go_ret
              exact ⟨by rw [HE.out]; rfl, HB.out.2.1⟩
      · have hkn2 : k = n0 := by omega
        have HE : Hid (rightB l st pk = true) := by
          have h : chkL l 0 0 = none := by rw [hch, List.drop_eq_nil_of_le (by have := HL.out; omega)]; rfl
          exact HR.out.2 h
        have i3 : ¬ (k : Int) < (n0 : Int) := by omega
        clear hch
        go_wp2
        go_ret
        exact ⟨by rw [HE.out]; rfl, HB.out.2.1⟩
set_option maxHeartbeats 1600000 in
theorem puts_ok (a : Option Addr) (n c q : Nat) (l : List Dd) (w : World) (hS : Seen w a n l) (hn : n ≤ 4096) (hq : q ≤ n) :
    Calls Try.prog 18 #[.slice a n c, .int .i64 q] w fun e w' => ∃ a1 c1, e = .returned (.slice a1 (putsD (l.take q)).length c1) ∧ SeenV w' a1 (putsD (l.take q)).length (iv (putsD (l.take q))) ∧ Keeps None w w' := by
  have HS : Hid (Seen w a n l) := hS
  have HLen : Hid (n = l.length) := hS.len
  clear hS
  go_enter Try.func18, Try.ntmps18
  go_wp2_with fail
  go_loopw [5, 6] (fun s i wr => ∃ k : Nat, k ≤ q ∧ i = .int .i64 k ∧ wr.ownsRow w.heap.size 2 1 s (putsD (l.take k)).length (iv (putsD (l.take k))) ∧ Keeps None w wr) (fun _ i _ => q - (intOf i).toNat)
  case atStart => exact ⟨0, Nat.zero_le _, rfl, row_nil _ _ _ _, Keeps.refl _ _⟩
  case round =>
    obtain ⟨k, hk, rfl, hrow, hkp⟩ := hrel
    have hlen := HLen.out
    obtain ⟨sa, cs, rfl⟩ := row_shape hrow
    by_cases hkn : k < q
    · obtain ⟨b, off, x, rfl, hb, hx, u0, u1⟩ := (HS.out.more hkp).elem (show k < n by omega)
      have i2 : (k : Int) < (n : Int) := by omega
      have i3 : (k : Int) < (q : Int) := by omega
      have hm := putsD_more hx
      obtain ⟨xk, xl⟩ := x
      by_cases e4 : xk = 4
      · subst e4
        have hbn : (wr.alloc (.cells #[.int .i64 xl] 2)).heap[wr.heap.size]? = some (.cells #[.int .i64 xl] 2 (0, 0)) := blk_new _ _ _ rfl
        have hpl := putsD_len (l.take k)
        have hpl2 : (l.take k).length ≤ 4096 := by rw [List.length_take]; omega
        obtain ⟨g, cp, w2, hr, ho, hk3, hm3⟩ := i64_more w.heap.size (.slice sa _ cs) (putsD (l.take k)) xl 28 _ _ (hrow.alloc _) (by have := hkp.size; simp; omega) (by omega) hbn
        have HN : Hid (w2.ownsRow w.heap.size 2 1 (.slice (some ⟨g, 0, none⟩) ((putsD (l.take k)).length + 1) cp) (putsD (l.take (k + 1))).length (iv (putsD (l.take (k + 1)))) ∧ Keeps None w w2) := by
          rw [hm]
          simp only [if_true]
          exact ⟨by rw [List.length_append]; exact ho, (hkp.andAlloc _).trans hk3 (fun i e hi => by have := row_low hrow e; omega)⟩
        clear hrow hkp hx hlen hm ho hk3 hm3 hbn
        go_wp2_with (at_builtin; refine wpList_append_run rfl (.tmp 24) (.tmp 30) 28 28 rfl rfl rfl hr ?_)
        go_roundw
        case rel => exact ⟨k + 1, by omega, by go_num, HN.out⟩
        case measure => simp [intOf]; omega
      · have HN : Hid (wr.ownsRow w.heap.size 2 1 (.slice sa (putsD (l.take k)).length cs) (putsD (l.take (k + 1))).length (iv (putsD (l.take (k + 1)))) ∧ Keeps None w wr) := by
          rw [hm, if_neg e4, List.append_nil]
          exact ⟨hrow, hkp⟩
        clear hrow hkp hx hlen hm
        go_wp2
        go_roundw
        case rel => exact ⟨k + 1, by omega, by go_num, HN.out⟩
        case measure => simp [intOf]; omega
    · have hkn2 : k = q := by omega
      subst hkn2
      have i3 : ¬ (k : Int) < (k : Int) := by omega
      have HN : Hid (wr.ownsRow w.heap.size 2 1 (.slice sa (putsD (l.take k)).length cs) (putsD (l.take k)).length (iv (putsD (l.take k))) ∧ Keeps None w wr) := ⟨hrow, hkp⟩
      clear hrow hkp hlen
      go_wp2
      go_ret
      exact ⟨_, ⟨_, rfl⟩, own_seen1 HN.out.1, HN.out.2⟩
end Go.Proofs.Ytdiabpoafennlaa
