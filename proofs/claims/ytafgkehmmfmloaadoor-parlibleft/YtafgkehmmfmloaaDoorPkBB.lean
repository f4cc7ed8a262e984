import Derived.Test.YtafgkehmmfmloaaDoorPkBA
import Derived.Test.YtafgkehmmfmloaaDoorPkAX
import Derived.Test.YtafgkehmmfmloaaDoorPkAZ
import Derived.Test.YtafgkehmmfmloaaDoorPkAW
/-! parlib.Fold: a range. -/
namespace Go.Proofs.YtafgkehmmfmloaaDoor
set_option linter.unusedVariables false
set_option maxRecDepth 20000
open Go.RowKit Go.HeapKit Go.PlainOps

def WholePost (w0 : World) (X : Nat) (ab : Option Addr) (nb cb : Nat) (ac : Option Addr) (nc cc : Nat) (lb lc : List Fn) (u G V : Int) (F W : Nat) (w : World) (e : Ending) (w' : World) : Prop :=
  ∃ F', e = .returned (.tuple #[.int .i64 V, .int .i64 0]) ∧ Fo w0 w' X ab nb cb ac nc cc lb lc u G F' ∧ F' ≤ F ∧ F ≤ F' + W ∧ Keeps (· = X) w w'
theorem rv_ok {B : Int → Int} {C : Int → Int → Int} {u G : Int} {wb wc : Nat} {lo : Int} {m W : Nat} {V : Int} (hB : ∀ x, okI x → okI (B x)) (hC : ∀ a b, okI a → okI b → okI (C a b)) (hu : okI u) (h : RV B C u G wb wc lo m W V) : 0 ≤ lo → lo + m ≤ 1000000 → okI V := by
  induction h with
  | leaf lo m h1 hm => intro h0 h2; exact leafF_ok hB hC hu _ h0 _ h2
  | half lo m W1 W2 V1 V2 hm r1 r2 i1 i2 => intro h0 h2; exact hC _ _ (i1 h0 (by omega)) (i2 (by omega) (by omega))
set_option maxHeartbeats 2000000 in
theorem fwhole_any {w0 : World} {X : Nat} {ab : Option Addr} {nb cb : Nat} {ac : Option Addr} {nc cc : Nat} {lb lc : List Fn} {u G : Int} {wb wc : Nat} {B : Int → Int} {C : Int → Int → Int} (h2 : Two2 lb lc wb wc B C) (hu : okI u) (hG : 1 ≤ G) {lo : Int} {m W : Nat} {V : Int} (hr : RV B C u G wb wc lo m W V) : ∀ (w : World) (F : Nat), Fo w0 w X ab nb cb ac nc cc lb lc u G F → 0 ≤ lo → lo + m ≤ 1000000 → W ≤ F → F ≤ 4194304 →
    Calls Tryd.prog 30 #[.pointer (some ⟨X, 0, none⟩), .int .i64 lo, .int .i64 (lo + m)] w (WholePost w0 X ab nb cb ac nc cc lb lc u G V F W w) := by
  induction hr with
  | leaf lo m h1 hm =>
    intro w F h h0 hlo hW hF
    have hmul : m * (wb + wc) ≤ m * (wb + wc + 9) := Nat.mul_le_mul_left _ (by omega)
    have hlf := fleaf_any h2 w h lo m hu h0 hlo (by omega) hF
    obtain ⟨hi, hhi⟩ : ∃ hi, hi = lo + (m : Int) := ⟨_, rfl⟩
    rw [← hhi] at hlf ⊢
    have c3 : w.cell? ⟨X, 3, none⟩ = some (.int .i64 G) := (blk_cell h.fd 3).trans rfl
    have i1 : hi - lo ≤ G := by omega
    have i2 : hi - lo ≤ 1000000 := by omega
    have i3 : 0 ≤ hi - lo := by omega
    have HX : Hid (m * (wb + wc) ≤ m * (wb + wc + 9)) := hmul
    clear hmul hhi hW hF h h0 hlo hm h1
    generalize leafF B C u lo m = R at *
    go_enter Tryd.func30, Tryd.ntmps30
    go_wp2_with fail
    refine hlf.mono ?_
    rintro _ w2 ⟨rfl, fo2, k2⟩
    have HZ : Hid _ := And.intro fo2 k2
    clear fo2 k2 hlf c3
    go_wp2
    go_ret2
    exact ⟨_, rfl, HZ.out.1, by omega, by have := HX.out; omega, HZ.out.2⟩
  | half lo m W1 W2 V1 V2 hm r1 r2 i1 i2 =>
    intro w F h h0 hlo hW hF
    obtain ⟨p1, _⟩ := rv_pos r1
    obtain ⟨q1, _⟩ := rv_pos r2
    have hv1 := rv_ok h2.okb h2.okc hu r1 h0 (by omega)
    have hv2 := rv_ok h2.okb h2.okc hu r2 (by omega) (by omega)
    obtain ⟨hi, hhi⟩ : ∃ hi, hi = lo + (m : Int) := ⟨_, rfl⟩
    obtain ⟨D, hD⟩ : ∃ D, D = hi - lo := ⟨_, rfl⟩
    obtain ⟨Y, hY⟩ : ∃ Y, Y = lo + ((m / 2 : Nat) : Int) := ⟨_, rfl⟩
    have c3 : w.cell? ⟨X, 3, none⟩ = some (.int .i64 G) := (blk_cell h.fd 3).trans rfl
    have hl := i1 w F h h0 (by omega) (by omega) hF
    rw [← hY] at hl
    rw [← hhi]
    have j1 : ¬ (hi - lo ≤ G) := by omega
    have j2 : hi - lo ≤ 1000000 := by omega
    have j3 : 0 ≤ hi - lo := by omega
    have j4 : lo ≤ 1000000 := by omega
    have HY : Hid (Y = lo + ((m / 2 : Nat) : Int) ∧ hi = lo + (m : Int)) := ⟨hY, hhi⟩
    clear hD hY hhi
    go_enter Tryd.func30, Tryd.ntmps30
    go_upto_region 4 with fail
    rw [show lo + (hi - lo) / 2 = Y by have := HY.out; omega]
    clear c3
    go_wp2_with fail
    refine hl.mono ?_
    rintro _ w2 ⟨F1, rfl, fo2, hF1, hF1b, k2⟩
    clear hl
    have hrr := i2 w2 F1 fo2 (by omega) (by omega) (by omega) (by omega)
    rw [show lo + ((m / 2 : Nat) : Int) + ((m - m / 2 : Nat) : Int) = hi by have := HY.out; omega, ← HY.out.1] at hrr
    have HK2 : Hid (Keeps (· = X) w w2 ∧ F1 ≤ F ∧ F ≤ F1 + W1) := ⟨k2, hF1, hF1b⟩
    clear k2 hF1 hF1b fo2
    go_wp2_with fail
    refine hrr.mono ?_
    rintro _ w3 ⟨F3, rfl, fo3, hF3, hF3b, k3⟩
    clear hrr
    have hcb := fo_comb h2 fo3 V1 V2 hv1 hv2 (by have := HK2.out; omega) (by have := HK2.out; omega)
    have y1 : w3.cell? ⟨X, 1, none⟩ = some (.slice ac nc cc) := (blk_cell fo3.fd 1).trans rfl
    have HK3 : Hid (Keeps (· = X) w w3 ∧ F3 ≤ F1 ∧ F1 ≤ F3 + W2) := ⟨HK2.out.1.trans k3 (fun _ e _ => e), hF3, hF3b⟩
    clear k3 hF3 hF3b fo3
    go_wp2_with fail
    refine hcb.mono ?_
    rintro _ w4 ⟨rfl, fo4, k4⟩
    have HZ : Hid (Fo w0 w4 X ab nb cb ac nc cc lb lc u G (F3 - wc) ∧ Keeps (· = X) w w4) := ⟨fo4, HK3.out.1.trans k4 (fun _ e _ => e)⟩
    clear fo4 k4 hcb y1
    generalize hCV : C V1 V2 = CV at *
    go_wp2
    go_ret2
    exact ⟨_, rfl, HZ.out.1, by have := HK2.out; have := HK3.out; omega, by have := HK2.out; have := HK3.out; omega, HZ.out.2⟩
end Go.Proofs.YtafgkehmmfmloaaDoor
/-! parlib.Fold, where nothing is refused. -/
namespace Go.Proofs.YtafgkehmmfmloaaDoor
set_option linter.unusedVariables false
set_option maxRecDepth 20000
set_option linter.unusedSimpArgs false
open Go.RowKit Go.HeapKit Go.PlainOps

set_option maxHeartbeats 2000000 in
theorem wrongFuel_ok (F : Nat) (hF : F ≤ 4194304) (w : World) :
    Calls Tryd.prog 28 #[.int .i64 (F : Int)] w fun e w' => e = .returned (.int .i64 0) ∧ Keeps None w w' := by
  have i1 : (F : Int) ≤ 4194304 := by omega
  have i0 : 0 ≤ (F : Int) := by omega
  go_enter Tryd.func28, Tryd.ntmps28
  go_wp2_with fail
  refine (unless_any _ _ _).mono ?_
  rintro _ w5 ⟨rfl, k5⟩
  have HK5 : Hid (Keeps None w w5) := k5
  clear k5
  go_wp2
  go_ret
  exact ⟨rfl, HK5.out⟩
def Upw (A : World → Prop) : Prop := ∀ x y, Keeps None x y → A x → A y
theorem st_call {W2 x y : World} {A : World → Prop} {v : Value} {L : List (Fn × Value)} (h : Keeps None W2 x ∧ Upw A ∧ A x) (hk : Keeps None x y) (ho : OwnF y x.heap.size v L) :
    Keeps None W2 y ∧ Upw (fun z => A z ∧ OwnF z W2.heap.size v L) ∧ A y ∧ OwnF y W2.heap.size v L :=
  ⟨h.1.trans hk (fun _ f _ => f), fun p q k g => ⟨h.2.1 p q k g.1, g.2.more k⟩, h.2.1 _ _ hk h.2.2, ho.low h.1.size⟩
theorem st_alloc {W2 x : World} {A : World → Prop} (cs : Array Value) (t : TypeId) (h : Keeps None W2 x ∧ Upw A ∧ A x) :
    Keeps None W2 (x.alloc (.cells cs t)) ∧ Upw (fun z => A z ∧ z.heap[x.heap.size]? = some (.cells cs t (0, 0)) ∧ W2.heap.size ≤ x.heap.size) ∧ A (x.alloc (.cells cs t)) ∧ (x.alloc (.cells cs t)).heap[x.heap.size]? = some (.cells cs t (0, 0)) ∧ W2.heap.size ≤ x.heap.size :=
  ⟨h.1.andAlloc _, fun p q k g => ⟨h.2.1 p q k g.1, blk_kept g.2.1 k (fun f => f), g.2.2⟩, h.2.1 _ _ (Keeps.alloc None _ _) h.2.2, heap_alloc_new x (.cells cs t), h.1.size⟩
theorem own_past {x y : World} {b X : Nat} {v : Value} {L : List (Fn × Value)} {cs : Array Value} (ho : OwnF x b v L) (hx : x.heap[X]? = some (.cells cs 75 (0, 0))) (hk : Keeps (· = X) x y) : OwnF y b v L :=
  ⟨hk.own ho.row (fun q e hq => by subst hq; exact absurd (own_type ho.row e hx) (by decide)), fun z hz => (ho.codes z hz).kept hk (fun q e hq => by subst hq; exact absurd (own_type (ho.codes z hz) e hx) (by decide))⟩
theorem seen_sole {x : World} {b : Nat} {a : Option Addr} {c : Nat} {f : Fn} {cv : Value} (ho : OwnF x b (.slice a 1 c) [(f, cv)]) : SeenF x a 1 [f] := by
  obtain ⟨a', c', e', hs'⟩ := ho.seen
  injection e' with e1 e2 e3
  subst e1
  exact hs'
theorem fd_one (a b : Option Addr) (m n p q : Nat) (x y z : Int) : (#[Value.slice a m p, .slice b n q, .int .i64 x, .int .i64 y, .int .i64 z] : Array Value).all (·.oneCell') = true := by
  simp [Value.oneCell']
theorem fo_make {w W2 x : World} {X b : Nat} {ab : Option Addr} {cb : Nat} {ac : Option Addr} {cc : Nat} {fb fc : Fn} {v2 v5 : Value} {u G : Int} {F : Nat} {old : Array Value} (hT : Tabs w) (h1 : Keeps None w W2) (h2 : Keeps None W2 x) (hX : W2.heap.size ≤ X) (hx : x.heap[X]? = some (.cells old 75 (0, 0))) (o2 : OwnF x b (.slice ab 1 cb) [(fb, v2)]) (o5 : OwnF x b (.slice ac 1 cc) [(fc, v5)]) :
    w.heap.size ≤ X ∧ Keeps None w (x.setRow X #[.slice ab 1 cb, .slice ac 1 cc, .int .i64 u, .int .i64 G, .int .i64 (F : Int)]) ∧ Fo (x.setRow X #[.slice ab 1 cb, .slice ac 1 cc, .int .i64 u, .int .i64 G, .int .i64 (F : Int)]) (x.setRow X #[.slice ab 1 cb, .slice ac 1 cc, .int .i64 u, .int .i64 G, .int .i64 (F : Int)]) X ab 1 cb ac 1 cc [fb] [fc] u G F ∧ ∀ B y, B < W2.heap.size → x.cell? ⟨B, 0, none⟩ = some y → (x.setRow X #[.slice ab 1 cb, .slice ac 1 cc, .int .i64 u, .int .i64 G, .int .i64 (F : Int)]).cell? ⟨B, 0, none⟩ = some y := by
  have hk := setRow_keeps x X #[.slice ab 1 cb, .slice ac 1 cc, .int .i64 u, .int .i64 G, .int .i64 (F : Int)]
  have hs := h1.size
  have hw := (h1.trans h2 (fun _ f _ => f)).trans hk (fun i e hi => by have e' : i = X := e; omega)
  refine ⟨by omega, hw, ⟨setRow_heap hx, Keeps.refl _ _, fun y k => hT.more (hw.trans k (fun i e hi => by have e' : i = X := e; omega)), fun y k => seen_sole (own_past o2 hx (hk.trans k (fun _ e _ => e))), fun y k => seen_sole (own_past o5 hx (hk.trans k (fun _ e _ => e)))⟩, fun B y hB hy => hk.cell hy (fun e => by have e' : B = X := e; omega)⟩
theorem Tryd.infoFd : (Tryd.prog.info? 75).map (·.size) = some 5 := by kernel_rfl
set_option maxHeartbeats 4000000 in
theorem foldAs_any (a : Option Addr) (n c : Nat) (l : List Fn) (bd cb : Nat) (fb fc : Fn) (u G : Int) (N F : Nat) (w : World) (hT : Tabs w) (hS : SeenF w a n l) (hok : ∀ f ∈ l, f.Ok) (g1 : baseE l = 0) (g2 : bodyE l bd = 0) (g3 : combE l cb = 0) (hF : F ≤ 4194304) (hu : okI u) (hG : okI G)
    (hb : l[bd]? = some fb) (hc : l[cb]? = some fc) (hn : n ≤ 100) (sb : ∀ i ∈ fb.code, i.kind ≠ 5) (sc : ∀ i ∈ fc.code, i.kind ≠ 5) (lb : fb.code.length ≤ 1000) (lc : fc.code.length ≤ 1000) (hN : N ≤ 1000000)
    {wb wc : Nat} {B' : Int → Int} {C' : Int → Int → Int} (h2 : Two2 [fb] [fc] wb wc B' C') {W : Nat} {V : Int} (hr : 1 ≤ N → RV B' C' u (if G < 1 then 1 else G) wb wc 0 N W V) (hW : W ≤ F) :
    Calls Tryd.prog 13 #[.agg #[.slice a n c], .int .i64 (bd : Int), .int .i64 (cb : Int), .int .i64 u, .int .i64 (N : Int), .int .i64 G, .int .i64 (F : Int)] w fun e w' => e = .returned (.tuple #[.int .i64 (if N = 0 then u else V), .int .i64 0]) ∧ Keeps None w w' := by
  obtain ⟨W2, B, hW1, hB, bP, k2, d0, s1⟩ := box_prog w a n c
  have HX : Hid (Keeps None w W2 ∧ W2.heap[B]? = some (.cells #[.slice a n c] 26 (0, 0)) ∧ B = w.heap.size ∧ SeenF W2 a n l ∧ Tabs W2) := ⟨k2, bP, hB, hS.more k2, hT.more k2⟩
  have hA1 : ∀ w', Keeps None W2 w' → Calls Tryd.prog 18 #[.agg #[.slice a n c]] w' fun e w'' => e = .returned (.int .i64 0) ∧ Keeps None w' w'' := fun w' hk => by
    have := wrongBase_any a n c l w' ((hT.more k2).more hk) ((hS.more k2).more hk) hok
    rw [g1] at this
    exact this
  have hA2 : ∀ w', Keeps None W2 w' → Calls Tryd.prog 19 #[.agg #[.slice a n c], .int .i64 (bd : Int)] w' fun e w'' => e = .returned (.int .i64 0) ∧ Keeps None w' w'' := fun w' hk => by
    have := wrongBody_any a n c l bd w' ((hS.more k2).more hk)
    rw [g2] at this
    exact this
  have hA3 : ∀ w', Keeps None W2 w' → Calls Tryd.prog 20 #[.agg #[.slice a n c], .int .i64 (cb : Int)] w' fun e w'' => e = .returned (.int .i64 0) ∧ Keeps None w' w'' := fun w' hk => by
    have := wrongComb_any a n c l cb w' ((hS.more k2).more hk)
    rw [g3] at this
    exact this
  have H1 : Hid _ := hA1
  have H2 : Hid _ := hA2
  have H3 : Hid _ := hA3
  have H4 : Hid (F ≤ 4194304) := hF
  have HTT : Hid (Tabs w) := hT
  have hL1 : ∀ w', Keeps None W2 w' → Calls Tryd.prog 29 #[.agg #[.slice a n c], .int .i64 (bd : Int)] w' fun r w'' => ∃ v cv, r = .returned (.agg #[v]) ∧ OwnF w'' w'.heap.size v [(fb, cv)] ∧ Keeps None w' w'' := fun w' hk => alone_any a n c l bd fb w' ((hS.more k2).more hk) hb hn sb lb
  have hL2 : ∀ w', Keeps None W2 w' → Calls Tryd.prog 29 #[.agg #[.slice a n c], .int .i64 (cb : Int)] w' fun r w'' => ∃ v cv, r = .returned (.agg #[v]) ∧ OwnF w'' w'.heap.size v [(fc, cv)] ∧ Keeps None w' w'' := fun w' hk => alone_any a n c l cb fc w' ((hS.more k2).more hk) hc hn sc lc
  have HL1 : Hid _ := hL1
  have HL2 : Hid _ := hL2
  have HY : Hid (Two2 [fb] [fc] wb wc B' C' ∧ okI u ∧ (1 ≤ N → RV B' C' u (if G < 1 then 1 else G) wb wc 0 N W V) ∧ W ≤ F ∧ okI G) := ⟨h2, hu, hr, hW, hG⟩
  have iN : (N : Int) ≤ 1000000 := by omega
  have iN0 : 0 ≤ (N : Int) := by omega
  clear hA1 hA2 hA3 hL1 hL2 bP k2 s1 hS hT hok d0 g1 g2 g3 hb hc sb sc lb lc hu hG hr hW h2 hF hn
  go_enter Tryd.func13, Tryd.ntmps13
  go_upto_region 1 with fail
  rw [← hW1, ← hB]
  clear hW1 hB
  have r00 : W2.cell? ⟨B, 0, none⟩ = some (.slice a n c) := (blk_cell HX.out.2.1 0).trans rfl
  have r0 : W2.drew.cell? ⟨B, 0, none⟩ = some (.slice a n c) := (Keeps.drew None W2).cell r00 (fun f => f)
  go_cut [16] (fun s6 wc => s6 = .int .i64 0 ∧ Keeps None W2 wc)
  case first =>
    refine wp_region_held_drew (S := (fun w' => w'.cell? ⟨B, 0, none⟩ = some (.slice a n c))) (by kernel_rfl) ?_ (fun hHeld => ?_)
    · (try dsimp only); first | exact r11 | exact r10 | exact r8 | exact r7 | exact r4 | exact r1 | exact r0
    refine wpAnyH_take (i := 0) (oi := { dst := some 18, op := Op.load 26 (Operand.tmp 7), type := 26, pos := "parlib.go:27", after := #[], guard := none }) (v := ?_) rfl (by kernel_rfl) (by kernel_rfl) (by kernel_rfl) (fun _ _ _ h => h) (Or.inl ⟨by rfl, ?_⟩) (by assumption) ?_
    rotate_left
    · (intro wz hSw; (try dsimp only at hSw); go_simp; try with_reducible rfl)
    simp only [Act.put, List.setIfInBounds_toArray, List.set_cons_zero, List.set_cons_succ]
    refine wpAnyH_take (i := 2) (oi := { dst := some 20, op := Op.load 26 (Operand.tmp 7), type := 26, pos := "parlib.go:27", after := #[], guard := none }) (v := ?_) rfl (by kernel_rfl) (by kernel_rfl) (by kernel_rfl) (fun _ _ _ h => h) (Or.inl ⟨by rfl, ?_⟩) (by assumption) ?_
    rotate_left
    · (intro wz hSw; (try dsimp only at hSw); go_simp; try with_reducible rfl)
    simp only [Act.put, List.setIfInBounds_toArray, List.set_cons_zero, List.set_cons_succ]
    refine wpAnyH_take (i := 3) (oi := { dst := some 21, op := Op.move (Operand.tmp 1), type := 3, pos := "parlib.go:27", after := #[], guard := none }) (v := ?_) rfl (by kernel_rfl) (by kernel_rfl) (by kernel_rfl) (fun _ _ _ h => h) (Or.inl ⟨by rfl, ?_⟩) (by assumption) ?_
    rotate_left
    · (intro wz hSw; (try dsimp only at hSw); go_simp; try with_reducible rfl)
    simp only [Act.put, List.setIfInBounds_toArray, List.set_cons_zero, List.set_cons_succ]
    refine wpAnyH_take (i := 5) (oi := { dst := some 23, op := Op.load 26 (Operand.tmp 7), type := 26, pos := "parlib.go:27", after := #[], guard := none }) (v := ?_) rfl (by kernel_rfl) (by kernel_rfl) (by kernel_rfl) (fun _ _ _ h => h) (Or.inl ⟨by rfl, ?_⟩) (by assumption) ?_
    rotate_left
    · (intro wz hSw; (try dsimp only at hSw); go_simp; try with_reducible rfl)
    simp only [Act.put, List.setIfInBounds_toArray, List.set_cons_zero, List.set_cons_succ]
    refine wpAnyH_take (i := 6) (oi := { dst := some 24, op := Op.move (Operand.tmp 2), type := 3, pos := "parlib.go:27", after := #[], guard := none }) (v := ?_) rfl (by kernel_rfl) (by kernel_rfl) (by kernel_rfl) (fun _ _ _ h => h) (Or.inl ⟨by rfl, ?_⟩) (by assumption) ?_
    rotate_left
    · (intro wz hSw; (try dsimp only at hSw); go_simp; try with_reducible rfl)
    simp only [Act.put, List.setIfInBounds_toArray, List.set_cons_zero, List.set_cons_succ]
    refine wpAnyH_take (i := 8) (oi := { dst := some 26, op := Op.move (Operand.tmp 6), type := 3, pos := "parlib.go:27", after := #[], guard := none }) (v := ?_) rfl (by kernel_rfl) (by kernel_rfl) (by kernel_rfl) (fun _ _ _ h => h) (Or.inl ⟨by rfl, ?_⟩) (by assumption) ?_
    rotate_left
    · (intro wz hSw; (try dsimp only at hSw); go_simp; try with_reducible rfl)
    simp only [Act.put, List.setIfInBounds_toArray, List.set_cons_zero, List.set_cons_succ]
    refine wpAnyH_ready (rs := [1]) (by kernel_rfl) (by simp) ?_
    refine AllReadyH.cons (o := { dst := some 19, op := Op.call { callee := Callee.value (Operand.func 18), args := #[Operand.tmp 18], argTypes := #[26] }, type := 33, pos := "parlib.go:27", after := #[{ on := 0, ground := Ground.data }], guard := none }) rfl (fun K hK => ?_) ?_
    · go_simp
      refine (H1.out _ (Keeps.drew None W2)).mono ?_
      rintro _ w1 ⟨rfl, k1⟩
      have j1 : Keeps None W2 w1 := (Keeps.drew None W2).trans k1 (fun _ f _ => f)
      have r1 := j1.cell r00 (fun f => f)
      refine hK.out _ _ ?_ (fun hHeld2 => ?_)
      · (try dsimp only); first | exact r11 | exact r10 | exact r8 | exact r7 | exact r4 | exact r1 | exact r0
      clear hK K
      try simp only [Act.put, List.setIfInBounds_toArray, List.set_cons_zero, List.set_cons_succ]
      refine wpAnyH_ready (rs := [4]) (by kernel_rfl) (by simp) ?_
      refine AllReadyH.cons (o := { dst := some 22, op := Op.call { callee := Callee.value (Operand.func 19), args := #[Operand.tmp 20, Operand.tmp 21], argTypes := #[26, 3] }, type := 33, pos := "parlib.go:27", after := #[{ on := 2, ground := Ground.data }, { on := 3, ground := Ground.data }, { on := 1, ground := Ground.chain }], guard := none }) rfl (fun K hK => ?_) ?_
      · go_simp
        refine (H2.out _ j1).mono ?_
        rintro _ w4 ⟨rfl, k4⟩
        have j4 : Keeps None W2 w4 := j1.trans k4 (fun _ f _ => f)
        have r4 := j4.cell r00 (fun f => f)
        refine hK.out _ _ ?_ (fun hHeld2 => ?_)
        · (try dsimp only); first | exact r11 | exact r10 | exact r8 | exact r7 | exact r4 | exact r1 | exact r0
        clear hK K
        try simp only [Act.put, List.setIfInBounds_toArray, List.set_cons_zero, List.set_cons_succ]
        refine wpAnyH_ready (rs := [7]) (by kernel_rfl) (by simp) ?_
        refine AllReadyH.cons (o := { dst := some 25, op := Op.call { callee := Callee.value (Operand.func 20), args := #[Operand.tmp 23, Operand.tmp 24], argTypes := #[26, 3] }, type := 33, pos := "parlib.go:27", after := #[{ on := 5, ground := Ground.data }, { on := 6, ground := Ground.data }, { on := 4, ground := Ground.chain }], guard := none }) rfl (fun K hK => ?_) ?_
        · go_simp
          refine (H3.out _ j4).mono ?_
          rintro _ w7 ⟨rfl, k7⟩
          have j7 : Keeps None W2 w7 := j4.trans k7 (fun _ f _ => f)
          have r7 := j7.cell r00 (fun f => f)
          refine hK.out _ _ ?_ (fun hHeld2 => ?_)
          · (try dsimp only); first | exact r11 | exact r10 | exact r8 | exact r7 | exact r4 | exact r1 | exact r0
          clear hK K
          try simp only [Act.put, List.setIfInBounds_toArray, List.set_cons_zero, List.set_cons_succ]
          refine wpAnyH_ready (rs := [9]) (by kernel_rfl) (by simp) ?_
          refine AllReadyH.cons (o := { dst := some 27, op := Op.call { callee := Callee.value (Operand.func 28), args := #[Operand.tmp 26], argTypes := #[3] }, type := 33, pos := "parlib.go:27", after := #[{ on := 8, ground := Ground.data }, { on := 7, ground := Ground.chain }], guard := none }) rfl (fun K hK => ?_) ?_
          · go_simp
            refine (wrongFuel_ok F H4.out _).mono ?_
            rintro _ w9 ⟨rfl, k9⟩
            have j9 : Keeps None W2 w9 := j7.trans k9 (fun _ f _ => f)
            have r8 := j9.cell r00 (fun f => f)
            have j10 := j9.andAlloc (.cells #[.int .i64 0, .int .i64 0, .int .i64 0, .int .i64 0] 33)
            have r10 := j10.cell r00 (fun f => f)
            refine hK.out _ _ ?_ (fun hHeld2 => ?_)
            · (try dsimp only); first | exact r11 | exact r10 | exact r8 | exact r7 | exact r4 | exact r1 | exact r0
            clear hK K
            try simp only [Act.put, List.setIfInBounds_toArray, List.set_cons_zero, List.set_cons_succ]
            refine wpAnyH_ready (rs := [10]) (by kernel_rfl) (by simp) ?_
            refine AllReadyH.cons (o := { dst := some 28, op := Op.buildSlice 81 4 #[(0, Operand.tmp 19), (1, Operand.tmp 22), (2, Operand.tmp 25), (3, Operand.tmp 27)], type := 81, pos := "parlib.go:27", after := #[{ on := 1, ground := Ground.data }, { on := 4, ground := Ground.data }, { on := 7, ground := Ground.data }, { on := 9, ground := Ground.data }], guard := none }) rfl (fun K hK => ?_) ?_
            · go_simp
              refine hK.out _ _ ?_ (fun hHeld2 => ?_)
              · (try dsimp only); first | exact r11 | exact r10 | exact r8 | exact r7 | exact r4 | exact r1 | exact r0
              clear hK K
              try simp only [Act.put, List.setIfInBounds_toArray, List.set_cons_zero, List.set_cons_succ]
              refine wpAnyH_ready (rs := [11]) (by kernel_rfl) (by simp) ?_
              refine AllReadyH.cons (o := { dst := some 29, op := Op.call { callee := Callee.value (Operand.func 17), args := #[Operand.tmp 28], argTypes := #[81] }, type := 33, pos := "parlib.go:27", after := #[{ on := 10, ground := Ground.data }, { on := 9, ground := Ground.chain }], guard := none }) rfl (fun K hK => ?_) ?_
              · go_simp
                refine (first_any w9.heap.size 4 4 [0, 0, 0, 0] _ rfl (by simp) (fun k x hx => ?_)).mono ?_
                · rw [blk_cell (heap_alloc_new w9 _)]
                  match k, hx with
                  | 0, hx => simp at hx; subst hx; rfl
                  | 1, hx => simp at hx; subst hx; rfl
                  | 2, hx => simp at hx; subst hx; rfl
                  | 3, hx => simp at hx; subst hx; rfl
                  | k + 4, hx => simp at hx
                rintro _ w12 ⟨rfl, k12⟩
                have j12 : Keeps None W2 w12 := j10.trans k12 (fun _ f _ => f)
                have r11 := j12.cell r00 (fun f => f)
                refine hK.out _ _ ?_ (fun hHeld2 => ?_)
                · (try dsimp only); first | exact r11 | exact r10 | exact r8 | exact r7 | exact r4 | exact r1 | exact r0
                clear hK K
                try simp only [Act.put, List.setIfInBounds_toArray, List.set_cons_zero, List.set_cons_succ]
                refine wpAnyH_take (i := 12) (oi := { dst := some 16, op := Op.assign (Operand.tmp 29), type := 33, pos := "parlib.go:27", after := #[{ on := 11, ground := Ground.data }, { on := 11, ground := Ground.chain }, { on := 0, ground := Ground.phase }, { on := 1, ground := Ground.phase }, { on := 2, ground := Ground.phase }, { on := 3, ground := Ground.phase }, { on := 4, ground := Ground.phase }, { on := 5, ground := Ground.phase }, { on := 6, ground := Ground.phase }, { on := 7, ground := Ground.phase }, { on := 8, ground := Ground.phase }, { on := 9, ground := Ground.phase }, { on := 10, ground := Ground.phase }, { on := 11, ground := Ground.phase }], guard := none }) (v := ?_) rfl (by kernel_rfl) (by kernel_rfl) (by kernel_rfl) (fun _ _ _ h => h) (Or.inl ⟨by rfl, ?_⟩) (by assumption) ?_
                rotate_left
                · (intro wz hSw; (try dsimp only at hSw); go_simp; try with_reducible rfl)
                simp only [Act.put, List.setIfInBounds_toArray, List.set_cons_zero, List.set_cons_succ]
                refine wpAnyH_done (by kernel_rfl) ?_ _
                go_wp2_with fail
                go_meet
                exact ⟨rfl, j12⟩
              exact AllReadyH.nil
            exact AllReadyH.nil
          exact AllReadyH.nil
        exact AllReadyH.nil
      exact AllReadyH.nil
    exact AllReadyH.nil
  case rest =>
    obtain ⟨rfl, jc⟩ := hcut
    obtain ⟨X1, X2, X4, X5, X6⟩ := HX.out
    clear r00 r0
    by_cases hN0 : N = 0
    · subst hN0
      have HR : Hid (Keeps None w wc) := X1.trans jc (fun _ f _ => f)
      clear X1 X2 X4 X5 X6 jc
      go_wp2
      go_ret2
      exact ⟨rfl, HR.out⟩
    · have i1 : ¬ (N : Int) ≤ 0 := by omega
      have d00 : wc.cell? ⟨B, 0, none⟩ = some (.slice a n c) := (blk_cell (blk_kept X2 jc (fun f => f)) 0).trans rfl
      have d0 := (Keeps.drew None wc).cell d00 (fun f => f)
      have HR : Hid (Keeps None W2 wc ∧ Keeps None w wc ∧ B = w.heap.size ∧ Tabs wc) := ⟨jc, X1.trans jc (fun _ f _ => f), X4, X6.more jc⟩
      clear X1 X2 X4 X5 X6 jc
      have HN0 : Hid (N ≠ 0) := hN0
      clear hN0
      go_upto_region 6 with fail
      go_cut [17] (fun s17 wx => ∃ X ab cb' ac cc', s17 = .pointer (some ⟨X, 0, none⟩) ∧ w.heap.size ≤ X ∧ Keeps None w wx ∧ Fo wx wx X ab 1 cb' ac 1 cc' [fb] [fc] u (if G < 1 then 1 else G) F)
      case first =>
        have J : Hid (Keeps None W2 wc.drew ∧ Upw (fun _ => True) ∧ True) := ⟨HR.out.1.andDrew, fun _ _ _ h => h, trivial⟩
        have r0 := d0
        refine wp_region_held_drew (S := (fun w' => w'.cell? ⟨B, 0, none⟩ = some (.slice a n c))) (by kernel_rfl) ?_ (fun hHeld => ?_)
        · (try dsimp only); first | exact r0 | go_keep
        refine wpAnyH_take (i := 0) (oi := { dst := some 36, op := Op.load 26 (Operand.tmp 7), type := 26, pos := "parlib.go:33", after := #[], guard := none }) (v := ?_) rfl (by kernel_rfl) (by kernel_rfl) (by kernel_rfl) (fun _ _ _ h => h) (Or.inl ⟨by rfl, ?_⟩) (by assumption) ?_
        rotate_left
        · (intro wz hSw; (try dsimp only at hSw); go_simp; try with_reducible rfl)
        simp only [Act.put, List.setIfInBounds_toArray, List.set_cons_zero, List.set_cons_succ]
        refine wpAnyH_take (i := 1) (oi := { dst := some 37, op := Op.move (Operand.tmp 1), type := 3, pos := "parlib.go:33", after := #[], guard := none }) (v := ?_) rfl (by kernel_rfl) (by kernel_rfl) (by kernel_rfl) (fun _ _ _ h => h) (Or.inl ⟨by rfl, ?_⟩) (by assumption) ?_
        rotate_left
        · (intro wz hSw; (try dsimp only at hSw); go_simp; try with_reducible rfl)
        simp only [Act.put, List.setIfInBounds_toArray, List.set_cons_zero, List.set_cons_succ]
        refine wpAnyH_take (i := 3) (oi := { dst := some 39, op := Op.load 26 (Operand.tmp 7), type := 26, pos := "parlib.go:33", after := #[], guard := none }) (v := ?_) rfl (by kernel_rfl) (by kernel_rfl) (by kernel_rfl) (fun _ _ _ h => h) (Or.inl ⟨by rfl, ?_⟩) (by assumption) ?_
        rotate_left
        · (intro wz hSw; (try dsimp only at hSw); go_simp; try with_reducible rfl)
        simp only [Act.put, List.setIfInBounds_toArray, List.set_cons_zero, List.set_cons_succ]
        refine wpAnyH_take (i := 4) (oi := { dst := some 40, op := Op.move (Operand.tmp 2), type := 3, pos := "parlib.go:33", after := #[], guard := none }) (v := ?_) rfl (by kernel_rfl) (by kernel_rfl) (by kernel_rfl) (fun _ _ _ h => h) (Or.inl ⟨by rfl, ?_⟩) (by assumption) ?_
        rotate_left
        · (intro wz hSw; (try dsimp only at hSw); go_simp; try with_reducible rfl)
        simp only [Act.put, List.setIfInBounds_toArray, List.set_cons_zero, List.set_cons_succ]
        refine wpAnyH_take (i := 6) (oi := { dst := some 42, op := Op.move (Operand.tmp 3), type := 2, pos := "parlib.go:33", after := #[], guard := none }) (v := ?_) rfl (by kernel_rfl) (by kernel_rfl) (by kernel_rfl) (fun _ _ _ h => h) (Or.inl ⟨by rfl, ?_⟩) (by assumption) ?_
        rotate_left
        · (intro wz hSw; (try dsimp only at hSw); go_simp; try with_reducible rfl)
        simp only [Act.put, List.setIfInBounds_toArray, List.set_cons_zero, List.set_cons_succ]
        refine wpAnyH_take (i := 7) (oi := { dst := some 43, op := Op.move (Operand.tmp 5), type := 2, pos := "parlib.go:33", after := #[], guard := none }) (v := ?_) rfl (by kernel_rfl) (by kernel_rfl) (by kernel_rfl) (fun _ _ _ h => h) (Or.inl ⟨by rfl, ?_⟩) (by assumption) ?_
        rotate_left
        · (intro wz hSw; (try dsimp only at hSw); go_simp; try with_reducible rfl)
        simp only [Act.put, List.setIfInBounds_toArray, List.set_cons_zero, List.set_cons_succ]
        refine wpAnyH_take (i := 8) (oi := { dst := some 44, op := Op.call { callee := Callee.builtin Builtin.max, args := #[Operand.tmp 43, Operand.const (Value.int IntKind.i64 1)], argTypes := #[2, 2] }, type := 2, pos := "parlib.go:33", after := #[{ on := 7, ground := Ground.data }], guard := none }) (v := ?_) rfl (by kernel_rfl) (by kernel_rfl) (by kernel_rfl) (fun _ _ _ h => h) (Or.inl ⟨by rfl, ?_⟩) (by assumption) ?_
        rotate_left
        · (intro wz hSw; (try dsimp only at hSw); go_simp; try with_reducible rfl)
        simp only [Act.put, List.setIfInBounds_toArray, List.set_cons_zero, List.set_cons_succ]
        refine wpAnyH_take (i := 9) (oi := { dst := some 45, op := Op.move (Operand.tmp 6), type := 3, pos := "parlib.go:33", after := #[], guard := none }) (v := ?_) rfl (by kernel_rfl) (by kernel_rfl) (by kernel_rfl) (fun _ _ _ h => h) (Or.inl ⟨by rfl, ?_⟩) (by assumption) ?_
        rotate_left
        · (intro wz hSw; (try dsimp only at hSw); go_simp; try with_reducible rfl)
        simp only [Act.put, List.setIfInBounds_toArray, List.set_cons_zero, List.set_cons_succ]
        refine wpAnyH_ready (rs := [2, 11]) (by kernel_rfl) (by simp) ?_
        refine AllReadyH.cons (o := { dst := some 38, op := Op.call { callee := Callee.value (Operand.func 29), args := #[Operand.tmp 36, Operand.tmp 37], argTypes := #[26, 3] }, type := 26, pos := "parlib.go:33", after := #[{ on := 0, ground := Ground.data }, { on := 1, ground := Ground.data }], guard := none }) rfl (fun K hK => ?_) ?_
        · go_simp
          refine (HL1.out _ J.out.1).mono ?_
          rintro _ w2 ⟨v2, cv2, rfl, o2, k2⟩
          have r0 := k2.cell r0 (fun f => f)
          obtain ⟨a2, c2, e2, -⟩ := o2.seen
          obtain rfl : v2 = .slice a2 1 c2 := e2
          have J : Hid _ := st_call J.out k2 o2
          clear o2 k2
          refine hK.out _ _ ?_ (fun hHeld2 => ?_)
          · (try dsimp only); first | exact r0 | go_keep
          clear hK K
          try simp only [Act.put, List.setIfInBounds_toArray, List.set_cons_zero, List.set_cons_succ]
          refine wpAnyH_ready (rs := [5, 11]) (by kernel_rfl) (by simp) ?_
          refine AllReadyH.cons (o := { dst := some 41, op := Op.call { callee := Callee.value (Operand.func 29), args := #[Operand.tmp 39, Operand.tmp 40], argTypes := #[26, 3] }, type := 26, pos := "parlib.go:33", after := #[{ on := 3, ground := Ground.data }, { on := 4, ground := Ground.data }, { on := 2, ground := Ground.chain }], guard := none }) rfl (fun K hK => ?_) ?_
          · go_simp
            refine (HL2.out _ J.out.1).mono ?_
            rintro _ w5 ⟨v5, cv5, rfl, o5, k5⟩
            have r0 := k5.cell r0 (fun f => f)
            obtain ⟨a5, c5, e5, -⟩ := o5.seen
            obtain rfl : v5 = .slice a5 1 c5 := e5
            have J : Hid _ := st_call J.out k5 o5
            clear o5 k5
            refine hK.out _ _ ?_ (fun hHeld2 => ?_)
            · (try dsimp only); first | exact r0 | go_keep
            clear hK K
            try simp only [Act.put, List.setIfInBounds_toArray, List.set_cons_zero, List.set_cons_succ]
            refine wpAnyH_take (i := 10) (oi := { dst := some 46, op := Op.build 75 #[(0, Operand.tmp 38), (1, Operand.tmp 41), (2, Operand.tmp 42), (3, Operand.tmp 44), (4, Operand.tmp 45)], type := 75, pos := "parlib.go:33", after := #[{ on := 2, ground := Ground.data }, { on := 5, ground := Ground.data }, { on := 6, ground := Ground.data }, { on := 8, ground := Ground.data }, { on := 9, ground := Ground.data }], guard := none }) (v := ?_) rfl (by kernel_rfl) (by kernel_rfl) (by kernel_rfl) (fun _ _ _ h => h) (Or.inl ⟨by rfl, ?_⟩) (by assumption) ?_
            rotate_left
            · (intro wz hSw; (try dsimp only at hSw); go_simp; try with_reducible rfl)
            simp only [Act.put, List.setIfInBounds_toArray, List.set_cons_zero, List.set_cons_succ]
            refine wpAnyH_ready (rs := [11]) (by kernel_rfl) (by simp) ?_
            refine AllReadyH.cons (o := { dst := some 17, op := Op.alloc 75, type := 0, pos := "parlib.go:33", after := #[], guard := none }) rfl (fun K hK => ?_) ?_
            · go_simp
              have J : Hid _ := st_alloc #[.slice none 0 0, .slice none 0 0, .int .i64 0, .int .i64 0, .int .i64 0] 75 J.out
              have r0 := (Keeps.alloc None _ (.cells #[.slice none 0 0, .slice none 0 0, .int .i64 0, .int .i64 0, .int .i64 0] 75)).cell r0 (fun f => f)
              refine hK.out _ _ ?_ (fun hHeld2 => ?_)
              · (try dsimp only); first | exact r0 | go_keep
              clear hK K
              try simp only [Act.put, List.setIfInBounds_toArray, List.set_cons_zero, List.set_cons_succ]
              refine wpAnyH_ready (rs := [12]) (by kernel_rfl) (by simp) ?_
              refine AllReadyH.cons (o := { dst := none, op := Op.store 75 (Operand.tmp 17) (Operand.tmp 46), type := 0, pos := "parlib.go:33", after := #[{ on := 11, ground := Ground.data }, { on := 10, ground := Ground.data }, { on := 5, ground := Ground.chain }, { on := 0, ground := Ground.phase }, { on := 1, ground := Ground.phase }, { on := 2, ground := Ground.phase }, { on := 3, ground := Ground.phase }, { on := 4, ground := Ground.phase }, { on := 5, ground := Ground.phase }, { on := 6, ground := Ground.phase }, { on := 7, ground := Ground.phase }, { on := 8, ground := Ground.phase }, { on := 9, ground := Ground.phase }, { on := 10, ground := Ground.phase }, { on := 11, ground := Ground.phase }], guard := none }) rfl (fun K hK => ?_) ?_
              · refine step_store_row rfl 75 (.tmp 17) (.tmp 46) rfl _ #[.slice a2 1 c2, .slice a5 1 c5, .int .i64 u, .int .i64 (if G < 1 then 1 else G), .int .i64 (F : Int)] rfl rfl 75 #[.slice none 0 0, .slice none 0 0, .int .i64 0, .int .i64 0, .int .i64 0] (by first | exact J.out.2.2.2.1 | exact J.out.2.2.1.2.1 | exact J.out.2.2.1.1.2.1) Tryd.infoFd rfl (fd_one ..) ?_
                first
                | have HZ : Hid _ := fo_make (u := u) (G := if G < 1 then 1 else G) (F := F) HTT.out HX.out.1 J.out.1 J.out.2.2.2.2 J.out.2.2.2.1 J.out.2.2.1.1.2 J.out.2.2.1.2
                | have HZ : Hid _ := fo_make (u := u) (G := if G < 1 then 1 else G) (F := F) HTT.out HX.out.1 J.out.1 J.out.2.2.1.2.2 J.out.2.2.1.2.1 J.out.2.2.1.1.2 J.out.2.2.2
                | have HZ : Hid _ := fo_make (u := u) (G := if G < 1 then 1 else G) (F := F) HTT.out HX.out.1 J.out.1 J.out.2.2.1.1.2.2 J.out.2.2.1.1.2.1 J.out.2.2.1.2 J.out.2.2.2
                have r0 := HZ.out.2.2.2 _ _ (blk_lt HX.out.2.1) r0
                refine hK.out _ _ ?_ (fun hHeld2 => ?_)
                · (try dsimp only); first | exact r0 | go_keep
                clear hK K
                try simp only [Act.put, List.setIfInBounds_toArray, List.set_cons_zero, List.set_cons_succ]
                refine wpAnyH_done (by kernel_rfl) ?_ _
                go_wp2_with fail
                all_goals go_meet
                · have hz := HZ.out
                  rw [if_pos h] at hz ⊢
                  exact ⟨_, _, _, _, _, rfl, hz.1, hz.2.1, hz.2.2.1⟩
                · have hz := HZ.out
                  rw [if_neg (by omega)] at hz ⊢
                  exact ⟨_, _, _, _, _, rfl, hz.1, hz.2.1, hz.2.2.1⟩
              exact AllReadyH.nil
            exact AllReadyH.nil
          refine AllReadyH.cons (o := { dst := some 17, op := Op.alloc 75, type := 0, pos := "parlib.go:33", after := #[], guard := none }) rfl (fun K hK => ?_) ?_
          · go_simp
            have J : Hid _ := st_alloc #[.slice none 0 0, .slice none 0 0, .int .i64 0, .int .i64 0, .int .i64 0] 75 J.out
            have r0 := (Keeps.alloc None _ (.cells #[.slice none 0 0, .slice none 0 0, .int .i64 0, .int .i64 0, .int .i64 0] 75)).cell r0 (fun f => f)
            refine hK.out _ _ ?_ (fun hHeld2 => ?_)
            · (try dsimp only); first | exact r0 | go_keep
            clear hK K
            try simp only [Act.put, List.setIfInBounds_toArray, List.set_cons_zero, List.set_cons_succ]
            refine wpAnyH_ready (rs := [5]) (by kernel_rfl) (by simp) ?_
            refine AllReadyH.cons (o := { dst := some 41, op := Op.call { callee := Callee.value (Operand.func 29), args := #[Operand.tmp 39, Operand.tmp 40], argTypes := #[26, 3] }, type := 26, pos := "parlib.go:33", after := #[{ on := 3, ground := Ground.data }, { on := 4, ground := Ground.data }, { on := 2, ground := Ground.chain }], guard := none }) rfl (fun K hK => ?_) ?_
            · go_simp
              refine (HL2.out _ J.out.1).mono ?_
              rintro _ w5 ⟨v5, cv5, rfl, o5, k5⟩
              have r0 := k5.cell r0 (fun f => f)
              obtain ⟨a5, c5, e5, -⟩ := o5.seen
              obtain rfl : v5 = .slice a5 1 c5 := e5
              have J : Hid _ := st_call J.out k5 o5
              clear o5 k5
              refine hK.out _ _ ?_ (fun hHeld2 => ?_)
              · (try dsimp only); first | exact r0 | go_keep
              clear hK K
              try simp only [Act.put, List.setIfInBounds_toArray, List.set_cons_zero, List.set_cons_succ]
              refine wpAnyH_take (i := 10) (oi := { dst := some 46, op := Op.build 75 #[(0, Operand.tmp 38), (1, Operand.tmp 41), (2, Operand.tmp 42), (3, Operand.tmp 44), (4, Operand.tmp 45)], type := 75, pos := "parlib.go:33", after := #[{ on := 2, ground := Ground.data }, { on := 5, ground := Ground.data }, { on := 6, ground := Ground.data }, { on := 8, ground := Ground.data }, { on := 9, ground := Ground.data }], guard := none }) (v := ?_) rfl (by kernel_rfl) (by kernel_rfl) (by kernel_rfl) (fun _ _ _ h => h) (Or.inl ⟨by rfl, ?_⟩) (by assumption) ?_
              rotate_left
              · (intro wz hSw; (try dsimp only at hSw); go_simp; try with_reducible rfl)
              simp only [Act.put, List.setIfInBounds_toArray, List.set_cons_zero, List.set_cons_succ]
              refine wpAnyH_ready (rs := [12]) (by kernel_rfl) (by simp) ?_
              refine AllReadyH.cons (o := { dst := none, op := Op.store 75 (Operand.tmp 17) (Operand.tmp 46), type := 0, pos := "parlib.go:33", after := #[{ on := 11, ground := Ground.data }, { on := 10, ground := Ground.data }, { on := 5, ground := Ground.chain }, { on := 0, ground := Ground.phase }, { on := 1, ground := Ground.phase }, { on := 2, ground := Ground.phase }, { on := 3, ground := Ground.phase }, { on := 4, ground := Ground.phase }, { on := 5, ground := Ground.phase }, { on := 6, ground := Ground.phase }, { on := 7, ground := Ground.phase }, { on := 8, ground := Ground.phase }, { on := 9, ground := Ground.phase }, { on := 10, ground := Ground.phase }, { on := 11, ground := Ground.phase }], guard := none }) rfl (fun K hK => ?_) ?_
              · refine step_store_row rfl 75 (.tmp 17) (.tmp 46) rfl _ #[.slice a2 1 c2, .slice a5 1 c5, .int .i64 u, .int .i64 (if G < 1 then 1 else G), .int .i64 (F : Int)] rfl rfl 75 #[.slice none 0 0, .slice none 0 0, .int .i64 0, .int .i64 0, .int .i64 0] (by first | exact J.out.2.2.2.1 | exact J.out.2.2.1.2.1 | exact J.out.2.2.1.1.2.1) Tryd.infoFd rfl (fd_one ..) ?_
                first
                | have HZ : Hid _ := fo_make (u := u) (G := if G < 1 then 1 else G) (F := F) HTT.out HX.out.1 J.out.1 J.out.2.2.2.2 J.out.2.2.2.1 J.out.2.2.1.1.2 J.out.2.2.1.2
                | have HZ : Hid _ := fo_make (u := u) (G := if G < 1 then 1 else G) (F := F) HTT.out HX.out.1 J.out.1 J.out.2.2.1.2.2 J.out.2.2.1.2.1 J.out.2.2.1.1.2 J.out.2.2.2
                | have HZ : Hid _ := fo_make (u := u) (G := if G < 1 then 1 else G) (F := F) HTT.out HX.out.1 J.out.1 J.out.2.2.1.1.2.2 J.out.2.2.1.1.2.1 J.out.2.2.1.2 J.out.2.2.2
                have r0 := HZ.out.2.2.2 _ _ (blk_lt HX.out.2.1) r0
                refine hK.out _ _ ?_ (fun hHeld2 => ?_)
                · (try dsimp only); first | exact r0 | go_keep
                clear hK K
                try simp only [Act.put, List.setIfInBounds_toArray, List.set_cons_zero, List.set_cons_succ]
                refine wpAnyH_done (by kernel_rfl) ?_ _
                go_wp2_with fail
                all_goals go_meet
                · have hz := HZ.out
                  rw [if_pos h] at hz ⊢
                  exact ⟨_, _, _, _, _, rfl, hz.1, hz.2.1, hz.2.2.1⟩
                · have hz := HZ.out
                  rw [if_neg (by omega)] at hz ⊢
                  exact ⟨_, _, _, _, _, rfl, hz.1, hz.2.1, hz.2.2.1⟩
              exact AllReadyH.nil
            exact AllReadyH.nil
          exact AllReadyH.nil
        refine AllReadyH.cons (o := { dst := some 17, op := Op.alloc 75, type := 0, pos := "parlib.go:33", after := #[], guard := none }) rfl (fun K hK => ?_) ?_
        · go_simp
          have J : Hid _ := st_alloc #[.slice none 0 0, .slice none 0 0, .int .i64 0, .int .i64 0, .int .i64 0] 75 J.out
          have r0 := (Keeps.alloc None _ (.cells #[.slice none 0 0, .slice none 0 0, .int .i64 0, .int .i64 0, .int .i64 0] 75)).cell r0 (fun f => f)
          refine hK.out _ _ ?_ (fun hHeld2 => ?_)
          · (try dsimp only); first | exact r0 | go_keep
          clear hK K
          try simp only [Act.put, List.setIfInBounds_toArray, List.set_cons_zero, List.set_cons_succ]
          refine wpAnyH_ready (rs := [2]) (by kernel_rfl) (by simp) ?_
          refine AllReadyH.cons (o := { dst := some 38, op := Op.call { callee := Callee.value (Operand.func 29), args := #[Operand.tmp 36, Operand.tmp 37], argTypes := #[26, 3] }, type := 26, pos := "parlib.go:33", after := #[{ on := 0, ground := Ground.data }, { on := 1, ground := Ground.data }], guard := none }) rfl (fun K hK => ?_) ?_
          · go_simp
            refine (HL1.out _ J.out.1).mono ?_
            rintro _ w2 ⟨v2, cv2, rfl, o2, k2⟩
            have r0 := k2.cell r0 (fun f => f)
            obtain ⟨a2, c2, e2, -⟩ := o2.seen
            obtain rfl : v2 = .slice a2 1 c2 := e2
            have J : Hid _ := st_call J.out k2 o2
            clear o2 k2
            refine hK.out _ _ ?_ (fun hHeld2 => ?_)
            · (try dsimp only); first | exact r0 | go_keep
            clear hK K
            try simp only [Act.put, List.setIfInBounds_toArray, List.set_cons_zero, List.set_cons_succ]
            refine wpAnyH_ready (rs := [5]) (by kernel_rfl) (by simp) ?_
            refine AllReadyH.cons (o := { dst := some 41, op := Op.call { callee := Callee.value (Operand.func 29), args := #[Operand.tmp 39, Operand.tmp 40], argTypes := #[26, 3] }, type := 26, pos := "parlib.go:33", after := #[{ on := 3, ground := Ground.data }, { on := 4, ground := Ground.data }, { on := 2, ground := Ground.chain }], guard := none }) rfl (fun K hK => ?_) ?_
            · go_simp
              refine (HL2.out _ J.out.1).mono ?_
              rintro _ w5 ⟨v5, cv5, rfl, o5, k5⟩
              have r0 := k5.cell r0 (fun f => f)
              obtain ⟨a5, c5, e5, -⟩ := o5.seen
              obtain rfl : v5 = .slice a5 1 c5 := e5
              have J : Hid _ := st_call J.out k5 o5
              clear o5 k5
              refine hK.out _ _ ?_ (fun hHeld2 => ?_)
              · (try dsimp only); first | exact r0 | go_keep
              clear hK K
              try simp only [Act.put, List.setIfInBounds_toArray, List.set_cons_zero, List.set_cons_succ]
              refine wpAnyH_take (i := 10) (oi := { dst := some 46, op := Op.build 75 #[(0, Operand.tmp 38), (1, Operand.tmp 41), (2, Operand.tmp 42), (3, Operand.tmp 44), (4, Operand.tmp 45)], type := 75, pos := "parlib.go:33", after := #[{ on := 2, ground := Ground.data }, { on := 5, ground := Ground.data }, { on := 6, ground := Ground.data }, { on := 8, ground := Ground.data }, { on := 9, ground := Ground.data }], guard := none }) (v := ?_) rfl (by kernel_rfl) (by kernel_rfl) (by kernel_rfl) (fun _ _ _ h => h) (Or.inl ⟨by rfl, ?_⟩) (by assumption) ?_
              rotate_left
              · (intro wz hSw; (try dsimp only at hSw); go_simp; try with_reducible rfl)
              simp only [Act.put, List.setIfInBounds_toArray, List.set_cons_zero, List.set_cons_succ]
              refine wpAnyH_ready (rs := [12]) (by kernel_rfl) (by simp) ?_
              refine AllReadyH.cons (o := { dst := none, op := Op.store 75 (Operand.tmp 17) (Operand.tmp 46), type := 0, pos := "parlib.go:33", after := #[{ on := 11, ground := Ground.data }, { on := 10, ground := Ground.data }, { on := 5, ground := Ground.chain }, { on := 0, ground := Ground.phase }, { on := 1, ground := Ground.phase }, { on := 2, ground := Ground.phase }, { on := 3, ground := Ground.phase }, { on := 4, ground := Ground.phase }, { on := 5, ground := Ground.phase }, { on := 6, ground := Ground.phase }, { on := 7, ground := Ground.phase }, { on := 8, ground := Ground.phase }, { on := 9, ground := Ground.phase }, { on := 10, ground := Ground.phase }, { on := 11, ground := Ground.phase }], guard := none }) rfl (fun K hK => ?_) ?_
              · refine step_store_row rfl 75 (.tmp 17) (.tmp 46) rfl _ #[.slice a2 1 c2, .slice a5 1 c5, .int .i64 u, .int .i64 (if G < 1 then 1 else G), .int .i64 (F : Int)] rfl rfl 75 #[.slice none 0 0, .slice none 0 0, .int .i64 0, .int .i64 0, .int .i64 0] (by first | exact J.out.2.2.2.1 | exact J.out.2.2.1.2.1 | exact J.out.2.2.1.1.2.1) Tryd.infoFd rfl (fd_one ..) ?_
                first
                | have HZ : Hid _ := fo_make (u := u) (G := if G < 1 then 1 else G) (F := F) HTT.out HX.out.1 J.out.1 J.out.2.2.2.2 J.out.2.2.2.1 J.out.2.2.1.1.2 J.out.2.2.1.2
                | have HZ : Hid _ := fo_make (u := u) (G := if G < 1 then 1 else G) (F := F) HTT.out HX.out.1 J.out.1 J.out.2.2.1.2.2 J.out.2.2.1.2.1 J.out.2.2.1.1.2 J.out.2.2.2
                | have HZ : Hid _ := fo_make (u := u) (G := if G < 1 then 1 else G) (F := F) HTT.out HX.out.1 J.out.1 J.out.2.2.1.1.2.2 J.out.2.2.1.1.2.1 J.out.2.2.1.2 J.out.2.2.2
                have r0 := HZ.out.2.2.2 _ _ (blk_lt HX.out.2.1) r0
                refine hK.out _ _ ?_ (fun hHeld2 => ?_)
                · (try dsimp only); first | exact r0 | go_keep
                clear hK K
                try simp only [Act.put, List.setIfInBounds_toArray, List.set_cons_zero, List.set_cons_succ]
                refine wpAnyH_done (by kernel_rfl) ?_ _
                go_wp2_with fail
                all_goals go_meet
                · have hz := HZ.out
                  rw [if_pos h] at hz ⊢
                  exact ⟨_, _, _, _, _, rfl, hz.1, hz.2.1, hz.2.2.1⟩
                · have hz := HZ.out
                  rw [if_neg (by omega)] at hz ⊢
                  exact ⟨_, _, _, _, _, rfl, hz.1, hz.2.1, hz.2.2.1⟩
              exact AllReadyH.nil
            exact AllReadyH.nil
          exact AllReadyH.nil
        exact AllReadyH.nil
      case rest =>
        obtain ⟨X, ab, cb', ac, cc', rfl, hX, hk, hfo⟩ := hcut
        have hwh := fwhole_any HY.out.1 HY.out.2.1 (show (1 : Int) ≤ (if G < 1 then 1 else G) by split <;> omega) (HY.out.2.2.1 (by have := HN0.out; omega)) wc F hfo (by omega) (by omega) HY.out.2.2.2.1 H4.out
        rw [Int.zero_add] at hwh
        have HZ : Hid (w.heap.size ≤ X ∧ Keeps None w wc) := ⟨hX, hk⟩
        clear hX hk hfo d00 d0
        go_wp2_with fail
        refine hwh.mono ?_
        rintro _ w9 ⟨F', rfl, -, -, -, k9⟩
        have HK : Hid (Keeps None w w9) := HZ.out.2.trans k9 (fun i e hi => by have e' : i = X := e; have := HZ.out.1; omega)
        clear k9 hwh
        go_wp2
        go_ret2
        exact ⟨rfl, HK.out⟩
end Go.Proofs.YtafgkehmmfmloaaDoor
/-! The two functions of ParlibLeft's base, plainly. -/
namespace Go.Proofs.YtafgkehmmfmloaaDoor
set_option linter.unusedVariables false
set_option maxRecDepth 20000
open Go.RowKit Go.HeapKit Go.PlainOps

def twoF (op : Int) : Fn := ⟨2, 2, 0, [⟨2, 0, 0, 1, op⟩, ⟨9, 0, 0, 0, 0⟩]⟩
theorem at_call {fs : List Fn} {fn op k : Int} (hc : codeOf fs fn = (atF op k).code) : CallF fs fn 3 (fun x _ => workV op x k) := by
  intro g F s t hf hl hd hs hg
  obtain ⟨g, rfl⟩ : ∃ g', g = g' + 3 := ⟨g - 3, by omega⟩
  have c0 : codeOf fs t.node.func = (atF op k).code := by rw [hf]; exact hc
  have es : enterS false s t = { (enterS false s t) with fuel := F + 2 + 1 } := by rw [show F + 2 + 1 = F + 3 from rfl, ← hs]; rfl
  unfold playV
  rw [if_neg (by omega), es]
  rw [comp_at (g + 2) (F + 2) _ (enterT s t) 0 ⟨0, 1, 0, 0, k⟩ (by show (codeOf fs t.node.func)[0]? = _; rw [c0]; rfl) (.inl rfl)]
  rw [comp_at (g + 1) (F + 1) _ _ 1 ⟨2, 0, 0, 1, op⟩ (by show (codeOf fs t.node.func)[1]? = _; rw [c0]; rfl) (.inr (.inr (.inl rfl)))]
  obtain ⟨sp, s2, e, ef⟩ := ret_at (fs := fs) g F (enterS false s t) (computeT (payT (computeT (payT (enterT s t)) ⟨0, 1, 0, 0, k⟩)) ⟨2, 0, 0, 1, op⟩) 2 0 (by show (codeOf fs t.node.func)[2]? = _; rw [c0]; rfl)
  refine ⟨sp, s2, ?_, ef⟩
  rw [e]
  have hv : (computeT (payT (computeT (payT (enterT s t)) ⟨0, 1, 0, 0, k⟩)) ⟨2, 0, 0, 1, op⟩).regs.getD (0 : Int).toNat 0 = workV op (t.regs.getD 0 0) k := by
    show ((t.regs.set 1 k).set 0 (workV op ((t.regs.set 1 k).getD 0 0) ((t.regs.set 1 k).getD 1 0))).getD 0 0 = _
    rw [set_get (by simp; omega), set_ne (by omega), set_get (by omega)]
  rw [hv]
theorem two_call {fs : List Fn} {fn op : Int} (hc : codeOf fs fn = (twoF op).code) : CallF fs fn 2 (fun x y => workV op x y) := by
  intro g F s t hf hl hd hs hg
  obtain ⟨g, rfl⟩ : ∃ g', g = g' + 2 := ⟨g - 2, by omega⟩
  have c0 : codeOf fs t.node.func = (twoF op).code := by rw [hf]; exact hc
  have es : enterS false s t = { (enterS false s t) with fuel := F + 1 + 1 } := by rw [show F + 1 + 1 = F + 2 from rfl, ← hs]; rfl
  unfold playV
  rw [if_neg (by omega), es]
  rw [comp_at (g + 1) (F + 1) _ (enterT s t) 0 ⟨2, 0, 0, 1, op⟩ (by show (codeOf fs t.node.func)[0]? = _; rw [c0]; rfl) (.inr (.inr (.inl rfl)))]
  obtain ⟨sp, s2, e, ef⟩ := ret_at (fs := fs) g F (enterS false s t) (computeT (payT (enterT s t)) ⟨2, 0, 0, 1, op⟩) 1 0 (by show (codeOf fs t.node.func)[1]? = _; rw [c0]; rfl)
  refine ⟨sp, s2, ?_, ef⟩
  rw [e]
  have hv : (computeT (payT (enterT s t)) ⟨2, 0, 0, 1, op⟩).regs.getD (0 : Int).toNat 0 = workV op (t.regs.getD 0 0) (t.regs.getD 1 0) := by
    show (t.regs.set 0 (workV op (t.regs.getD 0 0) (t.regs.getD 1 0))).getD 0 0 = _
    rw [set_get (by omega)]
  rw [hv]
theorem cases16 {op : Int} (h0 : 0 ≤ op) (h1 : op < 16) : op = 0 ∨ op = 1 ∨ op = 2 ∨ op = 3 ∨ op = 4 ∨ op = 5 ∨ op = 6 ∨ op = 7 ∨ op = 8 ∨ op = 9 ∨ op = 10 ∨ op = 11 ∨ op = 12 ∨ op = 13 ∨ op = 14 ∨ op = 15 := by omega
theorem atb_check (op k : Int) (h0 : 0 ≤ op) (h1 : op < 16) : checkV [atF op k] = (0, 0, 0) := by
  rcases cases16 h0 h1 with rfl | rfl | rfl | rfl | rfl | rfl | rfl | rfl | rfl | rfl | rfl | rfl | rfl | rfl | rfl | rfl <;> rfl
theorem two_check (op : Int) (h0 : 0 ≤ op) (h1 : op < 16) : checkV [twoF op] = (0, 0, 0) := by
  rcases cases16 h0 h1 with rfl | rfl | rfl | rfl | rfl | rfl | rfl | rfl | rfl | rfl | rfl | rfl | rfl | rfl | rfl | rfl <;> rfl
theorem call_eval {fs : List Fn} {w : Nat} {val : Int → Int → Int} (h : CallF fs 0 w val) (zs : List Int) (F : Nat) (hr : refusedV fs zs (F : Int) = 0) (hw : w ≤ F) : ∃ T dd sp : Int, evalV fs zs (F : Int) = (⟨val ((rootT zs).regs.getD 0 0) ((rootT zs).regs.getD 1 0), w, T, dd, sp⟩, 0) := by
  obtain ⟨sp, s2, e, ef⟩ := h (F + 1) (F - w) (startS F) (rootT zs) rfl (by simp [rootT, argsV]) (by simp [rootT]) (by show F = F - w + w; omega) (by omega)
  refine ⟨s2.tasks, s2.depth, sp, ?_⟩
  unfold evalV
  rw [hr, if_neg (by simp), Int.toNat_natCast]
  unfold runV
  rw [e]
  show ((⟨_, (F : Int) - s2.fuel, s2.tasks, s2.depth, sp⟩ : Val), (0 : Int)) = _
  rw [ef, show (F : Int) - ((F - w : Nat) : Int) = (w : Int) by omega]
theorem two_ok (op : Int) (h : okI op) : ∀ f ∈ [twoF op], f.Ok := by
  intro f hf
  simp at hf
  subst hf
  refine ⟨by simp [twoF, okI], by simp [twoF, okI], by simp [twoF, okI], fun i hi => ?_⟩
  simp [twoF] at hi
  rcases hi with rfl | rfl
  · exact ⟨by simp [okI], by simp [okI], by simp [okI], by simp [okI], h⟩
  · exact ⟨by simp [okI], by simp [okI], by simp [okI], by simp [okI], by simp [okI]⟩
theorem left_two (op k o2 : Int) (h0 : 0 ≤ op) (h1 : op < 16) (g0 : 0 ≤ o2) (g1 : o2 < 16) (hk : okI k) : Two2 [atF op k] [twoF o2] 3 2 (fun x => workV op x k) (workV o2) := by
  refine ⟨fun x F hx hF hF2 => ?_, fun x y F hx hy hF hF2 => ?_, fun x hx => work_ok _ _ _ hx hk, fun x y hx hy => work_ok _ _ _ hx hy, at_ok _ _ (by unfold okI; omega) hk, ?_⟩
  · exact call_eval (at_call (fs := [atF op k]) (fn := 0) rfl) [x] F (unrefused (atb_check op k h0 h1) rfl hF2) hF
  · exact call_eval (two_call (fs := [twoF o2]) (fn := 0) rfl) [x, y] F (unrefused (two_check o2 g0 g1) rfl hF2) hF
  · exact two_ok o2 (by unfold okI; omega)
end Go.Proofs.YtafgkehmmfmloaaDoor
