import Derived.Test.YtoehkjfdaolcnaaDoorPkAM
/-! The first place of a function that is loose: the program's. -/
namespace Go.Proofs.YtoehkjfdaolcnaaDoor
set_option linter.unusedVariables false
set_option maxRecDepth 20000
set_option linter.unusedSimpArgs false
open Go.RowKit Go.HeapKit

/-- What is known ahead of the loop. -/
structure FirstAt (w wx : World) (fs : List Fn) (code : List Ins) (ca : Option Addr) (n cc Y g Mg Gg : Nat) (met : Nat → Bool) (bs : Nat → Nat) (idle : Nat → Bool) : Prop where
  box : wx.heap[Y]? = some (.cells #[.slice ca n cc, .slice (some ⟨Mg, 0, none⟩) n n, .slice (some ⟨Gg, 0, none⟩) n n] 64 (0, 0))
  body : BodyAt wx fs code ca n Mg Gg met bs
  idles : BoolsAt wx g n idle
  keep : Keeps None w wx
theorem FirstAt.more {w wx wy : World} {fs : List Fn} {code : List Ins} {ca : Option Addr} {n cc Y g Mg Gg : Nat} {met : Nat → Bool} {bs : Nat → Nat} {idle : Nat → Bool} (h : FirstAt w wx fs code ca n cc Y g Mg Gg met bs idle) (hk : Keeps None wx wy) : FirstAt w wy fs code ca n cc Y g Mg Gg met bs idle :=
  ⟨blk_kept h.box hk (fun f => f), h.body.more hk, blk_kept h.idles hk (fun f => f), h.keep.trans hk (fun _ f _ => f)⟩
/-- The box was made first, and is filled at the end. -/
theorem FirstAt.fill {w w6 : World} {fs : List Fn} {code : List Ins} {ca : Option Addr} {n cc Y g Mg Gg : Nat} {met : Nat → Bool} {bs : Nat → Nat} {idle : Nat → Bool} {z0 z1 z2 : Value} (hb : w6.heap[Y]? = some (.cells #[z0, z1, z2] 64 (0, 0))) (hB : BodyAt w6 fs code ca n Mg Gg met bs) (hI : BoolsAt w6 g n idle) (hk : Keeps None w w6) (hY : w.heap.size ≤ Y) (hC : SeenI w ca n code) : FirstAt w (((w6.setCell ⟨Y, 0, none⟩ (.slice ca n cc)).setCell ⟨Y, 1, none⟩ (.slice (some ⟨Mg, 0, none⟩) n n)).setCell ⟨Y, 2, none⟩ (.slice (some ⟨Gg, 0, none⟩) n n)) fs code ca n cc Y g Mg Gg met bs idle := by
  have k3 : Keeps (· = Y) w6 (((w6.setCell ⟨Y, 0, none⟩ (.slice ca n cc)).setCell ⟨Y, 1, none⟩ (.slice (some ⟨Mg, 0, none⟩) n n)).setCell ⟨Y, 2, none⟩ (.slice (some ⟨Gg, 0, none⟩) n n)) := keeps_oneT (keeps_oneT (keeps_oneT (Keeps.refl _ w6) _) _) _
  have hnb : ∀ {q : Nat} {cs : Array Value} {T : TypeId}, w6.heap[q]? = some (.cells cs T (0, 0)) → T ≠ 64 → q ≠ Y := fun h1 h2 e => by
    rw [e, hb] at h1
    injection h1 with h1
    injection h1 with _ h1
    exact h2 h1.symm
  have hkw := hk.trans k3 (fun i e hi => by omega)
  exact ⟨by rw [blk_set (blk_set (blk_set hb _) _)]; rfl, ⟨hC.more hkw, hB.good, hB.reg, blk_kept hB.mets k3 (hnb hB.mets (by decide)), blk_kept hB.regs k3 (hnb hB.regs (by decide)), hB.rc, hB.lt, hB.lv⟩, blk_kept hI k3 (hnb hI (by decide)), hkw⟩
/-- A place that is loose. -/
def LsP (fs : List Fn) (code : List Ins) (m : Nat) (M : Nat → Nat → Int) (k : Nat) (i : Ins) : Prop := (i.kind = 6 ∧ anyP m (M k) = false) ∨ NdP fs code k i ∨ DtP code i
/-- The first that is loose, or none. -/
def FstP (fs : List Fn) (code : List Ins) (m : Nat) (M : Nat → Nat → Int) (z : Int) : Prop := (z = -1 ∧ ∀ k i, code[k]? = some i → ¬ LsP fs code m M k i) ∨ ∃ (k : Nat) (i : Ins), z = k ∧ code[k]? = some i ∧ LsP fs code m M k i ∧ ∀ k' i', k' < k → code[k']? = some i' → ¬ LsP fs code m M k' i'
theorem FstP.same {fs : List Fn} {code : List Ins} {m : Nat} {M : Nat → Nat → Int} {z z' : Int} (h : FstP fs code m M z) (h' : FstP fs code m M z') : z = z' := by
  rcases h with ⟨e, h1⟩ | ⟨k, i, e, hi, h1, h2⟩ <;> rcases h' with ⟨e', h1'⟩ | ⟨k', i', e', hi', h1', h2'⟩
  · rw [e, e']
  · exact absurd h1' (h1 k' i' hi')
  · exact absurd h1 (h1' k i hi)
  · rcases Nat.lt_trichotomy k k' with h3 | h3 | h3
    · exact absurd h1 (h2' k i h3 hi)
    · rw [e, e', h3]
    · exact absurd h1' (h2 k' i' h3 hi')
set_option maxHeartbeats 8000000 in
theorem firstLoose_ok (f : Fn) (ca : Option Addr) (n cc m : Nat) (fa : Option Addr) (fn fc : Nat) (fs : List Fn) (w : World) (hT : Tabs w) (hC : SeenI w ca n f.code) (hF : SeenF w fa fn fs) (hok : ∀ i ∈ f.code, i.Ok) (hV : Valid fs f) (hG : Gd f.code) (hR : ∀ i ∈ f.code, RegOk fs i) (hn : n = f.code.length) (hm : (m : Int) = f.slots) (hm8 : m ≤ 8) :
    Calls Tryd.prog 20 #[.agg #[.int .i64 f.params, .int .i64 f.regs, .int .i64 f.slots, .slice ca n cc], .slice fa fn fc] w fun e w' => ∃ z, e = .returned (.int .i64 z) ∧ FstP fs f.code m (fun (k s : Nat) => sumAt (searchV f (s : Int) (0, 0)) k) z ∧ Keeps None w w' := by
  have hn5 : n ≤ 512 := by have := hG.n2; omega
  have kA := Keeps.alloc None w (.cells #[.int .i64 f.params, .int .i64 f.regs, .int .i64 f.slots, .slice ca n cc] 37)
  have bX := heap_alloc_new w (.cells #[.int .i64 f.params, .int .i64 f.regs, .int .i64 f.slots, .slice ca n cc] 37)
  obtain ⟨W, hW⟩ : ∃ W, W = w.alloc (.cells #[.int .i64 f.params, .int .i64 f.regs, .int .i64 f.slots, .slice ca n cc] 37) := ⟨_, rfl⟩
  obtain ⟨X, hX⟩ : ∃ X, X = w.heap.size := ⟨_, rfl⟩
  rw [← hW] at kA bX
  rw [← hX] at bX
  have x0 : W.cell? ⟨X, 0, none⟩ = some (.int .i64 f.params) := (blk_cell bX 0).trans rfl
  have x1 : W.cell? ⟨X, 1, none⟩ = some (.int .i64 f.regs) := (blk_cell bX 1).trans rfl
  have x2 : W.cell? ⟨X, 2, none⟩ = some (.int .i64 f.slots) := (blk_cell bX 2).trans rfl
  have x3 : W.cell? ⟨X, 3, none⟩ = some (.slice ca n cc) := (blk_cell bX 3).trans rfl
  obtain ⟨MM, hMM⟩ : ∃ MM : Nat → Nat → Int, MM = fun (k s : Nat) => sumAt (searchV f (s : Int) (0, 0)) k := ⟨_, rfl⟩
  have HLK : Hid (∀ w', Keeps None W w' → Calls Tryd.prog 34 #[.slice ca n cc, .slice fa fn fc] w' fun e w'' => ∃ Mg Gg met bs, e = .returned (.agg #[.slice ca n cc, .slice (some ⟨Mg, 0, none⟩) n n, .slice (some ⟨Gg, 0, none⟩) n n]) ∧ BodyAt w'' fs f.code ca n Mg Gg met bs ∧ Keeps None W w'' ∧ Keeps None w' w'') := fun w' hk => (look_ok ca n cc f.code fa fn fc fs w' (hC.more (kA.trans hk (fun _ f _ => f))) (hF.more (kA.trans hk (fun _ f _ => f))) hG hR).mono fun e w'' hp => by
    obtain ⟨Mg, Gg, met, bs, h1, h2, h3⟩ := hp
    exact ⟨Mg, Gg, met, bs, h1, h2, hk.trans h3 (fun _ f _ => f), h3⟩
  have HID : Hid (∀ w', Keeps None W w' → Calls Tryd.prog 35 #[.agg #[.int .i64 f.params, .int .i64 f.regs, .int .i64 f.slots, .slice ca n cc]] w' fun e w'' => ∃ g, e = .returned (.slice (some ⟨g, 0, none⟩) n n) ∧ BoolsAt w'' g n (idl f.code m MM n) ∧ Keeps None W w'' ∧ Keeps None w' w'') := fun w' hk => (idle_ok f ca n cc m fs w' (hT.more (kA.trans hk (fun _ f _ => f))) (hC.more (kA.trans hk (fun _ f _ => f))) hok hV hn hm hn5 hm8).mono fun e w'' hp => by
    obtain ⟨g, h1, h2, h3⟩ := hp
    rw [hMM]
    exact ⟨g, h1, h2, hk.trans h3 (fun _ f _ => f), h3⟩
  rw [← hMM]
  have HSA : Hid (∀ w', Keeps None W w' → w'.cell? ⟨X, 0, none⟩ = some (.int .i64 f.params) ∧ w'.cell? ⟨X, 1, none⟩ = some (.int .i64 f.regs) ∧ w'.cell? ⟨X, 2, none⟩ = some (.int .i64 f.slots) ∧ w'.cell? ⟨X, 3, none⟩ = some (.slice ca n cc)) := fun w' hk => ⟨hk.cell x0 (fun f => f), hk.cell x1 (fun f => f), hk.cell x2 (fun f => f), hk.cell x3 (fun f => f)⟩
  have HC : Hid (SeenI w ca n f.code ∧ n = f.code.length ∧ Keeps None w W) := ⟨hC, hn, kA⟩
  have nX : X < W.heap.size := blk_lt bX
  have nX1 : ¬ W.heap.size = X := by omega
  have nX2 : ¬ X = W.heap.size := by omega
  clear hT hC hF hok hV hG hR hm kA bX hMM hn
  go_enter Tryd.func20, Tryd.ntmps20
  go_upto_region 1 with fail
  rw [← hW, ← hX]
  clear hW hX
  go_cut [5, 6] (fun s5 s6 wx => ∃ Y g Mg Gg met bs, s5 = .pointer (some ⟨Y, 0, none⟩) ∧ s6 = .slice (some ⟨g, 0, none⟩) n n ∧ FirstAt w wx fs f.code ca n cc Y g Mg Gg met bs (idl f.code m MM n) ∧ wx.cell? ⟨X, 3, none⟩ = some (.slice ca n cc))
  case first =>
    go_region_held3 (fun w' => w'.cell? ⟨X, 0, none⟩ = some (.int .i64 f.params) ∧ w'.cell? ⟨X, 1, none⟩ = some (.int .i64 f.regs) ∧ w'.cell? ⟨X, 2, none⟩ = some (.int .i64 f.slots) ∧ w'.cell? ⟨X, 3, none⟩ = some (.slice ca n cc)) (first | exact hs6 | exact hs5 | go_keep) (first | (go_at_call 34; refine Calls.mono (HLK.out _ (by first | exact Keeps.drew None _ | exact (Keeps.drew None _).andAlloc _ | exact ((Keeps.refl None W).andAlloc _).andDrew)) ?_; rintro _ w5 ⟨Mg, Gg, met, bs, rfl, hB5, hk5, hj5⟩; have hs5 := HSA.out _ hk5; have n5 : ¬ w5.heap.size = X := (by have := hk5.size; omega); have n5' : ¬ X = w5.heap.size := (by have := hk5.size; omega); (try (have bY : w5.heap[W.heap.size]? = some (.cells #[.slice none 0 0, .slice none 0 0, .slice none 0 0] 64 (0, 0)) := (by first | exact blk_kept (heap_alloc_new W.drew (.cells #[.slice none 0 0, .slice none 0 0, .slice none 0 0] 64)) hj5 (fun f => f) | exact blk_kept (heap_alloc_new W (.cells #[.slice none 0 0, .slice none 0 0, .slice none 0 0] 64)) hj5 (fun f => f)); have c0bY : _ = some (Value.slice none 0 0) := (blk_cell bY 0).trans rfl; have c1bY : _ = some (Value.slice none 0 0) := (blk_cell bY 1).trans rfl; have c2bY : _ = some (Value.slice none 0 0) := (blk_cell bY 2).trans rfl; have f0bY := blk_free bY 0; have f1bY := blk_free bY 1; have f2bY := blk_free bY 2)); have H5 : Hid _ := hB5; clear hB5 hj5) | (go_at_call 35; refine Calls.mono (HID.out _ (by first | exact hk5 | exact hk5.andAlloc _)) ?_; rintro _ w6 ⟨g, rfl, hI6, hk6, hj6⟩; have hs6 := HSA.out _ hk6; obtain ⟨p60, p61, p62, p63⟩ := HSA.out _ hk6; have n6 : ¬ w6.heap.size = X := (by have := hk6.size; omega); have n6' : ¬ X = w6.heap.size := (by have := hk6.size; omega); (first | (have bZ := blk_kept bY hj6 (fun f => f); clear bY c0bY c1bY c2bY f0bY f1bY f2bY; have c0bZ : _ = some (Value.slice none 0 0) := (blk_cell bZ 0).trans rfl; have c1bZ : _ = some (Value.slice none 0 0) := (blk_cell bZ 1).trans rfl; have c2bZ : _ = some (Value.slice none 0 0) := (blk_cell bZ 2).trans rfl; have f0bZ := blk_free bZ 0; have f1bZ := blk_free bZ 1; have f2bZ := blk_free bZ 2) | (have bZ : w6.heap[w5.heap.size]? = some (.cells #[.slice none 0 0, .slice none 0 0, .slice none 0 0] 64 (0, 0)) := blk_kept (heap_alloc_new w5 (.cells #[.slice none 0 0, .slice none 0 0, .slice none 0 0] 64)) hj6 (fun f => f); have c0bZ : _ = some (Value.slice none 0 0) := (blk_cell bZ 0).trans rfl; have c1bZ : _ = some (Value.slice none 0 0) := (blk_cell bZ 1).trans rfl; have c2bZ : _ = some (Value.slice none 0 0) := (blk_cell bZ 2).trans rfl; have f0bZ := blk_free bZ 0; have f1bZ := blk_free bZ 1; have f2bZ := blk_free bZ 2) | skip); have H6 : Hid _ := hI6; have HB6 : Hid _ := H5.out.more (by first | exact hj6 | exact (Keeps.alloc None _ _).trans hj6 (fun _ f _ => f)); clear hI6))
    all_goals (go_wp2_with fail; go_meet)
    all_goals first
      | exact ⟨_, g, Mg, Gg, met, bs, rfl, rfl, FirstAt.fill bZ HB6.out H6.out (HC.out.2.2.trans hk6 (fun _ f _ => f)) (by have := HC.out.2.2.size; have := hk5.size; omega) HC.out.1, (keeps_oneT (keeps_oneT (keeps_oneT (Keeps.refl _ w6) _) _) _).cell p63 (by omega)⟩
      | exact ⟨_, g, Mg, Gg, met, bs, rfl, rfl, ⟨heap_alloc_new _ _, HB6.out.more (Keeps.alloc None _ _), blk_kept H6.out (Keeps.alloc None _ _) (fun f => f), (HC.out.2.2.trans hk6 (fun _ f _ => f)).andAlloc _⟩, (Keeps.alloc None _ _).cell p63 (fun f => f)⟩
  case rest =>
    obtain ⟨Y, g, Mg, Gg, met, bs, rfl, rfl, hfa, hx3⟩ := hcut
    have H0 : Hid (FirstAt w wc fs f.code ca n cc Y g Mg Gg met bs (idl f.code m MM n)) := hfa
    clear hfa HLK HID HSA x0 x1 x2 x3 nX nX1 nX2
    go_wp2_with fail
    go_loopw [17] (fun s17 wr => ∃ k : Nat, k ≤ n ∧ s17 = .int .i64 k ∧ (∀ k' i', k' < k → f.code[k']? = some i' → ¬ LsP fs f.code m MM k' i') ∧ Keeps None wc wr) (fun i _ => n - (intOf i).toNat)
    case atStart => exact ⟨0, Nat.zero_le _, rfl, fun k' i' h => absurd h (by omega), Keeps.refl _ _⟩
    case round =>
      clear hx3
      obtain ⟨k, hk, rfl, hno, hkp⟩ := hrel
      have HW : Hid (FirstAt w wr fs f.code ca n cc Y g Mg Gg met bs (idl f.code m MM n)) := H0.out.more hkp
      by_cases hkn : k < n
      · have i1 : (k : Int) < (n : Int) := by omega
        obtain ⟨i, hi⟩ : ∃ i, f.code[k]? = some i := ⟨f.code[k]'(by have := HC.out.2.1; omega), by simp⟩
        have m0 := HW.out.idles.cell hkn
        have z0 : wr.cell? ⟨Y, 0, none⟩ = some (.slice ca n cc) := (blk_cell HW.out.box 0).trans rfl
        have z1 : wr.cell? ⟨Y, 1, none⟩ = some (.slice (some ⟨Mg, 0, none⟩) n n) := (blk_cell HW.out.box 1).trans rfl
        have z2 : wr.cell? ⟨Y, 2, none⟩ = some (.slice (some ⟨Gg, 0, none⟩) n n) := (blk_cell HW.out.box 2).trans rfl
        obtain ⟨mv, hmv⟩ : ∃ mv, mv = idl f.code m MM n k := ⟨_, rfl⟩
        rw [← hmv] at m0
        have HMV : Hid (mv = true ↔ (i.kind = 6 ∧ anyP m (MM k) = false)) := by
          unfold Hid
          rw [hmv]
          unfold idl
          rw [hi, decide_eq_true hkn]
          simp
        have HNE : Hid (∀ w', Keeps None wr w' → Calls Tryd.prog 36 #[.agg #[.slice ca n cc, .slice (some ⟨Mg, 0, none⟩) n n, .slice (some ⟨Gg, 0, none⟩) n n], .int .i64 (k : Int)] w' fun e w'' => ∃ b : Bool, e = .returned (.bool b) ∧ (b = true ↔ NdP fs f.code k i) ∧ Keeps None wr w'') := fun w' hk => (needless_ok ca n cc fs f.code Mg Gg met bs k i w' (HW.out.body.more hk) hi).mono fun e w'' hp => by
          obtain ⟨b, h1, h2, h3⟩ := hp
          exact ⟨b, h1, h2, hk.trans h3 (fun _ f _ => f)⟩
        have HDE : Hid (∀ w', Keeps None wr w' → Calls Tryd.prog 37 #[.agg #[.slice ca n cc, .slice (some ⟨Mg, 0, none⟩) n n, .slice (some ⟨Gg, 0, none⟩) n n], .int .i64 (k : Int)] w' fun e w'' => ∃ b : Bool, e = .returned (.bool b) ∧ (b = true ↔ DtP f.code i) ∧ Keeps None wr w'') := fun w' hk => (detours_ok ca n cc f.code _ n n _ n n k i w' (HW.out.body.seen.more hk) HW.out.body.good hi).mono fun e w'' hp => by
          obtain ⟨b, h1, h2, h3⟩ := hp
          exact ⟨b, h1, h2, hk.trans h3 (fun _ f _ => f)⟩
        have HRet : Hid (LsP fs f.code m MM k i → FstP fs f.code m MM (k : Int)) := fun h => .inr ⟨k, i, rfl, hi, h, hno⟩
        have HNext : Hid (¬ LsP fs f.code m MM k i → ∀ k' i', k' < k + 1 → f.code[k']? = some i' → ¬ LsP fs f.code m MM k' i') := fun h k' i' hk' hi' => by
          by_cases e : k' = k
          · subst e
            rw [hi] at hi'
            injection hi' with hi'
            subst hi'
            exact h
          · exact hno k' i' (by omega) hi'
        have HKW : Hid (Keeps None wc wr ∧ Keeps None w wr) := ⟨hkp, HW.out.keep⟩
        clear hmv hno hkp hi
        cases mv with
        | true =>
          have HF : Hid (FstP fs f.code m MM (k : Int)) := HRet.out (.inl (HMV.out.1 rfl))
          clear HNE HDE HRet HNext HMV
          go_wp2_with fail
          go_ret
          exact ⟨_, rfl, HF.out, HKW.out.2⟩
        | false =>
          go_upto_region 5 with fail
          go_wp2_with fail
          refine Calls.mono (HNE.out _ (by first | exact Keeps.refl _ _ | exact Keeps.drew None _)) ?_
          rintro _ w4 ⟨b, rfl, hb, hk4⟩
          have HB4 : Hid (b = true ↔ NdP fs f.code k i) := hb
          clear hb
          cases b with
          | true =>
            have HF : Hid (FstP fs f.code m MM (k : Int)) := HRet.out (.inr (.inl (HB4.out.1 rfl)))
            have HK5 : Hid (Keeps None w w4) := HKW.out.2.trans hk4 (fun _ f _ => f)
            clear HNE HDE HRet HNext HMV HB4
            go_wp2_with fail
            go_ret
            exact ⟨_, rfl, HF.out, HK5.out⟩
          | false =>
            have y0 : w4.cell? ⟨Y, 0, none⟩ = _ := hk4.cell z0 (fun f => f)
            have y1 : w4.cell? ⟨Y, 1, none⟩ = _ := hk4.cell z1 (fun f => f)
            have y2 : w4.cell? ⟨Y, 2, none⟩ = _ := hk4.cell z2 (fun f => f)
            go_wp2_with fail
            refine Calls.mono (HDE.out _ hk4) ?_
            rintro _ w5 ⟨b, rfl, hb, hk5⟩
            have HB5 : Hid (b = true ↔ DtP f.code i) := hb
            clear hb
            cases b with
            | true =>
              have HF : Hid (FstP fs f.code m MM (k : Int)) := HRet.out (.inr (.inr (HB5.out.1 rfl)))
              have HK5 : Hid (Keeps None w w5) := HKW.out.2.trans hk5 (fun _ f _ => f)
              clear HNE HDE HRet HNext HMV HB4 HB5
              go_wp2_with fail
              go_ret
              exact ⟨_, rfl, HF.out, HK5.out⟩
            | false =>
              have HN : Hid (∀ k' i', k' < k + 1 → f.code[k']? = some i' → ¬ LsP fs f.code m MM k' i') := HNext.out (by
                rintro (h | h | h)
                · exact absurd (HMV.out.2 h) (by decide)
                · exact absurd (HB4.out.2 h) (by decide)
                · exact absurd (HB5.out.2 h) (by decide))
              have HK5 : Hid (Keeps None wc w5) := HKW.out.1.trans hk5 (fun _ f _ => f)
              clear HNE HDE HRet HNext HMV HB4 HB5
              go_wp2_with fail
              refine ⟨⟨k + 1, by omega, by first | rfl | simp, HN.out, HK5.out⟩, ?_⟩
              show n - (k + 1 : Int).toNat < n - (k : Int).toNat
              omega
      · have hkn2 : k = n := by omega
        have i1 : ¬ (k : Int) < (n : Int) := by omega
        have HF : Hid (FstP fs f.code m MM (-1) ∧ Keeps None w wr) := ⟨.inl ⟨rfl, fun k' i' hi' => hno k' i' (by have := (List.getElem?_eq_some_iff.1 hi').1; have := HC.out.2.1; omega) hi'⟩, HW.out.keep⟩
        clear hno hkp
        go_wp2_with fail
        go_ret
        exact ⟨_, rfl, HF.out⟩
end Go.Proofs.YtoehkjfdaolcnaaDoor
/-! What a valid program's instructions are, for package trim; valid. -/
namespace Go.Proofs.YtoehkjfdaolcnaaDoor
set_option linter.unusedVariables false
set_option maxRecDepth 20000
set_option linter.unusedSimpArgs false
open Go.RowKit Go.HeapKit

theorem valid_gd {fs : List Fn} {f : Fn} (h : Valid fs f) : Gd f.code := by
  have hG := good_of h.shape h.code
  exact ⟨hG.n1, hG.n2, hG.kind, hG.ways⟩
theorem valid_regs {fs : List Fn} {f : Fn} (hall : ∀ g ∈ fs, Valid fs g) (hV : Valid fs f) : ∀ i ∈ f.code, RegOk fs i := fun i hi0 => by
  obtain ⟨q, hq, e⟩ := List.getElem_of_mem hi0
  have hi : f.code[q]? = some i := by rw [← e]; simp
  have hf := (code_parts hV.code).1 _ _ hi
  obtain ⟨w1, w2, w3⟩ := fits_ways hf
  have hk := fits_kind hf
  obtain ⟨_, ⟨_, _, hr⟩, ⟨_, hs⟩, _, _⟩ := valid_bounds hV
  have hpar : 0 ≤ i.b → i.b < fs.length → 0 ≤ parV fs i.b ∧ parV fs i.b ≤ 8 := fun h0 h1 => by
    obtain ⟨g, hg⟩ : ∃ g, fs[i.b.toNat]? = some g := ⟨fs[i.b.toNat]'(by omega), by simp⟩
    have hp : parV fs i.b = g.params := by simp [parV, hg]
    have hv := (valid_bounds (hall g (List.mem_of_getElem? hg))).1
    omega
  obtain ⟨k, a, b, c, K⟩ := i
  simp only at hk w1 w2 w3 hpar ⊢
  rcases kinds10 hk with e | e | e | e | e | e | e | e | e | e
  all_goals
    subst e
    simp [fA, fB, fC, allowsV, belowV, holdsV] at w1 w2 w3
    refine ⟨by simp, ?_, ?_, ?_, ?_, ?_⟩ <;> simp <;> first | done | omega
/-- What Neat tells: the first loose place of the first function that has one. -/
def NeatP (l : List Fn) (m : Fn → Nat) (M : Fn → Nat → Nat → Int) (e k a : Int) : Prop :=
  ((checkV l).1 ≠ 0 ∧ e = 60 ∧ k = 0 ∧ a = 0) ∨
  ((checkV l).1 = 0 ∧ e = 0 ∧ k = 0 ∧ a = 0 ∧ ∀ f ∈ l, FstP l f.code (m f) (M f) (-1)) ∨
  ((checkV l).1 = 0 ∧ e = 180 ∧ ∃ (j : Nat) (f : Fn), k = j ∧ l[j]? = some f ∧ a ≠ -1 ∧ FstP l f.code (m f) (M f) a ∧ ∀ j' f', j' < j → l[j']? = some f' → FstP l f'.code (m f') (M f') (-1))
theorem NeatP.same {l : List Fn} {m : Fn → Nat} {M : Fn → Nat → Nat → Int} {e k a e' k' a' : Int} (h : NeatP l m M e k a) (h' : NeatP l m M e' k' a') : e = e' ∧ k = k' ∧ a = a' := by
  rcases h with ⟨h0, h1, h2, h3⟩ | ⟨h0, h1, h2, h3, h4⟩ | ⟨h0, h1, j, f, h2, hf, hne, h3, h4⟩ <;> rcases h' with ⟨g0, g1, g2, g3⟩ | ⟨g0, g1, g2, g3, g4⟩ | ⟨g0, g1, i, g, g2, hg, gne, g3, g4⟩
  · exact ⟨by omega, by omega, by omega⟩
  · exact absurd g0 h0
  · exact absurd g0 h0
  · exact absurd h0 g0
  · exact ⟨by omega, by omega, by omega⟩
  · exact absurd (g3.same (h4 g (List.mem_of_getElem? hg))) gne
  · exact absurd h0 g0
  · exact absurd (h3.same (g4 f (List.mem_of_getElem? hf))) hne
  · rcases Nat.lt_trichotomy j i with q | q | q
    · exact absurd (h3.same (g4 j f q hf)) hne
    · subst q
      rw [hf] at hg
      injection hg with hg
      subst hg
      exact ⟨by omega, by omega, h3.same g3⟩
    · exact absurd (g3.same (h4 i g q hg)) gne
theorem put_sameT {K : Act → World → Prop} {a : Act} {d : Option Tmp} {v v' : Value} {w : World} (h : v = v') (k : K (a.put d v') w) : K (a.put d v) w := h ▸ k
set_option maxHeartbeats 1000000 in
theorem tvalid_ok (a : Option Addr) (n c : Nat) (l : List Fn) (w : World) (hT : Tabs w) (hS : SeenF w a n l) (hok : ∀ f ∈ l, f.Ok) :
    Calls Tryd.prog 19 #[.agg #[.slice a n c]] w fun e w' => e = .returned (.bool (decide ((checkV l).1 = 0))) ∧ Keeps None w w' := by
  have bP := heap_alloc_new w (.cells #[.slice a n c] 24)
  have hal := Keeps.alloc None w (.cells #[.slice a n c] 24)
  obtain ⟨W, hW⟩ : ∃ W, W = w.alloc (.cells #[.slice a n c] 24) := ⟨_, rfl⟩
  obtain ⟨B, hB⟩ : ∃ B, B = w.heap.size := ⟨_, rfl⟩
  rw [← hW] at bP hal
  rw [← hB] at bP
  have c0 : W.cell? ⟨B, 0, none⟩ = some (.slice a n c) := (blk_cell bP 0).trans rfl
  have hck := check_any a n c l W (hT.more hal) (hS.more hal) hok
  unfold checkF faultV at hck
  have HX : Hid (Keeps None w W) := hal
  generalize checkV l = z at hck ⊢
  obtain ⟨z1, z2, z3⟩ := z
  simp only at hck ⊢
  clear hal bP hT hok hS
  by_cases h1 : z1 = 0
  · subst h1
    go_enter Tryd.func19, Tryd.ntmps19
    go_upto_region 1 with fail
    rw [← hW, ← hB]
    clear hW hB
    go_wp2_with (go_at_call 33; refine hck.mono ?_; rintro _ w3 ⟨rfl, hk3⟩)
    refine put_sameT (v' := .int .i64 0) rfl ?_
    simp only [Act.put, List.setIfInBounds_toArray, List.set_cons_zero, List.set_cons_succ]
    go_wp2_with fail
    go_ret
    exact ⟨rfl, HX.out.trans hk3 (fun _ f _ => f)⟩
  · go_enter Tryd.func19, Tryd.ntmps19
    go_upto_region 1 with fail
    rw [← hW, ← hB]
    clear hW hB
    go_wp2_with (go_at_call 33; refine hck.mono ?_; rintro _ w3 ⟨rfl, hk3⟩)
    refine put_sameT (v' := .int .i64 z1) rfl ?_
    simp only [Act.put, List.setIfInBounds_toArray, List.set_cons_zero, List.set_cons_succ]
    go_wp2_with fail
    go_ret
    exact ⟨by simp [h1], HX.out.trans hk3 (fun _ f _ => f)⟩
end Go.Proofs.YtoehkjfdaolcnaaDoor
/-! Neat: the program's. -/
namespace Go.Proofs.YtoehkjfdaolcnaaDoor
set_option linter.unusedVariables false
set_option maxRecDepth 20000
set_option linter.unusedSimpArgs false
open Go.RowKit Go.HeapKit

def slN (f : Fn) : Nat := f.slots.toNat
def mxV (f : Fn) (k s : Nat) : Int := sumAt (searchV f (s : Int) (0, 0)) k
theorem bldF1 (e : Int) (w : World) : (Instr.build 28 #[(0, .int .i64 e)]).run Tryd.prog w = .ok (.agg #[.int .i64 e, .int .i64 0, .int .i64 0]) w := run_build _ _ _ _ (by kernel_rfl)
theorem bldF0 (w : World) : (Instr.build 28 #[]).run Tryd.prog w = .ok (.agg #[.int .i64 0, .int .i64 0, .int .i64 0]) w := run_build _ _ _ _ (by kernel_rfl)
theorem bldF3 (e k a : Int) (w : World) : (Instr.build 28 #[(0, .int .i64 e), (1, .int .i64 k), (2, .int .i64 a)]).run Tryd.prog w = .ok (.agg #[.int .i64 e, .int .i64 k, .int .i64 a]) w := run_build _ _ _ _ (by kernel_rfl)
theorem set3F {w : World} {Y : Nat} {z0 z1 z2 : Value} (hb : w.heap[Y]? = some (.cells #[z0, z1, z2] 28 (0, 0))) (x k y : Int) : (((w.setCell ⟨Y, 0, none⟩ (.int .i64 x)).setCell ⟨Y, 1, none⟩ (.int .i64 k)).setCell ⟨Y, 2, none⟩ (.int .i64 y)).heap[Y]? = some (.cells #[.int .i64 x, .int .i64 k, .int .i64 y] 28 (0, 0)) ∧ Keeps (· = Y) w (((w.setCell ⟨Y, 0, none⟩ (.int .i64 x)).setCell ⟨Y, 1, none⟩ (.int .i64 k)).setCell ⟨Y, 2, none⟩ (.int .i64 y)) :=
  ⟨by rw [blk_set (blk_set (blk_set hb _) _)]; rfl, keeps_oneT (keeps_oneT (keeps_oneT (Keeps.refl _ w) _) _) _⟩
set_option maxHeartbeats 4000000 in
theorem neat_ok (a : Option Addr) (n c : Nat) (l : List Fn) (w : World) (hT : Tabs w) (hS : SeenF w a n l) (hok : ∀ f ∈ l, f.Ok) :
    Calls Tryd.prog 7 #[.agg #[.slice a n c]] w fun e w' => ∃ x k y, e = .returned (faultV x k y) ∧ NeatP l slN mxV x k y ∧ Keeps None w w' := by
  obtain ⟨b1, b2⟩ := two_boxes w #[.slice a n c] #[.int .i64 0, .int .i64 0, .int .i64 0] 24 28
  have hk2 := keeps2 w (.cells #[.slice a n c] 24) (.cells #[.int .i64 0, .int .i64 0, .int .i64 0] 28)
  obtain ⟨W, hW⟩ : ∃ w2, w2 = (w.alloc (.cells #[.slice a n c] 24)).alloc (.cells #[.int .i64 0, .int .i64 0, .int .i64 0] 28) := ⟨_, rfl⟩
  obtain ⟨X, hX⟩ : ∃ X, X = w.heap.size := ⟨_, rfl⟩
  obtain ⟨Y, hY⟩ : ∃ Y, Y = X + 1 := ⟨_, rfl⟩
  rw [← hW, ← hX] at b1 b2
  rw [← hY] at b2
  rw [← hW] at hk2
  have c0 : W.cell? ⟨X, 0, none⟩ = some (.slice a n c) := (blk_cell b1 0).trans rfl
  have hva := tvalid_ok a n c l W (hT.more hk2) (hS.more hk2) hok
  have HX : Hid (Keeps None w W ∧ W.heap[X]? = some (.cells #[.slice a n c] 24 (0, 0)) ∧ W.heap[Y]? = some (.cells #[.int .i64 0, .int .i64 0, .int .i64 0] 28 (0, 0)) ∧ w.heap.size ≤ Y ∧ Tabs w ∧ SeenF w a n l ∧ (∀ f ∈ l, f.Ok)) := ⟨hk2, b1, b2, by omega, hT, hS, hok⟩
  clear hk2 b1 b2 hT hS hok
  by_cases h1 : (checkV l).1 = 0
  · rw [decide_eq_true h1] at hva
    go_enter Tryd.func7, Tryd.ntmps7
    go_upto_region 1 with fail
    rw [← hW, ← hX]
    try rw [← hY]
    clear hW hX hY
    go_upto_region 3 with (go_at_call 19; refine hva.mono ?_; rintro _ w3 ⟨rfl, hk3⟩)
    have d0 : w3.cell? ⟨X, 0, none⟩ = some (.slice a n c) := hk3.cell c0 (fun f => f)
    have HC : Hid (checkV l = (0, 0, 0) ∧ (∀ f ∈ l, Valid l f) ∧ n = l.length) := ⟨check_zero h1, (check_valid (check_zero h1)).2.2, HX.out.2.2.2.2.2.1.len⟩
    have H3 : Hid (Keeps None w w3 ∧ w3.heap[Y]? = some (.cells #[.int .i64 0, .int .i64 0, .int .i64 0] 28 (0, 0))) := ⟨HX.out.1.trans hk3 (fun _ f _ => f), blk_kept HX.out.2.2.1 hk3 (fun f => f)⟩
    have H1 : Hid ((checkV l).1 = 0) := h1
    clear c0 hva hk3 h1
    go_wp2_with fail
    go_loopw [13] (fun s13 wr => ∃ k : Nat, k ≤ n ∧ s13 = .int .i64 k ∧ (∀ k' f', k' < k → l[k']? = some f' → FstP l f'.code (slN f') (mxV f') (-1)) ∧ Keeps None w3 wr) (fun i _ => n - (intOf i).toNat)
    case atStart => exact ⟨0, Nat.zero_le _, rfl, fun k' i' h => absurd h (by omega), Keeps.refl _ _⟩
    case round =>
      obtain ⟨k, hk, rfl, hno, hkp⟩ := hrel
      have y0 : wr.cell? ⟨X, 0, none⟩ = some (.slice a n c) := hkp.cell d0 (fun f => f)
      clear d0
      have HN : Hid (∀ k' f', k' < k → l[k']? = some f' → FstP l f'.code (slN f') (mxV f') (-1)) := hno
      have HR : Hid (Keeps None w wr ∧ Keeps None w3 wr ∧ wr.heap[Y]? = some (.cells #[.int .i64 0, .int .i64 0, .int .i64 0] 28 (0, 0))) := ⟨H3.out.1.trans hkp (fun _ f _ => f), hkp, blk_kept H3.out.2 hkp (fun f => f)⟩
      clear hno hkp
      have hn32 : (k : Int) ≤ 32 := by have := (check_valid HC.out.1).2.1; have := HC.out.2.2; omega
      by_cases hkn : k < n
      · have i1 : (k : Int) < (n : Int) := by omega
        obtain ⟨b, off, f, ca, cc, rfl, hf, hat⟩ := (HX.out.2.2.2.2.2.1.more HR.out.1).at hkn
        have p0 := hat.params
        have p1 := hat.regs
        have p2 := hat.slots
        have p3 := hat.code
        obtain ⟨N, hN⟩ : ∃ N, N = f.code.length := ⟨_, rfl⟩
        rw [← hN] at p3
        have HF : Hid (l[k]? = some f ∧ SeenI wr ca f.code.length f.code ∧ N = f.code.length) := ⟨hf, hat.seen, hN⟩
        clear hf hat hN
        go_upto_region 6 with fail
        have bA := heap_alloc_new wr (.cells #[.int .i64 f.params, .int .i64 f.regs, .int .i64 f.slots, .slice ca N cc] 37)
        have kA := Keeps.alloc None wr (.cells #[.int .i64 f.params, .int .i64 f.regs, .int .i64 f.slots, .slice ca N cc] 37)
        obtain ⟨w4, hw4⟩ : ∃ w4, w4 = wr.alloc (.cells #[.int .i64 f.params, .int .i64 f.regs, .int .i64 f.slots, .slice ca N cc] 37) := ⟨_, rfl⟩
        obtain ⟨G, hG⟩ : ∃ G, G = wr.heap.size := ⟨_, rfl⟩
        rw [← hw4] at bA kA ⊢
        rw [← hG] at bA ⊢
        clear hw4 hG
        have q0 : w4.cell? ⟨G, 0, none⟩ = some (.int .i64 f.params) := (blk_cell bA 0).trans rfl
        have q1 : w4.cell? ⟨G, 1, none⟩ = some (.int .i64 f.regs) := (blk_cell bA 1).trans rfl
        have q2 : w4.cell? ⟨G, 2, none⟩ = some (.int .i64 f.slots) := (blk_cell bA 2).trans rfl
        have q3 : w4.cell? ⟨G, 3, none⟩ = some (.slice ca N cc) := (blk_cell bA 3).trans rfl
        have y4 : w4.cell? ⟨X, 0, none⟩ = _ := kA.cell y0 (fun f => f)
        have H4 : Hid (Keeps None w w4 ∧ Keeps None wr w4) := ⟨HR.out.1.trans kA (fun _ f _ => f), kA⟩
        have HFL : Hid (Calls Tryd.prog 20 #[.agg #[.int .i64 f.params, .int .i64 f.regs, .int .i64 f.slots, .slice ca N cc], .slice (some ⟨b, off, none⟩) n c] w4 fun e w' => ∃ z, e = .returned (.int .i64 z) ∧ FstP l f.code (slN f) (mxV f) z ∧ Keeps None w4 w') := by
          have hm := List.mem_of_getElem? HF.out.1
          have hV := HC.out.2.1 f hm
          have hvb := valid_bounds hV
          exact firstLoose_ok f ca N cc (slN f) (some ⟨b, off, none⟩) n c l w4 (HX.out.2.2.2.2.1.more H4.out.1) (by rw [HF.out.2.2]; exact HF.out.2.1.more H4.out.2) (HX.out.2.2.2.2.2.1.more H4.out.1) (HX.out.2.2.2.2.2.2 f hm).code hV (valid_gd hV) (valid_regs HC.out.2.1 hV) HF.out.2.2 (by unfold slN; omega) (by unfold slN; omega)
        clear p0 p1 p2 p3 y0 bA kA
        go_upto_region 7 with (go_at_call 20; refine HFL.out.mono ?_; rintro _ w5 ⟨z, rfl, hz, hk5⟩)
        have H5 : Hid (FstP l f.code (slN f) (mxV f) z ∧ Keeps None w4 w5) := ⟨hz, hk5⟩
        clear hz hk5 HFL q0 q1 q2 q3 y4
        by_cases hz : z = -1
        · subst hz
          go_wp2_with fail
          refine ⟨⟨k + 1, by omega, by first | rfl | simp, fun k' f' h1 h2 => ?_, (HR.out.2.1.trans H4.out.2 (fun _ f _ => f)).trans H5.out.2 (fun _ f _ => f)⟩, ?_⟩
          · by_cases e : k' = k
            · subst e
              rw [HF.out.1] at h2
              injection h2 with h2
              subst h2
              exact H5.out.1
            · exact HN.out k' f' (by omega) h2
          · show n - (k + 1 : Int).toNat < n - (k : Int).toNat
            omega
        · have hbd := bldF3 180 (k : Int) z
          have b3 := blk_kept HR.out.2.2 (H4.out.2.trans H5.out.2 (fun _ f _ => f)) (fun f => f)
          have e0 := (blk_cell b3 0).trans rfl
          have e1 := (blk_cell b3 1).trans rfl
          have e2 := (blk_cell b3 2).trans rfl
          have f0 := blk_free b3 0
          have f1 := blk_free b3 1
          have f2 := blk_free b3 2
          go_wp2_with fail
          obtain ⟨b4, k4⟩ := set3F b3 180 (k : Int) z
          exact fault_end (g := Y) rfl b4 rfl rfl ⟨180, (k : Int), z, rfl, .inr (.inr ⟨H1.out, rfl, k, f, rfl, HF.out.1, hz, H5.out.1, HN.out⟩), (H4.out.1.trans H5.out.2 (fun _ f _ => f)).trans k4 (fun i e hi => by have := HX.out.2.2.2.1; omega)⟩
      · have hkn2 : k = n := by omega
        have i1 : ¬ (k : Int) < (n : Int) := by omega
        have hbd := bldF0
        have b3 := HR.out.2.2
        have e0 := (blk_cell b3 0).trans rfl
        have e1 := (blk_cell b3 1).trans rfl
        have e2 := (blk_cell b3 2).trans rfl
        have f0 := blk_free b3 0
        have f1 := blk_free b3 1
        have f2 := blk_free b3 2
        go_wp2_with fail
        obtain ⟨b4, k4⟩ := set3F b3 0 0 0
        refine fault_end (g := Y) rfl b4 rfl rfl ⟨0, 0, 0, rfl, .inr (.inl ⟨H1.out, rfl, rfl, rfl, fun f hf => ?_⟩), HR.out.1.trans k4 (fun i e hi => by have := HX.out.2.2.2.1; omega)⟩
        obtain ⟨q, hq, e⟩ := List.getElem_of_mem hf
        exact HN.out q f (by have := HC.out.2.2; omega) (by rw [← e]; simp)
  · rw [decide_eq_false h1] at hva
    have HN : Hid (NeatP l slN mxV 60 0 0) := .inl ⟨h1, rfl, rfl, rfl⟩
    clear h1
    have hbd := bldF1 60
    go_enter Tryd.func7, Tryd.ntmps7
    go_upto_region 1 with fail
    rw [← hW, ← hX]
    try rw [← hY]
    clear hW hX hY
    go_upto_region 2 with (go_at_call 19; refine hva.mono ?_; rintro _ w3 ⟨rfl, hk3⟩)
    have b3 := blk_kept HX.out.2.2.1 hk3 (fun f => f)
    have e0 := (blk_cell b3 0).trans rfl
    have e1 := (blk_cell b3 1).trans rfl
    have e2 := (blk_cell b3 2).trans rfl
    have f0 := blk_free b3 0
    have f1 := blk_free b3 1
    have f2 := blk_free b3 2
    go_wp2_with fail
    obtain ⟨b4, k4⟩ := set3F b3 60 0 0
    exact fault_end (g := Y) rfl b4 rfl rfl ⟨60, 0, 0, rfl, HN.out, (HX.out.1.trans hk3 (fun _ f _ => f)).trans k4 (fun i e hi => by have := HX.out.2.2.2.1; omega)⟩
end Go.Proofs.YtoehkjfdaolcnaaDoor
/-! What an instruction reads and writes, and where it goes on: the document's. -/
namespace Go.Proofs.YtoehkjfdaolcnaaDoor
set_option linter.unusedVariables false
set_option maxRecDepth 20000
set_option linter.unusedSimpArgs false
open Go.RowKit Go.HeapKit

set_option maxHeartbeats 1000000 in
theorem rwrites_ok (i : Ins) (w : World) (h : 0 ≤ i.kind ∧ i.kind < 10) : Calls Tryd.prog 42 #[insV i] w fun e w' => e = .returned (.int .i64 (wrV i)) ∧ Keeps None w w' := by
  obtain ⟨kd, a, b, c, kk⟩ := i
  have hk := kinds10 h
  simp only at hk
  have HA : Hid (Keeps None w (w.alloc (.cells #[.int .i64 kd, .int .i64 a, .int .i64 b, .int .i64 c, .int .i64 kk] 39))) := Keeps.alloc None w _
  unfold insV
  clear h
  rcases hk with rfl | rfl | rfl | rfl | rfl | rfl | rfl | rfl | rfl | rfl
  all_goals (go_enter Tryd.func42, Tryd.ntmps42)
  all_goals go_wp2_with fail
  all_goals go_ret
  all_goals exact ⟨rfl, HA.out⟩
set_option maxHeartbeats 1000000 in
theorem rtarget_ok (i : Ins) (w : World) (h : 0 ≤ i.kind ∧ i.kind < 10) : Calls Tryd.prog 41 #[insV i] w fun e w' => e = .returned (.int .i64 (tgt i)) ∧ Keeps None w w' := by
  obtain ⟨kd, a, b, c, kk⟩ := i
  have hk := kinds10 h
  simp only at hk
  have HA : Hid (Keeps None w (w.alloc (.cells #[.int .i64 kd, .int .i64 a, .int .i64 b, .int .i64 c, .int .i64 kk] 39))) := Keeps.alloc None w _
  unfold insV
  clear h
  rcases hk with rfl | rfl | rfl | rfl | rfl | rfl | rfl | rfl | rfl | rfl
  all_goals (go_enter Tryd.func41, Tryd.ntmps41)
  all_goals go_wp2_with fail
  all_goals go_ret
  all_goals exact ⟨rfl, HA.out⟩
set_option maxHeartbeats 2000000 in
theorem rfollow_ok (ca : Option Addr) (n cc : Nat) (code : List Ins) (t : Nat) (i : Ins) (w : World) (hC : SeenI w ca n code) (hi : code[t]? = some i) (h : 0 ≤ i.kind ∧ i.kind < 10) (hn : n ≤ 512) : Calls Tryd.prog 38 #[.slice ca n cc, .int .i64 (t : Int)] w fun e w' => ∃ v, e = .returned v ∧ OwnL w' w.heap.size v (exitsV t i) ∧ Keeps None w w' := by
  have ht : t < n := by have := hC.len; have := (List.getElem?_eq_some_iff.1 hi).1; omega
  obtain ⟨b, off, i', rfl, hi', hat⟩ := hC.at ht
  rw [hi] at hi'
  injection hi' with hi'
  subst hi'
  have i1 : (t : Int) < (n : Int) := by omega
  have i2 : (t : Int) ≤ 512 := by omega
  obtain ⟨p0, p1, p2, p3, p4⟩ := hat
  obtain ⟨kd, a, b', c, kk⟩ := i
  have hk := kinds10 h
  simp only at hk p0 p1 p2 p3 p4
  have HA : Hid (Keeps None w (w.alloc (.cells #[.int .i64 kd, .int .i64 a, .int .i64 b', .int .i64 c, .int .i64 kk] 39))) := Keeps.alloc None w _
  have HS : Hid (w.heap.size ≤ (w.alloc (.cells #[.int .i64 kd, .int .i64 a, .int .i64 b', .int .i64 c, .int .i64 kk] 39)).heap.size) := HA.out.size
  clear h hC hi ht hn
  rcases hk with rfl | rfl | rfl | rfl | rfl | rfl | rfl | rfl | rfl | rfl
  all_goals (go_enter Tryd.func38, Tryd.ntmps38)
  all_goals go_wp2_with fail
  all_goals go_ret
  · exact ⟨_, rfl, by rw [ex_next _ (by simp)]; simpa using own_one (a := (t : Int) + 1) HS.out, HA.out.andAlloc _⟩
  · exact ⟨_, rfl, by rw [ex_next _ (by simp)]; simpa using own_one (a := (t : Int) + 1) HS.out, HA.out.andAlloc _⟩
  · exact ⟨_, rfl, by rw [ex_next _ (by simp)]; simpa using own_one (a := (t : Int) + 1) HS.out, HA.out.andAlloc _⟩
  · exact ⟨_, rfl, by rw [ex_jump _ rfl]; simpa using own_one (a := a) HS.out, HA.out.andAlloc _⟩
  · exact ⟨_, rfl, by rw [ex_branch _ rfl]; simpa using own_two (a := (t : Int) + 1) (b := b') HS.out, HA.out.andAlloc _⟩
  · exact ⟨_, rfl, by rw [ex_next _ (by simp)]; simpa using own_one (a := (t : Int) + 1) HS.out, HA.out.andAlloc _⟩
  · exact ⟨_, rfl, by rw [ex_next _ (by simp)]; simpa using own_one (a := (t : Int) + 1) HS.out, HA.out.andAlloc _⟩
  · exact ⟨_, rfl, by rw [ex_next _ (by simp)]; simpa using own_one (a := (t : Int) + 1) HS.out, HA.out.andAlloc _⟩
  · exact ⟨_, rfl, by rw [ex_next _ (by simp)]; simpa using own_one (a := (t : Int) + 1) HS.out, HA.out.andAlloc _⟩
  · exact ⟨_, rfl, by rw [ex_ret _ rfl]; exact row_nilT _ _ _ _, HA.out⟩
end Go.Proofs.YtoehkjfdaolcnaaDoor
/-! Whether an instruction reads a register: the document's. -/
namespace Go.Proofs.YtoehkjfdaolcnaaDoor
set_option linter.unusedVariables false
set_option maxRecDepth 20000
set_option linter.unusedSimpArgs false
open Go.RowKit Go.HeapKit

theorem beqI (a b : Int) : (a == b) = decide (a = b) := rfl
set_option maxHeartbeats 2000000 in
theorem rreads_ok (a0 : Option Addr) (n0 c0 : Nat) (fs : List Fn) (i : Ins) (r : Nat) (w : World) (hS : SeenF w a0 n0 fs) (h : RegOk fs i) (hok : i.Ok) (hr : r < 16) : Calls Tryd.prog 52 #[.agg #[.slice a0 n0 c0], insV i, .int .i64 (r : Int)] w fun e w' => e = .returned (.bool (rdV fs i r)) ∧ Keeps None w w' := by
  obtain ⟨kd, a, b, c, kk⟩ := i
  have hk := kinds10 h.kind
  simp only at hk
  have HA : Hid (Keeps None w ((w.alloc (.cells #[.slice a0 n0 c0] 24)).alloc (.cells #[.int .i64 kd, .int .i64 a, .int .i64 b, .int .i64 c, .int .i64 kk] 39))) := keeps2 w _ _
  unfold insV
  simp only
  by_cases h5 : kd = 5
  · subst h5
    obtain ⟨s1, s2, s3, s4, s5⟩ := h.sp rfl
    simp only at s1 s2 s3 s4 s5
    obtain ⟨q, rfl⟩ := Int.eq_ofNat_of_zero_le s1
    have hq : q < n0 := by have := hS.len; omega
    obtain ⟨fb, off, f, ca, cc, rfl, hf, hat⟩ := hS.at hq
    have hp : parV fs (q : Int) = f.params := by simp [parV, hf]
    have hkk := keeps2 w (.cells #[.slice (some ⟨fb, off, none⟩) n0 c0] 24) (.cells #[.int .i64 5, .int .i64 a, .int .i64 (q : Int), .int .i64 c, .int .i64 kk] 39)
    obtain ⟨b1, b2⟩ := two_boxes w #[.slice (some ⟨fb, off, none⟩) n0 c0] #[.int .i64 5, .int .i64 a, .int .i64 (q : Int), .int .i64 c, .int .i64 kk] 24 39
    obtain ⟨W, hW⟩ : ∃ W, W = (w.alloc (.cells #[.slice (some ⟨fb, off, none⟩) n0 c0] 24)).alloc (.cells #[.int .i64 5, .int .i64 a, .int .i64 (q : Int), .int .i64 c, .int .i64 kk] 39) := ⟨_, rfl⟩
    obtain ⟨X, hX⟩ : ∃ X, X = w.heap.size := ⟨_, rfl⟩
    obtain ⟨Y, hY⟩ : ∃ Y, Y = X + 1 := ⟨_, rfl⟩
    rw [← hW] at b1 b2 hkk
    rw [← hX] at b1 b2
    rw [← hY] at b2
    have p0 : W.cell? ⟨fb, off + q * 4, none⟩ = some (.int .i64 (parV fs (q : Int))) := by rw [hp]; exact hkk.cell hat.params (fun f => f)
    have x0 : W.cell? ⟨X, 0, none⟩ = some (.slice (some ⟨fb, off, none⟩) n0 c0) := (blk_cell b1 0).trans rfl
    have y0 : W.cell? ⟨Y, 0, none⟩ = some (.int .i64 5) := (blk_cell b2 0).trans rfl
    have y2 : W.cell? ⟨Y, 2, none⟩ = some (.int .i64 (q : Int)) := (blk_cell b2 2).trans rfl
    have y3 : W.cell? ⟨Y, 3, none⟩ = some (.int .i64 c) := (blk_cell b2 3).trans rfl
    have i1 : (q : Int) < (n0 : Int) := by omega
    have HK : Hid (Keeps None w W) := hkk
    have HR : Hid (rdV fs ⟨5, a, (q : Int), c, kk⟩ r = decide (c ≤ (r : Int) ∧ (r : Int) < c + parV fs (q : Int))) := rfl
    generalize parV fs (q : Int) = P at p0 s3 s4 s5 HR
    rw [HR.out]
    clear hkk h hS hk HA hat hf hp hq b1 b2 s1 s2
    have i9 : (r : Int) < 16 := by omega
    by_cases i3 : c ≤ (r : Int)
    · rw [decide_eq_true i3 |> fun _ => (by simp [i3] : decide (c ≤ (r : Int) ∧ (r : Int) < c + P) = decide ((r : Int) < c + P))]
      have hw : -9223372036854775808 ≤ c + P ∧ c + P ≤ 9223372036854775807 := by have h0 := hok.c.1; simp only at h0; omega
      clear hok
      go_enter Tryd.func52, Tryd.ntmps52
      go_upto_region 1 with fail
      rw [← hW, ← hX]
      try rw [← hY]
      clear hW hX hY
      go_upto_region 10 with fail
      go_region
      go_wp2_with fail
      go_ret
      exact ⟨rfl, HK.out.andDrew⟩
    · rw [show decide (c ≤ (r : Int) ∧ (r : Int) < c + P) = false by simp [i3]]
      clear hok
      go_enter Tryd.func52, Tryd.ntmps52
      go_upto_region 1 with fail
      rw [← hW, ← hX]
      try rw [← hY]
      clear hW hX hY
      go_upto_region 10 with fail
      go_region
      go_wp2_with fail
      go_ret
      exact ⟨rfl, HK.out.andDrew⟩
  · have hk2 : kd = 0 ∨ kd = 1 ∨ kd = 2 ∨ kd = 3 ∨ kd = 4 ∨ kd = 6 ∨ kd = 7 ∨ kd = 8 ∨ kd = 9 := by omega
    clear h hS hk h5 hr hok
    rcases hk2 with rfl | rfl | rfl | rfl | rfl | rfl | rfl | rfl | rfl
    all_goals (go_enter Tryd.func52, Tryd.ntmps52)
    case inl => go_wp2_with fail; go_ret; exact ⟨rfl, HA.out⟩
    case inr.inl => go_wp2_with fail; go_ret; exact ⟨by simp [rdV, beqI], HA.out⟩
    case inr.inr.inl =>
      by_cases e : b = (r : Int)
      · subst e
        go_wp2_with fail
        go_ret
        exact ⟨by simp [rdV], HA.out⟩
      · have e' : (b == (r : Int)) = false := by simpa using e
        go_wp2_with fail
        go_ret
        exact ⟨by simp [rdV, e, beqI], HA.out⟩
    all_goals go_wp2_with fail
    all_goals go_ret
    all_goals exact ⟨by simp [rdV, beqI], HA.out⟩
end Go.Proofs.YtoehkjfdaolcnaaDoor
/-! The document's searches, plainly: first in, first out, marked when looked at. -/
namespace Go.Proofs.YtoehkjfdaolcnaaDoor
set_option linter.unusedVariables false
set_option maxRecDepth 20000
set_option linter.unusedSimpArgs false
open Go.RowKit Go.HeapKit

/-- What is come to from a list of places. -/
inductive Rx (nx : Nat → List Nat) (st : List Nat) : Nat → Prop
  | start {k : Nat} : k ∈ st → Rx nx st k
  | more {k k' : Nat} : Rx nx st k → k' ∈ nx k → Rx nx st k'
structure Cm (n : Nat) (nx : Nat → List Nat) (st : List Nat) (met : Nat → Bool) (op : List Nat) : Prop where
  init : ∀ k ∈ st, met k = true ∨ k ∈ op
  ok : ∀ k, met k = true → k < n ∧ Rx nx st k
  opn : ∀ k ∈ op, k < n ∧ Rx nx st k
  closed : ∀ (k k' : Nat), met k = true → k' ∈ nx k → met k' = true ∨ k' ∈ op
theorem Cm.begin {n : Nat} {nx : Nat → List Nat} {st : List Nat} (h : ∀ k ∈ st, k < n) : Cm n nx st (fun _ => false) st :=
  ⟨fun k hk => .inr hk, fun k hk => (Bool.noConfusion hk), fun k hk => ⟨h k hk, .start hk⟩, fun k k' hk => (Bool.noConfusion hk)⟩
theorem Cm.full {n : Nat} {nx : Nat → List Nat} {st : List Nat} {met : Nat → Bool} (h : Cm n nx st met []) (k : Nat) : met k = true ↔ Rx nx st k := by
  refine ⟨fun hm => (h.ok k hm).2, fun hr => ?_⟩
  induction hr with
  | start hk => exact (h.init _ hk).resolve_right (by simp)
  | more _ hk ih => exact (h.closed _ _ ih hk).resolve_right (by simp)
theorem Cm.skip {n : Nat} {nx : Nat → List Nat} {st : List Nat} {met : Nat → Bool} {op : List Nat} {k : Nat} (h : Cm n nx st met (k :: op)) (hm : met k = true) : Cm n nx st met op := by
  have hx : ∀ q, q ∈ k :: op → met q = true ∨ q ∈ op := fun q hq => by
    rcases List.mem_cons.1 hq with e | e
    · subst e; exact .inl hm
    · exact .inr e
  exact ⟨fun q hq => (h.init q hq).elim .inl (hx q), h.ok, fun q hq => h.opn q (List.mem_cons_of_mem _ hq), fun q q' h1 h2 => (h.closed q q' h1 h2).elim .inl (hx q')⟩
theorem Cm.put {n : Nat} {nx : Nat → List Nat} {st : List Nat} {met : Nat → Bool} {op : List Nat} {k : Nat} (h : Cm n nx st met (k :: op)) (hn : ∀ q ∈ nx k, q < n) : Cm n nx st (updT met k true) (op ++ nx k) := by
  have hk := h.opn k (by simp)
  have mono : ∀ q, met q = true → updT met k true q = true := fun q hq => by
    unfold updT
    split
    · rfl
    · exact hq
  have hx : ∀ q, met q = true ∨ q ∈ k :: op → updT met k true q = true ∨ q ∈ op ++ nx k := fun q hq => by
    rcases hq with e | e
    · exact .inl (mono q e)
    · rcases List.mem_cons.1 e with e | e
      · subst e; exact .inl (by simp [updT])
      · exact .inr (List.mem_append_left _ e)
  refine ⟨fun q hq => hx q (h.init q hq), fun q hq => ?_, fun q hq => ?_, fun q q' h1 h2 => ?_⟩
  · by_cases e : q = k
    · subst e; exact hk
    · unfold updT at hq
      rw [if_neg e] at hq
      exact h.ok q hq
  · rcases List.mem_append.1 hq with e | e
    · exact h.opn q (List.mem_cons_of_mem _ e)
    · exact ⟨hn q e, .more hk.2 e⟩
  · by_cases e : q = k
    · subst e; exact .inr (List.mem_append_right _ h2)
    · unfold updT at h1
      rw [if_neg e] at h1
      exact hx q' (h.closed q q' h1 h2)
/-- The exits as places. -/
def exN (code : List Ins) (k : Nat) : List Nat := match code[k]? with
  | some i => (exitsV k i).map Int.toNat
  | none => []
theorem exN_mem {code : List Ins} (hG : Gd code) {k : Nat} {i : Ins} (hi : code[k]? = some i) (k' : Nat) : k' ∈ exN code k ↔ (k' : Int) ∈ exitsV k i := by
  unfold exN
  rw [hi]
  simp only [List.mem_map]
  refine ⟨fun h => ?_, fun h => ⟨_, h, by simp⟩⟩
  obtain ⟨z, hz, rfl⟩ := h
  have := (hG.ways k i hi z hz).1
  rwa [Int.toNat_of_nonneg this]
theorem exN_natL {code : List Ins} (hG : Gd code) {k : Nat} {i : Ins} (hi : code[k]? = some i) : natL (exN code k) = exitsV k i := by
  unfold exN natL
  rw [hi]
  simp only [List.map_map]
  refine (List.map_congr_left (fun z hz => ?_)).trans (List.map_id _)
  have := (hG.ways k i hi z hz).1
  show ((z.toNat : Nat) : Int) = z
  omega
theorem exN_lt {code : List Ins} (hG : Gd code) (k q : Nat) (h : q ∈ exN code k) : q < code.length := by
  cases hi : code[k]? with
  | none => unfold exN at h; rw [hi] at h; cases h
  | some i =>
    have := (hG.ways k i hi q ((exN_mem hG hi q).1 h)).2
    omega
theorem exN_len (code : List Ins) (k : Nat) : (exN code k).length ≤ 3 := by
  unfold exN
  cases code[k]? with
  | none => simp
  | some i =>
    simp only [List.length_map]
    unfold exitsV
    simp only [List.length_append]
    repeat' split
    all_goals simp
theorem rx_rc {code : List Ins} (hG : Gd code) (k : Nat) : Rx (exN code) [0] k ↔ Rc code k := by
  constructor
  · intro h
    induction h with
    | start hk => rw [List.mem_singleton] at hk; subst hk; exact .zero
    | @more k k' _ hk ih =>
      cases hi : code[k]? with
      | none => unfold exN at hk; rw [hi] at hk; cases hk
      | some i => exact .more ih hi ((exN_mem hG hi k').1 hk)
  · intro h
    induction h with
    | zero => exact .start (by simp)
    | more _ hi hk ih => exact .more ih ((exN_mem hG hi _).2 hk)
/-- The places behind one that does not write the register. -/
def lvN (code : List Ins) (r k : Nat) : List Nat := match code[k]? with
  | some i => if wrV i = (r : Int) then [] else exN code k
  | none => []
theorem lvN_lt {code : List Ins} (hG : Gd code) (r k q : Nat) (h : q ∈ lvN code r k) : q < code.length := by
  unfold lvN at h
  split at h
  · split at h
    · cases h
    · exact exN_lt hG k q h
  · cases h
theorem lvN_len (code : List Ins) (r k : Nat) : (lvN code r k).length ≤ 3 := by
  unfold lvN
  split
  · split
    · simp
    · exact exN_len code k
  · simp
def rdAt (fs : List Fn) (code : List Ins) (r k : Nat) : Prop := ∃ i, code[k]? = some i ∧ rdV fs i r = true
theorem lv_back {fs : List Fn} {code : List Ins} (hG : Gd code) {r : Nat} {st : List Nat} {k : Nat} (h : Rx (lvN code r) st k) (hl : Lv fs code r k) : ∃ s ∈ st, Lv fs code r s := by
  induction h with
  | start hk => exact ⟨_, hk, hl⟩
  | @more k k' _ hk ih =>
    refine ih ?_
    unfold lvN at hk
    split at hk
    · rename_i i hi
      split at hk
      · cases hk
      · rename_i hw
        exact .more hi hw ((exN_mem hG hi k').1 hk) hl
    · cases hk
theorem lv_rx {fs : List Fn} {code : List Ins} (hG : Gd code) {r : Nat} {st : List Nat} {k : Nat} (hl : Lv fs code r k) (h : Rx (lvN code r) st k) : ∃ q, Rx (lvN code r) st q ∧ rdAt fs code r q := by
  induction hl with
  | here hi hr => exact ⟨_, h, _, hi, hr⟩
  | @more k k' i hi hw hk _ ih =>
    refine ih (.more h ?_)
    unfold lvN
    rw [hi]
    simp only
    rw [if_neg hw]
    exact (exN_mem hG hi k').2 hk
theorem bh_rx {fs : List Fn} {code : List Ins} (hG : Gd code) {r k : Nat} : Bh fs code r k ↔ ∃ q, Rx (lvN code r) (exN code k) q ∧ rdAt fs code r q := by
  constructor
  · rintro ⟨i, k', hi, hk, hl⟩
    exact lv_rx hG hl (.start ((exN_mem hG hi k').2 hk))
  · rintro ⟨q, hq, i, hi, hr⟩
    obtain ⟨s, hs, hl⟩ := lv_back hG hq (.here hi hr)
    cases hk : code[k]? with
    | none => unfold exN at hs; rw [hk] at hs; cases hs
    | some j => exact ⟨j, s, hk, (exN_mem hG hk s).1 hs, hl⟩
end Go.Proofs.YtoehkjfdaolcnaaDoor
/-! Lists of places in memory: what is appended at once. -/
namespace Go.Proofs.YtoehkjfdaolcnaaDoor
set_option linter.unusedVariables false
set_option maxRecDepth 20000
set_option linter.unusedSimpArgs false
open Go.RowKit Go.HeapKit

structure SeenN (w : World) (a : Option Addr) (m : Nat) (l : List Int) : Prop where
  len : m = l.length
  ex : 0 < m → ∃ b off, a = some ⟨b, off, none⟩ ∧ ∀ (k : Nat) (z : Int), l[k]? = some z → w.cell? ⟨b, off + k, none⟩ = some (.int .i64 z)
theorem SeenN.more {w w' : World} {a : Option Addr} {m : Nat} {l : List Int} (h : SeenN w a m l) (hk : Keeps None w w') : SeenN w' a m l :=
  ⟨h.len, fun hm => by
    obtain ⟨b, off, e, hc⟩ := h.ex hm
    exact ⟨b, off, e, fun k z hz => hk.cell (hc k z hz) (fun f => f)⟩⟩
theorem OwnL.seen {w : World} {base : Nat} {a : Option Addr} {m c : Nat} {l : List Int} (h : OwnL w base (.slice a m c) l) : SeenN w a m l := by
  have hm : m = l.length := by
    rcases h.2 with ⟨e, h0⟩ | ⟨_, _, _, e, _⟩
    · injection e with _ e1 _
      omega
    · injection e with _ e1 _
  refine ⟨hm, fun hp => ?_⟩
  obtain ⟨z0, hz0⟩ : ∃ z, l[0]? = some z := ⟨l[0]'(by omega), by simp⟩
  obtain ⟨g, c', e, _, _, _⟩ := own_elem h hz0
  injection e with e1 e2 e3
  refine ⟨g, 0, e1, fun k z hz => ?_⟩
  obtain ⟨g', c2, e', _, _, hc⟩ := own_elem h hz
  injection e' with e1' _ _
  rw [e1] at e1'
  injection e1' with e1'
  injection e1' with e1' _ _
  subst e1'
  rw [Nat.zero_add]
  exact hc
/-- The rest of a list, without its first. -/
theorem SeenN.tail {w : World} {b off m : Nat} {z : Int} {l : List Int} (h : SeenN w (some ⟨b, off, none⟩) (m + 1) (z :: l)) : SeenN w (some ⟨b, off + 1, none⟩) m l := by
  refine ⟨by have := h.len; simp at this; exact this, fun hm => ⟨b, off + 1, rfl, fun k y hy => ?_⟩⟩
  obtain ⟨b', off', e, hc⟩ := h.ex (by omega)
  injection e with e
  injection e with e1 e2 _
  subst e1 e2
  have := hc (k + 1) y (by simpa using hy)
  rwa [show off + 1 + k = off + (k + 1) by omega]
theorem SeenN.nil (w : World) (a : Option Addr) : SeenN w a 0 [] := ⟨rfl, fun h => absurd h (by omega)⟩
theorem own_nil {w : World} {base : Nat} (hb : base ≤ w.heap.size) : OwnL (w.alloc (.cells #[] 3)) base (.slice (some ⟨w.heap.size, 0, none⟩) 0 0) [] :=
  ⟨by simp, .inr ⟨w.heap.size, 0, #[], rfl, hb, heap_alloc_new w _, by simp, by simp, by simp, by simp⟩⟩
/-- 'append(l1, l2...)' of numbers. -/
theorem int_app (base : Nat) (g n cap : Nat) (l1 : List Int) (a : Option Addr) (m c : Nat) (l2 : List Int) (ty : TypeId) (w : World) (h : OwnL w base (.slice (some ⟨g, 0, none⟩) n cap) l1) (hn : n = l1.length) (h2 : SeenN w a m l2) (hb : base ≤ w.heap.size) (hl : l1.length + l2.length ≤ 100000) :
    ∃ g' cap' w', (Builtin.append_ #[56, 56] ty #[.slice (some ⟨g, 0, none⟩) n cap, .slice a m c]).run Tryd.prog w = .ok (.slice (some ⟨g', 0, none⟩) (n + m) cap') w' ∧
      OwnL w' base (.slice (some ⟨g', 0, none⟩) (n + m) cap') (l1 ++ l2) ∧ Keeps (· = g) w w' ∧ (g' = g ∨ w.heap.size ≤ g') := by
  obtain ⟨i0, hi, hz0, hz1, hz2⟩ := info_parts Tryd.infoIntT
  have hm := h2.len
  cases a with
  | none =>
    have h0 : m = 0 := by
      by_cases hp : 0 < m
      · obtain ⟨b, off, e, _⟩ := h2.ex hp
        cases e
      · omega
    have e2 : l2 = [] := List.eq_nil_of_length_eq_zero (by omega)
    subst e2
    subst h0
    refine ⟨g, cap, w, ?_, by rw [List.append_nil]; exact h, Keeps.refl _ _, .inl rfl⟩
    have hnc : n ≤ cap := by
      rcases h.2 with ⟨h, _⟩ | ⟨_, _, _, e, _, _, hh, _⟩
      · cases h
      · injection e with _ e1 e2
        subst e2
        rw [hn]
        exact hh
    simp [Builtin.append_, run_underlying Tryd.underlying56, sizeOf, typeInfo, zeroValue, hi, hz0, Builtin.lenOf, Builtin.firstCells, storeCells, hnc]
  | some x =>
    rw [hn] at h ⊢
    obtain ⟨v', w', hr, ho, hgr, hmv, -⟩ := run_append_moved (P := Tryd.prog) w base 56 ty 3 i0 _ 1 8 Tryd.underlying56 hi hz0 hz1 hz2 rfl (by decide) _ l1.length (l1.map (Value.int .i64)) h
      x m c (l2.map (Value.int .i64)) (by simp [hm]) (fun j u hu => by
        rw [List.getElem?_map] at hu
        cases hz : l2[j]? with
        | none => rw [hz] at hu; cases hu
        | some z =>
          rw [hz] at hu
          obtain rfl := Option.some.inj hu
          obtain ⟨b, off, e, hc⟩ := h2.ex (by have := (List.getElem?_eq_some_iff.1 hz).1; omega)
          obtain rfl := Option.some.inj e
          rw [show (⟨b, off, none⟩ : Addr).add j = ⟨b, off + j, none⟩ by unfold Addr.add; split <;> simp_all]
          exact hc j z hz) (by
        intro u hu
        rw [List.mem_map] at hu
        obtain ⟨z, _, rfl⟩ := hu
        rfl) (by unfold maxLen; omega) (by omega) hb
    have ho' : OwnL w' base v' (l1 ++ l2) := by
      unfold OwnL
      rw [List.map_append, List.length_append, ← hm]
      exact ho
    have hsh : ∃ g' cap', v' = .slice (some ⟨g', 0, none⟩) (l1.length + m) cap' := by
      rcases ho.2 with ⟨hv, h0⟩ | ⟨g', cap', _, e, _⟩
      · subst hv
        rcases hmv with e | ⟨g2, e, _⟩
        · simp [Value.ownBlock] at e
        · simp [Value.ownBlock] at e
      · exact ⟨g', cap', e⟩
    obtain ⟨g', cap', rfl⟩ := hsh
    refine ⟨g', cap', w', hr, ho', (Keeps.refl _ w).andGrown hgr (fun k e => .inl (by simpa [Value.ownBlock] using e.symm)), ?_⟩
    rcases hmv with e | ⟨g2, e, h3⟩
    · simp [Value.ownBlock] at e
      exact .inl e
    · simp [Value.ownBlock] at e
      exact .inr (by omega)
/-- 'append([]int{}, l[1:]...)': the rest of a list, copied. -/
theorem own_rest {w : World} {base g m c : Nat} {z : Int} {l : List Int} (h : OwnL w base (.slice (some ⟨g, 0, none⟩) (m + 1) c) (z :: l)) (hm : m = l.length) (hb : base ≤ w.heap.size) (hl : l.length ≤ 100000) :
    ∃ g' cap' w', (Builtin.append_ #[56, 56] 56 #[.slice (some ⟨w.heap.size, 0, none⟩) 0 0, .slice (if c = 1 then some ⟨g, 0, none⟩ else some ⟨g, 1, none⟩) m (c - 1)]).run Tryd.prog (w.alloc (.cells #[] 3)) = .ok (.slice (some ⟨g', 0, none⟩) m cap') w' ∧
      OwnL w' base (.slice (some ⟨g', 0, none⟩) m cap') l ∧ Keeps None w w' := by
  have kA := Keeps.alloc None w (.cells #[] 3)
  have h0 := own_nil (w := w) (base := base) hb
  have hmc : m + 1 ≤ c := by
    rcases h.2 with ⟨h, _⟩ | ⟨_, _, _, e, _, _, hh, _⟩
    · cases h
    · injection e with _ e1 e2
      subst e2
      simp at hh
      omega
  have h2 : SeenN (w.alloc (.cells #[] 3)) (if c = 1 then some ⟨g, 0, none⟩ else some ⟨g, 1, none⟩) m l := by
    by_cases e : c = 1
    · rw [if_pos e]
      have e0 : m = 0 := by omega
      subst e0
      obtain rfl := List.eq_nil_of_length_eq_zero hm.symm
      exact SeenN.nil _ _
    · rw [if_neg e]
      have := (OwnL.seen h).tail
      rw [Nat.zero_add] at this
      exact this.more kA
  obtain ⟨g', cap', w', hr, ho, hk, hg⟩ := int_app base w.heap.size 0 0 [] _ m (c - 1) l 56 _ h0 rfl h2 (by have := kA.size; omega) (by simp; omega)
  rw [Nat.zero_add] at hr ho
  exact ⟨g', cap', w', hr, ho, kA.trans hk (fun i e hi => by omega)⟩
end Go.Proofs.YtoehkjfdaolcnaaDoor
