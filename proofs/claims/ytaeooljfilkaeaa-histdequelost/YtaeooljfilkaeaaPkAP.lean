import Derived.Test.YtaeooljfilkaeaaPkAN
import Derived.Test.YtaeooljfilkaeaaPkAO
import Derived.WalkKit
import Derived.ProofKit
import Derived.OpenShut
import Derived.Deep.Slices
import Derived.SizedLaws
/-! has, begun. -/
namespace Go.Proofs.Ytaeooljfilkaeaa
set_option linter.unusedVariables false
set_option maxRecDepth 20000
set_option linter.unusedSimpArgs false
open Go.RowKit Go.HeapKit Go.IntWalk Go.PlainOps

def Cal.cl (c : Cal) : Cl := ⟨c.who, c.kind, c.arg, c.bg, c.en, c.code, c.v⟩
theorem cl_vals (l : List Cal) : rowVals Cal.vals l = clVals (l.map Cal.cl) := by
  induction l with
  | nil => rfl
  | cons c l ih =>
    show c.vals.toList ++ rowVals Cal.vals l = _
    rw [ih]
    rfl
theorem seen_calls {w : World} {a : Option Addr} {n c : Nat} {l : List Cal} (hl : n = l.length) (h : w.ownsRow 0 45 7 (.slice a n c) n (rowVals Cal.vals l)) : Seen w a n (l.map Cal.cl) := by
  rw [cl_vals] at h
  exact Seen.of_row (by simpa using hl) h
set_option maxHeartbeats 4000000 in
set_option maxRecDepth 100000 in
theorem has_ok4 (aa : Option Addr) (n ca : Nat) (l : List Cal) (a i : Nat) (w : World) (hs : Seen w aa n (l.map Cal.cl)) (hh : Has l a i) (hn : n ≤ 10000000) :
    Calls Try.prog 21 #[.slice aa n ca, .int .i64 a, .int .i64 i] w fun e w' => e = .returned (.bool true) ∧ w' = w := by
  obtain ⟨c, hc, e1, e2⟩ := hh
  obtain ⟨j, hj, hcj⟩ := List.mem_iff_getElem.1 hc
  have hlen : n = l.length := by have := hs.len; simpa using this
  have HS : Hid (Seen w aa n (l.map Cal.cl) ∧ n = l.length ∧ j < l.length ∧ ∀ (k : Nat) (x : Cal), l[k]? = some x → (k = j → x.who = (a : Int) ∧ x.bg = (i : Int))) := ⟨hs, hlen, hj, fun k x hk e => by subst e; rw [List.getElem?_eq_getElem hj, hcj] at hk; injection hk with hk; rw [← hk]; exact ⟨e1, e2⟩⟩
  clear hs hc hcj hlen e1 e2 hj
  go_enter Try.func21, Try.ntmps21
  go_wp2_with fail
  go_loopw [7] (fun s7 wr => wr = w ∧ ∃ k : Nat, k ≤ j ∧ s7 = .int .i64 k) (fun s7 _ => n - (intOf s7).toNat)
  case atStart => exact ⟨rfl, 0, Nat.zero_le _, rfl⟩
  case round =>
    obtain ⟨rfl, k, hk, rfl⟩ := hrel
    have hkn : k < n := by have := HS.out.2; omega
    obtain ⟨x, hx⟩ : ∃ x, l[k]? = some x := ⟨_, List.getElem?_eq_getElem (by have := HS.out.2; omega)⟩
    obtain ⟨ga, oa, rfl, -, hca⟩ := HS.out.1.ex (by omega)
    obtain ⟨y0, y1, y2, y3, y4, y5, y6⟩ := hca k x.cl (by simp [hx])
    have hj := HS.out.2.2.2 k x hx
    obtain ⟨x0, x1, x2, x3, x4, x5, x6⟩ := x
    simp only [Cal.cl] at y0 y1 y2 y3 y4 y5 y6
    dsimp only at hj
    have i1 : (k : Int) < (n : Int) := by omega
    have HX : Hid _ := And.intro hj (And.intro hk hkn)
    clear hca hx hj hk
    by_cases e : x0 = (a : Int) ∧ x3 = (i : Int)
    · obtain ⟨rfl, rfl⟩ := e
      go_wp2
      go_ret
      exact ⟨rfl, rfl⟩
    · have hne : k < j := by
        have h1 := HX.out.2.1
        rcases Nat.lt_or_ge k j with h | h
        · exact h
        · exact absurd (HX.out.1 (by omega)) e
      have HN : Hid _ := hne
      clear hne
      by_cases e0 : x0 = (a : Int)
      · have b0 : (x0 == (a : Int)) = true := by simpa using e0
        have b3 : (x3 == (i : Int)) = false := by simpa using fun e3 => e ⟨e0, e3⟩
        clear e e0
        go_wp2
        go_roundw
        case rel => exact ⟨by first | rfl | trivial, k + 1, HN.out, by go_num⟩
        case measure => simp only [intOf]; have := HX.out.2.2; omega
      · have b0 : (x0 == (a : Int)) = false := by simpa using e0
        clear e e0
        go_wp2
        go_roundw
        case rel => exact ⟨by first | rfl | trivial, k + 1, HN.out, by go_num⟩
        case measure => simp only [intOf]; have := HX.out.2.2; omega
end Go.Proofs.Ytaeooljfilkaeaa
/-! begun. -/
namespace Go.Proofs.Ytaeooljfilkaeaa
set_option linter.unusedVariables false
set_option maxRecDepth 20000
set_option linter.unusedSimpArgs false
open Go.RowKit Go.HeapKit Go.IntWalk Go.PlainOps

set_option maxHeartbeats 4000000 in
set_option maxRecDepth 100000 in
theorem begun_ok4 (f m : Int) (ao bo va : Option Addr) (n c e vn vc th : Nat) (ks : List Nat) (l : List Cal) (w : World) (hs : Seen w va vn (l.map Cal.cl)) (hz : Ints w bo (ks.map (fun x : Nat => (x : Int)))) (hvn : vn ≤ 10000000) (hks : ks.length ≤ 10000000) (hth : th ≤ 3)
    (hB : ∀ a, a ≤ th → (a ≠ 0 ∨ n ≠ 0) → ∀ i, ks[i]? = some a → (∀ j, j < i → ks[j]? ≠ some a) → Has l a i) :
    Calls Try.prog 11 #[.agg #[.int .i64 f, .int .i64 m, .slice ao n c, .int .i64 th, .slice bo ks.length e], .slice va vn vc] w fun e w' => e = .returned (.bool true) ∧ Keeps None w w' := by
  have hkA := Keeps.alloc None w (.cells #[.int .i64 f, .int .i64 m, .slice ao n c, .int .i64 th, .slice bo ks.length e] 25)
  have hbX := new_at w (.cells #[.int .i64 f, .int .i64 m, .slice ao n c, .int .i64 th, .slice bo ks.length e] 25) _ rfl
  have HB : Hid _ := hB
  have HS : Hid _ := And.intro (hs.more hkA) (And.intro (hz.kept hkA) hkA)
  have x2 := (cell_of_block hbX 2).trans rfl
  have x3 := (cell_of_block hbX 3).trans rfl
  have x4 := (cell_of_block hbX 4).trans rfl
  clear hs hz hB hkA hbX
  go_enter Try.func11, Try.ntmps11
  go_wp2_with fail
  generalize (w.alloc (.cells #[.int .i64 f, .int .i64 m, .slice ao n c, .int .i64 th, .slice bo ks.length e] 25)) = w1 at HS x2 x3 x4 ⊢
  generalize w.heap.size = X at x2 x3 x4 ⊢
  go_loopw [5, 6] (fun s5 _ wr => wr = w1 ∧ ∃ a : Nat, a ≤ th + 1 ∧ s5 = .int .i64 a) (fun s5 _ _ => th + 1 - (intOf s5).toNat)
  case atStart => exact ⟨rfl, 0, Nat.zero_le _, rfl⟩
  case round =>
    obtain ⟨rfl, a, ha, rfl⟩ := hrel
    by_cases hat : a ≤ th
    · have i1 : (a : Int) ≤ (th : Int) := by omega
      have HA : Hid _ := hat
      by_cases h0 : a = 0 ∧ n = 0
      · obtain ⟨rfl, rfl⟩ := h0
        clear hat ha
        go_wp2_with fail
        go_roundw
        case rel => exact ⟨by first | rfl | trivial, 1, by omega, by go_num⟩
        case measure => simp only [intOf]; omega
      · have hc : a ≠ 0 ∨ n ≠ 0 := by omega
        have hB := HB.out a hat hc
        have HB2 : Hid _ := hB
        have hgo : ((a : Int) == 0) = false ∨ (((a : Int) == 0) = true ∧ ((n : Int) == 0) = false) := by
          by_cases e : a = 0
          · right; subst e; refine ⟨rfl, ?_⟩; have : n ≠ 0 := by omega
            simpa using this
          · left; simpa using e
        clear h0 hc hB ha hat
        rcases hgo with b0 | ⟨b0, b1⟩ <;> go_wp2_with fail
        all_goals
          go_loopw [6] (fun s6 wx => wx = wr ∧ ∃ i : Nat, i ≤ ks.length ∧ s6 = .int .i64 i ∧ ∀ j, j < i → ks[j]? ≠ some a) (fun s6 _ => ks.length - (intOf s6).toNat)
          case atStart => exact ⟨rfl, 0, Nat.zero_le _, rfl, fun j hj => absurd hj (Nat.not_lt_zero j)⟩
          case round =>
            obtain ⟨hwx, i, hi, rfl, hno⟩ := hrel
            subst hwx
            by_cases hil : i < ks.length
            · obtain ⟨b, off, rfl, hb, hcs⟩ := HS.out.2.1 (by simp; omega)
              have cz := hcs i (by simpa using hil)
              have hki : ks[i]? = some ks[i] := List.getElem?_eq_getElem hil
              have hgd : (ks.map (fun x : Nat => (x : Int))).getD i 0 = (ks[i] : Int) := by rw [List.getD_eq_getElem?_getD, List.getElem?_map, hki]; rfl
              rw [hgd] at cz
              have j1 : (i : Int) < (ks.length : Int) := by omega
              by_cases hx : ks[i] = a
              · rw [hx] at hki cz
                have hhas := has_ok4 va vn vc l a i _ HS.out.1 (HB2.out i hki hno) hvn
                clear hcs hki hgd hno hx hb hi hil
                go_wp2_with fail
                refine hhas.mono ?_
                rintro e w8 ⟨rfl, hw8⟩
                have hv8 := hw8.symm
                subst hv8
                clear hw8 hhas
                go_wp2_with fail
                go_roundw
                case rel => exact ⟨by first | rfl | trivial, a + 1, by have := HA.out; omega, by go_num⟩
                case measure => simp only [intOf]; have := HA.out; omega
              · have bx : ((ks[i] : Int) == (a : Int)) = false := by simpa using fun e => hx (by exact_mod_cast e)
                have HN : Hid (∀ j, j < i + 1 → ks[j]? ≠ some a) := fun j hj e => by
                  rcases Nat.lt_or_ge j i with h | h
                  · exact hno j h e
                  · have : j = i := by omega
                    subst this
                    rw [hki] at e
                    injection e with e
                    exact hx e
                generalize ks[i] = y at cz bx
                have HL : Hid _ := hil
                clear hcs hki hgd hno hx hb hi hil
                go_wp2_with fail
                go_roundw
                case rel => exact ⟨by first | rfl | trivial, i + 1, HL.out, by go_num, HN.out⟩
                case measure => simp only [intOf]; have := HL.out; omega
            · have j1 : ¬ (i : Int) < (ks.length : Int) := by omega
              clear hil hi hno
              go_wp2_with fail
              go_roundw
              case rel => exact ⟨by first | rfl | trivial, a + 1, by have := HA.out; omega, by go_num⟩
              case measure => simp only [intOf]; have := HA.out; omega
    · have i1 : ¬ (a : Int) ≤ (th : Int) := by omega
      clear hat ha
      go_wp2_with fail
      go_ret
      exact ⟨rfl, HS.out.2.2⟩
end Go.Proofs.Ytaeooljfilkaeaa
/-! A game is played. -/
namespace Go.Proofs.Ytaeooljfilkaeaa
set_option linter.unusedVariables false
set_option maxRecDepth 20000
set_option linter.unusedSimpArgs false
open Go.RowKit Go.HeapKit Go.IntWalk Go.PlainOps

theorem drun_end4 {Q : Ending → World → Prop} {a : Act} {w1 : World} {g : Nat} {c : Array Value} {t : TypeId} {fn : Func} (q r : Tmp) (hfn : fn.results = #[.cell q 32, .tmp r]) (hc : c.size = 3) (hb : w1.heap[g]? = some (.cells c t (0, 0)))
    (ha : a.tmps.getD q undef = .pointer (some ⟨g, 0, none⟩)) (hd : a.defers = []) (v0 v1 v2 : Value)
    (hQ : ∀ w', Keeps (· = g) w1 w' → Q (.returned (.tuple #[.agg #[v0, v1, v2], a.tmps.getD r undef])) w') :
    bodyPost Try.prog fn Q .ret a (((w1.setCell ⟨g, 0, none⟩ v0).setCell ⟨g, 1, none⟩ v1).setCell ⟨g, 2, none⟩ v2) := by
  obtain ⟨c', h1, h2⟩ := setsFrom_block g t [v0, v1, v2] 0 w1 c hb (by simp [hc])
  have h3 : c' = #[v0, v1, v2] := by
    apply Array.toList_inj.1
    rw [h2, List.drop_of_length_le (by simp [hc])]
    rfl
  rw [h3] at h1
  have hk := setsFrom_keeps g [v0, v1, v2] 0 w1
  have hl := run_loadVar_row (P := Try.prog) _ g t 32 _ _ _ h1 Try.underlying32 rfl (by kernel_rfl)
  have ha' : a.tmps[q]?.getD undef = .pointer (some ⟨g, 0, none⟩) := by simpa using ha
  refine bodyPost_ret (v := .tuple #[.agg #[v0, v1, v2], a.tmps.getD r undef]) ?_ hd (hQ _ hk)
  simp only [setsFrom] at hl
  simp [results, hfn, asAddr, ha', hl, Result.andThen]
theorem DRun.later {w w1 w2 w' : World} {R : Nat} {va vr vl : Value} {S : Dpl} {L : List Int} (h : DRun w1 w2 va vr vl S L) (hk : Keeps None w w1) (hR : w.heap.size ≤ R) (hRl : R < w1.heap.size) (hk2 : Keeps (· = R) w2 w') : DRun w w' va vr vl S L := by
  have h0 := hk.size
  have h1 := h.kp.size
  obtain ⟨g, e, hb, hg⟩ := h.lo
  exact ⟨hk2.own h.ca (fun k e e2 => by have := h.nc k e; omega), hk2.own h.re (fun k e e2 => by have := h.nr k e; omega), ⟨g, e, blkD hb hk2 (fun e => by omega), by omega⟩, (hk.trans h.kp (fun _ f _ => f)).trans hk2 (fun i e hi => by omega), fun k e => by have := h.nc k e; omega, fun k e => by have := h.nr k e; omega⟩
set_option maxHeartbeats 4000000 in
set_option maxRecDepth 100000 in
theorem gplay_ok (f m th : Nat) (ta pa qa : Option Addr) (ts : List Tod) (tc pc qn qc : Nat) (zs : List Int) (w : World) (hc : CapOK f m) (hth : th ≤ 3) (hts : ts.length ≤ 4096) (hnp : zs.length ≤ 1048576) (hk : TKinds ts) (htd : TodoAt w ta ts) (hfit : ts.length ≤ tc) (hz : Ints w pa zs) :
    Calls Try.prog 10 #[.agg #[.int .i64 f, .int .i64 m, .slice ta ts.length tc, .int .i64 th, .slice qa qn qc], .slice pa zs.length pc] w fun e w' => ∃ va vr vl g,
      e = .returned (.tuple #[.agg #[va, vr, vl], .bool true]) ∧ DRun w w' va vr vl ((startS (cellsFrom m f (4 + f)) f m th ts).picks 0 (whoS th zs)) (restL g) ∧
      PS m (cellsFrom m f (4 + f)) th ((startS (cellsFrom m f (4 + f)) f m th ts).picks 0 (whoS th zs)) g zs.length := by
  have hk1 := Keeps.alloc None w (.cells #[.int .i64 f, .int .i64 m, .slice ta ts.length tc, .int .i64 th, .slice qa qn qc] 25)
  have hk2 := Keeps.alloc None (w.alloc (.cells #[.int .i64 f, .int .i64 m, .slice ta ts.length tc, .int .i64 th, .slice qa qn qc] 25)) (.cells #[.slice none 0 0, .slice none 0 0, .slice none 0 0] 32)
  have hkk := hk1.trans hk2 (fun _ f _ => f)
  have hbR := new_at (w.alloc (.cells #[.int .i64 f, .int .i64 m, .slice ta ts.length tc, .int .i64 th, .slice qa qn qc] 25)) (.cells #[.slice none 0 0, .slice none 0 0, .slice none 0 0] 32) (w.heap.size + 1) (by simp)
  have hpl := dplay_ok f m th ta pa ts tc pc zs _ hc hth hts hnp hk (htd.kept hkk) hfit (hz.kept hkk)
  generalize cellsFrom m f (4 + f) = size at hpl ⊢
  generalize hS : (startS size f m th ts).picks 0 (whoS th zs) = S at hpl ⊢
  have HSE : Hid _ := hS
  have HK : Hid _ := And.intro hkk hbR
  have hsz : w.heap.size + 2 = ((w.alloc (.cells #[.int .i64 f, .int .i64 m, .slice ta ts.length tc, .int .i64 th, .slice qa qn qc] 25)).alloc (.cells #[.slice none 0 0, .slice none 0 0, .slice none 0 0] 32)).heap.size := by simp
  have HZ : Hid _ := hsz
  clear hk1 hk2 hkk hbR hS hk htd hz hc hth hts hnp hfit hsz
  go_enter Try.func10, Try.ntmps10
  go_wp2_with fail
  refine hpl.mono ?_
  rintro e w2 ⟨va, vr, vl, g, rfl, hD, hP⟩
  obtain ⟨xa, ca, hva⟩ := own_shape hD.ca
  obtain ⟨xr, cr, hvr⟩ := own_shape hD.re
  obtain ⟨gl, hvl, -, -⟩ := hD.lo
  subst hva hvr hvl
  have hb2 := blkD HK.out.2 hD.kp (fun f => f)
  have hb3 := blkD hb2 (Keeps.alloc None w2 (.cells #[.slice xa S.calls.length ca, .slice xr (restL g).length cr, .slice (some ⟨gl, 0, none⟩) S.A.log.length S.A.log.length] 32)) (fun f => f)
  have r0 := (cell_of_block hb3 0).trans rfl
  have r1 := (cell_of_block hb3 1).trans rfl
  have r2 := (cell_of_block hb3 2).trans rfl
  have q0 := free_of_block hb3 0
  have q1 := free_of_block hb3 1
  have q2 := free_of_block hb3 2
  have HD : Hid _ := And.intro hD hP
  have HB : Hid _ := hb3
  clear hD hP hb2 hb3 hpl
  go_wp2_with fail
  refine drun_end4 4 5 rfl rfl HB.out rfl rfl _ _ _ (fun w' hk => ⟨_, _, _, g, rfl, ?_, HD.out.2⟩)
  have hs := HZ.out
  exact HD.out.1.later HK.out.1 (R := w.heap.size + 1) (by omega) (by omega) ((Keeps.alloc None w2 _).mono (fun _ f _ => f.elim) |>.trans hk (fun _ e _ => e))
end Go.Proofs.Ytaeooljfilkaeaa
/-! Structs of 64-bit numbers among the arguments, and slices of them. Whatever the program. -/
namespace Go.HeapKit
open Go.ChangeShapes Go.WideShapes Go.ChangeAt Go.RowKit Go.Deep

section
variable {H : Type} {enc : TypeId × Value → H} {P : Program} {w : World} {base : Nat} {spare : Nat → Bool} {held : Bool}

/-- All fields are 64-bit numbers, one cell each, in order. -/
def allInts (P : Program) (fs : List Field) : Bool :=
  (List.range fs.length).all fun i => match fs[i]? with
    | some f => f.offset == i && (match P.underlying f.type with | some (.int .i64) => true | _ => false) && P.cellsOf f.type == 1
    | none => false
theorem allInts_at {fs : List Field} (h : allInts P fs = true) {i : Nat} {f : Field} (hf : fs[i]? = some f) : f.offset = i ∧ P.underlying f.type = some (.int .i64) ∧ P.cellsOf f.type = 1 := by
  have hi : i < fs.length := (List.getElem?_eq_some_iff.1 hf).1
  have := List.all_eq_true.1 h i (List.mem_range.2 hi)
  rw [hf] at this
  simp only [Bool.and_eq_true, beq_iff_eq] at this
  obtain ⟨⟨h1, h2⟩, h3⟩ := this
  refine ⟨h1, ?_, h3⟩
  split at h2
  · assumption
  · cases h2

theorem struct_ints {t : TypeId} {fs : Array Field} {fuel : Nat} {cs : List Value} {x : DataW H × List MemPlace} (ht : P.underlying t = some (.struct fs)) (ha : allInts P fs.toList = true) (hc : P.cellsOf t = fs.size)
    (h : DataW.trod enc P w base spare held fuel t cs = some x) : ∃ ns : List Int, ns.length = fs.size ∧ cs = ns.map (Value.int .i64) ∧ ∀ n ∈ ns, (Lit.int .i64 n).wf = true := by
  obtain ⟨xs, n, _, rfl, hl, hlen, hf⟩ := DataW.trod_struct ht h
  rw [hc] at hl
  have hat : ∀ i, i < fs.size → ∃ m : Int, cs[i]? = some (.int .i64 m) ∧ (Lit.int .i64 m).wf = true := by
    intro i hi
    have hfi : fs[i]? = some fs[i] := by simp [hi]
    obtain ⟨h1, h2, h3⟩ := allInts_at ha (i := i) (f := fs[i]) (by simp)
    have hq := hf i fs[i] hfi
    rw [h1, h3, show xs[i]? = some xs[i] by simp] at hq
    obtain ⟨m, hm, _, hw⟩ := DataW.trod_int h2 hq
    refine ⟨m, ?_, hw⟩
    have : (List.take 1 (List.drop i cs))[0]? = some (.int .i64 m) := by rw [hm]; rfl
    simpa [List.getElem?_take, List.getElem?_drop] using this
  have hall : ∀ v ∈ cs, ∃ m : Int, v = .int .i64 m ∧ (Lit.int .i64 m).wf = true := by
    intro v hv
    obtain ⟨i, hi, rfl⟩ := List.mem_iff_getElem.1 hv
    obtain ⟨m, hm, hw⟩ := hat i (by omega)
    exact ⟨m, by simpa [hi] using hm, hw⟩
  have hex : ∀ cs : List Value, (∀ v ∈ cs, ∃ m : Int, v = .int .i64 m ∧ (Lit.int .i64 m).wf = true) → ∃ ns : List Int, cs = ns.map (Value.int .i64) ∧ ∀ n ∈ ns, (Lit.int .i64 n).wf = true := by
    intro cs
    induction cs with
    | nil => exact fun _ => ⟨[], rfl, fun _ h => by cases h⟩
    | cons v cs ih =>
      intro hv
      obtain ⟨ns, rfl, hw⟩ := ih (fun u hu => hv u (List.mem_cons_of_mem _ hu))
      obtain ⟨m, rfl, hm⟩ := hv v (List.mem_cons_self ..)
      refine ⟨m :: ns, rfl, ?_⟩
      intro n hn
      rcases List.mem_cons.1 hn with rfl | hn
      · exact hm
      · exact hw n hn
  obtain ⟨ns, rfl, hw⟩ := hex cs hall
  exact ⟨ns, by simpa using hl, rfl, hw⟩

theorem open_struct_ints {r : Reach} {b0 : Nat} {t : TypeId} {fs : Array Field} {v : Value} {d : DataW H} {ps : List MemPlace} (ht : P.underlying t = some (.struct fs)) (ha : allInts P fs.toList = true) (hc : P.cellsOf t = fs.size)
    (hval : Value.okWide P w r b0 t v) (hd : DataW.Trod enc P w base spare held t v d ps) : ∃ ns : List Int, ns.length = fs.size ∧ v = .agg (ns.map (Value.int .i64)).toArray ∧ ∀ n ∈ ns, (Lit.int .i64 n).wf = true := by
  obtain ⟨cs, rfl, hs⟩ := okWide_struct ht hval
  obtain ⟨fuel, hf⟩ := hd
  obtain ⟨ns, hl, he, hw⟩ := struct_ints ht ha hc hf
  refine ⟨ns, hl, ?_, hw⟩
  have : cs.toList = ns.map (Value.int .i64) := by simpa [Value.cells] using he
  rw [← this]

/-- A slice of structs of numbers that came in: nil; or a grid of 'cap' rows, 'size' cells each. -/
def IsGrid (size : Nat) (w : World) (a : Option Addr) (len cap : Nat) (rows : List (List Int)) : Prop :=
  (a = none ∧ len = 0 ∧ cap = 0 ∧ rows = []) ∨
  ∃ x : Addr, a = some x ∧ len ≤ cap ∧ cap ≤ maxLen ∧ rows.length = cap ∧ (∀ i, i < cap → ∃ ns : List Int, rows[i]? = some ns ∧ ns.length = size ∧ (∀ n ∈ ns, (Lit.int .i64 n).wf = true) ∧ ∀ j m, ns[j]? = some m → w.cell? ((x.add (i * size)).add j) = some (.int .i64 m))

theorem grid_slice {t e : TypeId} {x : Addr} {len cap : Nat} {d : DataW H} {ps : List MemPlace} (ht : P.underlying t = some (.slice e)) (hd : DataW.Trod enc P w base spare held t (.slice (some x) len cap) d ps) : ∃ elems sp, d = .slice elems sp := by
  obtain ⟨fuel, hf⟩ := hd
  rcases open_slice ht hf with ⟨h0, _⟩ | ⟨x, l, c, m, n, D, Pl, hcs, _, _, _, _, hx, _⟩
  · simp [Value.cells] at h0
  · simp only [Prod.mk.injEq] at hx
    exact ⟨_, _, hx.1⟩
theorem open_grid {t e : TypeId} {fs : Array Field} {a : Option Addr} {len cap : Nat} {d : DataW H} {ps : List MemPlace} (ht : P.underlying t = some (.slice e)) (he : P.underlying e = some (.struct fs)) (ha : allInts P fs.toList = true) (hc : P.cellsOf e = fs.size)
    (hd : DataW.Trod enc P w base (fun _ => true) held t (.slice a len cap) d ps) : (∃ rows, IsGrid fs.size w a len cap rows) ∧ ∀ elems sp, d = .slice elems sp → elems.length + sp.length = cap := by
  obtain ⟨fuel, hf⟩ := hd
  rcases open_slice ht hf with ⟨h0, hx⟩ | ⟨x, l, c, m, n, D, Pl, hcs, _, hl, hm, hmm, hx, hall⟩
  · simp [Value.cells] at h0
    obtain ⟨rfl, rfl, rfl⟩ := h0
    simp only [Prod.mk.injEq] at hx
    exact ⟨⟨[], .inl ⟨rfl, rfl, rfl, rfl⟩⟩, fun elems sp e => by rw [hx.1] at e; cases e⟩
  · simp [Value.cells] at hcs
    obtain ⟨rfl, rfl, rfl⟩ := hcs
    have hmc : m = cap := by simpa using hmm
    subst hmc
    simp only [Prod.mk.injEq] at hx
    refine ⟨?_, fun elems sp e => by rw [hx.1] at e; injection e with e1 e2; rw [← e1, ← e2]; simp; omega⟩
    have hrow : ∀ i, i < m → ∃ ns : List Int, ns.length = fs.size ∧ (∀ n ∈ ns, (Lit.int .i64 n).wf = true) ∧ ∀ j m, ns[j]? = some m → w.cell? ((x.add (i * fs.size)).add j) = some (.int .i64 m) := by
      intro i hi
      obtain ⟨cs', h1, h2⟩ := hall i hi
      rw [hc] at h1
      obtain ⟨ns, hl, rfl, hw⟩ := struct_ints he ha hc h2
      refine ⟨ns, hl, hw, ?_⟩
      intro j m hj
      obtain ⟨_, hlen, hcell⟩ := World.cells?_some h1
      rw [hcell j (by have := (List.getElem?_eq_some_iff.1 hj).1; omega)]
      simp [hj]
    have hex : ∀ k, k ≤ m → ∃ rows : List (List Int), rows.length = k ∧ ∀ i, i < k → ∃ ns : List Int, rows[i]? = some ns ∧ ns.length = fs.size ∧ (∀ n ∈ ns, (Lit.int .i64 n).wf = true) ∧ ∀ j m, ns[j]? = some m → w.cell? ((x.add (i * fs.size)).add j) = some (.int .i64 m) := by
      intro k
      induction k with
      | zero => exact fun _ => ⟨[], rfl, fun _ h => by omega⟩
      | succ k ih =>
        intro hk
        obtain ⟨rows, hrl, hr⟩ := ih (by omega)
        obtain ⟨ns, h1, h2, h3⟩ := hrow k (by omega)
        refine ⟨rows ++ [ns], by simp [hrl], ?_⟩
        intro i hi
        by_cases hik : i < k
        · obtain ⟨ns', e, r⟩ := hr i hik
          exact ⟨ns', by rw [List.getElem?_append_left (by omega)]; exact e, r⟩
        · obtain rfl : i = k := by omega
          exact ⟨ns, by rw [List.getElem?_append_right (by omega), hrl]; simp, h1, h2, h3⟩
    obtain ⟨rows, hrl, hr⟩ := hex m (Nat.le_refl _)
    exact ⟨rows, .inr ⟨x, rfl, hl, hm, hrl, hr⟩⟩
end
end Go.HeapKit
/-! A game among the arguments. -/
namespace Go.Proofs.Ytaeooljfilkaeaa
set_option linter.unusedVariables false
set_option maxRecDepth 20000
open Go.ChangeShapes Go.WideShapes Go.ChangeAt Go.RowKit Go.HeapKit Go.Deep

def okG (x : Int) : Prop := -9223372036854775808 ≤ x ∧ x ≤ 9223372036854775807
theorem okG_of_wf {x : Int} (h : (Lit.int .i64 x).wf = true) : okG x := by
  have h1 : IntKind.i64.min = -9223372036854775808 := by decide
  have h2 : IntKind.i64.max = 9223372036854775807 := by decide
  simp [Lit.wf, h1, h2] at h
  unfold okG
  omega
section
variable {H : Type} {enc : TypeId × Value → H} {w : World} {base : Nat} {held : Bool}
theorem g_spot_none {w : World} {x : Addr} {v : Value} (h : w.cell? x = some v) : x.spot = none := by
  unfold World.cell? at h
  split at h
  · split at h
    · cases h
    · rename_i hs; simpa using hs
  · cases h
theorem g_spot_first {w : World} {base n : Nat} {x : Addr} {cs : List Value} (h : w.cells? base (x.add (0 * n)) n = some cs) (hn : 0 < n) : x.spot = none := by
  obtain ⟨_, hl, hc⟩ := World.cells?_some h
  have h0 := hc 0 hn
  rw [Nat.zero_mul, show (x.add 0).add 0 = x by unfold Addr.add; simp, List.getElem?_eq_getElem (by omega)] at h0
  exact g_spot_none h0
theorem g_choose {α : Type} (p : Nat → α → Prop) (n : Nat) (h : ∀ i, i < n → ∃ x, p i x) : ∃ l : List α, l.length = n ∧ ∀ i x, l[i]? = some x → p i x := by
  induction n with
  | zero => exact ⟨[], rfl, fun i x hx => by simp at hx⟩
  | succ n ih =>
    obtain ⟨l, hl, hp⟩ := ih (fun i hi => h i (by omega))
    obtain ⟨x, hx⟩ := h n (by omega)
    refine ⟨l ++ [x], by simp [hl], fun i y hy => ?_⟩
    by_cases hi : i < n
    · rw [List.getElem?_append_left (by omega)] at hy
      exact hp i y hy
    · have hlt := (List.getElem?_eq_some_iff.1 hy).1
      simp [hl] at hlt
      obtain rfl : i = n := by omega
      rw [List.getElem?_append_right (by omega), hl] at hy
      simp at hy
      subst hy
      exact hx
theorem g_add {b o : Nat} (k : Nat) : (⟨b, o, none⟩ : Addr).add k = ⟨b, o + k, none⟩ := by unfold Addr.add; split <;> simp_all
theorem g_lt {w : World} {b o : Nat} {v : Value} (h : w.cell? ⟨b, o, none⟩ = some v) : b < w.heap.size := by
  cases hb : w.heap[b]? with
  | none => simp [World.cell?, hb] at h
  | some o => exact (Array.getElem?_eq_some_iff.1 hb).1
/-- Todos that came in. -/
theorem open_todos {fuel : Nat} {cs : List Value} {x : DataW H × List MemPlace} (h : DataW.trod enc Try.prog w base (fun _ => true) held fuel 22 cs = some x) :
    ∃ ca n cc l, cs = [.slice ca n cc] ∧ n = l.length ∧ TodoAt w ca l ∧ (∀ i ∈ l, okG i.kind ∧ okG i.v) ∧ n ≤ cc := by
  rcases open_slice Try.underlying22 h with ⟨rfl, _⟩ | ⟨a, len, cap, m, n, D, Pl, rfl, _, hl, hm, hmm, hx, hall⟩
  · exact ⟨none, 0, 0, [], rfl, rfl, fun h => by simp at h, (fun i hi => by cases hi), Nat.le_refl _⟩
  · simp at hmm
    subst hmm
    have hc : Try.prog.cellsOf 55 = 2 := by kernel_rfl
    rw [hc] at hall
    have hex : ∀ i, i < len → ∃ x : Tod, (okG x.kind ∧ okG x.v) ∧ ∃ b off, a = ⟨b, off, none⟩ ∧ b < w.heap.size ∧ w.cell? ⟨b, off + i * 2, none⟩ = some (.int .i64 x.kind) ∧ w.cell? ⟨b, off + i * 2 + 1, none⟩ = some (.int .i64 x.v) := by
      intro i hi
      obtain ⟨cs', h1, h2⟩ := hall i (by omega)
      obtain ⟨ns, hl, rfl, hw⟩ := struct_ints Try.underlying55 (by kernel_rfl) (by kernel_rfl) h2
      obtain ⟨_, hlen, hcell⟩ := World.cells?_some h1
      have hl5 : ns.length = 2 := hl
      match ns, hl5 with
      | [n0, n1], _ =>
        obtain ⟨b, off, sp⟩ := a
        have hsp : sp = none := by
          obtain ⟨cs0, hz, _⟩ := hall 0 (by omega)
          exact g_spot_first hz (by omega)
        subst hsp
        have hh : ∀ j, j < 2 → w.cell? ⟨b, off + i * 2 + j, none⟩ = ([n0, n1].map (Value.int .i64))[j]? := by
          intro j hj
          have := hcell j hj
          rw [g_add, g_add] at this
          exact this
        exact ⟨⟨n0, n1⟩, ⟨okG_of_wf (hw _ (by simp)), okG_of_wf (hw _ (by simp))⟩, b, off, rfl, g_lt (hh 0 (by omega)), hh 0 (by omega), hh 1 (by omega)⟩
    obtain ⟨l, hll, hp⟩ := g_choose _ len hex
    refine ⟨some a, len, m, l, rfl, hll.symm, fun h0 => ?_, fun i hi => ?_, hl⟩
    · obtain ⟨_, b, off, rfl, hb, _⟩ := hp 0 (l[0]'(by omega)) (by simp)
      refine ⟨b, off, rfl, hb, fun k i hi => ?_⟩
      obtain ⟨_, b', off', e, _, hat⟩ := hp k i hi
      injection e with e1 e2
      subst e1 e2
      exact hat
    · obtain ⟨k, hk, rfl⟩ := List.mem_iff_getElem.1 hi
      exact (hp k _ (by simp)).1
theorem open_picks {fuel : Nat} {cs : List Value} {x : DataW H × List MemPlace} (h : DataW.trod enc Try.prog w base (fun _ => true) held fuel 23 cs = some x) :
    ∃ ca n cc l, cs = [.slice ca n cc] ∧ n = l.length ∧ Ints w ca l ∧ (∀ i ∈ l, okG i) ∧ n ≤ cc := by
  rcases open_ints Try.underlying23 Try.underlying3 (by kernel_rfl) h with ⟨hcs, _⟩ | ⟨a, l, c, zs, hcs, _, hl, hm, hz, hx, hcell, hwz⟩
  · exact ⟨none, 0, 0, [], hcs, rfl, fun h => by simp at h, (fun i hi => by cases hi), Nat.le_refl _⟩
  · have hz2 : zs.length = c := by simpa using hz
    refine ⟨some a, l, c, zs.take l, hcs, by rw [List.length_take]; omega, fun h0 => ?_, fun i hi => okG_of_wf (hwz i (List.mem_of_mem_take hi)), hl⟩
    rw [List.length_take] at h0
    obtain ⟨b, off, sp⟩ := a
    have hc0 := hcell 0 (by omega)
    have hsp : sp = none := by
      have := g_spot_none hc0
      unfold Addr.add at this
      split at this <;> simp_all
    subst hsp
    rw [g_add] at hc0
    refine ⟨b, off, rfl, g_lt hc0, fun i hi => ?_⟩
    rw [List.length_take] at hi
    have := hcell i (by omega)
    rw [g_add] at this
    rw [this]
    simp [List.getD_eq_getElem?_getD, show i < l by omega]
theorem open_game {r : Reach} {b0 : Nat} {v : Value} {d : DataW H} {ps : List MemPlace} (hval : Value.okWide Try.prog w r b0 25 v) (hd : DataW.Trod enc Try.prog w base (fun _ => true) held 25 v d ps) :
    ∃ (f m : Int) (a : Option Addr) (n c : Nat) (l : List Tod) (t : Int) (b : Option Addr) (k e : Nat) (z : List Int), v = .agg #[.int .i64 f, .int .i64 m, .slice a n c, .int .i64 t, .slice b k e] ∧ okG f ∧ okG m ∧ okG t ∧ n = l.length ∧ TodoAt w a l ∧ (∀ i ∈ l, okG i.kind ∧ okG i.v) ∧ n ≤ c ∧ k = z.length ∧ Ints w b z ∧ (∀ i ∈ z, okG i) ∧ k ≤ e := by
  obtain ⟨cs, rfl, hs⟩ := okWide_struct Try.underlying25 hval
  rw [show Try.prog.cellsOf 25 = 5 by kernel_rfl] at hs
  obtain ⟨fuel, hf⟩ := hd
  obtain ⟨xs, n, _, hxx, hl', hxl, hf⟩ := DataW.trod_struct Try.underlying25 hf
  have q0 : DataW.trod enc Try.prog w base (fun _ => true) held n 3 (List.take (Try.prog.cellsOf 3) (List.drop 0 (Value.agg cs).cells.toList)) = xs[0]? := hf 0 _ rfl
  have q1 : DataW.trod enc Try.prog w base (fun _ => true) held n 3 (List.take (Try.prog.cellsOf 3) (List.drop 1 (Value.agg cs).cells.toList)) = xs[1]? := hf 1 _ rfl
  have q2 : DataW.trod enc Try.prog w base (fun _ => true) held n 22 (List.take (Try.prog.cellsOf 22) (List.drop 2 (Value.agg cs).cells.toList)) = xs[2]? := hf 2 _ rfl
  have q3 : DataW.trod enc Try.prog w base (fun _ => true) held n 3 (List.take (Try.prog.cellsOf 3) (List.drop 3 (Value.agg cs).cells.toList)) = xs[3]? := hf 3 _ rfl
  have q4 : DataW.trod enc Try.prog w base (fun _ => true) held n 23 (List.take (Try.prog.cellsOf 23) (List.drop 4 (Value.agg cs).cells.toList)) = xs[4]? := hf 4 _ rfl
  have hx1 : xs.length = 5 := hxl
  rw [List.getElem?_eq_getElem (by omega)] at q0 q1 q2 q3 q4
  obtain ⟨cs⟩ := cs
  match cs, hs with
  | [v0, v1, v2, v3, v4], _ =>
    rw [show Try.prog.cellsOf 3 = 1 by kernel_rfl] at q0 q1 q3
    rw [show Try.prog.cellsOf 22 = 1 by kernel_rfl] at q2
    rw [show Try.prog.cellsOf 23 = 1 by kernel_rfl] at q4
    obtain ⟨a2, n2, c2, l2, e2, hn2, hT2, ok2, le2⟩ := open_todos q2
    obtain ⟨a4, n4, c4, l4, e4, hn4, hS4, ok4, le4⟩ := open_picks q4
    obtain ⟨x0, e0, _, w0⟩ := DataW.trod_int Try.underlying3 q0
    obtain ⟨x1, e1, _, w1⟩ := DataW.trod_int Try.underlying3 q1
    obtain ⟨x3, e3, _, w3⟩ := DataW.trod_int Try.underlying3 q3
    simp [Value.cells] at e0 e1 e2 e3 e4
    subst e0 e1 e2 e3 e4
    exact ⟨x0, x1, a2, n2, c2, l2, x3, a4, n4, c4, l4, rfl, okG_of_wf w0, okG_of_wf w1, okG_of_wf w3, hn2, hT2, ok2, le2, hn4, hS4, ok4, le4⟩
end
end Go.Proofs.Ytaeooljfilkaeaa
/-! fit. -/
namespace Go.Proofs.Ytaeooljfilkaeaa
set_option linter.unusedVariables false
set_option maxRecDepth 20000
set_option linter.unusedSimpArgs false
open Go.RowKit Go.HeapKit Go.IntWalk Go.PlainOps

def mdN (x : Int) (n : Nat) : Nat := (x % (n : Int)).toNat
theorem mdN_lt (x : Int) {n : Nat} (hn : 0 < n) : mdN x n < n := by
  have h1 := Int.emod_lt_of_pos x (show (0 : Int) < (n : Int) by omega)
  have h2 := Int.emod_nonneg x (show (n : Int) ≠ 0 by omega)
  unfold mdN
  omega
theorem mod4_any (x : Int) (n : Nat) (hn : 0 < n) (hn2 : n ≤ 4611686018427387904) (w : World) : Calls Try.prog 9 #[.int .i64 x, .int .i64 n] w fun e w' => e = .returned (.int .i64 (mdN x n : Nat)) ∧ w' = w := by
  have h0 : ¬ (n : Int) = 0 := by omega
  have hlt := Int.tmod_lt_of_pos x (show (0 : Int) < n by omega)
  have hpos := Int.emod_nonneg x h0
  by_cases hr : x.tmod n < 0
  · have e : x.tmod n + n = x % n := by
      rw [Int.emod_eq_tmod]
      have : ¬ (0 ≤ x) := fun h => by have := Int.tmod_nonneg (n : Int) h; omega
      have h2 : ¬ (n : Int) ∣ x := fun h => by rw [Int.tmod_eq_zero_of_dvd h] at hr; omega
      simp [this, h2]
    have h3 : -(n : Int) < x.tmod n := Int.lt_tmod_of_pos x (by omega)
    have e2 : ((mdN x n : Nat) : Int) = x.tmod n + n := by unfold mdN; omega
    have HE : Hid _ := e2
    clear e e2 hpos
    go_enter Try.func9, Try.ntmps9
    go_wp2
    go_ret
    rw [HE.out]
    exact ⟨rfl, rfl⟩
  · have e : x.tmod n = x % n := by
      rw [Int.emod_eq_tmod]
      by_cases h : 0 ≤ x
      · simp [h]
      · have : (n : Int) ∣ x := by
          apply Int.dvd_of_tmod_eq_zero
          have h9 := Int.tmod_nonneg (n : Int) (show 0 ≤ -x by omega)
          rw [Int.neg_tmod] at h9
          omega
        simp [this]
    have e2 : ((mdN x n : Nat) : Int) = x.tmod n := by unfold mdN; omega
    have HE : Hid _ := e2
    clear e e2 hpos
    go_enter Try.func9, Try.ntmps9
    go_wp2
    go_ret
    rw [HE.out]
    exact ⟨rfl, rfl⟩
def Tod.vals (t : Tod) : Array Value := #[.int .i64 t.kind, .int .i64 t.v]
theorem Tod.vals_size (t : Tod) : t.vals.size = 2 := rfl
theorem Try.infoTod : (Try.prog.info? 55).map (fun i => (i.zero, i.size, i.bytes)) = some (some (.agg #[.int .i64 0, .int .i64 0]), 2, 16) := by kernel_rfl
theorem Try.infoIntG : (Try.prog.info? 3).map (fun i => (i.zero, i.size, i.bytes)) = some (some (.int .i64 0), 1, 8) := by kernel_rfl
theorem tod_append (va : Value) (l : List Tod) (a : Tod) (g ty : Nat) (w : World) (h : w.ownsRow 0 55 2 va l.length (rowVals Tod.vals l)) (hlen : l.length < 10000000)
    (hg : w.heap[g]? = some (.cells a.vals 55 (0, 0))) :
    ∃ b cap w', (Builtin.append_ #[22, 22] ty #[va, .slice (some ⟨g, 0, none⟩) 1 1]).run Try.prog w = .ok (.slice (some ⟨b, 0, none⟩) (l.length + 1) cap) w' ∧
      w'.ownsRow 0 55 2 (.slice (some ⟨b, 0, none⟩) (l.length + 1) cap) (l.length + 1) (rowVals Tod.vals (l ++ [a])) ∧ w.grownBy w' va.ownBlock ∧ Moved w va (.slice (some ⟨b, 0, none⟩) (l.length + 1) cap) := by
  obtain ⟨i0, hi, hz0, hz1, hz2⟩ := info_parts Try.infoTod
  obtain ⟨v', w', hr, ho, hgr, hm, -⟩ := run_append_moved (P := Try.prog) w 0 22 ty 55 i0 _ 2 16 Try.underlying22 hi hz0 hz1 hz2 rfl (by decide) va l.length (rowVals Tod.vals l) h
    ⟨g, 0, none⟩ 1 1 a.vals.toList rfl (by
      intro j u hu
      rw [show (⟨g, 0, none⟩ : Addr).add j = ⟨g, j, none⟩ by unfold Addr.add; split <;> simp_all, cell_of_block hg]
      simpa using hu) (by
      intro u hu
      simp [Tod.vals] at hu
      rcases hu with rfl | rfl <;> rfl) (by unfold maxLen; omega) (by omega) (Nat.zero_le _)
  rw [← rowVals_app] at ho
  rcases ho.2 with ⟨_, h0⟩ | ⟨b, cap, cur, rfl, _⟩
  · omega
  · exact ⟨b, cap, w', hr, ho, hgr, hm⟩
theorem int_app (v : Value) (l : List Int) (x : Int) (g ty : Nat) (w : World) (h : w.ownsRow 0 3 1 v l.length (l.map (Value.int .i64))) (hlen : l.length < 1000000000)
    (hg : w.heap[g]? = some (.cells #[.int .i64 x] 3 (0, 0))) :
    ∃ b cap w', (Builtin.append_ #[23, 23] ty #[v, .slice (some ⟨g, 0, none⟩) 1 1]).run Try.prog w = .ok (.slice (some ⟨b, 0, none⟩) (l.length + 1) cap) w' ∧
      w'.ownsRow 0 3 1 (.slice (some ⟨b, 0, none⟩) (l.length + 1) cap) (l.length + 1) ((l ++ [x]).map (Value.int .i64)) ∧ w.grownBy w' v.ownBlock ∧ Moved w v (.slice (some ⟨b, 0, none⟩) (l.length + 1) cap) := by
  obtain ⟨i0, hi, hz0, hz1, hz2⟩ := info_parts Try.infoIntG
  obtain ⟨v', w', hr, ho, hgr, hm, -⟩ := run_append_moved (P := Try.prog) w 0 23 ty 3 i0 _ 1 8 Try.underlying23 hi hz0 hz1 hz2 rfl (by decide) v l.length _ h
    ⟨g, 0, none⟩ 1 1 [.int .i64 x] rfl (by
      intro j y hy
      rw [show (⟨g, 0, none⟩ : Addr).add j = ⟨g, j, none⟩ by unfold Addr.add; split <;> simp_all, cell_of_block hg]
      simpa using hy) (by
      intro y hy
      simp at hy
      subst hy
      rfl) (by unfold maxLen; omega) (by omega) (Nat.zero_le _)
  rw [List.map_append, List.map_cons, List.map_nil]
  rcases ho.2 with ⟨_, h0⟩ | ⟨b, cap, cur, rfl, _⟩
  · omega
  · exact ⟨b, cap, w', hr, ho, hgr, hm⟩
/-- fit, in the midst. -/
structure FitS (w wr : World) (X Hb R : Nat) (gx : Array Value) (f1 m1 t1 : Int) (vT vP : Value) (T : List Tod) (P : List Int) : Prop where
  hX : wr.heap[X]? = some (.cells gx 25 (0, 0))
  hH : wr.heap[Hb]? = some (.cells #[.int .i64 f1, .int .i64 m1, vT, .int .i64 t1, vP] 25 (0, 0))
  hR : wr.heap[R]? = some (.cells #[.int .i64 0, .int .i64 0, .slice none 0 0, .int .i64 0, .slice none 0 0] 25 (0, 0))
  kp : Keeps None w wr
  oT : wr.ownsRow 0 55 2 vT T.length (rowVals Tod.vals T)
  oP : wr.ownsRow 0 3 1 vP P.length (P.map (Value.int .i64))
  nXH : X ≠ Hb
  nRH : R ≠ Hb
  lX : w.heap.size ≤ X
  lH : w.heap.size ≤ Hb
  lR : w.heap.size ≤ R
  lT : ∀ k, vT.ownBlock = some k → w.heap.size ≤ k
  lP : ∀ k, vP.ownBlock = some k → w.heap.size ≤ k
section
variable {w wr w1 : World} {X Hb R : Nat} {gx : Array Value} {f1 m1 t1 : Int} {vT vP vT' vP' : Value} {T : List Tod} {P : List Int}
theorem FitS.kept (h : FitS w wr X Hb R gx f1 m1 t1 vT vP T P) (hk : Keeps None wr w1) : FitS w w1 X Hb R gx f1 m1 t1 vT vP T P :=
  ⟨blkD h.hX hk (fun f => f), blkD h.hH hk (fun f => f), blkD h.hR hk (fun f => f), h.kp.trans hk (fun _ f _ => f), hk.own h.oT (fun _ _ f => f), hk.own h.oP (fun _ _ f => f), h.nXH, h.nRH, h.lX, h.lH, h.lR, h.lT, h.lP⟩
theorem FitS.addT {x : Tod} (h : FitS w wr X Hb R gx f1 m1 t1 vT vP T P) (hk : Keeps (fun k => vT.ownBlock = some k) wr w1) (hm : Moved wr vT vT') (ho : w1.ownsRow 0 55 2 vT' (T.length + 1) (rowVals Tod.vals (T ++ [x]))) :
    FitS w (w1.setCell ⟨Hb, 2, none⟩ vT') X Hb R gx f1 m1 t1 vT' vP (T ++ [x]) P := by
  have hs := h.kp.size
  have hs1 := hk.size
  have nG : ∀ k, wr.heap[k]? = some (.cells gx 25 (0, 0)) → vT.ownBlock ≠ some k := fun k hb e => absurd (own_type h.oT e hb) (by decide)
  have nX : vT.ownBlock ≠ some X := nG X h.hX
  have nH : vT.ownBlock ≠ some Hb := fun e => absurd (own_type h.oT e h.hH) (by decide)
  have nR : vT.ownBlock ≠ some R := fun e => absurd (own_type h.oT e h.hR) (by decide)
  have hkp : Keeps (· = Hb) w1 (w1.setCell ⟨Hb, 2, none⟩ vT') := Keeps.setCell (S := (· = Hb)) w1 (a := ⟨Hb, 2, none⟩) rfl _
  have hall : Keeps (fun k => vT.ownBlock = some k ∨ k = Hb) wr (w1.setCell ⟨Hb, 2, none⟩ vT') := (hk.mono (fun _ f _ => .inl f)).trans hkp (fun _ e _ => .inr e)
  have hH1 := blkD h.hH hk nH
  have nH' : vT'.ownBlock ≠ some Hb := fun e => absurd (own_type ho e hH1) (by decide)
  refine ⟨blkD h.hX hall (fun e => by rcases e with e | e; exact nX e; exact h.nXH e), (setCell_block hH1 vT').trans rfl, blkD h.hR hall (fun e => by rcases e with e | e; exact nR e; exact h.nRH e), h.kp.trans hall (fun i e hi => by rcases e with e | e; have := h.lT i e; omega; have := h.lH; omega), ?_, hall.own h.oP (fun k e e2 => by rcases e2 with e2 | e2; exact own_apart h.oP h.oT (by decide) e e2; exact absurd (own_type h.oP (e2 ▸ e) h.hH) (by decide)), h.nXH, h.nRH, h.lX, h.lH, h.lR, fun k e => ?_, h.lP⟩
  · have := hkp.own ho (fun k e e2 => nH' (e2 ▸ e))
    simpa using this
  · rcases moved_offD hm e with e | e
    · exact h.lT k e
    · omega
theorem FitS.addP {x : Int} (h : FitS w wr X Hb R gx f1 m1 t1 vT vP T P) (hk : Keeps (fun k => vP.ownBlock = some k) wr w1) (hm : Moved wr vP vP') (ho : w1.ownsRow 0 3 1 vP' (P.length + 1) ((P ++ [x]).map (Value.int .i64))) :
    FitS w (w1.setCell ⟨Hb, 4, none⟩ vP') X Hb R gx f1 m1 t1 vT vP' T (P ++ [x]) := by
  have hs := h.kp.size
  have hs1 := hk.size
  have nX : vP.ownBlock ≠ some X := fun e => absurd (own_type h.oP e h.hX) (by decide)
  have nH : vP.ownBlock ≠ some Hb := fun e => absurd (own_type h.oP e h.hH) (by decide)
  have nR : vP.ownBlock ≠ some R := fun e => absurd (own_type h.oP e h.hR) (by decide)
  have hkp : Keeps (· = Hb) w1 (w1.setCell ⟨Hb, 4, none⟩ vP') := Keeps.setCell (S := (· = Hb)) w1 (a := ⟨Hb, 4, none⟩) rfl _
  have hall : Keeps (fun k => vP.ownBlock = some k ∨ k = Hb) wr (w1.setCell ⟨Hb, 4, none⟩ vP') := (hk.mono (fun _ f _ => .inl f)).trans hkp (fun _ e _ => .inr e)
  have hH1 := blkD h.hH hk nH
  have nH' : vP'.ownBlock ≠ some Hb := fun e => absurd (own_type ho e hH1) (by decide)
  refine ⟨blkD h.hX hall (fun e => by rcases e with e | e; exact nX e; exact h.nXH e), (setCell_block hH1 vP').trans rfl, blkD h.hR hall (fun e => by rcases e with e | e; exact nR e; exact h.nRH e), h.kp.trans hall (fun i e hi => by rcases e with e | e; have := h.lP i e; omega; have := h.lH; omega), hall.own h.oT (fun k e e2 => by rcases e2 with e2 | e2; exact own_apart h.oT h.oP (by decide) e e2; exact absurd (own_type h.oT (e2 ▸ e) h.hH) (by decide)), ?_, h.nXH, h.nRH, h.lX, h.lH, h.lR, h.lT, fun k e => ?_⟩
  · have := hkp.own ho (fun k e e2 => nH' (e2 ▸ e))
    simpa using this
  · rcases moved_offD hm e with e | e
    · exact h.lP k e
    · omega
end
end Go.Proofs.Ytaeooljfilkaeaa
