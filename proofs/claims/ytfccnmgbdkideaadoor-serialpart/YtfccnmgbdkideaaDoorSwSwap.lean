import Derived.Test.YtfccnmgbdkideaaDoorSwMem
import Derived.Test.YtfccnmgbdkideaaDoorSwSim
/-! 'swapped'. -/
namespace Go.Proofs.YtfccnmgbdkideaaDoor
set_option linter.unusedVariables false
set_option maxRecDepth 20000
open Go.RowKit Go.HeapKit Go.PlainOps

/-- How far the calls are turned. -/
def Tr (F : Nat) (l' lq : List Fn) (i k : Nat) : Prop := lq.length = l'.length ∧ ∀ j f, l'[j]? = some f → ∃ g, lq[j]? = some g ∧ g.params = f.params ∧ g.regs = f.regs ∧ g.slots = f.slots ∧ g.code.length = f.code.length ∧ ∀ q x, f.code[q]? = some x → g.code[q]? = some (if j < i ∨ (j = i ∧ q < k) then insR F x else x)
theorem tr_start (F : Nat) (l' : List Fn) : Tr F l' l' 0 0 := ⟨rfl, fun j f hf => ⟨f, hf, rfl, rfl, rfl, rfl, fun q x hx => by rw [if_neg (by omega)]; exact hx⟩⟩
theorem Tr.next {F : Nat} {l' lq : List Fn} {i k : Nat} (h : Tr F l' lq i k) {f : Fn} (hf : l'[i]? = some f) (hk : f.code.length ≤ k) : Tr F l' lq (i + 1) 0 := by
  refine ⟨h.1, fun j f' hf' => ?_⟩
  obtain ⟨g, h1, h2, h3, h4, h5, h6⟩ := h.2 j f' hf'
  refine ⟨g, h1, h2, h3, h4, h5, fun q x hx => ?_⟩
  rw [h6 q x hx]
  have hq := (List.getElem?_eq_some_iff.1 hx).1
  by_cases ej : j = i
  · subst ej
    rw [hf] at hf'
    obtain rfl := Option.some.inj hf'
    rw [if_pos (by omega), if_pos (by omega)]
  · by_cases hji : j < i
    · rw [if_pos (by omega), if_pos (by omega)]
    · rw [if_neg (by omega), if_neg (by omega)]
theorem Tr.at {F : Nat} {l' lq : List Fn} {i k : Nat} (h : Tr F l' lq i k) {f : Fn} (hf : l'[i]? = some f) {x : Ins} (hx : f.code[k]? = some x) : ∃ g, lq[i]? = some g ∧ g.code.length = f.code.length ∧ g.code[k]? = some x := by
  obtain ⟨g, h1, _, _, _, h5, h6⟩ := h.2 i f hf
  have := h6 k x hx
  rw [if_neg (by omega)] at this
  exact ⟨g, h1, h5, this⟩
/-- An instruction that is not turned. -/
theorem Tr.same {F : Nat} {l' lq : List Fn} {i k : Nat} (h : Tr F l' lq i k) {f : Fn} (hf : l'[i]? = some f) {x : Ins} (hx : f.code[k]? = some x) (he : insR F x = x) : Tr F l' lq i (k + 1) := by
  refine ⟨h.1, fun j f' hf' => ?_⟩
  obtain ⟨g, h1, h2, h3, h4, h5, h6⟩ := h.2 j f' hf'
  refine ⟨g, h1, h2, h3, h4, h5, fun q z hz => ?_⟩
  rw [h6 q z hz]
  by_cases hjq : j = i ∧ q = k
  · obtain ⟨rfl, rfl⟩ := hjq
    rw [hf] at hf'
    obtain rfl := Option.some.inj hf'
    rw [hx] at hz
    obtain rfl := Option.some.inj hz
    rw [if_neg (by omega), if_pos (by omega), he]
  · by_cases hc : j < i ∨ (j = i ∧ q < k)
    · rw [if_pos hc, if_pos (by omega)]
    · rw [if_neg hc, if_neg (by omega)]
/-- One that is. -/
theorem Tr.turn {F : Nat} {l' lq : List Fn} {i k : Nat} (h : Tr F l' lq i k) {f : Fn} (hf : l'[i]? = some f) {x : Ins} (hx : f.code[k]? = some x) {g : Fn} (hg : lq[i]? = some g) {b : Int} (he : insR F x = { x with b := b }) : Tr F l' (lq.set i { g with code := g.code.set k { x with b := b } }) i (k + 1) := by
  have hil := (List.getElem?_eq_some_iff.1 hg).1
  refine ⟨by rw [List.length_set]; exact h.1, fun j f' hf' => ?_⟩
  obtain ⟨g', h1, h2, h3, h4, h5, h6⟩ := h.2 j f' hf'
  by_cases ej : i = j
  · subst ej
    rw [hg] at h1
    obtain rfl := Option.some.inj h1
    rw [hf] at hf'
    obtain rfl := Option.some.inj hf'
    refine ⟨_, List.getElem?_set_self hil, h2, h3, h4, by simpa using h5, fun q z hz => ?_⟩
    show (g.code.set k _)[q]? = _
    have hq := (List.getElem?_eq_some_iff.1 hz).1
    by_cases ek : k = q
    · subst ek
      rw [hx] at hz
      obtain rfl := Option.some.inj hz
      rw [List.getElem?_set_self (by omega), if_pos (by omega), he]
    · rw [List.getElem?_set_ne ek, h6 q z hz]
      by_cases hc : i < i ∨ (i = i ∧ q < k)
      · rw [if_pos hc, if_pos (by omega)]
      · rw [if_neg hc, if_neg (by omega)]
  · refine ⟨g', by rw [List.getElem?_set_ne ej]; exact h1, h2, h3, h4, h5, fun q z hz => ?_⟩
    rw [h6 q z hz]
    by_cases hc : j < i ∨ (j = i ∧ q < k)
    · rw [if_pos hc, if_pos (by omega)]
    · rw [if_neg hc, if_neg (by omega)]
theorem Tr.end {F : Nat} {l' lq : List Fn} (h : Tr F l' lq l'.length 0) : lq = l'.map (fnR F) := by
  apply List.ext_getElem?
  intro j
  rw [List.getElem?_map]
  by_cases hj : j < l'.length
  · have hf : l'[j]? = some (l'[j]'hj) := List.getElem?_eq_getElem hj
    obtain ⟨g, h1, h2, h3, h4, h5, h6⟩ := h.2 j _ hf
    rw [h1, hf]
    simp only [Option.map_some, fnR]
    congr 1
    obtain ⟨gp, gr, gs, gc⟩ := g
    simp only at h2 h3 h4 h5 h6
    subst h2 h3 h4
    congr 1
    apply List.ext_getElem?
    intro q
    rw [List.getElem?_map]
    by_cases hq : q < (l'[j]'hj).code.length
    · have hx : (l'[j]'hj).code[q]? = some ((l'[j]'hj).code[q]'hq) := List.getElem?_eq_getElem hq
      rw [h6 q _ hx, if_pos (.inl hj), hx]
      rfl
    · rw [List.getElem?_eq_none (by omega), List.getElem?_eq_none (by omega)]
      rfl
  · rw [List.getElem?_eq_none (by have := h.1; omega), List.getElem?_eq_none (by omega)]
    rfl
def SwapPost (l : List Fn) (n F : Nat) (w : World) (e : Ending) (w' : World) : Prop := ∃ a c, e = .returned (.agg #[.slice a n c]) ∧ SeenF w' a n (swapL l F) ∧ Keeps None w w'
set_option maxHeartbeats 4000000 in
theorem swapped_any (a : Option Addr) (n c : Nat) (l : List Fn) (F : Nat) (w : World) (hS : SeenF w a n l) (hF : F < n) (hn : n ≤ 32) (hm : ∀ f ∈ l, f.code.length ≤ 512) :
    Calls Tryd.prog 8 #[.agg #[.slice a n c], .int .i64 (F : Int)] w (SwapPost l n F w) := by
  obtain ⟨B, hB⟩ : ∃ B, B = w.heap.size := ⟨_, rfl⟩
  obtain ⟨p1, p2⟩ := two_boxes w #[.slice a n c] #[.slice none 0 0] 24 24
  have hk2 := keeps2 w (.cells #[.slice a n c] 24) (.cells #[.slice none 0 0] 24)
  obtain ⟨W, hW⟩ : ∃ W, W = (w.alloc (.cells #[.slice a n c] 24)).alloc (.cells #[.slice none 0 0] 24) := ⟨_, rfl⟩
  rw [← hW] at p1 p2 hk2
  rw [← hB] at p1 p2
  have d0 : W.cell? ⟨B, 0, none⟩ = some (.slice a n c) := (blk_cell p1 0).trans rfl
  have hcp := copied_own a n c l W (hS.more hk2) (by omega) (fun f hf => by have := hm f hf; omega)
  unfold CopiedOwn at hcp
  have HC : Hid (Keeps None w W ∧ W.heap[B + 1]? = some (.cells #[.slice none 0 0] 24 (0, 0)) ∧ n = l.length ∧ (∀ f ∈ l, f.code.length ≤ 512) ∧ B = w.heap.size) := ⟨hk2, p2, hS.len, hm, hB⟩
  clear p1 p2 hk2 hS hm
  go_enter Tryd.func8, Tryd.ntmps8
  go_upto_region 1 with fail
  rw [← hW, ← hB]
  clear hW hB
  go_upto_region 2 with (go_at_call 14; refine hcp.mono ?_; rintro _ w2 ⟨qa, qc, tv, rfl, hq2, hk2⟩)
  have hal := Keeps.alloc None w2 (.cells #[.slice qa n qc] 24)
  have b2 := heap_alloc_new w2 (.cells #[.slice qa n qc] 24)
  obtain ⟨V, hV⟩ : ∃ V, V = w2.alloc (.cells #[.slice qa n qc] 24) := ⟨_, rfl⟩
  obtain ⟨Q, hQ⟩ : ∃ Q, Q = w2.heap.size := ⟨_, rfl⟩
  rw [← hV] at hal b2
  rw [← hQ] at b2
  rw [← hV, ← hQ]
  have hcpV := hq2.more hal
  obtain ⟨g, C, rfl, hgC, hrow⟩ := hcpV.rows HC.out.2.2.1 (by omega)
  obtain ⟨x, hx⟩ : ∃ x, l[0]? = some x := ⟨l[0]'(by have := HC.out.2.2.1; omega), by simp⟩
  obtain ⟨y, hy⟩ : ∃ y, l[F]? = some y := ⟨l[F]'(by have := HC.out.2.2.1; omega), by simp⟩
  obtain ⟨t, ht⟩ : ∃ t, tv[0]? = some t := ⟨tv[0]'(by have := HC.out.2.2.1; have := hcpV.len; omega), by simp⟩
  obtain ⟨u, hu⟩ : ∃ u, tv[F]? = some u := ⟨tv[F]'(by have := HC.out.2.2.1; have := hcpV.len; omega), by simp⟩
  obtain ⟨x0, x1, x2, x3⟩ := hrow 0 x t hx ht
  obtain ⟨y0, y1, y2, y3⟩ := hrow F y u hy hu
  obtain ⟨hsw, hks⟩ := hcpV.swap HC.out.2.2.1 hx hy ht hu
  have q0 : V.cell? ⟨Q, 0, none⟩ = some (.slice (some ⟨g, 0, none⟩) n qc) := (blk_cell b2 0).trans rfl
  have nQg : Q ≠ g := fun e => by
    rw [e, hgC] at b2
    injection b2 with b2
    injection b2 with _ b2
    exact absurd b2 (by decide)
  have i1 : (0 : Int) < (n : Int) := by omega
  have i2 : (F : Int) < (n : Int) := by omega
  simp only [Nat.zero_mul, Nat.zero_add] at x0 x1 x2 x3
  clear d0 hV hQ
  have fz := fun j => blk_free hgC j
  have HV : Hid (Cp W.heap.size V l (.slice (some ⟨g, 0, none⟩) n qc) tv ∧ Keeps None W V ∧ V.heap[Q]? = some (.cells #[.slice (some ⟨g, 0, none⟩) n qc] 24 (0, 0)) ∧ l[0]? = some x ∧ l[F]? = some y ∧ tv[0]? = some t ∧ tv[F]? = some u) := ⟨hcpV, hk2.trans hal (fun _ f _ => f), b2, hx, hy, ht, hu⟩
  have HSW : Hid _ := And.intro hsw hks
  clear hcpV hk2 hal b2 hx hy ht hu hq2 hrow hsw hks hgC hcp
  have hgW : W.heap.size ≤ g := HV.out.1.low g rfl
  have HG : Hid (Cp W.heap.size (set4 (set4 V g 0 y u) g F x t).drew ((l.set 0 y).set F x) (.slice (some ⟨g, 0, none⟩) n qc) ((tv.set 0 u).set F t) ∧ Keeps None W (set4 (set4 V g 0 y u) g F x t).drew ∧ (set4 (set4 V g 0 y u) g F x t).drew.heap[Q]? = some (.cells #[.slice (some ⟨g, 0, none⟩) n qc] 24 (0, 0))) := ⟨HSW.out.1.more (Keeps.drew None _), (HV.out.2.1.trans HSW.out.2 (fun i e hi => by omega)).trans (Keeps.drew None _) (fun _ f _ => f), blk_kept HV.out.2.2.1 (HSW.out.2.trans (Keeps.drew None _) (fun _ f _ => f.elim)) nQg⟩
  unfold set4 at HG
  go_cut [26] (fun s26 wx => Cp W.heap.size wx ((l.set 0 y).set F x) (.slice (some ⟨g, 0, none⟩) n qc) ((tv.set 0 u).set F t) ∧ Keeps None W wx ∧ wx.heap[Q]? = some (.cells #[.slice (some ⟨g, 0, none⟩) n qc] 24 (0, 0)))
  case first =>
    have z0 := fz 0
    have z1 := fz 1
    have z2 := fz 2
    have z3 := fz 3
    by_cases hF0 : F = 0
    · subst hF0
      have e1 : y = x := by have h1 := HV.out.2.2.2.1; have h2 := HV.out.2.2.2.2.1; rw [h1] at h2; exact (Option.some.inj h2).symm
      have e2 : u = t := by have h1 := HV.out.2.2.2.2.2.1; have h2 := HV.out.2.2.2.2.2.2; rw [h1] at h2; exact (Option.some.inj h2).symm
      subst e1 e2
      clear y0 y1 y2 y3 fz i2 hF
      go_region
      all_goals (go_wp2_with fail; go_meet)
      all_goals exact HG.out
    · have zF0 := fz (F * 4)
      have zF1 := fz (F * 4 + 1)
      have zF2 := fz (F * 4 + 2)
      have zF3 := fz (F * 4 + 3)
      have n0 : ¬ F * 4 = 0 := by omega
      have n1 : ¬ F * 4 = 1 := by omega
      have n2 : ¬ F * 4 = 2 := by omega
      have n3 : ¬ F * 4 = 3 := by omega
      clear fz
      go_region
      all_goals (go_wp2_with fail; go_meet)
      all_goals exact HG.out
  case rest =>
    obtain ⟨l', hl'⟩ : ∃ l', l' = (l.set 0 y).set F x := ⟨_, rfl⟩
    obtain ⟨tv', htv'⟩ : ∃ tv', tv' = (tv.set 0 u).set F t := ⟨_, rfl⟩
    rw [← hl', ← htv'] at hcut
    have hl'n : n = l'.length := by rw [hl']; simp; exact HC.out.2.2.1
    have hl'm : ∀ f ∈ l', f.code.length ≤ 512 := fun f hf => by
      rw [hl'] at hf
      rcases List.mem_or_eq_of_mem_set hf with h1 | h1
      · rcases List.mem_or_eq_of_mem_set h1 with h2 | h2
        · exact HC.out.2.2.2.1 f h2
        · rw [h2]; exact HC.out.2.2.2.1 y (List.mem_of_getElem? HV.out.2.2.2.2.1)
      · rw [h1]; exact HC.out.2.2.2.1 x (List.mem_of_getElem? HV.out.2.2.2.1)
    have hlsw : swapL l F = l'.map (fnR F) := by
      unfold swapL swapP
      rw [HV.out.2.2.2.1, HV.out.2.2.2.2.1, hl']
    have HL : Hid (n = l'.length ∧ (∀ f ∈ l', f.code.length ≤ 512) ∧ swapL l F = l'.map (fnR F) ∧ (Cp W.heap.size wc l' (.slice (some ⟨g, 0, none⟩) n qc) tv' ∧ Keeps None W wc ∧ wc.heap[Q]? = some (.cells #[.slice (some ⟨g, 0, none⟩) n qc] 24 (0, 0)))) := ⟨hl'n, hl'm, hlsw, hcut⟩
    have hnb : (n : Int) ≤ 32 := by omega
    clear hcut hl' htv' hl'n hl'm hlsw x0 x1 x2 x3 y0 y1 y2 y3 q0 fz HG HSW hgW i1
    go_wp2_with fail
    go_loopw [6] (fun s6 wr => ∃ (i : Nat) (lq : List Fn), i ≤ n ∧ s6 = .int .i64 i ∧ Tr F l' lq i 0 ∧ Cp W.heap.size wr lq (.slice (some ⟨g, 0, none⟩) n qc) tv' ∧ Keeps None W wr ∧ wr.heap[Q]? = some (.cells #[.slice (some ⟨g, 0, none⟩) n qc] 24 (0, 0))) (fun i _ => n - (intOf i).toNat)
    case atStart => exact ⟨0, l', Nat.zero_le _, rfl, tr_start F l', HL.out.2.2.2⟩
    case round =>
      obtain ⟨i, lq, hi, rfl, hTr, hcp, hkp, hqb⟩ := hrel
      have q0 : wr.cell? ⟨Q, 0, none⟩ = some (.slice (some ⟨g, 0, none⟩) n qc) := (blk_cell hqb 0).trans rfl
      by_cases hin : i < n
      · have i1 : (i : Int) < (n : Int) := by omega
        obtain ⟨f, hf⟩ : ∃ f, l'[i]? = some f := ⟨l'[i]'(by have := HL.out.1; omega), by simp⟩
        obtain ⟨K, hK⟩ : ∃ K, K = f.code.length := ⟨_, rfl⟩
        have hKb : K ≤ 512 := by rw [hK]; exact HL.out.2.1 f (List.mem_of_getElem? hf)
        have HI : Hid (Tr F l' lq i 0 ∧ l'[i]? = some f ∧ K = f.code.length ∧ Cp W.heap.size wr lq (.slice (some ⟨g, 0, none⟩) n qc) tv' ∧ Keeps None W wr ∧ wr.heap[Q]? = some (.cells #[.slice (some ⟨g, 0, none⟩) n qc] 24 (0, 0))) := ⟨hTr, hf, hK, hcp, hkp, hqb⟩
        clear hTr hf hK hcp hkp hqb
        go_wp2_with fail
        clear q0
        go_loopw [7] (fun s7 wr => ∃ (k : Nat) (lq : List Fn), k ≤ K ∧ s7 = .int .i64 k ∧ Tr F l' lq i k ∧ Cp W.heap.size wr lq (.slice (some ⟨g, 0, none⟩) n qc) tv' ∧ Keeps None W wr ∧ wr.heap[Q]? = some (.cells #[.slice (some ⟨g, 0, none⟩) n qc] 24 (0, 0))) (fun i _ => K - (intOf i).toNat)
        case atStart => exact ⟨0, lq, Nat.zero_le _, rfl, HI.out.1, HI.out.2.2.2⟩
        case round =>
          obtain ⟨k, lq, hk, rfl, hTr, hcp, hkp, hqb⟩ := hrel
          have q0 : wr.cell? ⟨Q, 0, none⟩ = some (.slice (some ⟨g, 0, none⟩) n qc) := (blk_cell hqb 0).trans rfl
          obtain ⟨gf, hgf, _, _, _, hgl, _⟩ := hTr.2 i f HI.out.2.1
          have hlqn : n = lq.length := by have := hTr.1; have := HL.out.1; omega
          obtain ⟨t', ht'⟩ : ∃ t', tv'[i]? = some t' := ⟨tv'[i]'(by have := hcp.len; omega), by simp⟩
          obtain ⟨g2, C2, eg, hgC2, hrow2⟩ := hcp.rows hlqn (by omega)
          injection eg with eg
          injection eg with eg
          subst eg
          have c3 := (hrow2 i gf t' hgf ht').2.2.2
          rw [hgl, ← HI.out.2.2.1] at c3
          by_cases hkK : k < K
          · have i2 : (k : Int) < (K : Int) := by omega
            obtain ⟨z, hz⟩ : ∃ z, f.code[k]? = some z := ⟨f.code[k]'(by have := HI.out.2.2.1; omega), by simp⟩
            obtain ⟨gf', hgf', _, hgz⟩ := hTr.at HI.out.2.1 hz
            rw [hgf] at hgf'
            obtain rfl := Option.some.inj hgf'
            obtain ⟨cb, htc, hia, _, _, _, hbase⟩ := hcp.putB hgf hgz ht' 0
            rw [htc] at c3
            have y0 := hia.kind
            have y1 := hia.a
            have y2 := hia.b
            have y3 := hia.c
            have y4 := hia.k
            have hal := Keeps.alloc None wr (.cells #[.int .i64 z.kind, .int .i64 z.a, .int .i64 z.b, .int .i64 z.c, .int .i64 z.k] 44)
            have bG := heap_alloc_new wr (.cells #[.int .i64 z.kind, .int .i64 z.a, .int .i64 z.b, .int .i64 z.c, .int .i64 z.k] 44)
            obtain ⟨U, hU⟩ : ∃ U, U = wr.alloc (.cells #[.int .i64 z.kind, .int .i64 z.a, .int .i64 z.b, .int .i64 z.c, .int .i64 z.k] 44) := ⟨_, rfl⟩
            obtain ⟨G, hG⟩ : ∃ G, G = wr.heap.size := ⟨_, rfl⟩
            rw [← hU] at hal bG
            rw [← hG] at bG
            have hcpU := hcp.more hal
            have hput := fun b => hcpU.putB hgf hgz ht' b
            have HX : Hid (Tr F l' lq i k ∧ f.code[k]? = some z ∧ lq[i]? = some gf ∧ Cp W.heap.size U lq (.slice (some ⟨g, 0, none⟩) n qc) tv' ∧ Keeps None W U ∧ U.heap[Q]? = some (.cells #[.slice (some ⟨g, 0, none⟩) n qc] 24 (0, 0)) ∧ W.heap.size ≤ cb ∧ (∀ b, Cp W.heap.size (U.setCell ⟨cb, k * 5 + 2, none⟩ (.int .i64 b)) (lq.set i { gf with code := gf.code.set k { z with b := b } }) (.slice (some ⟨g, 0, none⟩) n qc) tv' ∧ Keeps (· = cb) U (U.setCell ⟨cb, k * 5 + 2, none⟩ (.int .i64 b)))) := by
              refine ⟨hTr, hz, hgf, hcpU, hkp.trans hal (fun _ f _ => f), blk_kept hqb hal (fun f => f), hbase, fun b => ?_⟩
              obtain ⟨cb', h1, _, _, h4, h5, _⟩ := hput b
              rw [htc] at h1
              injection h1 with h1
              injection h1 with h1
              subst h1
              exact ⟨h4, h5⟩
            obtain ⟨cb', h1, hia2, hfz2, _, _, _⟩ := hput 0
            rw [htc] at h1
            injection h1 with h1
            injection h1 with h1
            subst h1
            have w2 := hia2.b
            have wz := hfz2 (k * 5 + 2)
            have nQc : Q ≠ cb := fun e => by
              obtain ⟨C3, hC3⟩ := own_block (hcp.code i gf t' hgf ht') (by rw [htc]; rfl)
              rw [e, hC3] at hqb
              injection hqb with h1
              injection h1 with _ h1
              exact absurd h1 (by decide)
            have u0 := hal.cell q0 (fun f => f)
            have u3 := hal.cell c3 (fun f => f)
            have x0 : U.cell? ⟨G, 0, none⟩ = some (.int .i64 z.kind) := (blk_cell bG 0).trans rfl
            have x2 : U.cell? ⟨G, 2, none⟩ = some (.int .i64 z.b) := (blk_cell bG 2).trans rfl
            clear hTr hz hgf hcp hkp hqb hgl hlqn ht' hgC2 hrow2 hgz hia hbase hal bG hcpU hput hia2 hfz2 htc
            go_upto_region 10 with fail
            rw [← hU, ← hG]
            clear hU hG q0 c3 y0 y1 y2 y3 y4
            by_cases h5 : z.kind = 5
            · have p1 : (z.kind == 5) = true := by simpa using h5
              by_cases hb0 : z.b = 0
              · have p2 : (z.b == 0) = true := by simpa using hb0
                have he : Hid (insR F z = { z with b := (F : Int) }) := by
                  unfold Hid insR rho
                  rw [if_pos h5, if_pos hb0]
                clear h5 hb0
                go_wp2_with fail
                exact ⟨⟨k + 1, _, by omega, by simp, HX.out.1.turn HI.out.2.1 HX.out.2.1 HX.out.2.2.1 he.out, (HX.out.2.2.2.2.2.2.2 F).1, HX.out.2.2.2.2.1.trans (HX.out.2.2.2.2.2.2.2 F).2 (fun j e hj => by have := HX.out.2.2.2.2.2.2.1; omega), blk_kept HX.out.2.2.2.2.2.1 (HX.out.2.2.2.2.2.2.2 F).2 nQc⟩, by simp [intOf]; omega⟩
              · have p2 : (z.b == 0) = false := by simpa using hb0
                by_cases hbF : z.b = (F : Int)
                · have p3 : (z.b == (F : Int)) = true := by simpa using hbF
                  have he : Hid (insR F z = { z with b := 0 }) := by
                    unfold Hid insR rho
                    rw [if_pos h5, if_neg hb0, if_pos hbF]
                  clear h5 hb0 hbF
                  go_wp2_with fail
                  exact ⟨⟨k + 1, _, by omega, by simp, HX.out.1.turn HI.out.2.1 HX.out.2.1 HX.out.2.2.1 he.out, (HX.out.2.2.2.2.2.2.2 0).1, HX.out.2.2.2.2.1.trans (HX.out.2.2.2.2.2.2.2 0).2 (fun j e hj => by have := HX.out.2.2.2.2.2.2.1; omega), blk_kept HX.out.2.2.2.2.2.1 (HX.out.2.2.2.2.2.2.2 0).2 nQc⟩, by simp [intOf]; omega⟩
                · have p3 : (z.b == (F : Int)) = false := by simpa using hbF
                  have he : Hid (insR F z = z) := by
                    unfold Hid insR rho
                    rw [if_pos h5, if_neg hb0, if_neg hbF]
                  clear h5 hb0 hbF
                  go_wp2_with fail
                  exact ⟨⟨k + 1, lq, by omega, by simp, HX.out.1.same HI.out.2.1 HX.out.2.1 he.out, HX.out.2.2.2.1, HX.out.2.2.2.2.1, HX.out.2.2.2.2.2.1⟩, by simp [intOf]; omega⟩
            · have p1 : (z.kind == 5) = false := by simpa using h5
              have he : Hid (insR F z = z) := by
                unfold Hid insR
                rw [if_neg h5]
              clear h5
              go_wp2_with fail
              exact ⟨⟨k + 1, lq, by omega, by simp, HX.out.1.same HI.out.2.1 HX.out.2.1 he.out, HX.out.2.2.2.1, HX.out.2.2.2.2.1, HX.out.2.2.2.2.2.1⟩, by simp [intOf]; omega⟩
          · have i2 : ¬ ((K : Int) < (K : Int)) := by omega
            have hkK2 : K = k := by omega
            subst hkK2
            have HX : Hid (Tr F l' lq i K ∧ Cp W.heap.size wr lq (.slice (some ⟨g, 0, none⟩) n qc) tv' ∧ Keeps None W wr ∧ wr.heap[Q]? = some (.cells #[.slice (some ⟨g, 0, none⟩) n qc] 24 (0, 0))) := ⟨hTr, hcp, hkp, hqb⟩
            clear hTr hcp hkp hqb hgf hgl hlqn ht' hgC2 hrow2
            go_wp2_with fail
            exact ⟨⟨i + 1, lq, by omega, by simp, HX.out.1.next HI.out.2.1 (by have := HI.out.2.2.1; omega), HX.out.2⟩, by simp [intOf]; omega⟩
      · have i1 : ¬ ((n : Int) < (n : Int)) := by omega
        have hin2 : n = i := by omega
        subst hin2
        have hlq : lq = swapL l F := by rw [HL.out.2.2.1]; exact Tr.end (by rw [← HL.out.1]; exact hTr)
        have r0 : wr.cell? ⟨B + 1, 0, none⟩ = some (.slice none 0 0) := (blk_cell (blk_kept HC.out.2.1 hkp (fun f => f)) 0).trans rfl
        have z0 := blk_free (blk_kept HC.out.2.1 hkp (fun f => f)) 0
        have kS : Keeps (· = B + 1) wr (wr.setCell ⟨B + 1, 0, none⟩ (.slice (some ⟨g, 0, none⟩) n qc)) := Keeps.setCell (S := (· = B + 1)) wr rfl _
        have rs := blk_set (i := 0) (blk_kept HC.out.2.1 hkp (fun f => f)) (.slice (some ⟨g, 0, none⟩) n qc)
        have hblt := blk_lt HC.out.2.1
        have hcpS : Cp W.heap.size (wr.setCell ⟨B + 1, 0, none⟩ (.slice (some ⟨g, 0, none⟩) n qc)) lq (.slice (some ⟨g, 0, none⟩) n qc) tv' := hcp.kept kS (fun q e hq => by have := hcp.low q e; omega) (fun i t q ht e hq => by have := hcp.cl i t q ht e; omega)
        have HQ : Hid ((wr.setCell ⟨B + 1, 0, none⟩ (.slice (some ⟨g, 0, none⟩) n qc)).heap[B + 1]? = some (.cells #[.slice (some ⟨g, 0, none⟩) n qc] 24 (0, 0)) ∧ SwapPost l n F w (.returned (.agg #[.slice (some ⟨g, 0, none⟩) n qc])) (wr.setCell ⟨B + 1, 0, none⟩ (.slice (some ⟨g, 0, none⟩) n qc))) := by
          refine ⟨rs, ⟨_, _, rfl, ?_, (HC.out.1.trans hkp (fun _ f _ => f)).trans kS (fun i e hi => by have := HC.out.2.2.2.2; omega)⟩⟩
          obtain ⟨x1, x2, e, hs⟩ := hcpS.seen
          injection e with e1 e2 e3
          have e2' : n = lq.length := e2
          rw [← e1, ← e2'] at hs
          rw [← hlq]
          exact hs
        clear hTr hcp hkp hqb hlq kS rs hcpS
        go_wp2_with fail
        exact bodyPost_ret (results_one (q := 4) (ty := 24) rfl rfl (load_prog _ _ _ (.slice (some ⟨g, 0, none⟩) n qc) HQ.out.1)) rfl HQ.out.2
end Go.Proofs.YtfccnmgbdkideaaDoor
