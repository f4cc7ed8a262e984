import Derived.Test.YthignlailbekmaaDoorRtPut
/-! SerialTree: 'append' to a list of nodes; the list itself stays. -/
namespace Go.Proofs.YthignlailbekmaaDoor
set_option linter.unusedVariables false
set_option maxRecDepth 20000
open Go.RowKit Go.HeapKit Go.PlainOps

theorem nodes_more (la : Option Addr) (N lc : Nat) (M : List Nd) (x : Nd) (g0 ty : Nat) (w : World) (hN : N = M.length) (h : w.ownsRow 0 41 7 (.slice la N lc) N (ndVals M)) (hlen : (N + 1) * 56 ≤ 140737488355328)
    (hg0 : w.heap[g0]? = some (.cells #[.int .i64 x.parent, .int .i64 x.idx, .int .i64 x.func, .int .i64 x.work, .int .i64 x.ped, .int .i64 x.arg, .int .i64 x.v] 41 (0, 0))) :
    ∃ b cap w', (Builtin.append_ #[35, 35] ty #[.slice la N lc, .slice (some ⟨g0, 0, none⟩) 1 1]).run Tryd.prog w = .ok (.slice (some ⟨b, 0, none⟩) (N + 1) cap) w' ∧
      SeenD w' (some ⟨b, 0, none⟩) (N + 1) (M ++ [x]) ∧ Keeps (fun k => (Value.slice la N lc).ownBlock = some k) w w' ∧ SeenD w' la N M := by
  obtain ⟨i0, hi, hz0, hz1, hz2⟩ := info_parts Tryd.infoNd
  have hnews : ∀ (j : Nat) (u : Value), (ints x.l)[j]? = some u → w.cell? ((⟨g0, 0, none⟩ : Addr).add j) = some u := by
    intro j u hu
    rw [show (⟨g0, 0, none⟩ : Addr).add j = ⟨g0, j, none⟩ by unfold Addr.add; split <;> simp_all, blk_cell hg0]
    simpa [ints, Nd.l] using hu
  have h1 : ∀ u ∈ ints x.l, u.oneCell' = true := by
    intro u hu
    simp [ints, Nd.l] at hu
    rcases hu with rfl | rfl | rfl | rfl | rfl | rfl | rfl <;> rfl
  obtain ⟨v', w', hr, ho, hgr, hm, -⟩ := run_append_moved (P := Tryd.prog) w 0 35 ty 41 i0 _ 7 56 Tryd.underlying35 hi hz0 hz1 hz2 rfl (by decide) (.slice la N lc) N (ndVals M) h
    ⟨g0, 0, none⟩ 1 1 (ints x.l) rfl hnews h1 (by unfold maxLen; omega) (by omega) (Nat.zero_le _)
  have e : ndVals (M ++ [x]) = ndVals M ++ ints x.l := by simp [ndVals]
  rw [← e] at ho
  have ho2 := ho
  rcases ho2.2 with ⟨_, h0⟩ | ⟨b, cap, cur, rfl, _⟩
  · omega
  · have hsm := seenD_of (by simp [hN]) ho
    refine ⟨b, cap, w', hr, hsm, (Keeps.refl _ w).andGrown hgr (fun k e => .inl e), ?_⟩
    rcases h.2 with ⟨e0, h0⟩ | ⟨g, lc', cur', he, hb0, hg, hnc, hcm, hcs, htk⟩
    · exact ⟨hN, fun h => by omega⟩
    · injection he with e1 e2 e3
      subst e1 e3
      by_cases hroom : N + 1 ≤ lc
      · have hr2 := run_append_room (P := Tryd.prog) w 35 ty 41 i0 Tryd.underlying35 hi g N lc cur' hg ⟨g0, 0, none⟩ 1 1 (ints x.l) (by rw [hz1]; rfl) hnews h1 hroom (by rw [hz1, hcs]; show N * 7 + 7 ≤ lc * 7; omega)
        rw [hr] at hr2
        injection hr2 with q1 q2
        injection q1 with q1 q3 q4
        injection q1 with q1
        injection q1 with q1
        subst q1
        obtain ⟨b', hb', hlt, hc⟩ := hsm.ex (by omega)
        injection hb' with hb'
        injection hb' with hb'
        subst hb'
        refine ⟨hN, fun _ => ⟨b, rfl, hlt, fun k y hy j v hv => hc k y ?_ j v hv⟩⟩
        rw [List.getElem?_append_left (List.getElem?_eq_some_iff.1 hy).1]
        exact hy
      · have holds : ∀ j u, (ndVals M)[j]? = some u → w.cell? ((⟨g, 0, none⟩ : Addr).add j) = some u := h.cells (g := g) rfl
        have hr2 := run_append_grow (P := Tryd.prog) w 35 ty 41 i0 _ Tryd.underlying35 hi hz0 ⟨g, 0, none⟩ N lc (ndVals M) (by rw [hz1]; exact h.1) holds ⟨g0, 0, none⟩ 1 1 (ints x.l) (by rw [hz1]; rfl) hnews (by omega) (by omega) (by rw [hz2]; exact growslice_fits (by omega) (by omega))
        rw [hr] at hr2
        injection hr2 with q1 q2
        rw [q2]
        exact (seenD_of hN h).more ((Keeps.drew None w).trans (Keeps.alloc None _ _) (fun _ f _ => f))
/-- Behind it. -/
structure D4 (W wr : World) (Q : Nat) (l : List Fn) (qv : Value) (tq : List At) (bv : Value) (an : Nat) (zs : List Int) (la ma ua : Option Addr) (b : Nat) (N : Nat) (M L : List Nd) : Prop where
  al : Al W wr Q l qv tq bv an zs
  ls : SeenD wr la N M
  ms : SeenD wr ma N L
  us : SeenD wr ua N L
  more : wr.cell? ⟨b, N * 7, none⟩ = some (.int .i64 (-7))
theorem D4.later {W wr w' : World} {Q : Nat} {l : List Fn} {qv : Value} {tq : List At} {bv : Value} {an : Nat} {zs : List Int} {la ma ua : Option Addr} {b N : Nat} {M L : List Nd} (h : D4 W wr Q l qv tq bv an zs la ma ua b N M L) (hk : Keeps None wr w') : D4 W w' Q l qv tq bv an zs la ma ua b N M L :=
  ⟨h.al.more hk, h.ls.more hk, h.ms.more hk, h.us.more hk, hk.cell h.more (fun f => f)⟩
theorem C3.app {W wr w' : World} {Q : Nat} {l : List Fn} {qv : Value} {tq : List At} {bv : Value} {an : Nat} {zs : List Int} {la ma ua : Option Addr} {lc mc uc N b : Nat} {M L : List Nd} (h : C3 W wr Q l qv tq bv an zs (.slice la N lc) (.slice ma N mc) (.slice ua N uc) N (ndVals M) (ndVals L)) (hL : N = L.length) (hM : N = M.length) {x : Nd} (hx : x.parent = -7)
    (hk : Keeps (fun k => (Value.slice la N lc).ownBlock = some k) wr w') (hs : SeenD w' (some ⟨b, 0, none⟩) (N + 1) (M ++ [x])) (hl : SeenD w' la N M) : D4 W w' Q l qv tq bv an zs la ma ua b N M L := by
  have ha : Al W w' Q l qv tq bv an zs := by
    rcases h.bl.lrow.2 with ⟨e0, h0⟩ | ⟨g, lc', cur', he, hb0, hg, _⟩
    · refine h.bl.al.more ((Keeps.refl None wr).trans hk (fun i e _ => ?_))
      rw [e0] at e
      simp [Value.ownBlock] at e
    · injection he with e1 e2 e3
      subst e1
      refine h.bl.al.node hg (h.bl.llow g rfl) ((Keeps.refl (· = g) wr).trans hk (fun i e _ => ?_))
      simp [Value.ownBlock] at e
      exact e.symm
  refine ⟨ha, hl, seenD_of hL (hk.own h.bl.mrow (fun g e q => h.bl.dif g q e)), seenD_of hL (hk.own h.urow (fun g e q => h.udif g q e)), ?_⟩
  obtain ⟨b', hb', _, hc⟩ := hs.ex (by omega)
  injection hb' with hb'
  injection hb' with hb'
  subst hb'
  have := hc N x (by rw [hM]; simp) 0 x.parent rfl
  rw [hx] at this
  exact this
end Go.Proofs.YthignlailbekmaaDoor
