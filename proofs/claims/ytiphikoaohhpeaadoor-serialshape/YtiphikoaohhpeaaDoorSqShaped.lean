import Derived.Test.YtiphikoaohhpeaaDoorSqWalk
/-! SerialShape: 'shaped'. -/
namespace Go.Proofs.YtiphikoaohhpeaaDoor
set_option linter.unusedVariables false
set_option maxRecDepth 20000
open Go.RowKit Go.HeapKit Go.PlainOps

/-- The rows of 'shaped' ahead of node i. -/
structure Rows (K : List Ky) (D : List Int) (i : Nat) (ks ds : List Int) : Prop where
  kl : ks.length = K.length
  dl : ds.length = K.length
  ka : ∀ p : Nat, p < K.length → ks[p]? = some (cntK (K.take i) p : Int)
  da : ∀ j : Nat, j < i → ds[j]? = D[j]?
theorem rows_start (K : List Ky) (D : List Int) (N : Nat) (hN : N = K.length) : Rows K D 0 (List.replicate N 0) (List.replicate N 0) :=
  ⟨by simp [hN], by simp [hN], fun p hp => by rw [List.getElem?_replicate]; simp [hN, hp, cntK], fun j hj => by omega⟩
theorem rows_first {fs : List Fn} {K : List Ky} {D : List Int} {ks ds : List Int} (hG : Grows fs K D) (h : Rows K D 0 ks ds) : Rows K D 1 ks (ds.set 0 1) := by
  have hl := hG.len
  refine ⟨h.kl, by simpa using h.dl, fun p hp => ?_, fun j hj => ?_⟩
  · rw [h.ka p hp, List.take_add_one, hG.first.1]
    simp [cntK]
  · have : j = 0 := by omega
    subst this
    rw [List.getElem?_set_self (by have := h.dl; omega), hG.first.2]
theorem rows_step {fs : List Fn} {K : List Ky} {D : List Int} {ks ds : List Int} {i p : Nat} {x y : Ky} {d : Int} (hG : Grows fs K D) (h : Rows K D i ks ds) (hx : K[i]? = some x) (hd : D[i]? = some d) (hn : NodeOk fs (K.take i) (D.take i) x d p y) : Rows K D (i + 1) (ks.set p ((cntK (K.take i) p : Int) + 1)) (ds.set i d) := by
  have hi := (List.getElem?_eq_some_iff.1 hx).1
  have hp := (List.getElem?_eq_some_iff.1 hn.at_).1
  simp at hp
  refine ⟨by simpa using h.kl, by simpa using h.dl, fun q hq => ?_, fun j hj => ?_⟩
  · rw [List.take_add_one, hx, cnt_app]
    by_cases hqp : p = q
    · subst hqp
      rw [List.getElem?_set_self (by have := h.kl; omega)]
      have : cntK (some x).toList (p : Int) = 1 := by simp [cntK, hn.par]
      rw [this]
      simp
    · rw [List.getElem?_set_ne hqp, h.ka q hq]
      have : cntK (some x).toList (q : Int) = 0 := by simp [cntK, hn.par]; omega
      rw [this]
      simp
  · by_cases hij : i = j
    · subst hij
      rw [List.getElem?_set_self (by have := h.dl; omega), hd]
    · rw [List.getElem?_set_ne hij]
      exact h.da j (by omega)
def ShapedPost (N : Nat) (D : List Int) (w : World) (e : Ending) (w' : World) : Prop :=
  ∃ g, e = .returned (.slice (some ⟨g, 0, none⟩) N N) ∧ Keeps None w w' ∧ ∀ j d, D[j]? = some d → w'.cell? ⟨g, j, none⟩ = some (.int .i64 d)
set_option maxHeartbeats 4000000 in
theorem shaped_any (a : Option Addr) (N c : Nat) (L : List Nd) (fs : List Fn) (D : List Int) (w : World) (hS : SeenD w a N L) (hG : Grows fs (keys L) D) (hN : N ≤ 8388608) :
    Calls Tryd.prog 7 #[.slice a N c] w (ShapedPost N D w) := by
  have hlen := hS.len
  have hKl : (keys L).length = N := by simp [keys, hlen]
  have hgl := hG.len
  obtain ⟨w1, hm1, hI1, hk1⟩ := nums_made w N (by omega)
  obtain ⟨w2, hm2, hI2, hk2⟩ := nums_made w1 N (by omega)
  obtain ⟨KB, hKB⟩ : ∃ KB, KB = w.heap.size := ⟨_, rfl⟩
  obtain ⟨DB, hDB⟩ : ∃ DB, DB = w1.heap.size := ⟨_, rfl⟩
  rw [← hKB] at hm1 hI1
  rw [← hDB] at hm2 hI2
  have hne : KB ≠ DB := by have := blk_lt hI1; omega
  have hkd : w.heap.size ≤ DB := by rw [hDB]; exact hk1.size
  obtain ⟨b, rfl, hb, hcell⟩ := hS.ex (by omega)
  have HC : Hid (b < w.heap.size ∧ (∀ k x, L[k]? = some x → ∀ j y, x.l[j]? = some y → w.cell? ⟨b, k * 7 + j, none⟩ = some (.int .i64 y)) ∧ N = L.length ∧ (keys L).length = N ∧ Grows fs (keys L) D ∧ KB = w.heap.size ∧ w.heap.size ≤ DB ∧ D.length = N) := ⟨hb, hcell, hlen, hKl, hG, hKB, hkd, by omega⟩
  have H2 : Hid (IsN w2 KB (List.replicate N 0) ∧ IsN w2 DB (List.replicate N 0) ∧ Keeps None w w2) := ⟨hI1.kept hk2 (fun f => f), hI2, hk1.trans hk2 (fun _ f _ => f)⟩
  have hN1 : 1 ≤ N := by omega
  have hnb : (N : Int) ≤ 8388608 := by omega
  clear hS hlen hKl hG hgl hI1 hk1 hI2 hk2 hKB hDB hkd hb hcell
  go_enter Tryd.func7, Tryd.ntmps7
  go_upto_region 2 with (at_make; refine wpList_make_run rfl (.tmp 9) (.tmp 9) 37 rfl rfl rfl hm1 ?_)
  clear hm1
  go_upto_region 3 with (at_make; refine wpList_make_run rfl (.tmp 12) (.tmp 12) 37 rfl rfl rfl hm2 ?_)
  clear hm2
  go_wp2_with fail
  go_loopw [5] (fun s5 wr => ∃ (i : Nat) (ks ds : List Int), i ≤ N ∧ s5 = .int .i64 i ∧ Rows (keys L) D i ks ds ∧ IsN wr KB ks ∧ IsN wr DB ds ∧ Keeps None w wr) (fun i _ => N - (intOf i).toNat)
  case atStart => exact ⟨0, _, _, Nat.zero_le _, rfl, rows_start _ _ N HC.out.2.2.2.1.symm, H2.out.1, H2.out.2.1, H2.out.2.2⟩
  case round =>
    obtain ⟨i, ks, ds, hi, rfl, hR, hIK, hID, hkp⟩ := hrel
    by_cases hiN : i < N
    · have i1 : (i : Int) < (N : Int) := by omega
      obtain ⟨x, hx⟩ : ∃ x, L[i]? = some x := ⟨L[i]'(by have := HC.out.2.2.1; omega), by simp⟩
      have hxk : (keys L)[i]? = some (keyN x) := by simp [keys, hx]
      obtain ⟨xp, xi, xf, xw, xd, xa, xv⟩ := x
      have hcl := HC.out.2.1 i _ hx
      have y0 := hkp.cell (hcl 0 xp rfl) (fun f => f)
      have y1 := hkp.cell (hcl 1 xi rfl) (fun f => f)
      have y2 := hkp.cell (hcl 2 xf rfl) (fun f => f)
      have y3 := hkp.cell (hcl 3 xw rfl) (fun f => f)
      have y4 := hkp.cell (hcl 4 xd rfl) (fun f => f)
      have y5 := hkp.cell (hcl 5 xa rfl) (fun f => f)
      have y6 := hkp.cell (hcl 6 xv rfl) (fun f => f)
      simp only [Nat.add_zero] at y0
      have HX : Hid ((keys L)[i]? = some ⟨xp, xi, xf, xd⟩ ∧ Rows (keys L) D i ks ds ∧ IsN wr KB ks ∧ IsN wr DB ds ∧ Keeps None w wr) := ⟨hxk, hR, hIK, hID, hkp⟩
      clear hx hxk hcl hR hIK hID hkp H2
      go_upto_region 7 with fail
      have bG := heap_alloc_new wr (.cells #[.int .i64 xp, .int .i64 xi, .int .i64 xf, .int .i64 xw, .int .i64 xd, .int .i64 xa, .int .i64 xv] 36)
      have hal := Keeps.alloc None wr (.cells #[.int .i64 xp, .int .i64 xi, .int .i64 xf, .int .i64 xw, .int .i64 xd, .int .i64 xa, .int .i64 xv] 36)
      obtain ⟨U, hU⟩ : ∃ U, U = wr.alloc (.cells #[.int .i64 xp, .int .i64 xi, .int .i64 xf, .int .i64 xw, .int .i64 xd, .int .i64 xa, .int .i64 xv] 36) := ⟨_, rfl⟩
      obtain ⟨G, hG⟩ : ∃ G, G = wr.heap.size := ⟨_, rfl⟩
      rw [← hU] at hal bG
      rw [← hG] at bG
      rw [← hU, ← hG]
      have hIK := HX.out.2.2.1.kept hal (fun f => f)
      have hID := HX.out.2.2.2.1.kept hal (fun f => f)
      have hkU := HX.out.2.2.2.2.trans hal (fun _ f _ => f)
      have hGK : G ≠ KB := by have := blk_lt HX.out.2.2.1; omega
      have hGD : G ≠ DB := by have := blk_lt HX.out.2.2.2.1; omega
      have x0 : U.cell? ⟨G, 0, none⟩ = some (.int .i64 xp) := (blk_cell bG 0).trans rfl
      have x1 : U.cell? ⟨G, 1, none⟩ = some (.int .i64 xi) := (blk_cell bG 1).trans rfl
      have x2 : U.cell? ⟨G, 2, none⟩ = some (.int .i64 xf) := (blk_cell bG 2).trans rfl
      have x4 : U.cell? ⟨G, 4, none⟩ = some (.int .i64 xd) := (blk_cell bG 4).trans rfl
      clear hU hG bG hal y0 y1 y2 y3 y4 y5 y6
      by_cases hi0 : i = 0
      · subst hi0
        have hk := HX.out.1
        rw [HC.out.2.2.2.2.1.first.1] at hk
        injection hk with hk
        injection hk with e1 e2 e3 e4
        subst e1 e2 e3 e4
        have fz := blk_free hID 0
        obtain ⟨z, hz⟩ : ∃ z, ds[0]? = some z := ⟨ds[0]'(by have := HX.out.2.1.dl; have := HC.out.2.2.2.1; omega), by simp⟩
        have dz := hID.at hz
        have i2 : (0 : Int) < (N : Int) := by omega
        have HU : Hid (IsN (U.setCell ⟨DB, 0, none⟩ (.int .i64 1)) KB ks ∧ IsN (U.setCell ⟨DB, 0, none⟩ (.int .i64 1)) DB (ds.set 0 1) ∧ Keeps None w (U.setCell ⟨DB, 0, none⟩ (.int .i64 1))) := ⟨hIK.kept (Keeps.setCell (S := (· = DB)) U (a := ⟨DB, 0, none⟩) rfl _) (fun e => hne e), hID.set 0 1, hkU.trans (Keeps.setCell (S := (· = DB)) U (a := ⟨DB, 0, none⟩) rfl _) (fun k e hk => by have := HC.out.2.2.2.2.2.2.1; omega)⟩
        clear hIK hID hkU hz
        go_wp2_with fail
        exact ⟨⟨1, ks, ds.set 0 1, by omega, by simp, rows_first HC.out.2.2.2.2.1 HX.out.2.1, HU.out.1, HU.out.2.1, HU.out.2.2⟩, by simp [intOf]; omega⟩
      · obtain ⟨x', d, p, y, h1, hd, hno⟩ := HC.out.2.2.2.2.1.at i (by omega) (by have := HC.out.2.2.2.1; omega)
        rw [HX.out.1] at h1
        obtain rfl := Option.some.inj h1
        have hpi : p < i := by have := (List.getElem?_eq_some_iff.1 hno.at_).1; simp at this; omega
        have hpy : (keys L)[p]? = some y := by have := hno.at_; rw [List.getElem?_take, if_pos hpi] at this; exact this
        obtain ⟨cn, hcn⟩ : ∃ cn : Nat, cn = cntK ((keys L).take i) (p : Int) := ⟨_, rfl⟩
        have hcb : cn ≤ 8388608 := by have := cnt_le ((keys L).take i) (p : Int); simp at this; have := HC.out.2.2.2.1; omega
        have e1 : xp = (p : Int) := hno.par
        have e2 : xi = (cn : Int) := by rw [hcn]; exact hno.idx
        have e4 : xd = pedV y.ped xi := hno.ped
        have hdb := HC.out.2.2.2.2.1.dep i d hd
        have hdp := HC.out.2.2.2.2.1.dep p (d - 1) (by have := hno.dep; rw [List.getElem?_take, if_pos hpi] at this; exact this)
        have hka := HX.out.2.1.ka p (by have := HC.out.2.2.2.1; omega)
        have hda := HX.out.2.1.da p hpi
        rw [show D[p]? = some (d - 1) by have := hno.dep; rw [List.getElem?_take, if_pos hpi] at this; exact this] at hda
        rw [← hcn] at hka
        have hR := rows_step HC.out.2.2.2.2.1 HX.out.2.1 HX.out.1 hd hno
        rw [← hcn] at hR
        have hanc : Anc (keys L) (i - 1) p := by
          have h1 := hno.anc
          rw [show ((keys L).take i).length = i by simp; have := HC.out.2.2.2.1; omega] at h1
          have h2 := h1.more ((keys L).drop i)
          rw [List.take_append_drop] at h2
          exact h2
        obtain ⟨ny, hny, hnk⟩ : ∃ ny, L[p]? = some ny ∧ keyN ny = y := by
          unfold keys at hpy
          rw [List.getElem?_map, Option.map_eq_some_iff] at hpy
          exact hpy
        have pc := hkU.cell (HC.out.2.1 p ny hny 4 ny.ped rfl) (fun f => f)
        have hyp : ny.ped = y.ped := by rw [← hnk]; rfl
        rw [hyp] at pc
        generalize y.ped = yp at *
        subst e1 e2 e4
        have kz := hIK.at hka
        have dz := hID.at hda
        obtain ⟨z, hz⟩ : ∃ z, ds[i]? = some z := ⟨ds[i]'(by have := HX.out.2.1.dl; have := HC.out.2.2.2.1; omega), by simp⟩
        have dz2 := hID.at hz
        have fk := blk_free hIK p
        have HY : Hid (IsN U KB ks ∧ IsN U DB ds ∧ Keeps None w U ∧ Rows (keys L) D (i + 1) (ks.set p ((cn : Int) + 1)) (ds.set i d) ∧ ks[p]? = some (cn : Int) ∧ ds[p]? = some (d - 1) ∧ ds[i]? = some z) := ⟨hIK, hID, hkU, hR, hka, hda, hz⟩
        have HA : Hid _ := hanc
        have q0 : ((i : Int) == 0) = false := by simp; omega
        clear hno hpy hcn hka hda hR hanc hny hnk hyp hIK hID hkU hd hz
        go_wp2_with fail
        go_loopw [7] (fun s7 wr => ∃ k : Nat, s7 = .int .i64 k ∧ Anc (keys L) k p ∧ k < N ∧ wr = U) (fun i _ => (intOf i).toNat)
        case atStart => exact ⟨i - 1, by rw [show ((i - 1 : Nat) : Int) = (i : Int) - 1 by omega], HA.out, by omega, rfl⟩
        case round =>
          obtain ⟨k, rfl, hA, hkN, hwU⟩ := hrel
          subst hwU
          by_cases hkp : p < k
          · obtain ⟨x', q, hx', hq, hqk, hA'⟩ := hA.step HC.out.2.2.2.2.1 hkp
            obtain ⟨nk, hnk, hnk2⟩ : ∃ nk, L[k]? = some nk ∧ keyN nk = x' := by
              unfold keys at hx'
              rw [List.getElem?_map, Option.map_eq_some_iff] at hx'
              exact hx'
            have kc := HY.out.2.2.1.cell (HC.out.2.1 k nk hnk 0 nk.parent rfl) (fun f => f)
            rw [show nk.parent = (q : Int) by rw [← hq, ← hnk2]; rfl] at kc
            simp only [Nat.add_zero] at kc
            have j1 : (p : Int) < (k : Int) := by omega
            have j2 : (0 : Int) ≤ (k : Int) := by omega
            have j3 : (k : Int) < (N : Int) := by omega
            have HQ : Hid _ := hA'
            clear hx' hq hA' hnk hnk2 hA
            go_wp2_with fail
            refine ⟨⟨q, rfl, HQ.out, by omega, trivial⟩, by simp [intOf]; omega⟩
          · have hkp2 : k = p := by have := hA.le HC.out.2.2.2.2.1; omega
            subst hkp2
            have j1 : ¬ ((k : Int) < (k : Int)) := by omega
            have j2 : ¬ ((k : Int) < 0) := by omega
            have j3 : (k : Int) < (N : Int) := by omega
            clear hA HA
            go_upto_region 14 with fail
            go_cut [90] (fun s90 wx => s90 = .bool false ∧ Keeps None wr wx)
            case first =>
              go_region_held3 (fun w' => w'.cell? ⟨G, 0, none⟩ = some (.int .i64 (k : Int)) ∧ w'.cell? ⟨G, 1, none⟩ = some (.int .i64 (cn : Int)) ∧ w'.cell? ⟨G, 4, none⟩ = some (.int .i64 (pedV yp (cn : Int))) ∧ w'.cell? ⟨KB, k, none⟩ = some (.int .i64 (cn : Int)) ∧ w'.cell? ⟨b, k * 7 + 4, none⟩ = some (.int .i64 yp)) (go_keep) (first
                | (go_at_call 14; refine (sped_any _ _ _).mono ?_; rintro _ wp ⟨rfl, hwp⟩; have hwp2 := hwp.symm; subst hwp2))
              all_goals (go_wp2_with fail; go_meet)
              all_goals exact ⟨rfl, Keeps.drew None wr⟩
            case rest =>
              obtain ⟨rfl, hkc⟩ := hcut
              have hIK := HY.out.1.kept hkc (fun f => f)
              have hID := HY.out.2.1.kept hkc (fun f => f)
              have hkw := HY.out.2.2.1.trans hkc (fun _ f _ => f)
              have kz2 := hIK.at HY.out.2.2.2.2.1
              have fk2 := blk_free hIK k
              have kS : Keeps (· = KB) wc (wc.setCell ⟨KB, k, none⟩ (.int .i64 ((cn : Int) + 1))) := Keeps.setCell (S := (· = KB)) wc (a := ⟨KB, k, none⟩) rfl _
              have hIK2 := hIK.set k ((cn : Int) + 1)
              have hID2 := hID.kept kS (fun e => hne e.symm)
              have hkw2 := hkw.trans kS (fun j e hj => by have := HC.out.2.2.2.2.2.1; omega)
              obtain ⟨V, hV⟩ : ∃ V, V = wc.setCell ⟨KB, k, none⟩ (.int .i64 ((cn : Int) + 1)) := ⟨_, rfl⟩
              rw [← hV] at hIK2 hID2 hkw2
              clear hIK hID hkw kS hkc x0 x1 x2 x4 kz dz dz2 fk pc
              go_upto_region 17 with fail
              rw [← hV]
              clear hV kz2 fk2
              have dz := hID2.at HY.out.2.2.2.2.2.1
              have dz2 := hID2.at HY.out.2.2.2.2.2.2
              have fz := blk_free hID2 i
              have kS : Keeps (· = DB) V (V.setCell ⟨DB, i, none⟩ (.int .i64 d)) := Keeps.setCell (S := (· = DB)) V (a := ⟨DB, i, none⟩) rfl _
              have HZ : Hid (IsN (V.setCell ⟨DB, i, none⟩ (.int .i64 d)) KB (ks.set k ((cn : Int) + 1)) ∧ IsN (V.setCell ⟨DB, i, none⟩ (.int .i64 d)) DB (ds.set i d) ∧ Keeps None w (V.setCell ⟨DB, i, none⟩ (.int .i64 d))) := ⟨hIK2.kept kS (fun e => hne e), hID2.set i d, hkw2.trans kS (fun j e hj => by have := HC.out.2.2.2.2.2.2.1; omega)⟩
              have ed : d - 1 + 1 = d := by omega
              clear kS hIK2 hID2 hkw2
              go_wp2_with fail
              exact ⟨⟨i + 1, _, _, by omega, by simp, HY.out.2.2.2.1, HZ.out.1, HZ.out.2.1, HZ.out.2.2⟩, by simp [intOf]; omega⟩
    · have hin : N = i := by omega
      subst hin
      have i1 : ¬ ((N : Int) < (N : Int)) := by omega
      have HP : Hid (ShapedPost N D w (.returned (.slice (some ⟨DB, 0, none⟩) N N)) wr) := ⟨DB, rfl, hkp, fun j d hd => hID.at (by rw [hR.da j (by have := (List.getElem?_eq_some_iff.1 hd).1; have := HC.out.2.2.2.2.2.2.2; omega)]; exact hd)⟩
      clear hR hIK hID hkp H2
      go_wp2_with fail
      go_ret
      exact HP.out
end Go.Proofs.YtiphikoaohhpeaaDoor
