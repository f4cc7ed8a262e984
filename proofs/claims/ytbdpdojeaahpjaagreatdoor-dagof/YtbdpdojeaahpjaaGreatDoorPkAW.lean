import Derived.Test.YtbdpdojeaahpjaaGreatDoorPkAU
import Derived.Test.YtbdpdojeaahpjaaGreatDoorPkAS
import Derived.Test.YtbdpdojeaahpjaaGreatDoorPkAV
import Derived.Deep.RegionHeld3
/-! The document's 'plain'. -/
namespace Go.Proofs.YtbdpdojeaahpjaaGreatDoor
set_option linter.unusedVariables false
set_option maxRecDepth 20000
set_option linter.unusedSimpArgs false
open Go.RowKit Go.HeapKit Go.PlainOps

theorem rp0 (R X : Nat) (at_ e : Int) (t : Tk) (a : Nat) (b c k : Int) (w : World) (ht : IsRT w X at_ e t) (ha : a < 16) :
    Calls Tryz.prog 48 #[.pointer (some ⟨R, 0, none⟩), .pointer (some ⟨X, 0, none⟩), .agg #[.int .i64 0, .int .i64 a, .int .i64 b, .int .i64 c, .int .i64 k]] w fun e0 w' => e0 = .returned (.tuple #[]) ∧ IsRT w' X at_ e (setR t a (k)) ∧ Keeps (· = X) w w' := by
  have hal := Keeps.alloc None w (.cells #[.int .i64 0, .int .i64 a, .int .i64 b, .int .i64 c, .int .i64 k] 37)
  have h1 := ht.kept hal (fun f => f)
  have c1 := h1.reg ha
  have z1 := h1.free (2 + a)
  have HH : Hid _ := And.intro ((h1.putReg (x := k) ha).kept (Keeps.drew None _) (fun f => f)) ((hal.mono (T := (· = X)) (fun _ f _ => f.elim)).andSet (x := ⟨X, 2 + a, none⟩) (.inl rfl) (.int .i64 (k))).andDrew
  have i1 : (a : Int) < 16 := by omega
  obtain ⟨x, hx⟩ : ∃ x, x = t.regs.getD a 0 := ⟨_, rfl⟩
  rw [← hx] at c1
  clear ht hal h1 hx
  go_enter Tryz.func48, Tryz.ntmps48
  go_wp2_with fail
  go_region
  all_goals go_wp2_with fail
  all_goals go_end0
  all_goals exact ⟨rfl, HH.out⟩
theorem rp1 (R X : Nat) (at_ e : Int) (t : Tk) (a b : Nat) (c k : Int) (w : World) (ht : IsRT w X at_ e t) (ha : a < 16) (hb : b < 16) :
    Calls Tryz.prog 48 #[.pointer (some ⟨R, 0, none⟩), .pointer (some ⟨X, 0, none⟩), .agg #[.int .i64 1, .int .i64 a, .int .i64 b, .int .i64 c, .int .i64 k]] w fun e0 w' => e0 = .returned (.tuple #[]) ∧ IsRT w' X at_ e (setR t a (t.regs.getD b 0)) ∧ Keeps (· = X) w w' := by
  have hal := Keeps.alloc None w (.cells #[.int .i64 1, .int .i64 a, .int .i64 b, .int .i64 c, .int .i64 k] 37)
  have h1 := ht.kept hal (fun f => f)
  have c1 := h1.reg ha
  have z1 := h1.free (2 + a)
  have c2 := h1.reg hb
  have i2 : (b : Int) < 16 := by omega
  have HH : Hid _ := And.intro ((h1.putReg (x := t.regs.getD b 0) ha).kept (Keeps.drew None _) (fun f => f)) ((hal.mono (T := (· = X)) (fun _ f _ => f.elim)).andSet (x := ⟨X, 2 + a, none⟩) (.inl rfl) (.int .i64 (t.regs.getD b 0))).andDrew
  have i1 : (a : Int) < 16 := by omega
  obtain ⟨x, hx⟩ : ∃ x, x = t.regs.getD a 0 := ⟨_, rfl⟩
  rw [← hx] at c1
  obtain ⟨y, hy⟩ : ∃ y, y = t.regs.getD b 0 := ⟨_, rfl⟩
  rw [← hy] at HH c2 ⊢
  clear hy
  clear ht hal h1 hx
  go_enter Tryz.func48, Tryz.ntmps48
  go_wp2_with fail
  go_region
  all_goals go_wp2_with fail
  all_goals go_end0
  all_goals exact ⟨rfl, HH.out⟩
theorem rp7 (R X : Nat) (at_ e : Int) (t : Tk) (a b : Nat) (c k : Int) (w : World) (ht : IsRT w X at_ e t) (ha : a < 16) (hb : b < 8) :
    Calls Tryz.prog 48 #[.pointer (some ⟨R, 0, none⟩), .pointer (some ⟨X, 0, none⟩), .agg #[.int .i64 7, .int .i64 a, .int .i64 b, .int .i64 c, .int .i64 k]] w fun e0 w' => e0 = .returned (.tuple #[]) ∧ IsRT w' X at_ e (setR t a (t.slots.getD b 0)) ∧ Keeps (· = X) w w' := by
  have hal := Keeps.alloc None w (.cells #[.int .i64 7, .int .i64 a, .int .i64 b, .int .i64 c, .int .i64 k] 37)
  have h1 := ht.kept hal (fun f => f)
  have c1 := h1.reg ha
  have z1 := h1.free (2 + a)
  have c2 := h1.slot hb
  have i2 : (b : Int) < 8 := by omega
  have HH : Hid _ := And.intro ((h1.putReg (x := t.slots.getD b 0) ha).kept (Keeps.drew None _) (fun f => f)) ((hal.mono (T := (· = X)) (fun _ f _ => f.elim)).andSet (x := ⟨X, 2 + a, none⟩) (.inl rfl) (.int .i64 (t.slots.getD b 0))).andDrew
  have i1 : (a : Int) < 16 := by omega
  obtain ⟨x, hx⟩ : ∃ x, x = t.regs.getD a 0 := ⟨_, rfl⟩
  rw [← hx] at c1
  obtain ⟨y, hy⟩ : ∃ y, y = t.slots.getD b 0 := ⟨_, rfl⟩
  rw [← hy] at HH c2 ⊢
  clear hy
  clear ht hal h1 hx
  go_enter Tryz.func48, Tryz.ntmps48
  go_wp2_with fail
  go_region
  all_goals go_wp2_with fail
  all_goals go_end0
  all_goals exact ⟨rfl, HH.out⟩
theorem rp8 (R X : Nat) (fv nv : Value) (fuel : Nat) (er depth : Int) (M : List Nd) (nd : Nd) (n : Nat) (at_ e : Int) (t : Tk) (a : Nat) (b c k : Int) (w : World) (hr : IsRR w R fv fuel er depth M nv) (ht : IsRT w X at_ e t) (ha : a < 16) (hn : t.number = n) (hM : M[n]? = some nd) (hp : nd.ped = t.node.ped) :
    Calls Tryz.prog 48 #[.pointer (some ⟨R, 0, none⟩), .pointer (some ⟨X, 0, none⟩), .agg #[.int .i64 8, .int .i64 a, .int .i64 b, .int .i64 c, .int .i64 k]] w fun e0 w' => e0 = .returned (.tuple #[]) ∧ IsRT w' X at_ e (setR t a t.node.ped) ∧ Keeps (· = X) w w' := by
  have hal := Keeps.alloc None w (.cells #[.int .i64 8, .int .i64 a, .int .i64 b, .int .i64 c, .int .i64 k] 37)
  have h1 := ht.kept hal (fun f => f)
  have r1 := hr.kept hal (fun _ _ f => f)
  have c1 := h1.reg ha
  have z1 := h1.free (2 + a)
  have c2 := h1.num
  obtain ⟨g, cap, hnv, hlt, hcell, _, _⟩ := r1.node hM
  have c3 : (w.alloc (.cells #[.int .i64 8, .int .i64 a, .int .i64 b, .int .i64 c, .int .i64 k] 37)).cell? ⟨g, n * 7 + 4, none⟩ = some (.int .i64 t.node.ped) := by rw [← hp]; exact hcell 4 _ rfl
  have c4 : (w.alloc (.cells #[.int .i64 8, .int .i64 a, .int .i64 b, .int .i64 c, .int .i64 k] 37)).cell? ⟨R, 3, none⟩ = some (.slice (some ⟨g, 0, none⟩) M.length cap) := by rw [← hnv]; exact (blk_cell r1.blk 3).trans rfl
  rw [hn] at c2
  have i2 : (n : Int) < (M.length : Int) := by omega
  have HH : Hid _ := And.intro ((h1.putReg (x := t.node.ped) ha).kept (Keeps.drew None _) (fun f => f)) ((hal.mono (T := (· = X)) (fun _ f _ => f.elim)).andSet (x := ⟨X, 2 + a, none⟩) (.inl rfl) (.int .i64 (t.node.ped))).andDrew
  have i1 : (a : Int) < 16 := by omega
  obtain ⟨x, hx⟩ : ∃ x, x = t.regs.getD a 0 := ⟨_, rfl⟩
  rw [← hx] at c1
  obtain ⟨N, hN⟩ : ∃ N, N = M.length := ⟨_, rfl⟩
  rw [← hN] at c4 i2
  clear ht hal h1 hx hr r1 hcell hnv hlt hn hM hp hN
  go_enter Tryz.func48, Tryz.ntmps48
  go_wp2_with fail
  go_region
  all_goals go_wp2_with fail
  all_goals go_end0
  all_goals exact ⟨rfl, HH.out⟩
theorem rp3 (R X : Nat) (at_ e : Int) (t : Tk) (a b c k : Int) (w : World) (ht : IsRT w X at_ e t) :
    Calls Tryz.prog 48 #[.pointer (some ⟨R, 0, none⟩), .pointer (some ⟨X, 0, none⟩), .agg #[.int .i64 3, .int .i64 a, .int .i64 b, .int .i64 c, .int .i64 k]] w fun e0 w' => e0 = .returned (.tuple #[]) ∧ IsRT w' X a e t ∧ Keeps (· = X) w w' := by
  have hal := Keeps.alloc None w (.cells #[.int .i64 3, .int .i64 a, .int .i64 b, .int .i64 c, .int .i64 k] 37)
  have h1 := ht.kept hal (fun f => f)
  have c1 := h1.tail 0 rfl
  have z1 := h1.free 26
  have HH : Hid _ := And.intro (h1.putTail (t' := t) (at' := a) (e' := e) (j := 0) (x := a) rfl rfl rfl rfl rfl) ((hal.mono (T := (· = X)) (fun _ f _ => f.elim)).andSet (x := ⟨X, 26, none⟩) (.inl rfl) (.int .i64 a))
  clear ht hal h1
  go_enter Tryz.func48, Tryz.ntmps48
  go_wp2_with fail
  go_end0
  exact ⟨rfl, HH.out⟩
theorem rp4 (R X : Nat) (at_ e : Int) (t : Tk) (a : Nat) (b c k : Int) (w : World) (ht : IsRT w X at_ e t) (ha : a < 16) :
    Calls Tryz.prog 48 #[.pointer (some ⟨R, 0, none⟩), .pointer (some ⟨X, 0, none⟩), .agg #[.int .i64 4, .int .i64 a, .int .i64 b, .int .i64 c, .int .i64 k]] w fun e0 w' => e0 = .returned (.tuple #[]) ∧ IsRT w' X (if t.regs.getD a 0 = 0 then at_ else b) e t ∧ Keeps (· = X) w w' := by
  have hal := Keeps.alloc None w (.cells #[.int .i64 4, .int .i64 a, .int .i64 b, .int .i64 c, .int .i64 k] 37)
  have h1 := ht.kept hal (fun f => f)
  have c1 := h1.tail 0 rfl
  have c2 := h1.reg ha
  have z1 := h1.free 26
  have i1 : (a : Int) < 16 := by omega
  obtain ⟨x, hx⟩ : ∃ x, x = t.regs.getD a 0 := ⟨_, rfl⟩
  rw [← hx] at c2 ⊢
  clear hx
  by_cases h0 : x = 0
  · subst h0
    have HH : Hid _ := And.intro (h1.kept (Keeps.drew None _) (fun f => f)) (hal.mono (T := (· = X)) (fun _ f _ => f.elim)).andDrew
    rw [if_pos rfl]
    clear ht hal h1
    go_enter Tryz.func48, Tryz.ntmps48
    go_wp2_with fail
    go_region
    all_goals go_wp2_with fail
    all_goals go_end0
    all_goals exact ⟨rfl, HH.out⟩
  · have HH : Hid _ := And.intro ((h1.kept (Keeps.drew None _) (fun f => f)).putTail (t' := t) (at' := b) (e' := e) (j := 0) (x := b) rfl rfl rfl rfl rfl) ((hal.mono (T := (· = X)) (fun _ f _ => f.elim)).andDrew.andSet (x := ⟨X, 26, none⟩) (.inl rfl) (.int .i64 b))
    have h0' : (x != 0) = true := by simpa using h0
    rw [if_neg h0]
    clear ht hal h1 h0
    go_enter Tryz.func48, Tryz.ntmps48
    go_wp2_with fail
    go_region
    all_goals go_wp2_with fail
    all_goals go_end0
    all_goals exact ⟨rfl, HH.out⟩
set_option maxHeartbeats 2000000 in
theorem rp2 (R X : Nat) (at_ e : Int) (t : Tk) (a b c : Nat) (k : Int) (w : World) (ht : IsRT w X at_ e t) (ha : a < 16) (hb : b < 16) (hc : c < 16) (hk : isOpV k = true) (hok : ∀ x ∈ t.regs, okI x) :
    Calls Tryz.prog 48 #[.pointer (some ⟨R, 0, none⟩), .pointer (some ⟨X, 0, none⟩), .agg #[.int .i64 2, .int .i64 a, .int .i64 b, .int .i64 c, .int .i64 k]] w fun e0 w' => e0 = .returned (.tuple #[]) ∧ IsRT w' X at_ e (setR t a (workV k (t.regs.getD b 0) (t.regs.getD c 0))) ∧ Keeps (· = X) w w' := by
  have hal := Keeps.alloc None w (.cells #[.int .i64 2, .int .i64 a, .int .i64 b, .int .i64 c, .int .i64 k] 37)
  have bI := heap_alloc_new w (.cells #[.int .i64 2, .int .i64 a, .int .i64 b, .int .i64 c, .int .i64 k] 37)
  obtain ⟨W, hW⟩ : ∃ W, W = w.alloc (.cells #[.int .i64 2, .int .i64 a, .int .i64 b, .int .i64 c, .int .i64 k] 37) := ⟨_, rfl⟩
  obtain ⟨I, hI⟩ : ∃ I, I = w.heap.size := ⟨_, rfl⟩
  rw [← hW] at hal bI
  rw [← hI] at bI
  have nI : I ≠ X := by have := blk_lt ht.blk; omega
  have nX : X ≠ I := nI.symm
  have h1 := ht.kept hal (fun f => f)
  have j1 : W.cell? ⟨I, 1, none⟩ = some (.int .i64 (a : Int)) := (blk_cell bI 1).trans rfl
  have j0 : W.cell? ⟨I, 0, none⟩ = some (.int .i64 2) := (blk_cell bI 0).trans rfl
  have j2 : W.cell? ⟨I, 2, none⟩ = some (.int .i64 (b : Int)) := (blk_cell bI 2).trans rfl
  have j3 : W.cell? ⟨I, 3, none⟩ = some (.int .i64 (c : Int)) := (blk_cell bI 3).trans rfl
  have j4 : W.cell? ⟨I, 4, none⟩ = some (.int .i64 k) := (blk_cell bI 4).trans rfl
  have c1 := h1.reg ha
  have c2 := h1.reg hb
  have c3 := h1.reg hc
  have z1 := h1.free (2 + a)
  have i1 : (a : Int) < 16 := by omega
  have i2 : (b : Int) < 16 := by omega
  have i3 : (c : Int) < 16 := by omega
  have o1 := getD_ok hok b
  have o2 := getD_ok hok c
  have HH : Hid (∀ x, IsRT ((W.setCell ⟨X, 2 + a, none⟩ (.int .i64 x)).drew.drew) X at_ e (setR t a x) ∧ Keeps (· = X) w ((W.setCell ⟨X, 2 + a, none⟩ (.int .i64 x)).drew.drew)) := fun x =>
    ⟨((h1.putReg (x := x) ha).kept (Keeps.drew None _) (fun f => f)).kept (Keeps.drew None _) (fun f => f), ((hal.mono (T := (· = X)) (fun _ f _ => f.elim)).andSet (x := ⟨X, 2 + a, none⟩) (.inl rfl) (.int .i64 x)).andDrew.andDrew⟩
  obtain ⟨y, hy⟩ : ∃ y, y = t.regs.getD b 0 := ⟨_, rfl⟩
  obtain ⟨z, hz⟩ : ∃ z, z = t.regs.getD c 0 := ⟨_, rfl⟩
  obtain ⟨x, hx⟩ : ∃ x, x = t.regs.getD a 0 := ⟨_, rfl⟩
  rw [← hx] at c1
  rw [← hy] at c2 o1
  rw [← hz] at c3 o2
  rw [← hy, ← hz]
  have hap := fun wx => refApply_any k y z wx hk o1.1 o1.2 o2.1 o2.2
  obtain ⟨v, hv⟩ : ∃ v, v = workV k y z := ⟨_, rfl⟩
  rw [← hv] at hap ⊢
  have HAP : Hid _ := hap
  clear ht hal h1 bI hx hy hz hv hap hk hok o1 o2
  go_enter Tryz.func48, Tryz.ntmps48
  go_upto_region 1 with fail
  rw [← hW, ← hI]
  clear hW hI
  go_upto_region 7 with fail
  go_region_held3 (fun w' => w'.cell? ⟨I, 2, none⟩ = some (.int .i64 (b : Int)) ∧ w'.cell? ⟨I, 3, none⟩ = some (.int .i64 (c : Int)) ∧ w'.cell? ⟨I, 4, none⟩ = some (.int .i64 k) ∧ w'.cell? ⟨X, 2 + b, none⟩ = some (.int .i64 y) ∧ w'.cell? ⟨X, 2 + c, none⟩ = some (.int .i64 z)) (go_keep) ((go_at_call 37; refine (HAP.out _).mono ?_; rintro _ w4 ⟨rfl, hw4⟩; have hw5 := hw4.symm; subst hw5))
  all_goals go_wp2_with fail
  all_goals go_region
  all_goals go_wp2_with fail
  all_goals go_end0
  all_goals exact ⟨rfl, HH.out v⟩
theorem rplain_any (R X : Nat) (fv nv : Value) (fuel : Nat) (er depth : Int) (M : List Nd) (nd : Nd) (n : Nat) (at_ e : Int) (t : Tk) (i : Ins) (w : World) (hr : IsRR w R fv fuel er depth M nv) (ht : IsRT w X at_ e t) (hn : t.number = n) (hM : M[n]? = some nd) (hp : nd.ped = t.node.ped) (hok : ∀ x ∈ t.regs, okI x)
    (hk : i.kind = 0 ∨ i.kind = 1 ∨ i.kind = 2 ∨ i.kind = 3 ∨ i.kind = 4 ∨ i.kind = 7 ∨ i.kind = 8) (ha : i.kind ≠ 3 → 0 ≤ i.a ∧ i.a < 16) (hb : i.kind = 1 ∨ i.kind = 2 → 0 ≤ i.b ∧ i.b < 16) (hc : i.kind = 2 → 0 ≤ i.c ∧ i.c < 16) (ho : i.kind = 2 → 0 ≤ i.k ∧ i.k < 16) (h7 : i.kind = 7 → 0 ≤ i.b ∧ i.b < 8) :
    Calls Tryz.prog 48 #[.pointer (some ⟨R, 0, none⟩), .pointer (some ⟨X, 0, none⟩), .agg #[.int .i64 i.kind, .int .i64 i.a, .int .i64 i.b, .int .i64 i.c, .int .i64 i.k]] w fun e' w' => e' = .returned (.tuple #[]) ∧ IsRT w' X (nextAt at_ t i) e (computeT t i) ∧ Keeps (· = X) w w' := by
  obtain ⟨K, A, B, C, k⟩ := i
  simp only at hk ha hb hc ho h7 ⊢
  rcases hk with rfl | rfl | rfl | rfl | rfl | rfl | rfl
  · obtain ⟨a, rfl⟩ := Int.eq_ofNat_of_zero_le (ha (by decide)).1
    exact rp0 R X at_ e t a B C k w ht (by have := (ha (by decide)).2; omega)
  · have hb := hb (.inl rfl)
    obtain ⟨a, rfl⟩ := Int.eq_ofNat_of_zero_le (ha (by decide)).1
    obtain ⟨b, rfl⟩ := Int.eq_ofNat_of_zero_le hb.1
    exact rp1 R X at_ e t a b C k w ht (by have := (ha (by decide)).2; omega) (by omega)
  · have hb := hb (.inr rfl)
    have hc := hc rfl
    obtain ⟨a, rfl⟩ := Int.eq_ofNat_of_zero_le (ha (by decide)).1
    obtain ⟨b, rfl⟩ := Int.eq_ofNat_of_zero_le hb.1
    obtain ⟨c, rfl⟩ := Int.eq_ofNat_of_zero_le hc.1
    exact rp2 R X at_ e t a b c k w ht (by have := (ha (by decide)).2; omega) (by omega) (by omega) (by have := ho rfl; simp [isOpV, this.1, this.2]) hok
  · exact rp3 R X at_ e t A B C k w ht
  · obtain ⟨a, rfl⟩ := Int.eq_ofNat_of_zero_le (ha (by decide)).1
    exact rp4 R X at_ e t a B C k w ht (by have := (ha (by decide)).2; omega)
  · have hb := h7 rfl
    obtain ⟨a, rfl⟩ := Int.eq_ofNat_of_zero_le (ha (by decide)).1
    obtain ⟨b, rfl⟩ := Int.eq_ofNat_of_zero_le hb.1
    exact rp7 R X at_ e t a b C k w ht (by have := (ha (by decide)).2; omega) (by omega)
  · obtain ⟨a, rfl⟩ := Int.eq_ofNat_of_zero_le (ha (by decide)).1
    exact rp8 R X fv nv fuel er depth M nd n at_ e t a B C k w hr ht (by have := (ha (by decide)).2; omega) hn hM hp
end Go.Proofs.YtbdpdojeaahpjaaGreatDoor
