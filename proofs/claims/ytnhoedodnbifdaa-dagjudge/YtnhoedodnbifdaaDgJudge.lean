import Derived.Test.YtnhoedodnbifdaaDgIsGre
import Derived.Test.YtnhoedodnbifdaaDgGre
/-! Judge, where nothing is wrong with what it is given. -/
namespace Go.Proofs.Ytnhoedodnbifdaa
set_option linter.unusedVariables false
set_option maxRecDepth 20000
open Go.RowKit Go.HeapKit

theorem sched_t (n : Nat) (a : Option Addr) (m c : Nat) (l : List Ed) (p : Int) (ap : Option Addr) (cp : Nat) (zs : List Int) (w : World) (h : SeenE w a m l) (hz : SeenZ w ap n zs) (hd : Dag (n : Int) l) (hq : isSched p zs l) :
    Calls Try.prog 30 #[dagV n a m c, .int .i64 p, .slice ap n cp] w fun e w' => e = .returned (.bool true) ∧ Keeps None w w' :=
  (sched_any n a m c l p ap cp zs w h hz hd).mono (by rintro e w' ⟨b, rfl, hb, hk⟩; rw [hb.2 hq]; exact ⟨rfl, hk⟩)
theorem sched_f (n : Nat) (a : Option Addr) (m c : Nat) (l : List Ed) (p : Int) (ap : Option Addr) (cp : Nat) (zs : List Int) (w : World) (h : SeenE w a m l) (hz : SeenZ w ap n zs) (hd : Dag (n : Int) l) (hq : ¬ isSched p zs l) :
    Calls Try.prog 30 #[dagV n a m c, .int .i64 p, .slice ap n cp] w fun e w' => e = .returned (.bool false) ∧ Keeps None w w' :=
  (sched_any n a m c l p ap cp zs w h hz hd).mono (by
    rintro e w' ⟨b, rfl, hb, hk⟩
    cases b with
    | true => exact absurd (hb.1 rfl) hq
    | false => exact ⟨rfl, hk⟩)
theorem isgre_t (n : Nat) (a : Option Addr) (m c : Nat) (l : List Ed) (p : Nat) (hp : 1 ≤ p ∧ p ≤ 64) (ap : Option Addr) (cp : Nat) (zs : List Int) (w : World) (h : SeenE w a m l) (hz : SeenZ w ap n zs) (hd : Dag (n : Int) l) (hs : isSched p zs l) (hq : grOk p zs l n) :
    Calls Try.prog 31 #[dagV n a m c, .int .i64 p, .slice ap n cp] w fun e w' => e = .returned (.bool true) ∧ Keeps None w w' :=
  (isgre_any n a m c l p hp ap cp zs w h hz hd hs).mono (by rintro e w' ⟨b, rfl, hb, hk⟩; rw [hb.2 hq]; exact ⟨rfl, hk⟩)
theorem isgre_f (n : Nat) (a : Option Addr) (m c : Nat) (l : List Ed) (p : Nat) (hp : 1 ≤ p ∧ p ≤ 64) (ap : Option Addr) (cp : Nat) (zs : List Int) (w : World) (h : SeenE w a m l) (hz : SeenZ w ap n zs) (hd : Dag (n : Int) l) (hs : isSched p zs l) (hq : ¬ grOk p zs l n) :
    Calls Try.prog 31 #[dagV n a m c, .int .i64 p, .slice ap n cp] w fun e w' => e = .returned (.bool false) ∧ Keeps None w w' :=
  (isgre_any n a m c l p hp ap cp zs w h hz hd hs).mono (by
    rintro e w' ⟨b, rfl, hb, hk⟩
    cases b with
    | true => exact absurd (hb.1 rfl) hq
    | false => exact ⟨rfl, hk⟩)
/-- What Judge answers. -/
def judV (p : Nat) (zs : List Int) (l : List Ed) (v : Int) : Prop := (v = 0 ∧ ¬ isSched p zs l) ∨ (v = 1 ∧ isSched p zs l ∧ ¬ grOk p zs l zs.length) ∨ (v = 2 ∧ isSched p zs l ∧ grOk p zs l zs.length)
def JudAns (p : Nat) (zs : List Int) (l : List Ed) (w : World) (e : Ending) (w' : World) : Prop := ∃ v : Int, e = .returned (.tuple #[.int .i64 v, .int .i64 0]) ∧ judV p zs l v ∧ Keeps None w w'
set_option maxHeartbeats 1600000 in
theorem judge_any (n : Nat) (a : Option Addr) (m c : Nat) (l : List Ed) (p : Nat) (hp : 1 ≤ p ∧ p ≤ 64) (ap : Option Addr) (cp : Nat) (zs : List Int) (w : World) (h : SeenE w a m l) (hz : SeenZ w ap n zs) (hc : checkV (n : Int) l = 0) :
    Calls Try.prog 10 #[dagV n a m c, .int .i64 p, .slice ap n cp] w fun e w' => JudAns p zs l w e w' := by
  have hd := dag_of hc
  have hn : n ≤ 4096 := by have := hd.hi; omega
  have hm : m ≤ 16384 := by have := hd.len; have := h.len; omega
  have HG : Hid (greE (n : Int) l p = 0) := by
    show _ = _
    unfold greE
    rw [hc]
    simp
    omega
  have HD : Hid (Dag (n : Int) l ∧ n = zs.length) := ⟨hd, hz.len⟩
  have HS : Hid (SeenE w a m l) := h
  have HZ : Hid (SeenZ w ap n zs) := hz
  clear h hz hd hc
  obtain ⟨s0, hs0⟩ : ∃ s0, s0 = w.heap.size := ⟨_, rfl⟩
  unfold dagV
  go_enter Try.func10, Try.ntmps10
  go_wp2_with fail
  have hbox := blk_new w (.cells #[.int .i64 n, .slice a m c] 24) _ rfl
  have hk0 := keeps1 w (.cells #[.int .i64 n, .slice a m c] 24)
  refine (checkFor_any n a m c l p _ (HS.out.more hk0) (by omega)).mono ?_
  rintro e w2 ⟨rfl, hk⟩
  rw [HG.out]
  rw [← hs0] at hbox ⊢
  have H1 : Hid (w2.heap[s0]? = some (.cells #[.int .i64 n, .slice a m c] 24 (0, 0)) ∧ Keeps None w w2) := ⟨blk_kept hbox hk (fun f => f), hk0.trans hk (fun _ f _ => f)⟩
  have d0 : w2.cell? ⟨s0, 0, none⟩ = some (.int .i64 n) := (blk_cell H1.out.1 0).trans rfl
  have d1 : w2.cell? ⟨s0, 1, none⟩ = some (.slice a m c) := (blk_cell H1.out.1 1).trans rfl
  clear hbox hk0 hk hs0
  by_cases hq : isSched p zs l
  · have HQ : Hid (isSched p zs l) := hq
    clear hq
    go_wp2_with fail
    refine (sched_t n a m c l p ap cp zs w2 (HS.out.more H1.out.2) (HZ.out.more H1.out.2) HD.out.1 HQ.out).mono ?_
    rintro e w3 ⟨rfl, hk3⟩
    have H3 : Hid (Keeps None w w3) := H1.out.2.trans hk3 (fun _ f _ => f)
    have d2 := hk3.cell d0 (fun f => f)
    have d3 := hk3.cell d1 (fun f => f)
    clear hk3 d0 d1
    by_cases hg : grOk p zs l n
    · have HR : Hid (grOk p zs l n) := hg
      clear hg
      go_wp2_with fail
      refine (isgre_t n a m c l p hp ap cp zs w3 (HS.out.more H3.out) (HZ.out.more H3.out) HD.out.1 HQ.out HR.out).mono ?_
      rintro e w4 ⟨rfl, hk4⟩
      have H4 : Hid (Keeps None w w4) := H3.out.trans hk4 (fun _ f _ => f)
      clear hk4
      go_wp2_with fail
      go_ret2
      exact ⟨2, rfl, .inr (.inr ⟨rfl, HQ.out, by rw [← HD.out.2]; exact HR.out⟩), H4.out⟩
    · have HR : Hid (¬ grOk p zs l n) := hg
      clear hg
      go_wp2_with fail
      refine (isgre_f n a m c l p hp ap cp zs w3 (HS.out.more H3.out) (HZ.out.more H3.out) HD.out.1 HQ.out HR.out).mono ?_
      rintro e w4 ⟨rfl, hk4⟩
      have H4 : Hid (Keeps None w w4) := H3.out.trans hk4 (fun _ f _ => f)
      clear hk4
      go_wp2_with fail
      go_ret2
      exact ⟨1, rfl, .inr (.inl ⟨rfl, HQ.out, by rw [← HD.out.2]; exact HR.out⟩), H4.out⟩
  · have HQ : Hid (¬ isSched p zs l) := hq
    clear hq
    go_wp2_with fail
    refine (sched_f n a m c l p ap cp zs w2 (HS.out.more H1.out.2) (HZ.out.more H1.out.2) HD.out.1 HQ.out).mono ?_
    rintro e w3 ⟨rfl, hk3⟩
    have H3 : Hid (Keeps None w w3) := H1.out.2.trans hk3 (fun _ f _ => f)
    clear hk3
    go_wp2_with fail
    go_ret2
    exact ⟨0, rfl, .inl ⟨rfl, HQ.out⟩, H3.out⟩
end Go.Proofs.Ytnhoedodnbifdaa
