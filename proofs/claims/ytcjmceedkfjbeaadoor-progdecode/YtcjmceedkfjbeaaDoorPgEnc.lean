import Derived.Test.YtcjmceedkfjbeaaDoorPgHead
import Derived.Test.YtcjmceedkfjbeaaDoorPgSafe
/-! Images: their words, their sum; Encode. -/
namespace Go.Proofs.YtcjmceedkfjbeaaDoor
set_option linter.unusedVariables false
set_option maxRecDepth 20000
open Go.RowKit Go.HeapKit

def stepS (h x : Int) : Int := wrap64 (wrap64 (h * 31) + x)
def sumV (zs : List Int) : Int := zs.foldl stepS 0
def insW (i : Ins) : List Int := [i.kind, i.a, i.b, i.c, i.k]
def fnW (f : Fn) : List Int := [f.params, f.regs, f.slots, (f.code.length : Int)] ++ f.code.flatMap insW
def imageV (l : List Fn) : List Int := [1886156142, (l.length : Int)] ++ l.flatMap fnW
def encV (l : List Fn) : List Int := imageV l ++ [sumV (imageV l)]
theorem sumV_snoc (zs : List Int) (x : Int) : sumV (zs ++ [x]) = stepS (sumV zs) x := by simp [sumV]
/-- Words that can be read. -/
structure SeenW (w : World) (a : Option Addr) (n : Nat) (zs : List Int) : Prop where
  len : n = zs.length
  most : n ≤ 9223372036854775807
  ok : ∀ x ∈ zs, okI x
  ex : 0 < n → ∃ b off, a = some ⟨b, off, none⟩ ∧ b < w.heap.size ∧ ∀ k x, zs[k]? = some x → w.cell? ⟨b, off + k, none⟩ = some (.int .i64 x)
theorem SeenW.more {w w' : World} {a : Option Addr} {n : Nat} {zs : List Int} (h : SeenW w a n zs) (hk : Keeps None w w') : SeenW w' a n zs := by
  refine ⟨h.len, h.most, h.ok, fun h0 => ?_⟩
  obtain ⟨b, off, rfl, hb, hc⟩ := h.ex h0
  exact ⟨b, off, rfl, Nat.lt_of_lt_of_le hb hk.size, fun k i hi => hk.cell (hc k i hi) (fun f => f)⟩
set_option maxHeartbeats 1000000 in
theorem sum_any (a : Option Addr) (n c : Nat) (zs : List Int) (w : World) (hS : SeenW w a n zs) : Calls Tryd.prog 26 #[.slice a n c] w fun e w' => e = .returned (.int .i64 (sumV zs)) ∧ w' = w := by
  have HS : Hid (SeenW w a n zs) := hS
  have hm := hS.most
  clear hS
  go_enter Tryd.func26, Tryd.ntmps26
  go_wp2_with fail
  go_loop [3, 8] (fun s3 s8 => ∃ k : Nat, k ≤ n ∧ s8 = .int .i64 k ∧ s3 = .int .i64 (sumV (zs.take k))) (fun _ i => n - (intOf i).toNat)
  case atStart => exact ⟨0, Nat.zero_le _, rfl, by simp [sumV]⟩
  case round =>
    obtain ⟨k, hk, rfl, rfl⟩ := hrel
    by_cases hkn : k < n
    · obtain ⟨b, off, rfl, _, hc⟩ := HS.out.ex (by omega)
      obtain ⟨x, hx⟩ : ∃ x, zs[k]? = some x := ⟨zs[k]'(by have := HS.out.len; omega), List.getElem?_eq_getElem _⟩
      have y := hc k x hx
      have i1 : (k : Int) < (n : Int) := by omega
      obtain ⟨s, hs⟩ : ∃ s, s = sumV (zs.take k) := ⟨_, rfl⟩
      rw [← hs]
      have HX : Hid (sumV (zs.take (k + 1)) = stepS s x) := by
        have e : zs.take (k + 1) = zs.take k ++ [x] := by
          rw [List.take_add_one, hx]; rfl
        unfold Hid
        rw [e, sumV_snoc, hs]
      clear hc hx hs
      go_wp2_with fail
      refine ⟨⟨k + 1, by omega, by simp, ?_⟩, by simp [intOf]; omega⟩
      rw [HX.out]
      rfl
    · have i1 : ¬ ((k : Int) < (n : Int)) := by omega
      have HX : Hid (zs.take k = zs) := List.take_of_length_le (by have := HS.out.len; omega)
      go_wp2_with fail
      go_ret
      rw [HX.out]
      exact ⟨rfl, rfl⟩
theorem Tryd.infoI64 : (Tryd.prog.info? 2).map (fun i => (i.zero, i.size, i.bytes)) = some (some (.int .i64 0), 1, 8) := by kernel_rfl
/-- Words behind words. -/
theorem words_more (base : Nat) (s : Value) (zs xs : List Int) (n m ty g0 : Nat) (w : World) (hn : n = zs.length) (hm : m = xs.length) (h : w.ownsRow base 2 1 s n (zs.map (Value.int .i64))) (hb : base ≤ w.heap.size) (hlen : (n + m) * 8 ≤ 140737488355328) (h1 : 0 < n + m)
    (hg0 : w.heap[g0]? = some (.cells (xs.map (Value.int .i64)).toArray 2 (0, 0))) :
    ∃ g cap w', (Builtin.append_ #[22, 22] ty #[s, .slice (some ⟨g0, 0, none⟩) m m]).run Tryd.prog w = .ok (.slice (some ⟨g, 0, none⟩) (n + m) cap) w' ∧
      w'.ownsRow base 2 1 (.slice (some ⟨g, 0, none⟩) (n + m) cap) (n + m) ((zs ++ xs).map (Value.int .i64)) ∧ Keeps (fun k => s.ownBlock = some k) w w' := by
  obtain ⟨i0, hi, hz0, hz1, hz2⟩ := info_parts Tryd.infoI64
  obtain ⟨v', w1, hr, ho, hgr, hmv, -⟩ := run_append_moved (P := Tryd.prog) w base 22 ty 2 i0 _ 1 8 Tryd.underlying22 hi hz0 hz1 hz2 rfl (by decide) s n _ h
    ⟨g0, 0, none⟩ m m (xs.map (Value.int .i64)) (by simp [hm]) (by
      intro j u hu
      rw [show (⟨g0, 0, none⟩ : Addr).add j = ⟨g0, j, none⟩ by unfold Addr.add; split <;> simp_all, blk_cell hg0]
      simpa using hu) (by
      intro u hu
      simp only [List.mem_map] at hu
      obtain ⟨x, _, rfl⟩ := hu
      rfl) (by unfold maxLen; omega) hlen hb
  obtain ⟨g, cap, rfl⟩ : ∃ g cap, v' = .slice (some ⟨g, 0, none⟩) (n + m) cap := by
    rcases ho.2 with ⟨_, h0⟩ | ⟨b, cap, cur, rfl, _⟩
    · omega
    · exact ⟨b, cap, rfl⟩
  exact ⟨g, cap, w1, hr, by rw [List.map_append]; exact ho, (Keeps.refl _ w).andGrown hgr (fun k e => .inl e)⟩
theorem fnW_len (f : Fn) : (fnW f).length = 4 + f.code.length * 5 := by
  unfold fnW
  have : ∀ c : List Ins, (c.flatMap insW).length = c.length * 5 := by
    intro c
    induction c with
    | nil => rfl
    | cons i c ih => rw [List.flatMap_cons, List.length_append, ih]; simp [insW]; omega
  rw [List.length_append, this]
  simp
theorem ins_len (c : List Ins) : (c.flatMap insW).length = c.length * 5 := by
  induction c with
  | nil => rfl
  | cons i c ih => rw [List.flatMap_cons, List.length_append, ih]; simp [insW]; omega
theorem fns_len (l : List Fn) (h : ∀ f ∈ l, f.code.length ≤ 512) : (l.flatMap fnW).length ≤ l.length * 2564 := by
  induction l with
  | nil => simp
  | cons f l ih =>
    have := ih (fun g hg => h g (List.mem_cons_of_mem _ hg))
    have h1 := h f (List.mem_cons_self ..)
    rw [List.flatMap_cons, List.length_append, fnW_len, List.length_cons]
    omega
theorem flat_take {α β : Type} (g : α → List β) (l : List α) (k : Nat) (x : α) (h : l[k]? = some x) : (l.take (k + 1)).flatMap g = (l.take k).flatMap g ++ g x := by
  rw [List.take_add_one, h]; simp
theorem own_at {w : World} {base : Nat} {g n cap : Nat} {zs : List Int} (h : w.ownsRow base 2 1 (.slice (some ⟨g, 0, none⟩) n cap) n (zs.map (Value.int .i64))) : ∀ (k : Nat) x, zs[k]? = some x → w.cell? ⟨g, 0 + k, none⟩ = some (.int .i64 x) := by
  intro k x hx
  have := h.cells (g := g) rfl k (.int .i64 x) (by simp [hx])
  rwa [show (⟨g, 0, none⟩ : Addr).add k = ⟨g, 0 + k, none⟩ by unfold Addr.add; split <;> simp_all] at this
theorem own_seen {w : World} {base : Nat} {g n cap : Nat} {zs : List Int} (h : w.ownsRow base 2 1 (.slice (some ⟨g, 0, none⟩) n cap) n (zs.map (Value.int .i64))) (hn : n = zs.length) (ok : ∀ x ∈ zs, okI x) (hm : n ≤ 200000) : SeenW w (some ⟨g, 0, none⟩) n zs :=
  ⟨hn, by omega, ok, fun _ => ⟨g, 0, rfl, own_lt h rfl, own_at h⟩⟩
end Go.Proofs.YtcjmceedkfjbeaaDoor
