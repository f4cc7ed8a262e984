import Derived.Test.YtocfcdnbielbiaaDoorSrFuelWalk
import Derived.Test.YtocfcdnbielbiaaDoorSrLit
/-! The chain of sums, plainly. -/
namespace Go.Proofs.YtocfcdnbielbiaaDoor
set_option linter.unusedVariables false
set_option maxRecDepth 20000
open Go.RowKit Go.PlainOps

def sumF : Fn := ⟨1, 4, 2, [⟨4, 0, 2, 0, 0⟩, ⟨9, 0, 0, 0, 0⟩, ⟨0, 1, 0, 0, 1⟩, ⟨2, 2, 0, 1, 1⟩, ⟨5, 0, 0, 2, 0⟩, ⟨6, 0, 0, 0, 0⟩, ⟨7, 3, 0, 0, 0⟩, ⟨2, 3, 3, 0, 0⟩, ⟨9, 3, 0, 0, 0⟩]⟩
theorem sum_check : checkV [sumF] = (0, 0, 0) := by rfl
theorem sum_okf : ∀ f ∈ [sumF], f.Ok := by
  intro f hf
  simp at hf
  subst hf
  refine ⟨by simp [sumF, okI], by simp [sumF, okI], by simp [sumF, okI], fun i hi => ?_⟩
  simp [sumF] at hi
  rcases hi with rfl | rfl | rfl | rfl | rfl | rfl | rfl | rfl | rfl <;> exact ⟨by simp [okI], by simp [okI], by simp [okI], by simp [okI], by simp [okI]⟩
/-- A task of the chain that begins. -/
def sumT (x : Int) (nd : Nd) (num d : Int) : Tk := ⟨[x, 0, 0, 0, 0, 0, 0, 0, 0, 0, 0, 0, 0, 0, 0, 0], [0, 0, 0, 0, 0, 0, 0, 0], nd, num, d, 0, 0, 0⟩
def midT (x y : Int) (nd : Nd) (num d : Int) : Tk := ⟨[x, 1, y, 0, 0, 0, 0, 0, 0, 0, 0, 0, 0, 0, 0, 0], [0, 0, 0, 0, 0, 0, 0, 0], nd, num, d, 0, 3, 0⟩
section
variable (L : Bool)
theorem sum_code {nd : Nd} (h : nd.func = 0) : codeOf [sumF] nd.func = sumF.code := by rw [h]; rfl
/-- The three instructions ahead of the spawn. -/
theorem sum_ahead (g : Nat) (s : Rn) (F : Nat) (x : Int) (nd : Nd) (num d : Int) (hf : nd.func = 0) (hx : x ≠ 0) : loopV [sumF] L (g + 3) (s.at (F + 3)) (sumT x nd num d) 0 = loopV [sumF] L g (s.at F) (midT x (wrap64 (x - 1)) { nd with work := nd.work + 1 + 1 + 1 } num d) 4 := by
  have c0 : ∀ {nd' : Nd}, nd'.func = nd.func → codeOf [sumF] nd'.func = sumF.code := fun e => sum_code (e.trans hf)
  rw [loop_branch (g := g + 2) (s := s.at (F + 3)) (i := ⟨4, 0, 2, 0, 0⟩) (by show F + 3 ≠ 0; omega) (by show (codeOf [sumF] nd.func)[0]? = _; rw [c0 rfl]; rfl) rfl]
  rw [if_neg (by exact hx)]
  rw [loop_comp (g := g + 1) (i := ⟨0, 1, 0, 0, 1⟩) (by show F + 3 - 1 ≠ 0; omega) (by show (codeOf [sumF] nd.func)[2]? = _; rw [c0 rfl]; rfl) (.inl rfl)]
  rw [loop_comp (g := g) (i := ⟨2, 2, 0, 1, 1⟩) (by show F + 3 - 1 - 1 ≠ 0; omega) (by show (codeOf [sumF] nd.func)[3]? = _; rw [c0 rfl]; rfl) (.inr (.inr (.inl rfl)))]
  rfl
/-- The five behind it. -/
theorem sum_behind (g : Nat) (s : Rn) (F : Nat) (x y v sp : Int) (nd : Nd) (num d : Int) (hf : nd.func = 0) (hsp : 0 ≤ sp) : loopV [sumF] false (g + 4) (s.at (F + 4)) (gotT (spawnT (payT (midT x y nd num d))) 0 v sp) 5 = .done (wrap64 (v + x)) (sp + 8) (s.at F) := by
  have c0 : codeOf [sumF] nd.func = sumF.code := sum_code hf
  rw [loop_sync (g := g + 3) (i := ⟨6, 0, 0, 0, 0⟩) (by show F + 4 ≠ 0; omega) (by show (codeOf [sumF] nd.func)[5]? = _; rw [c0]; rfl) rfl]
  rw [loop_comp (g := g + 2) (i := ⟨7, 3, 0, 0, 0⟩) (by show F + 4 - 1 ≠ 0; omega) (by show (codeOf [sumF] nd.func)[6]? = _; rw [c0]; rfl) (.inr (.inr (.inr (.inl rfl))))]
  rw [loop_comp (g := g + 1) (i := ⟨2, 3, 3, 0, 0⟩) (by show F + 4 - 1 - 1 ≠ 0; omega) (by show (codeOf [sumF] nd.func)[7]? = _; rw [c0]; rfl) (.inr (.inr (.inl rfl)))]
  rw [loop_ret (g := g) (i := ⟨9, 3, 0, 0, 0⟩) (by show F + 4 - 1 - 1 - 1 ≠ 0; omega) (by show (codeOf [sumF] nd.func)[8]? = _; rw [c0]; rfl) rfl]
  have e0 : imax 0 (3 + 1 + sp) = 3 + 1 + sp := if_pos (by omega)
  have e : imax (3 + 1 + 1) (imax 0 (3 + 1 + sp) + 1) + 1 + 1 + 1 = sp + 8 := by
    rw [e0]
    by_cases h0 : sp = 0
    · subst h0; rfl
    · have : imax (3 + 1 + 1) (3 + 1 + sp + 1) = 3 + 1 + sp + 1 := if_pos (by omega)
      rw [this]
      omega
  show Res.done (wrap64 (v + x)) (imax (3 + 1 + 1) (imax 0 (3 + 1 + sp) + 1) + 1 + 1 + 1) (s.at (F + 4 - 1 - 1 - 1 - 1)) = _
  rw [e]
  rfl
theorem sum_spawn (g : Nat) (s : Rn) (F : Nat) (x y : Int) (nd : Nd) (num d : Int) (hf : nd.func = 0) : loopV [sumF] L (g + 1) (s.at (F + 1)) (midT x y nd num d) 4 = (match playV [sumF] L g (s.at F) (sumT y ⟨num, 0, 0, 0, pedV nd.ped 0, 0, 0⟩ 0 (d + 1)) with
    | .gave e => .gave e
    | .done v sp s2 => loopV [sumF] L g s2 (gotT (spawnT (payT (midT x y nd num d))) 0 v sp) 5) := by
  have c0 : codeOf [sumF] nd.func = sumF.code := sum_code hf
  rw [loop_spawn (g := g) (i := ⟨5, 0, 0, 2, 0⟩) (by show F + 1 ≠ 0; omega) (by show (codeOf [sumF] nd.func)[4]? = _; rw [c0]; rfl) rfl]
  rfl
end
def tri (x : Nat) : Nat := x * (x + 1) / 2
theorem tri_succ (x : Nat) : tri (x + 1) = tri x + (x + 1) := by
  unfold tri
  have h : (x + 1) * (x + 1 + 1) = x * (x + 1) + (x + 1) * 2 := by
    rw [Nat.mul_comm x (x + 1), ← Nat.mul_add]
  rw [h, Nat.add_mul_div_right _ _ (by omega)]
theorem tri_le (x : Nat) (h : x ≤ 4095) : tri x ≤ 8386560 := by
  unfold tri
  have : x * (x + 1) ≤ 4095 * 4096 := Nat.mul_le_mul h (by omega)
  omega
/-- The chain that ends. -/
theorem sum_good : ∀ (x : Nat) (g : Nat) (s : Rn) (F : Nat) (nd : Nd) (num : Int) (d : Nat), nd.func = 0 → 1 ≤ d → d + x ≤ 4096 → F + 8 * x + 2 < g → (d : Int) ≤ s.depth →
    loopV [sumF] false g (s.at (F + 8 * x + 2)) (sumT (x : Int) nd num d) 0 = .done (tri x) (8 * x + 2) { s with fuel := F, tasks := s.tasks + x, depth := imax s.depth ((d : Int) + x) }
  | 0, g, s, F, nd, num, d, hf, hd, hdx, hg, hs => by
    obtain ⟨g, rfl⟩ : ∃ g', g = g' + 2 := ⟨g - 2, by omega⟩
    have c0 : codeOf [sumF] nd.func = sumF.code := sum_code hf
    rw [loop_branch (g := g + 1) (i := ⟨4, 0, 2, 0, 0⟩) (by show F + 8 * 0 + 2 ≠ 0; omega) (by show (codeOf [sumF] nd.func)[0]? = _; rw [c0]; rfl) rfl]
    rw [if_pos (by rfl)]
    rw [loop_ret (g := g) (i := ⟨9, 0, 0, 0, 0⟩) (by show F + 8 * 0 + 2 - 1 ≠ 0; omega) (by show (codeOf [sumF] nd.func)[1]? = _; rw [c0]; rfl) rfl]
    have e : imax s.depth ((d : Int) + ((0 : Nat) : Int)) = s.depth := if_neg (by omega)
    rw [e]
    rfl
  | x + 1, g, s, F, nd, num, d, hf, hd, hdx, hg, hs => by
    obtain ⟨g, rfl⟩ : ∃ g', g = g' + 4 := ⟨g - 4, by omega⟩
    have hx : ((x + 1 : Nat) : Int) ≠ 0 := by omega
    have hw : wrap64 (((x + 1 : Nat) : Int) - 1) = (x : Int) := by unfold wrap64; omega
    have e1 : F + 8 * (x + 1) + 2 = (F + 4 + 8 * x + 2 + 1) + 3 := by omega
    rw [e1, show g + 4 = (g + 1) + 3 from rfl, sum_ahead false (g + 1) s (F + 4 + 8 * x + 2 + 1) _ nd num d hf hx, hw, sum_spawn false g s (F + 4 + 8 * x + 2) _ _ { nd with work := nd.work + 1 + 1 + 1 } num d hf]
    have hp : playV [sumF] false g (s.at (F + 4 + 8 * x + 2)) (sumT (x : Int) ⟨num, 0, 0, 0, pedV nd.ped 0, 0, 0⟩ 0 ((d : Int) + 1)) = .done (tri x) (8 * x + 2) { s with fuel := F + 4, tasks := s.tasks + 1 + x, depth := imax (imax s.depth ((d : Int) + 1)) ((d : Int) + 1 + x) } := by
      unfold playV
      rw [if_neg (by show ¬ (4096 : Int) < (d : Int) + 1; omega)]
      have ih := sum_good x g { s with tasks := s.tasks + 1, depth := imax s.depth ((d : Int) + 1) } (F + 4) ⟨num, 0, 0, 0, pedV nd.ped 0, (x : Int), 0⟩ (s.tasks : Int) (d + 1) rfl (by omega) (by omega) (by omega) (by have := le_imax s.depth ((d : Int) + 1); simp only; omega)
      exact ih
    rw [hp]
    obtain ⟨g, rfl⟩ : ∃ g', g = g' + 4 := ⟨g - 4, by omega⟩
    show loopV [sumF] false (g + 4) (Rn.at { s with fuel := F + 4, tasks := s.tasks + 1 + x, depth := imax (imax s.depth ((d : Int) + 1)) ((d : Int) + 1 + x) } (F + 4)) _ 5 = _
    rw [sum_behind g _ F _ _ _ _ { nd with work := nd.work + 1 + 1 + 1 } num d hf (by omega)]
    have e2 : wrap64 (((tri x : Nat) : Int) + ((x + 1 : Nat) : Int)) = ((tri (x + 1) : Nat) : Int) := by
      have := tri_le x (by omega)
      rw [tri_succ]
      unfold wrap64
      omega
    have e3 : imax (imax s.depth ((d : Int) + 1)) ((d : Int) + 1 + x) = imax s.depth ((d : Int) + ((x + 1 : Nat) : Int)) := by
      have l1 := le_imax s.depth ((d : Int) + 1)
      have l2 := le_imax (imax s.depth ((d : Int) + 1)) ((d : Int) + 1 + x)
      have l3 := le_imax s.depth ((d : Int) + ((x + 1 : Nat) : Int))
      apply Int.le_antisymm
      · exact imax_le (imax_le (by omega) (by omega)) (by omega)
      · exact imax_le (by omega) (by omega)
    rw [e2, e3]
    show Res.done _ (8 * (x : Int) + 2 + 8) { s with fuel := F, tasks := s.tasks + 1 + x, depth := _ } = Res.done _ (8 * ((x + 1 : Nat) : Int) + 2) { s with fuel := F, tasks := s.tasks + (x + 1), depth := _ }
    rw [show 8 * (x : Int) + 2 + 8 = 8 * ((x + 1 : Nat) : Int) + 2 by omega, show s.tasks + 1 + x = s.tasks + (x + 1) by omega]
/-- The chain that is too deep; with one less of fuel. -/
theorem sum_deep : ∀ (k : Nat) (g : Nat) (s : Rn) (x : Int) (nd : Nd) (num d : Int), nd.func = 0 → 1 ≤ d → d + k = 4096 → okI x → (x < 0 ∨ (k : Int) < x) → 4 * k + 4 < g →
    loopV [sumF] false g (s.at (4 * k + 4)) (sumT x nd num d) 0 = .gave 63
  | 0, g, s, x, nd, num, d, hf, hd1, hd, hx, hxk, hg => by
    obtain ⟨g, rfl⟩ : ∃ g', g = (g' + 1) + 3 := ⟨g - 4, by omega⟩
    have hx0 : x ≠ 0 := by omega
    rw [show 4 * 0 + 4 = 1 + 3 from rfl, sum_ahead false (g + 1) s 1 x nd num d hf hx0]
    have h := sum_spawn false g s 0 x (wrap64 (x - 1)) { nd with work := nd.work + 1 + 1 + 1 } num d hf
    rw [Nat.zero_add] at h
    rw [h]
    unfold playV
    rw [if_pos (by show (4096 : Int) < d + 1; omega)]
  | k + 1, g, s, x, nd, num, d, hf, hd1, hd, hx, hxk, hg => by
    obtain ⟨g, rfl⟩ : ∃ g', g = (g' + 1) + 3 := ⟨g - 4, by omega⟩
    have hx0 : x ≠ 0 := by omega
    have hw : okI (wrap64 (x - 1)) := wrap_ok _
    have hstep : wrap64 (x - 1) < 0 ∨ (k : Int) < wrap64 (x - 1) := by
      unfold okI at hx
      unfold wrap64
      omega
    rw [show 4 * (k + 1) + 4 = (4 * k + 4 + 1) + 3 by omega, sum_ahead false (g + 1) s (4 * k + 4 + 1) x nd num d hf hx0, sum_spawn false g s (4 * k + 4) _ _ { nd with work := nd.work + 1 + 1 + 1 } num d hf]
    generalize wrap64 (x - 1) = y at *
    have hp : playV [sumF] false g (s.at (4 * k + 4)) (sumT y ⟨num, 0, 0, 0, pedV nd.ped 0, 0, 0⟩ 0 (d + 1)) = .gave 63 := by
      unfold playV
      rw [if_neg (by show ¬ (4096 : Int) < d + 1; omega)]
      exact sum_deep k g (enterS false (s.at (4 * k + 4)) (sumT y ⟨num, 0, 0, 0, pedV nd.ped 0, 0, 0⟩ 0 (d + 1))) y ⟨num, 0, 0, 0, pedV nd.ped 0, y, 0⟩ (s.tasks : Int) (d + 1) rfl (by omega) (by omega) hw hstep (by omega)
    rw [hp]
theorem sum_short : ∀ (k : Nat) (g : Nat) (s : Rn) (x : Int) (nd : Nd) (num d : Int), nd.func = 0 → 1 ≤ d → d + k = 4096 → okI x → (x < 0 ∨ (k : Int) < x) → 4 * k + 3 < g →
    loopV [sumF] false g (s.at (4 * k + 3)) (sumT x nd num d) 0 = .gave 62
  | 0, g, s, x, nd, num, d, hf, hd1, hd, hx, hxk, hg => by
    obtain ⟨g, rfl⟩ : ∃ g', g = (g' + 1) + 3 := ⟨g - 4, by omega⟩
    have hx0 : x ≠ 0 := by omega
    rw [show 4 * 0 + 3 = 0 + 3 from rfl, sum_ahead false (g + 1) s 0 x nd num d hf hx0]
    exact loop_out rfl
  | k + 1, g, s, x, nd, num, d, hf, hd1, hd, hx, hxk, hg => by
    obtain ⟨g, rfl⟩ : ∃ g', g = (g' + 1) + 3 := ⟨g - 4, by omega⟩
    have hx0 : x ≠ 0 := by omega
    have hw : okI (wrap64 (x - 1)) := wrap_ok _
    have hstep : wrap64 (x - 1) < 0 ∨ (k : Int) < wrap64 (x - 1) := by
      unfold okI at hx
      unfold wrap64
      omega
    rw [show 4 * (k + 1) + 3 = (4 * k + 3 + 1) + 3 by omega, sum_ahead false (g + 1) s (4 * k + 3 + 1) x nd num d hf hx0, sum_spawn false g s (4 * k + 3) _ _ { nd with work := nd.work + 1 + 1 + 1 } num d hf]
    generalize wrap64 (x - 1) = y at *
    have hp : playV [sumF] false g (s.at (4 * k + 3)) (sumT y ⟨num, 0, 0, 0, pedV nd.ped 0, 0, 0⟩ 0 (d + 1)) = .gave 62 := by
      unfold playV
      rw [if_neg (by show ¬ (4096 : Int) < d + 1; omega)]
      exact sum_short k g (enterS false (s.at (4 * k + 3)) (sumT y ⟨num, 0, 0, 0, pedV nd.ped 0, 0, 0⟩ 0 (d + 1))) y ⟨num, 0, 0, 0, pedV nd.ped 0, y, 0⟩ (s.tasks : Int) (d + 1) rfl (by omega) (by omega) hw hstep (by omega)
    rw [hp]
/-! ### Eval of it -/
theorem sum_refused (n : Int) (F : Nat) (hF : F ≤ 4194304) : refusedV [sumF] [n] (F : Int) = 0 := by
  unfold refusedV
  rw [sum_check, if_neg (by simp), if_neg (fun h => h rfl), if_neg (by omega)]
theorem sum_root (n : Int) (F : Nat) : runV [sumF] false [n] F = loopV [sumF] false (F + 1) (Rn.at ⟨0, 1, 1, []⟩ F) (sumT n ⟨-1, 0, 0, 0, 1, n, 0⟩ 0 1) 0 := by
  unfold runV playV
  rw [if_neg (by simp [rootT])]
  rfl
theorem sum_eval (n : Nat) (hn : n ≤ 4095) : evalV [sumF] [(n : Int)] ((8 * n + 2 : Nat) : Int) = (⟨tri n, 8 * n + 2, n + 1, n + 1, 8 * n + 2⟩, 0) := by
  rw [eval_run (sum_refused _ _ (by omega)), sum_root]
  have h := sum_good n (8 * n + 2 + 1) ⟨0, 1, 1, []⟩ 0 ⟨-1, 0, 0, 0, 1, (n : Int), 0⟩ 0 1 rfl (by omega) (by omega) (by omega) (by simp)
  rw [Nat.zero_add] at h
  rw [show ((1 : Nat) : Int) = 1 from rfl] at h
  rw [h]
  have e : imax (1 : Int) (1 + (n : Int)) = (n : Int) + 1 := by unfold imax; by_cases h0 : n = 0; subst h0; rfl; rw [if_pos (by omega)]; omega
  show ((⟨(tri n : Int), ((8 * n + 2 : Nat) : Int) - ((0 : Nat) : Int), ((1 + n : Nat) : Int), imax (1 : Int) (1 + (n : Int)), 8 * (n : Int) + 2⟩ : Val), (0 : Int)) = _
  rw [e, show ((8 * n + 2 : Nat) : Int) - ((0 : Nat) : Int) = 8 * (n : Int) + 2 by omega, show ((1 + n : Nat) : Int) = (n : Int) + 1 by omega]
theorem one_ok {n : Int} (h : okI n) : ∀ x ∈ [n], okI x := fun x hx => by simp at hx; subst hx; exact h
/-- What the statement asks. -/
theorem sum_in {n : Nat} (hn : n ≤ 4095) {fuel : Int} (h0 : 0 ≤ fuel) (h1 : fuel ≤ 4194304) : evalV [sumF] [(n : Int)] fuel = if fuel < 8 * n + 2 then (zeroVal, 62) else (⟨tri n, 8 * n + 2, n + 1, n + 1, 8 * n + 2⟩, 0) := by
  have he := sum_eval n hn
  obtain ⟨_, _, _, q4, q5, _⟩ := fuel_ok (fuel := ((8 * n + 2 : Nat) : Int)) (other := fuel) sum_okf (one_ok (n := (n : Int)) (by unfold okI; omega)) (by rw [he]) h0 h1
  rw [he] at q4 q5
  simp only at q4 q5
  by_cases h : fuel < 8 * n + 2
  · rw [if_pos h]; exact q5 h
  · rw [if_neg h]; exact q4 (by omega)
theorem sum_out {n : Int} (hok : okI n) (hn : n < 0 ∨ 4095 < n) {fuel : Int} (h0 : 0 ≤ fuel) (h1 : fuel ≤ 4194304) : evalV [sumF] [n] fuel = if fuel < 16384 then (zeroVal, 62) else (zeroVal, 63) := by
  have k1 : (evalV [sumF] [n] ((16384 : Nat) : Int)).2 = 63 := by
    rw [eval_run (sum_refused _ _ (by omega)), sum_root]
    have := sum_deep 4095 16385 ⟨0, 1, 1, []⟩ n ⟨-1, 0, 0, 0, 1, n, 0⟩ 0 1 rfl (by omega) (by omega) hok (by omega) (by omega)
    rw [show 4 * 4095 + 4 = 16384 from rfl] at this
    rw [this]
  have k2 : (evalV [sumF] [n] ((16383 : Nat) : Int)).2 = 62 := by
    rw [eval_run (sum_refused _ _ (by omega)), sum_root]
    have := sum_short 4095 16384 ⟨0, 1, 1, []⟩ n ⟨-1, 0, 0, 0, 1, n, 0⟩ 0 1 rfl (by omega) (by omega) hok (by omega) (by omega)
    rw [show 4 * 4095 + 3 = 16383 from rfl] at this
    rw [this]
  by_cases h : fuel < 16384
  · rw [if_pos h]
    have h2 := fuel_out sum_okf (one_ok hok) k2 h0 (by omega)
    have h3 := eval_not (fs := [sumF]) (zs := [n]) (fuel := fuel) (by omega)
    exact Prod.ext h3 h2
  · rw [if_neg h]
    have h2 := fuel_deep sum_okf (one_ok hok) k1 h1 (by omega)
    have h3 := eval_not (fs := [sumF]) (zs := [n]) (fuel := fuel) (by omega)
    exact Prod.ext h3 h2
end Go.Proofs.YtocfcdnbielbiaaDoor
