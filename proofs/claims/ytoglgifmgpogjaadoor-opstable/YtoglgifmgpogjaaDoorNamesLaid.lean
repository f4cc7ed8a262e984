import Derived.Test.YtoglgifmgpogjaaDoorRows
import Derived.Test.YtoglgifmgpogjaaDoorNamesWalks
import Derived.ProofKit
import Derived.LaidMore
import Derived.OpenShut
import Derived.Stop.Joined
/-! From the row's condition on the variable to what the walks ask. -/
namespace Go.Proofs.YtoglgifmgpogjaaDoor
open Go.ChangeShapes Go.WideShapes Go.ChangeAt Go.RowKit Go.PlainOps

abbrev laidL : List (String × DataW Unit) := [("plunder/ops.names", Rows.laid_plunder_ops_names)]
theorem gNames : Tryd.prog.globalNamed "plunder/ops.names" = some 0 := by kernel_rfl
theorem tNames : (Tryd.prog.globals[0]?).map (·.type) = some 29 := by kernel_rfl
theorem c9 : Tryd.prog.cellsOf 9 = 1 := by kernel_rfl
theorem c29 : Tryd.prog.cellsOf 29 = 16 := by kernel_rfl
theorem door_met (os : Os) (args : Array Value) : laidMetH Tryd.prog laidL ((World.doorLaid Tryd.prog 400 os).forCall (fun _ _ => 0) ⟨#[], args, []⟩).memory :=
  laidMetH_of_parts3 (fuel := 8) (laidMet_of_run' 8 (by kernel_rfl) (by kernel_rfl)) (by kernel_rfl) (by kernel_rfl)
theorem names_list : (Rows.laid_plunder_ops_names : DataW Unit) = .agg (nm.map fun b => .lit (.string b)) := rfl
theorem of_laid {W : World} (h : laidMetH Tryd.prog laidL W) : NamesAre W := by
  rw [MakeChecks.laidMetH_plain _ _ _ (by kernel_rfl)] at h
  obtain ⟨ps, ⟨g0, t0, cs0, f0, p0, q0, hg0, ht0, hv0, hd0, _, _⟩, _⟩ := h
  obtain rfl := Option.some.inj (gNames.symm.trans hg0)
  obtain rfl := Option.some.inj (tNames.symm.trans ht0)
  rw [names_list] at hd0
  obtain ⟨xs, m1, rfl, hx1, hlen, hn, hel⟩ := DataW.trod_array Tryd.underlying29 hd0
  simp only [Prod.mk.injEq, DataW.agg.injEq] at hx1
  rw [c29] at hlen
  have hcell : ∀ i : Nat, i < 16 → cs0.toList[i]? = some (.string (nmS i)) := by
    intro i hi
    have h1 := hel i hi
    rw [c9, Nat.mul_one] at h1
    have hxi : i < xs.length := by omega
    rw [List.getElem?_eq_getElem hxi] at h1
    obtain ⟨s, e1, e2, _⟩ := DataW.trod_string Tryd.underlying9 h1
    have h2 := congrArg (fun l => l[i]?) hx1.1
    simp only [List.getElem?_map, List.getElem?_eq_getElem hxi, Option.map_some, e2] at h2
    have hnl : i < nm.length := by simpa [nm] using hi
    rw [List.getElem?_eq_getElem hnl, Option.map_some] at h2
    have h3 : nm[i] = s.data.toList := by simpa using h2
    have hs : s = nmS i := by
      apply bytes_inj
      rw [← h3]
      simp [nmS, List.getD, List.getElem?_eq_getElem hnl]
    have h4 := congrArg (fun l => l[0]?) e1
    simpa [List.getElem?_take, List.getElem?_drop, hs] using h4
  have hcs : cs0 = tab := by
    apply Array.ext'
    apply List.ext_getElem?
    intro i
    by_cases hi : i < 16
    · rw [hcell i hi]
      have := tab_at i hi
      simpa using this.symm
    · rw [List.getElem?_eq_none (by omega), List.getElem?_eq_none (by simp [tab]; omega)]
  subst hcs
  simp only [World.var?, hg0, Option.bind_some] at hv0
  split at hv0
  · rename_i cs t fr hb
    obtain rfl := Option.some.inj hv0
    exact ⟨t, fr, hb⟩
  · cases hv0
end Go.Proofs.YtoglgifmgpogjaaDoor
