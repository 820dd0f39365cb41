/-
  What a message's flags and bytes want, of awake.
-/
import Derived.Test.YtacalpgiopgkkaaGreatDoorExpW
namespace Go.Proofs.YtacalpgiopgkkaaGreatDoor
set_option linter.unusedVariables false
open Go.RowKit Go.MapKept

theorem fold_del : S9.foldF delT = some delT := by decide +kernel
theorem few_del : S9.fewL [delT] = true := by decide +kernel
theorem set_del : S9.setT [delT] = [delT] := by
  unfold S9.setT S9.sortT
  simp [Lib.compact]
  rfl
theorem allR_del : S9.allR [delT] = .ok [delT] := by
  unfold S9.allR S9.foldsL
  simp [fold_del, set_del, few_del]
theorem all_del (w : World) (g c : Nat) (hc : 1 ≤ c) (hm : c ≤ maxLen) (h : w.cell? ⟨g, 0, none⟩ = some (.string delB)) : AllOk w (.slice (some ⟨g, 0, none⟩) 1 c) [delT] := by
  intro W hW
  have hg := World.block_lt_of_cell? w _ h
  have hr : S9.RowT W (.slice (some ⟨g, 0, none⟩) 1 c) [delT] := by
    refine ⟨_, c, rfl, hc, hm, rfl, by simp, fun x hx j hj => ?_⟩
    obtain rfl := Option.some.inj hx
    have hj0 : j = 0 := by simpa using hj
    subst hj0
    exact (hW.cell (p := ⟨g, 0, none⟩) hg).trans h
  refine (S9.all_any _ [delT] W hr (by simp) (by simp) (by decide)).mono ?_
  rintro e W' ⟨o, code, rfl, hall, hb⟩
  rw [allR_del] at hall
  obtain ⟨ho, rfl⟩ := hall
  exact ⟨o, rfl, ho, hb⟩
theorem nozero_x (w : World) (g c : Nat) (h : w.cell? ⟨g, 0, none⟩ = some (.int .u8 120)) : NoZero w (.slice (some ⟨g, 0, none⟩) 1 c) := by
  intro W hW
  have hg := World.block_lt_of_cell? w _ h
  refine (Tryz.bytes_IndexByte g 0 1 c [120] 0 W rfl (fun i hi => ?_)).mono ?_
  · have hj0 : i = 0 := by omega
    subst hj0
    exact (hW.cell (p := ⟨g, 0, none⟩) hg).trans h
  · rintro e W' ⟨he, hw⟩
    exact ⟨by rw [he]; rfl, hw⟩
end Go.Proofs.YtacalpgiopgkkaaGreatDoor
