/-
  The law's awake.
-/
import Derived.Test.YtacalpgiopgkkaaGreatDoorApp
import Derived.Test.YtacalpgiopgkkaaGreatDoorAll1
namespace Go.Proofs.YtacalpgiopgkkaaGreatDoor
set_option linter.unusedVariables false
open Go.RowKit Go.MapKept
attribute [local go_sem] Oper.semAt_some

theorem clone_u32 (v : Value) (xs : List Int) (w : World) (h : S9.RowV w 1 v xs.length (S9.u32s xs)) (hs : xs.length ≤ 35184372087808) : Calls Tryz.prog 28 #[v] w fun e w' => ∃ o, e = .returned o ∧ w'.ownsRow w.heap.size 30 1 o xs.length (S9.u32s xs) ∧ Below w.heap.size w w' := by
  obtain ⟨i0, hi, hz0, hz1, hz2⟩ := info_parts info30
  obtain ⟨a, cap, rfl, hc, hm, hlen, hn, hcell⟩ := h
  cases a with
  | none =>
    obtain ⟨h0, rfl⟩ := hn rfl
    obtain rfl : xs = [] := List.eq_nil_of_length_eq_zero h0
    have he := Lib.run_eql_slice_nil (P := Tryz.prog)
    go_enter Tryz.func28, Tryz.ntmps28
    go_wp2_with fail
    go_ret
    exact ⟨_, rfl, World.ownsRow_nil _ _ _ _, Below.refl _ _⟩
  | some x =>
    have he := fun (w : World) => Lib.run_eql_slice_nil (P := Tryz.prog) w 31 30 (some x) xs.length cap 0 0 Tryz.underlying31
    have hown0 := World.ownsRow_lit (base := w.heap.size) (e := 30) (size := 1) w #[] 0 (Nat.le_refl _) (by decide) rfl
    have hnews : ∀ j u, (S9.u32s xs)[j]? = some u → (w.alloc (.cells #[] 30)).cell? (x.add j) = some u := by
      intro j u hj
      obtain ⟨hjl, hje⟩ := List.getElem?_eq_some_iff.1 hj
      have hx := hcell x rfl j hjl
      rw [hje] at hx
      rw [Below.cell ((Below.refl w.heap.size w).alloc (Nat.le_refl _) _) (World.block_lt_of_cell? w _ hx)]
      exact hx
    have one : ∀ u ∈ S9.u32s xs, u.oneCell' = true := by
      intro u hu
      obtain ⟨_, _, rfl⟩ := List.mem_map.1 hu
      rfl
    have Hcell := Lib.hid hcell
    have Hnews := Lib.hid hnews
    have HS := Lib.hid hs
    obtain ⟨len, hlen2⟩ : ∃ n, xs.length = n := ⟨_, rfl⟩
    rw [hlen2] at hc he ⊢
    have HL := Lib.hid hlen2
    clear hcell hnews hs hlen2 hlen
    go_enter Tryz.func28, Tryz.ntmps28
    go_wp2_with (at_builtin; go_loud (refine wpList_append_own _ rfl (.tmp 5) (.tmp 6) 31 rfl (w.heap.size) 30 i0 (.int .u32 0) 1 4 Tryz.underlying31 hi hz0 hz1 hz2 rfl (by decide) _ _ _ rfl hown0 x len cap (S9.u32s xs) rfl (by rw [S9.u32s_length, HL.out]; simp) Hnews.out one (by simp [maxLen]; have := HS.out; have := HL.out; omega) (by simp; have := HS.out; have := HL.out; omega) (by simp) ?_))
    intro o w1 ho hgr _
    go_wp2_with fail
    go_ret
    refine ⟨_, rfl, ?_, ?_⟩
    · simpa using ho
    · exact ((Below.refl _ _).alloc (Nat.le_refl _) _).grown hgr (by simp) (by intro k hk; simp [Value.ownBlock] at hk; omega)
end Go.Proofs.YtacalpgiopgkkaaGreatDoor
