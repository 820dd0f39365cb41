/-
  down: a thing sinks in the order.
-/
import Derived.Test.YthmnbjdmbajhkaaUp
namespace Go.Proofs.Ythmnbjdmbajhkaa
set_option linter.unusedVariables false
open Go.RowKit
attribute [local go_sem] Oper.semAt_some

/-- the one of a thing's two followers that goes ahead of the other -/
def childL (L : List Th) (i n : Nat) : Nat := if 2 * i + 1 + 1 < n ∧ ltAt L (2 * i + 1 + 1) (2 * i + 1) = true then 2 * i + 1 + 1 else 2 * i + 1
theorem childL_ge (L : List Th) (i n : Nat) : i < childL L i n := by unfold childL; split <;> omega
theorem childL_lt {L : List Th} {i n : Nat} (h : 2 * i + 1 < n) : childL L i n < n := by unfold childL; split <;> omega
def downL (L : List Th) (i n : Nat) : List Th × Nat := if h : 2 * i + 1 < n ∧ ltAt L (childL L i n) i = true then downL (swapL L i (childL L i n)) (childL L i n) n else (L, i)
termination_by n - i
decreasing_by
  have := childL_ge L i n
  have := childL_lt (L := L) h.1
  omega
theorem downL_stop {L : List Th} {i n : Nat} (h : ¬ (2 * i + 1 < n ∧ ltAt L (childL L i n) i = true)) : downL L i n = (L, i) := by rw [downL, dif_neg h]
theorem downL_go {L : List Th} {i n : Nat} (h : 2 * i + 1 < n ∧ ltAt L (childL L i n) i = true) : downL L i n = downL (swapL L i (childL L i n)) (childL L i n) n := by rw [downL, dif_pos h]

set_option maxRecDepth 100000 in
set_option maxHeartbeats 8000000 in
theorem down_any (p og cap i0 n : Nat) (L : List Th) (w : World) (hp : w.cell? ⟨p, 3, none⟩ = some (.slice (some ⟨og, 0, none⟩) L.length cap)) (hpo : ¬ ordOwn og L p) (h : Ord w og cap L) (hn : n ≤ L.length) (hi0 : i0 < L.length) (hL : L.length ≤ 1000000) :
    Calls Try.prog 30 #[.iface 62 (.pointer (some ⟨p, 3, none⟩)), .int .i64 i0, .int .i64 n] w fun e w' => e = .returned (.bool (decide (i0 < (downL L i0 n).2))) ∧ Ord w' og cap (downL L i0 n).1 ∧ (downL L i0 n).1.length = L.length ∧ (∀ x ∈ (downL L i0 n).1, x ∈ L) ∧ Beside (ordOwn og L) w w' := by
  have H := Lib.hid h
  have HP := Lib.hid hp
  have HPO := Lib.hid hpo
  have hpl := World.block_lt_of_cell? w _ hp
  clear h hp hpo
  go_enter Try.func30, Try.ntmps30
  go_wp2_with fail
  go_loopw [7] (fun iv wr => ∃ (i : Nat) (M : List Th), i < L.length ∧ iv = .int .i64 i ∧ M.length = L.length ∧ Hid (downL L i0 n = downL M i n ∧ (∀ x ∈ M, x ∈ L)) ∧ Ord wr og cap M ∧ Beside (ordOwn og L) w wr) (fun iv _ => L.length - (RowKit.intOf iv).toNat)
  case atStart => exact ⟨i0, L, hi0, rfl, rfl, Lib.hid ⟨rfl, fun x h => h⟩, H.out, Beside.refl _ _⟩
  case round =>
    obtain ⟨i, M, hi, rfl, hM, hinv, hord, hbes⟩ := hrel
    have HM := Lib.hid hM
    have HO := Lib.hid hord
    have HB := Lib.hid hbes
    have hpc : wr.cell? ⟨p, 3, none⟩ = some (.slice (some ⟨og, 0, none⟩) L.length cap) := (World.cell?_of_block (hbes.block p hpl HPO.out)).trans HP.out
    have HPC := Lib.hid hpc
    have hup := hinv.out.1
    have HMEM := Lib.hid hinv.out.2
    have hstop := fun h => downL_stop (L := M) (i := i) (n := n) h
    have hgo := fun h => downL_go (L := M) (i := i) (n := n) h
    unfold childL at hstop hgo
    obtain ⟨a, ha⟩ : ∃ a, 2 * i + 1 = a := ⟨_, rfl⟩
    rw [ha] at hstop hgo
    have hai : 2 * (i : Int) + 1 = (a : Int) := by omega
    have hia : i < a := by omega
    have HFIN : Hid (∀ q, downL L i0 n = (M, q) → q = i → decide (i0 < i) = decide (i0 < (downL L i0 n).2)) := Lib.hid (fun q e1 e2 => by rw [e1]; subst e2; rfl)
    clear hM hord hbes hinv ha
    by_cases han : a < n
    · have hani : (a : Int) < (n : Int) := by omega
      have ha0 : ¬ (a : Int) < 0 := by omega
      have haM : a < M.length := by rw [HM.out]; omega
      have hiM : i < M.length := by rw [HM.out]; exact hi
      obtain ⟨ci, -⟩ := HO.out.at i hiM
      obtain ⟨ca, -⟩ := HO.out.at a haM
      have hml := meth_less ⟨p, 3, none⟩ wr _ (load54 hpc)
      by_cases ha2 : a + 1 < n
      · have ha2i : (a : Int) + 1 < (n : Int) := by omega
        have ha2M : a + 1 < M.length := by rw [HM.out]; omega
        obtain ⟨ca2, -⟩ := HO.out.at (a + 1) ha2M
        have hls2 := less_any og L.length cap (a + 1) a M[a + 1] M[a] ((a + 1 : Nat) : Int) (a : Int) wr (by omega) (by omega) hL ca2 ca (HO.out.th (a + 1) ha2M) (HO.out.th a haM)
        have hlt2 := ltAt_eq ha2M haM
        cases hb2 : ltB M[a + 1] M[a]
        · rw [hb2] at hls2 hlt2
          have HLS2 := Lib.hid hls2
          have hcond : (if a + 1 < n ∧ ltAt M (a + 1) a = true then a + 1 else a) = a := by rw [hlt2]; simp
          rw [hcond] at hstop hgo
          clear hls2 hlt2 hb2 hcond
          have hcM : a < M.length := by rw [HM.out]; omega
          have hls := fun (W : World) (hb : Below wr.heap.size wr W) => less_any og L.length cap (a) i M[a] M[i] ((a : Nat) : Int) (i : Int) W (by omega) hi hL (((HO.out.below hb).at (a) hcM).1) (((HO.out.below hb).at i hiM).1) ((HO.out.below hb).th (a) hcM) ((HO.out.below hb).th i hiM)
          have hlt := ltAt_eq hcM hiM
          cases hb : ltB M[a] M[i]
          · rw [hb] at hls hlt
            have HLS := Lib.hid hls
            have HS : Hid (downL L i0 n = (M, i)) := Lib.hid (by rw [hup, hstop (fun h => by rw [hlt] at h; cases h.2)])
            clear hup hstop hgo hls hlt hb ci ca
            go_wp2_with fail
            refine HLS2.out.mono ?_
            rintro e w3 ⟨rfl, hb3⟩
            have kB3 := hb3
            have hpc3 : w3.cell? ⟨p, 3, none⟩ = some (.slice (some ⟨og, 0, none⟩) L.length cap) := (hb3.cell (p := ⟨p, 3, none⟩) (World.block_lt_of_cell? wr _ HPC.out)).trans HPC.out
            have hml3 := meth_less ⟨p, 3, none⟩ w3 _ (load54 hpc3)
            have HB3 := Lib.hid hb3
            clear hb3 kB3 hml hpc3
            go_wp2_with fail
            refine (HLS.out _ HB3.out).mono ?_
            rintro e w4 ⟨rfl, hb4⟩
            have HB4 := Lib.hid (HB3.out.trans (hb4.mono (HB3.out.size)))
            clear hb4
            go_wp2_with fail
            go_ret
            exact ⟨ret_eq (by rw [← HFIN.out i HS.out rfl]; rfl), by rw [HS.out]; exact HO.out.below HB4.out, by rw [HS.out]; exact HM.out, by rw [HS.out]; exact HMEM.out, HB.out.trans (Below.beside HB4.out)⟩
          · rw [hb] at hls hlt
            have HLS := Lib.hid hls
            have HS : Hid (downL L i0 n = downL (swapL M i (a)) (a) n) := Lib.hid (by rw [hup, hgo ⟨han, hlt⟩])
            clear hup hstop hgo hls hlt hb ci ca
            go_wp2_with fail
            refine HLS2.out.mono ?_
            rintro e w3 ⟨rfl, hb3⟩
            have kB3 := hb3
            have hpc3 : w3.cell? ⟨p, 3, none⟩ = some (.slice (some ⟨og, 0, none⟩) L.length cap) := (hb3.cell (p := ⟨p, 3, none⟩) (World.block_lt_of_cell? wr _ HPC.out)).trans HPC.out
            have hml3 := meth_less ⟨p, 3, none⟩ w3 _ (load54 hpc3)
            have HB3 := Lib.hid hb3
            clear hb3 kB3 hml hpc3
            go_wp2_with fail
            refine (HLS.out _ HB3.out).mono ?_
            rintro e w4 ⟨rfl, hb4⟩
            have hb5 := HB3.out.trans (hb4.mono (HB3.out.size))
            have hpc4 : w4.cell? ⟨p, 3, none⟩ = some (.slice (some ⟨og, 0, none⟩) L.length cap) := (hb5.cell (p := ⟨p, 3, none⟩) (World.block_lt_of_cell? wr _ HPC.out)).trans HPC.out
            have hms := meth_swap ⟨p, 3, none⟩ w4 _ (load54 hpc4)
            have hsw := swap_any og cap i (a) M w4 (HO.out.below hb5) hiM hcM (by omega) (by rw [HM.out]; exact hL)
            rw [HM.out] at hsw
            have HSW := Lib.hid hsw
            have HB4 := Lib.hid hb5
            clear hb4 hb5 hpc4 hsw
            go_wp2_with fail
            refine HSW.out.mono ?_
            rintro e w5 ⟨rfl, hord5, hbes5⟩
            have HO5 := Lib.hid hord5
            have HB5 : Hid (Beside (ordOwn og L) w w5) := Lib.hid ((HB.out.trans (Below.beside HB4.out)).trans (hbes5.mono (fun k _ hk => by
              rcases hk with h | ⟨x, hx, e⟩
              · exact .inl h
              · exact .inr ⟨x, HMEM.out x hx, e⟩)))
            clear hord5 hbes5 hms
            go_wp2_with fail
            go_roundw
            case rel => exact ⟨a, _, by omega, rfl, by rw [swapL_length, HM.out], Lib.hid ⟨HS.out, fun x hx => HMEM.out x (mem_swap hiM hcM x hx)⟩, HO5.out, HB5.out⟩
            case measure => simp [RowKit.intOf]; omega
        · rw [hb2] at hls2 hlt2
          have HLS2 := Lib.hid hls2
          have hcond : (if a + 1 < n ∧ ltAt M (a + 1) a = true then a + 1 else a) = a + 1 := by rw [hlt2, if_pos ⟨ha2, rfl⟩]
          rw [hcond] at hstop hgo
          clear hls2 hlt2 hb2 hcond
          have hcM : a + 1 < M.length := by rw [HM.out]; omega
          have hls := fun (W : World) (hb : Below wr.heap.size wr W) => less_any og L.length cap (a + 1) i M[a + 1] M[i] ((a + 1 : Nat) : Int) (i : Int) W (by omega) hi hL (((HO.out.below hb).at (a + 1) hcM).1) (((HO.out.below hb).at i hiM).1) ((HO.out.below hb).th (a + 1) hcM) ((HO.out.below hb).th i hiM)
          have hlt := ltAt_eq hcM hiM
          cases hb : ltB M[a + 1] M[i]
          · rw [hb] at hls hlt
            have HLS := Lib.hid hls
            have HS : Hid (downL L i0 n = (M, i)) := Lib.hid (by rw [hup, hstop (fun h => by rw [hlt] at h; cases h.2)])
            clear hup hstop hgo hls hlt hb ci ca
            go_wp2_with fail
            refine HLS2.out.mono ?_
            rintro e w3 ⟨rfl, hb3⟩
            have kB3 := hb3
            have hpc3 : w3.cell? ⟨p, 3, none⟩ = some (.slice (some ⟨og, 0, none⟩) L.length cap) := (hb3.cell (p := ⟨p, 3, none⟩) (World.block_lt_of_cell? wr _ HPC.out)).trans HPC.out
            have hml3 := meth_less ⟨p, 3, none⟩ w3 _ (load54 hpc3)
            have HB3 := Lib.hid hb3
            clear hb3 kB3 hml hpc3
            go_wp2_with fail
            refine (HLS.out _ HB3.out).mono ?_
            rintro e w4 ⟨rfl, hb4⟩
            have HB4 := Lib.hid (HB3.out.trans (hb4.mono (HB3.out.size)))
            clear hb4
            go_wp2_with fail
            go_ret
            exact ⟨ret_eq (by rw [← HFIN.out i HS.out rfl]; rfl), by rw [HS.out]; exact HO.out.below HB4.out, by rw [HS.out]; exact HM.out, by rw [HS.out]; exact HMEM.out, HB.out.trans (Below.beside HB4.out)⟩
          · rw [hb] at hls hlt
            have HLS := Lib.hid hls
            have HS : Hid (downL L i0 n = downL (swapL M i (a + 1)) (a + 1) n) := Lib.hid (by rw [hup, hgo ⟨han, hlt⟩])
            clear hup hstop hgo hls hlt hb ci ca
            go_wp2_with fail
            refine HLS2.out.mono ?_
            rintro e w3 ⟨rfl, hb3⟩
            have kB3 := hb3
            have hpc3 : w3.cell? ⟨p, 3, none⟩ = some (.slice (some ⟨og, 0, none⟩) L.length cap) := (hb3.cell (p := ⟨p, 3, none⟩) (World.block_lt_of_cell? wr _ HPC.out)).trans HPC.out
            have hml3 := meth_less ⟨p, 3, none⟩ w3 _ (load54 hpc3)
            have HB3 := Lib.hid hb3
            clear hb3 kB3 hml hpc3
            go_wp2_with fail
            refine (HLS.out _ HB3.out).mono ?_
            rintro e w4 ⟨rfl, hb4⟩
            have hb5 := HB3.out.trans (hb4.mono (HB3.out.size))
            have hpc4 : w4.cell? ⟨p, 3, none⟩ = some (.slice (some ⟨og, 0, none⟩) L.length cap) := (hb5.cell (p := ⟨p, 3, none⟩) (World.block_lt_of_cell? wr _ HPC.out)).trans HPC.out
            have hms := meth_swap ⟨p, 3, none⟩ w4 _ (load54 hpc4)
            have hsw := swap_any og cap i (a + 1) M w4 (HO.out.below hb5) hiM hcM (by omega) (by rw [HM.out]; exact hL)
            rw [HM.out] at hsw
            have HSW := Lib.hid hsw
            have HB4 := Lib.hid hb5
            clear hb4 hb5 hpc4 hsw
            go_wp2_with fail
            refine HSW.out.mono ?_
            rintro e w5 ⟨rfl, hord5, hbes5⟩
            have HO5 := Lib.hid hord5
            have HB5 : Hid (Beside (ordOwn og L) w w5) := Lib.hid ((HB.out.trans (Below.beside HB4.out)).trans (hbes5.mono (fun k _ hk => by
              rcases hk with h | ⟨x, hx, e⟩
              · exact .inl h
              · exact .inr ⟨x, HMEM.out x hx, e⟩)))
            clear hord5 hbes5 hms
            go_wp2_with fail
            go_roundw
            case rel => exact ⟨a + 1, _, by omega, by go_num, by rw [swapL_length, HM.out], Lib.hid ⟨HS.out, fun x hx => HMEM.out x (mem_swap hiM hcM x hx)⟩, HO5.out, HB5.out⟩
            case measure => simp [RowKit.intOf]; omega
      · have ha2i : ¬ (a : Int) + 1 < (n : Int) := by omega
        have hcond : (if a + 1 < n ∧ ltAt M (a + 1) a = true then a + 1 else a) = a := by rw [if_neg (fun h => ha2 h.1)]
        rw [hcond] at hstop hgo
        clear hcond
        have hcM : a < M.length := by rw [HM.out]; omega
        have hls := fun (W : World) (hb : Below wr.heap.size wr W) => less_any og L.length cap (a) i M[a] M[i] ((a : Nat) : Int) (i : Int) W (by omega) hi hL (((HO.out.below hb).at (a) hcM).1) (((HO.out.below hb).at i hiM).1) ((HO.out.below hb).th (a) hcM) ((HO.out.below hb).th i hiM)
        have hlt := ltAt_eq hcM hiM
        cases hb : ltB M[a] M[i]
        · rw [hb] at hls hlt
          have HLS := Lib.hid hls
          have HS : Hid (downL L i0 n = (M, i)) := Lib.hid (by rw [hup, hstop (fun h => by rw [hlt] at h; cases h.2)])
          clear hup hstop hgo hls hlt hb ci ca
          go_wp2_with fail
          refine (HLS.out _ (Below.refl wr.heap.size wr)).mono ?_
          rintro e w4 ⟨rfl, hb4⟩
          have HB4 := Lib.hid ((Below.refl wr.heap.size wr).trans (hb4.mono ((Below.refl wr.heap.size wr).size)))
          clear hb4
          go_wp2_with fail
          go_ret
          exact ⟨ret_eq (by rw [← HFIN.out i HS.out rfl]; rfl), by rw [HS.out]; exact HO.out.below HB4.out, by rw [HS.out]; exact HM.out, by rw [HS.out]; exact HMEM.out, HB.out.trans (Below.beside HB4.out)⟩
        · rw [hb] at hls hlt
          have HLS := Lib.hid hls
          have HS : Hid (downL L i0 n = downL (swapL M i (a)) (a) n) := Lib.hid (by rw [hup, hgo ⟨han, hlt⟩])
          clear hup hstop hgo hls hlt hb ci ca
          go_wp2_with fail
          refine (HLS.out _ (Below.refl wr.heap.size wr)).mono ?_
          rintro e w4 ⟨rfl, hb4⟩
          have hb5 := (Below.refl wr.heap.size wr).trans (hb4.mono ((Below.refl wr.heap.size wr).size))
          have hpc4 : w4.cell? ⟨p, 3, none⟩ = some (.slice (some ⟨og, 0, none⟩) L.length cap) := (hb5.cell (p := ⟨p, 3, none⟩) (World.block_lt_of_cell? wr _ HPC.out)).trans HPC.out
          have hms := meth_swap ⟨p, 3, none⟩ w4 _ (load54 hpc4)
          have hsw := swap_any og cap i (a) M w4 (HO.out.below hb5) hiM hcM (by omega) (by rw [HM.out]; exact hL)
          rw [HM.out] at hsw
          have HSW := Lib.hid hsw
          have HB4 := Lib.hid hb5
          clear hb4 hb5 hpc4 hsw
          go_wp2_with fail
          refine HSW.out.mono ?_
          rintro e w5 ⟨rfl, hord5, hbes5⟩
          have HO5 := Lib.hid hord5
          have HB5 : Hid (Beside (ordOwn og L) w w5) := Lib.hid ((HB.out.trans (Below.beside HB4.out)).trans (hbes5.mono (fun k _ hk => by
            rcases hk with h | ⟨x, hx, e⟩
            · exact .inl h
            · exact .inr ⟨x, HMEM.out x hx, e⟩)))
          clear hord5 hbes5 hms
          go_wp2_with fail
          go_roundw
          case rel => exact ⟨a, _, by omega, rfl, by rw [swapL_length, HM.out], Lib.hid ⟨HS.out, fun x hx => HMEM.out x (mem_swap hiM hcM x hx)⟩, HO5.out, HB5.out⟩
          case measure => simp [RowKit.intOf]; omega
    · have hani : ¬ (a : Int) < (n : Int) := by omega
      have HS : Hid (downL L i0 n = (M, i)) := Lib.hid (by rw [hup, hstop (fun h => han h.1)])
      clear hup hstop hgo
      go_wp2_with fail
      go_ret
      exact ⟨ret_eq (by rw [← HFIN.out i HS.out rfl]; rfl), by rw [HS.out]; exact HO.out, by rw [HS.out]; exact HM.out, by rw [HS.out]; exact HMEM.out, HB.out⟩
end Go.Proofs.Ythmnbjdmbajhkaa
