/-
  up: a thing rises in the order.
-/
import Derived.Test.YthmnbjdmbajhkaaOrd
import Derived.Test.YthmnbjdmbajhkaaHeapPush
namespace Go.Proofs.Ythmnbjdmbajhkaa
set_option linter.unusedVariables false
open Go.RowKit
attribute [local go_sem] Oper.semAt_some

theorem meth_less (a : Addr) (w : World) (v : Value) (hl : (loadVar 54 a).run Try.prog w = .ok v w) : (method 199 62 (.pointer (some a)) "Less").run Try.prog w = .ok (49, v) w := by
  obtain ⟨i, m, hi, hm, hp, hf⟩ := Try.method62 "Less" (.inr (.inr rfl))
  exact run_method_val hi hm hp hf Try.underlying62 198 a w v hl

/-- does the thing at i go ahead of that at j? -/
def ltAt (L : List Th) (i j : Nat) : Bool := match L[i]?, L[j]? with | some a, some b => ltB a b | _, _ => false
theorem ltAt_eq {L : List Th} {i j : Nat} (hi : i < L.length) (hj : j < L.length) : ltAt L i j = ltB L[i] L[j] := by
  unfold ltAt
  rw [List.getElem?_eq_getElem hi, List.getElem?_eq_getElem hj]
def upL (L : List Th) (j : Nat) : List Th := if h : 0 < j ∧ ltAt L j ((j - 1) / 2) = true then upL (swapL L ((j - 1) / 2) j) ((j - 1) / 2) else L
termination_by j
decreasing_by omega
theorem upL_stop {L : List Th} {j : Nat} (h : ¬ (0 < j ∧ ltAt L j ((j - 1) / 2) = true)) : upL L j = L := by rw [upL, dif_neg h]
theorem upL_go {L : List Th} {j : Nat} (h : 0 < j ∧ ltAt L j ((j - 1) / 2) = true) : upL L j = upL (swapL L ((j - 1) / 2) j) ((j - 1) / 2) := by rw [upL, dif_pos h]
theorem mem_swap {L : List Th} {i j : Nat} (hi : i < L.length) (hj : j < L.length) (x : Th) : x ∈ swapL L i j → x ∈ L := by
  intro h
  obtain ⟨k, hk, rfl⟩ := List.mem_iff_getElem.1 h
  have hk' : k < L.length := by simpa using hk
  rw [swapL_get hi hj k hk']
  split
  · exact List.getElem_mem hi
  · split
    · exact List.getElem_mem hj
    · exact List.getElem_mem hk'
theorem own_swap {og : Nat} {L : List Th} {i j : Nat} (hi : i < L.length) (hj : j < L.length) (k : Nat) : ordOwn og (swapL L i j) k → ordOwn og L k := by
  rintro (h | ⟨x, hx, e⟩)
  · exact .inl h
  · exact .inr ⟨x, mem_swap hi hj x hx, e⟩

set_option maxRecDepth 100000 in
set_option maxHeartbeats 4000000 in
theorem up_any (p og cap j : Nat) (L : List Th) (w : World) (hp : w.cell? ⟨p, 3, none⟩ = some (.slice (some ⟨og, 0, none⟩) L.length cap)) (hpo : ¬ ordOwn og L p) (h : Ord w og cap L) (hj : j < L.length) (hL : L.length ≤ 1000000) :
    Calls Try.prog 31 #[.iface 62 (.pointer (some ⟨p, 3, none⟩)), .int .i64 j] w fun e w' => e = .returned (.tuple #[]) ∧ Ord w' og cap (upL L j) ∧ (upL L j).length = L.length ∧ (∀ x ∈ upL L j, x ∈ L) ∧ Beside (ordOwn og L) w w' := by
  have H := Lib.hid h
  have HP := Lib.hid hp
  have HPO := Lib.hid hpo
  have hpl := World.block_lt_of_cell? w _ hp
  clear h hp hpo
  go_enter Try.func31, Try.ntmps31
  go_wp2_with fail
  go_loopw [1] (fun jv wr => ∃ (k : Nat) (M : List Th), k < L.length ∧ jv = .int .i64 k ∧ M.length = L.length ∧ Hid (upL L j = upL M k ∧ (∀ x ∈ M, x ∈ L)) ∧ Ord wr og cap M ∧ Beside (ordOwn og L) w wr) (fun jv _ => (RowKit.intOf jv).toNat)
  case atStart => exact ⟨j, L, hj, rfl, rfl, Lib.hid ⟨rfl, fun x h => h⟩, H.out, Beside.refl _ _⟩
  case round =>
    obtain ⟨k, M, hk, rfl, hM, hinv, hord, hbes⟩ := hrel
    have HM := Lib.hid hM
    have HO := Lib.hid hord
    have HB := Lib.hid hbes
    have hpc : wr.cell? ⟨p, 3, none⟩ = some (.slice (some ⟨og, 0, none⟩) L.length cap) := (World.cell?_of_block (hbes.block p hpl HPO.out)).trans HP.out
    have HPC := Lib.hid hpc
    clear hM hord hbes
    by_cases hk0 : k = 0
    · have HS : Hid (upL L j = M) := Lib.hid (by rw [hinv.out.1, upL_stop (by omega)])
      have HMEM := Lib.hid hinv.out.2
      subst hk0
      clear hinv hpc
      go_wp2_with fail
      go_end0
      exact ⟨rfl, by rw [HS.out]; exact HO.out, by rw [HS.out]; exact HM.out, by rw [HS.out]; exact HMEM.out, HB.out⟩
    · obtain ⟨m, rfl⟩ : ∃ m, k = m + 1 := ⟨k - 1, by omega⟩
      obtain ⟨i, hi⟩ : ∃ i, m / 2 = i := ⟨_, rfl⟩
      have hq : (m : Int) / 2 = (i : Int) := by omega
      have him : i < m + 1 := by omega
      have hne : ((i : Int) == (m : Int) + 1) = false := beq_false_of_ne (by omega)
      have hml := meth_less ⟨p, 3, none⟩ wr _ (load54 hpc)
      have hkm : m + 1 < M.length := by rw [HM.out]; exact hk
      have hiM : i < M.length := by omega
      obtain ⟨cj, -⟩ := HO.out.at (m + 1) hkm
      obtain ⟨ci, -⟩ := HO.out.at i hiM
      have HLS := Lib.hid (less_any og L.length cap (m + 1) i M[m + 1] M[i] ((m + 1 : Nat) : Int) (i : Int) wr hk (by omega) hL cj ci (HO.out.th (m + 1) hkm) (HO.out.th i hiM))
      have hlt := ltAt_eq hkm hiM
      have hidx : (m + 1 - 1) / 2 = i := by simp; exact hi
      have hup := hinv.out.1
      have HMEM := Lib.hid hinv.out.2
      have hmpos : (0 : Int) ≤ (m : Int) := by omega
      clear hinv ci cj hpc
      cases hb : ltB M[m + 1] M[i]
      · have HS : Hid (upL L j = M) := Lib.hid (by rw [hup, upL_stop (by rw [hidx, hlt, hb]; simp)])
        rw [hb] at HLS
        clear hup hlt hidx hb hi
        go_wp2_with fail
        refine HLS.out.mono ?_
        rintro e w2 ⟨rfl, hb2⟩
        have HB2 := Lib.hid hb2
        clear hb2
        go_wp2_with fail
        go_end0
        exact ⟨rfl, by rw [HS.out]; exact HO.out.below HB2.out, by rw [HS.out]; exact HM.out, by rw [HS.out]; exact HMEM.out, HB.out.trans ((Below.beside HB2.out).mono (fun _ _ h => h))⟩
      · have HS : Hid (upL L j = upL (swapL M i (m + 1)) i) := Lib.hid (by rw [hup, upL_go ⟨by omega, by rw [hidx, hlt, hb]⟩, hidx])
        rw [hb] at HLS
        clear hup hlt hidx hb hi
        go_wp2_with fail
        refine HLS.out.mono ?_
        rintro e w2 ⟨rfl, hb2⟩
        have hpc2 : w2.cell? ⟨p, 3, none⟩ = some (.slice (some ⟨og, 0, none⟩) L.length cap) := (hb2.cell (p := ⟨p, 3, none⟩) (World.block_lt_of_cell? wr _ HPC.out)).trans HPC.out
        have hms := meth_swap ⟨p, 3, none⟩ w2 _ (load54 hpc2)
        have hsw := swap_any og cap i (m + 1) M w2 (HO.out.below hb2) hiM hkm (by omega) (by rw [HM.out]; exact hL)
        rw [HM.out] at hsw
        have HSW := Lib.hid hsw
        have HB2 := Lib.hid hb2
        clear hb2 hpc2 hsw hml
        go_wp2_with fail
        refine HSW.out.mono ?_
        rintro e w3 ⟨rfl, hord3, hbes3⟩
        have HO3 := Lib.hid hord3
        have HB3 : Hid (Beside (ordOwn og L) w w3) := Lib.hid ((HB.out.trans (Below.beside HB2.out)).trans (hbes3.mono (fun k _ hk => by
          rcases hk with h | ⟨x, hx, e⟩
          · exact .inl h
          · exact .inr ⟨x, HMEM.out x hx, e⟩)))
        clear hord3 hbes3 hms
        go_wp2_with fail
        go_roundw
        case rel => exact ⟨i, _, by omega, rfl, by rw [swapL_length, HM.out], Lib.hid ⟨HS.out, fun x hx => HMEM.out x (mem_swap hiM hkm x hx)⟩, HO3.out, HB3.out⟩
        case measure => simp [RowKit.intOf]; omega
end Go.Proofs.Ythmnbjdmbajhkaa
