/-
  (*strings.Replacer).Replace; a token's text: show.
-/
import Derived.Test.YtghibofnfjnfcaaGreatDoorRepG
import Derived.Lib.SmallJoins
import Derived.Lib.AppendIntMem
import Derived.Deep.RegionHeld3
namespace Go.Proofs.YtghibofnfjnfcaaGreatDoor
set_option linter.unusedVariables false
open Go.RowKit

theorem Tryz.invokeReplace (p x : Value) (w : World) : (invoke (.fn (.method "Replace") #[]) #[.iface 101 p, x]).run Tryz.prog w = .ok (.enter 141 #[p, x]) w := by kernel_rfl
set_option maxRecDepth 100000 in
set_option maxHeartbeats 2000000 in
theorem replace_any (P h c : Nat) (m : Int) (T : List Nat) (hT : ∀ c ∈ T, c < 256) (hn : T.length ≤ 1100000) (w : World) (hR : R5 w P 0 0 m .nilIface (.slice (some ⟨h, 0, none⟩) 4 c)) (hc : ∀ j (k : j < oldnew.length), w.cell? ⟨h, j, none⟩ = some (.string oldnew[j])) (hhP : h ≠ P) :
    Calls Tryz.prog 33 #[.pointer (some ⟨P, 0, none⟩), .string (strN T)] w fun e w' => e = .returned (.string (strN (escL T))) ∧ Below P w w' := by
  have HD := Lib.hid (do_any P h c m w hR hc hhP)
  have HT := Lib.hid hT
  have HP := Lib.hid hR.lt
  have hinv := Tryz.invokeReplace
  clear hR hc hT
  go_enter Tryz.func33, Tryz.ntmps33
  go_wp2_with (go_at_call 40; refine HD.out.mono ?_; rintro e w1 ⟨rfl, B, hr, hbt, hb⟩; have HBT := Lib.hid hbt; have HB := Lib.hid hb; obtain ⟨q0, q1, q2, q3, q4⟩ := hr.cells; clear hr hbt hb)
  refine (repl_any _ B T HT.out hn _ HBT.out).mono ?_
  rintro e w2 ⟨rfl, hb2⟩
  have HB2 : Hid (Below P w w2) := Lib.hid (HB.out.trans (hb2.mono (by have := HB.out.size; have := HP.out; omega)))
  clear hb2
  go_wp2_with fail
  go_ret
  exact ⟨rfl, HB2.out⟩

def TabV (w : World) : Prop := Lib.TabIs Tryz.prog w "internal/strconv.uint64pow10" .u64 Lib.pow10Tab
theorem pow_global : Tryz.prog.globalNamed "internal/strconv.uint64pow10" = some 1 := by kernel_rfl
theorem TabV.below {w w' : World} (h : TabV w) (hb : Below w.heap.size w w') : TabV w' := Joins.tab_stays pow_global h hb (Nat.le_refl _)
theorem dec_bytes (n : Nat) : Lib.decDigits n = (decL n).map UInt8.ofNat := by
  induction n using Nat.strongRecOn with
  | _ n ih =>
    by_cases h : n < 10
    · rw [Lib.decDigits, dif_pos h, decL_lt h]; rfl
    · rw [Lib.decDigits, dif_neg h, decL_ge h, ih (n / 10) (by omega), List.map_append]; rfl
theorem itoa_any (n : Nat) (hn : n ≤ 9223372036854775807) (w : World) (ht : TabV w) : Calls Tryz.prog 34 #[.int .i64 (n : Nat)] w fun e w' => e = .returned (.string (strN (decL n))) ∧ Below w.heap.size w w' :=
  (Tryz.strconv_Itoa (n : Int) (by omega) (by omega) w ht).mono fun e w' ⟨he, k, os, hw⟩ => ⟨by
    rw [he, Lib.itoa, if_neg (by omega), show ((n : Int)).toNat = n by omega, dec_bytes]
    rfl, by rw [hw]; exact Lib.below_grow _ _ (Nat.le_refl _) _ _⟩
theorem strN_app (a b : List Nat) : strN a ++ strN b = strN (a ++ b) := by
  apply ByteArray.ext
  show (strN a ++ strN b).data = _
  rw [ByteArray.data_append]
  simp [strN]
theorem cat_false (a b : Nat) (h : a + b ≤ 1000000000) : ((9223372036854775807 : Nat) < a + b) = False := eq_false (by omega)

theorem decL_len (n : Nat) : (decL n).length ≤ n + 1 := by
  induction n using Nat.strongRecOn with
  | _ n ih =>
    by_cases h : n < 10
    · rw [decL_lt h]; simp
    · rw [decL_ge h]; have := ih (n / 10) (by omega); simp; omega
/-- the four texts, laid -/
def four : Obj := .cells #[.string ⟨#[92]⟩, .string ⟨#[92, 92]⟩, .string ⟨#[34]⟩, .string ⟨#[92, 34]⟩] 9
theorem four_cells (W : World) : ∀ j (h : j < oldnew.length), (W.alloc four).cell? ⟨W.heap.size, j, none⟩ = some (.string oldnew[j]) := by
  intro j h
  have hj : j < 4 := h
  have e := heap_alloc_new W four
  rw [cell_of_row _ _ j _ 9 (0, 0) e]
  have : j = 0 ∨ j = 1 ∨ j = 2 ∨ j = 3 := by omega
  rcases this with rfl | rfl | rfl | rfl <;> rfl
theorem owns_oldnew {w : World} {B g c : Nat} (h : OwnS w B (.slice (some ⟨g, 0, none⟩) 4 c) oldnew) : ∀ j (k : j < oldnew.length), w.cell? ⟨g, j, none⟩ = some (.string oldnew[j]) := by
  intro j k
  have hj : j < 4 := k
  rw [World.ownsRow.cellAt h j (by omega)]
  simp [bsV]

set_option maxRecDepth 100000 in
set_option maxHeartbeats 4000000 in
theorem show_any (k : Nat) (s : List Nat) (hs : ∀ c ∈ s, c < 256) (hn : s.length ≤ 1100000) (w : World) (ht : TabV w) :
    Calls Tryz.prog 19 #[.agg #[.int .i64 (k : Nat), .string (strN s)]] w fun e w' => e = .returned (.string (strN (showT (k, s)))) ∧ Below w.heap.size w w' := by
  have HS := Lib.hid hs
  have HT := Lib.hid ht
  clear hs ht
  have hsize : (strN s).size = s.length := strN_size s
  by_cases h2 : k = 2
  · subst h2
    have hshow : strN (showT (2, s)) = strN [34] ++ strN (escL s) ++ strN [34] := by rw [strN_app, strN_app]; rfl
    have HSH := Lib.hid hshow
    have hel : (strN (escL s)).size ≤ 2200000 := by rw [strN_size, escL_len]; have := cntE_le s; omega
    clear hshow hsize
    have hcat1 : ((9223372036854775807 : Nat) < 1 + (strN (escL s)).size) = False := eq_false (by omega)
    have hcat2 : ((9223372036854775807 : Nat) < 1 + (strN (escL s)).size + 1) = False := eq_false (by omega)
    clear hel
    go_enter Tryz.func19, Tryz.ntmps19
    go_wp2_with fail
    have hb0 : Below w.heap.size w (w.alloc (.cells #[.int .i64 2, .string (strN s)] 26)) := (Below.refl _ _).alloc (Nat.le_refl _) _
    have c1 : (w.alloc (.cells #[.int .i64 2, .string (strN s)] 26)).cell? ⟨w.heap.size, 1, none⟩ = some (.string (strN s)) := cell_of_row _ _ 1 _ _ _ (heap_alloc_new w _)
    have hp : w.heap.size < (w.alloc (.cells #[.int .i64 2, .string (strN s)] 26)).heap.size := by simp
    generalize w.alloc (.cells #[.int .i64 2, .string (strN s)] 26) = W at *
    have HB0 := Lib.hid hb0
    clear hb0
    have HN := Lib.hid (new_any W.heap.size (W.drew.alloc four) (four_cells W.drew))
    have hb1 : Below W.heap.size W (W.drew.alloc four) := (Below.refl _ _).drew.alloc (Nat.le_refl _) _
    have h0 : (W.drew.alloc four).cell? ⟨w.heap.size, 1, none⟩ = some (.string (strN s)) := (hb1.cell (p := ⟨w.heap.size, 1, none⟩) hp).trans c1
    have hp1 : w.heap.size < (W.drew.alloc four).heap.size := by have := hb1.size; omega
    have HB1 := Lib.hid (HB0.out.trans (hb1.mono HB0.out.size))
    clear hb1
    go_region_held3 (fun w' => w'.cell? ⟨w.heap.size, 1, none⟩ = some (.string (strN s)))
      (first | with_reducible exact kb | with_reducible exact c1 | with_reducible exact h0 | go_keep)
      (first
        | (go_at_call 32; refine HN.out.mono ?_; rintro e w2 ⟨P, h, c, rfl, hPs, hR, hO, hhP, hbl⟩; have HR := Lib.hid hR; have HO := Lib.hid hO; have kb := (hbl.cell (p := ⟨w.heap.size, 1, none⟩) hp1).trans h0; have HB2 : Hid (Below w.heap.size w w2) := Lib.hid (HB1.out.trans (hbl.mono (by omega))); clear hR hO hbl)
        | (go_at_call 33; refine (replace_any P h c 0 s HS.out hn _ HR.out (owns_oldnew HO.out) hhP).mono ?_; rintro e w3 ⟨rfl, hb3⟩; have HB3 : Hid (Below w.heap.size w w3) := Lib.hid (HB2.out.trans (hb3.mono (by omega))); have kb3 : w3.cell? ⟨w.heap.size, 1, none⟩ = some (.string (strN s)) := (hb3.cell (p := ⟨w.heap.size, 1, none⟩) (by show w.heap.size < P; omega)).trans kb; clear hb3))
    all_goals
      go_wp2_with fail
      go_ret
      exact ⟨by rw [HSH.out]; rfl, HB3.out⟩
  by_cases h3 : k = 3
  · subst h3
    have hshow : strN (showT (3, s)) = strN [123] ++ strN (decL s.length) ++ strN [125, 13, 10] ++ strN s := by rw [strN_app, strN_app, strN_app]; rfl
    have HSH := Lib.hid hshow
    have hdl : (strN (decL s.length)).size ≤ 1100001 := by rw [strN_size]; have := decL_len s.length; omega
    have hit := fun W hW => itoa_any s.length (by omega) W hW
    rw [← hsize] at hit hdl hshow
    have HIT := Lib.hid hit
    have HSZ := Lib.hid hsize
    have hsl : (strN s).size ≤ 1100000 := by omega
    clear hshow hsize hit hn
    rw [← HSZ.out] at HSH
    generalize hS : strN s = S at *
    clear hS
    generalize hx : strN (decL S.size) = x at *
    clear hx
    have hcat1 : ((9223372036854775807 : Nat) < 1 + x.size) = False := eq_false (by omega)
    have hcat2 : ((9223372036854775807 : Nat) < 1 + x.size + 3) = False := eq_false (by omega)
    have hcat3 : ((9223372036854775807 : Nat) < 1 + x.size + 3 + S.size) = False := eq_false (by omega)
    clear hsl hdl
    go_enter Tryz.func19, Tryz.ntmps19
    go_wp2_with fail
    have hb0 : Below w.heap.size w (w.alloc (.cells #[.int .i64 3, .string S] 26)) := (Below.refl _ _).alloc (Nat.le_refl _) _
    have c1 : (w.alloc (.cells #[.int .i64 3, .string S] 26)).cell? ⟨w.heap.size, 1, none⟩ = some (.string S) := cell_of_row _ _ 1 _ _ _ (heap_alloc_new w _)
    have hp : w.heap.size < (w.alloc (.cells #[.int .i64 3, .string S] 26)).heap.size := by simp
    generalize w.alloc (.cells #[.int .i64 3, .string S] 26) = W at *
    have HB0 := Lib.hid hb0
    clear hb0
    have HTW := Lib.hid (HT.out.below HB0.out)
    have HTD : Hid (TabV W.drew) := Lib.hid (HTW.out.below ((Below.refl _ _).drew))
    go_region_held3 (fun w' => w'.cell? ⟨w.heap.size, 1, none⟩ = some (.string S))
      (first | with_reducible exact kb | with_reducible exact c1 | go_keep)
      (first
        | (go_at_call 34; refine (HIT.out _ HTD.out).mono ?_; rintro e w2 ⟨rfl, hb2⟩; have kb := (hb2.cell (p := ⟨w.heap.size, 1, none⟩) (by show w.heap.size < W.heap.size; exact hp)).trans c1; have HB2 : Hid (Below w.heap.size w w2) := Lib.hid (HB0.out.drew.trans (hb2.mono (by show w.heap.size ≤ W.heap.size; omega))); clear hb2))
    all_goals
      go_wp2_with fail
      go_ret
      exact ⟨by rw [HSH.out]; rfl, HB2.out⟩
  by_cases h4 : k = 4
  · subst h4
    have HSH : Hid (strN (showT (4, s)) = ⟨#[40]⟩) := Lib.hid rfl
    clear h2 h3
    go_enter Tryz.func19, Tryz.ntmps19
    go_wp2_with fail
    go_ret
    exact ⟨by rw [HSH.out]; rfl, (Below.refl _ _).alloc (Nat.le_refl _) _⟩
  by_cases h5 : k = 5
  · subst h5
    have HSH : Hid (strN (showT (5, s)) = ⟨#[41]⟩) := Lib.hid rfl
    clear h2 h3 h4
    go_enter Tryz.func19, Tryz.ntmps19
    go_wp2_with fail
    go_ret
    exact ⟨by rw [HSH.out]; rfl, (Below.refl _ _).alloc (Nat.le_refl _) _⟩
  by_cases h6 : k = 6
  · subst h6
    have HSH : Hid (strN (showT (6, s)) = ⟨#[32]⟩) := Lib.hid rfl
    clear h2 h3 h4 h5
    go_enter Tryz.func19, Tryz.ntmps19
    go_wp2_with fail
    go_ret
    exact ⟨by rw [HSH.out]; rfl, (Below.refl _ _).alloc (Nat.le_refl _) _⟩
  by_cases h7 : k = 7
  · subst h7
    have HSH : Hid (strN (showT (7, s)) = ⟨#[91]⟩) := Lib.hid rfl
    clear h2 h3 h4 h5 h6
    go_enter Tryz.func19, Tryz.ntmps19
    go_wp2_with fail
    go_ret
    exact ⟨by rw [HSH.out]; rfl, (Below.refl _ _).alloc (Nat.le_refl _) _⟩
  by_cases h8 : k = 8
  · subst h8
    have HSH : Hid (strN (showT (8, s)) = ⟨#[93]⟩) := Lib.hid rfl
    clear h2 h3 h4 h5 h6 h7
    go_enter Tryz.func19, Tryz.ntmps19
    go_wp2_with fail
    go_ret
    exact ⟨by rw [HSH.out]; rfl, (Below.refl _ _).alloc (Nat.le_refl _) _⟩
  · have HSH : Hid (showT (k, s) = s) := Lib.hid (by unfold showT; simp only [if_neg h2, if_neg h3, if_neg h4, if_neg h5, if_neg h6, if_neg h7, if_neg h8])
    have e2 : ¬ (k : Int) = 2 := by omega
    have e3 : ¬ (k : Int) = 3 := by omega
    have e4 : ¬ (k : Int) = 4 := by omega
    have e5 : ¬ (k : Int) = 5 := by omega
    have e6 : ¬ (k : Int) = 6 := by omega
    have e7 : ¬ (k : Int) = 7 := by omega
    have e8 : ¬ (k : Int) = 8 := by omega
    clear h2 h3 h4 h5 h6 h7 h8 hsize
    generalize (k : Int) = z at *
    go_enter Tryz.func19, Tryz.ntmps19
    go_wp2_with fail
    go_ret
    exact ⟨by rw [HSH.out]; rfl, (Below.refl _ _).alloc (Nat.le_refl _) _⟩
end Go.Proofs.YtghibofnfjnfcaaGreatDoor
