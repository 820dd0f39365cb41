/-
  Get, on both sides; Bytes.
-/
import Derived.Test.YtlfdcocaedeneaaDoorMadeW
import Derived.Test.YtlfdcocaedeneaaDoorSmallN
namespace Go.Proofs.YtlfdcocaedeneaaDoor
set_option linter.unusedVariables false
open Go.RowKit Go.Lib

/-- a slice of fields -/
def TksIn (w : World) (v : Value) (L : List Tk) : Prop :=
  (∀ x ∈ L, x.1.size ≤ 140737488351232 ∧ x.2.size ≤ 140737488351232) ∧ ((L = [] ∧ ∃ a c, v = .slice a 0 c) ∨ ∃ b off c, v = .slice (some ⟨b, off, none⟩) L.length c ∧ b < w.heap.size ∧ L.length ≤ c ∧ ∀ i (h : i < L.length), w.cell? ⟨b, off + i * 2, none⟩ = some (.string L[i].1) ∧ w.cell? ⟨b, off + i * 2 + 1, none⟩ = some (.string L[i].2))
theorem TksIn.shape {w : World} {v : Value} {L : List Tk} (h : TksIn w v L) : ∃ a c, v = .slice a L.length c := by
  rcases h.2 with ⟨rfl, a, c, rfl⟩ | ⟨b, off, c, rfl, _⟩
  · exact ⟨a, c, rfl⟩
  · exact ⟨_, c, rfl⟩
theorem TksIn.at {w : World} {a : Option Addr} {n c : Nat} {L : List Tk} (h : TksIn w (.slice a n c) L) : ∃ b off, ∀ i (hi : i < L.length), a = some ⟨b, off, none⟩ ∧ b < w.heap.size ∧ w.cell? ⟨b, off + i * 2, none⟩ = some (.string L[i].1) ∧ w.cell? ⟨b, off + i * 2 + 1, none⟩ = some (.string L[i].2) := by
  rcases h.2 with ⟨rfl, a, c, e⟩ | ⟨b, off, c', e, h1, h2, h3⟩
  · exact ⟨0, 0, fun i hi => absurd hi (by simp)⟩
  · simp only [Value.slice.injEq] at e
    exact ⟨b, off, fun i hi => ⟨e.1, h1, h3 i hi⟩⟩
theorem TksIn.below {w W : World} {v : Value} {L : List Tk} (h : TksIn w v L) (hb : Below w.heap.size w W) : TksIn W v L := by
  refine ⟨h.1, ?_⟩
  rcases h.2 with h2 | ⟨b, off, c, e, h1, h2, h3⟩
  · exact .inl h2
  · exact .inr ⟨b, off, c, e, by have := hb.size; omega, h2, fun i hi => ⟨(hb.cell (p := ⟨b, off + i * 2, none⟩) h1).trans (h3 i hi).1, (hb.cell (p := ⟨b, off + i * 2 + 1, none⟩) h1).trans (h3 i hi).2⟩⟩

def lowT (s : ByteArray) : ByteArray := strL (foldL s.data.toList)
def hasN (nm : ByteArray) (x : Tk) : Bool := (lowT x.1).toList == (lowT nm).toList
/-- the first field of a name -/
def getS (L : List Tk) (nm : ByteArray) : ByteArray × Bool := match L.find? (hasN nm) with | some x => (x.2, true) | none => (⟨#[]⟩, false)
theorem get_at {L : List Tk} {nm : ByteArray} {k : Nat} (h : k < L.length) (hb : ∀ i (h : i < L.length), i < k → hasN nm L[i] = false) (hk : hasN nm L[k] = true) : getS L nm = (L[k].2, true) := by
  have : L.find? (hasN nm) = some L[k] := by
    rw [List.find?_eq_some_iff_getElem]
    exact ⟨hk, k, h, rfl, fun j hj => by rw [hb j (by omega) hj]; rfl⟩
  unfold getS
  rw [this]
theorem get_none {L : List Tk} {nm : ByteArray} (hb : ∀ i (h : i < L.length), hasN nm L[i] = false) : getS L nm = (⟨#[]⟩, false) := by
  have : L.find? (hasN nm) = none := by
    rw [List.find?_eq_none]
    intro x hx
    obtain ⟨i, hi, rfl⟩ := List.mem_iff_getElem.1 hx
    rw [hb i hi]
    exact Bool.false_ne_true
  unfold getS
  rw [this]

set_option maxRecDepth 100000 in
set_option maxHeartbeats 2000000 in
theorem get_any (v : Value) (L : List Tk) (nm : ByteArray) (w : World) (hL : TksIn w v L) (hn : nm.size ≤ 140737488351232) (hl : L.length ≤ 100000) :
    Calls Tryd.prog 16 #[v, .string nm] w fun e w' => e = .returned (.tuple #[.string (getS L nm).1, .bool (getS L nm).2]) ∧ Below w.heap.size w w' := by
  obtain ⟨a, c, rfl⟩ := hL.shape
  obtain ⟨b, off, hat⟩ := hL.at
  have HAT := Lib.hid hat
  have HSZ := Lib.hid hL.1
  have HF := Lib.hid (fun W => FoldN_any nm hn W)
  clear hL hat hn
  go_enter Tryd.func16, Tryd.ntmps16
  go_wp2_with fail
  refine (HF.out _).mono ?_
  rintro e w1 ⟨rfl, hb1⟩
  have hs1 := hb1.size
  have HB1 := Lib.hid hb1
  clear hb1
  have hlow : strL (foldL nm.data.toList) = lowT nm := rfl
  rw [hlow]
  generalize hlw : lowT nm = lw at *
  have HLW := Lib.hid hlw
  clear hlow hlw
  go_wp2_with fail
  go_loopw [13] (fun i wr => ∃ k : Nat, k ≤ L.length ∧ i = .int .i64 k ∧ Hid (∀ i (h : i < L.length), i < k → hasN nm L[i] = false) ∧ Below w.heap.size w wr) (fun i _ => L.length - (RowKit.intOf i).toNat)
  case atStart => exact ⟨0, Nat.zero_le _, rfl, Lib.hid (fun i _ h => absurd h (by omega)), HB1.out⟩
  case round =>
    obtain ⟨k, hk, rfl, hall, hbel⟩ := hrel
    have hsz := hbel.size
    by_cases hkl : k < L.length
    · obtain ⟨rfl, hbw, hc1, hc2⟩ := HAT.out k hkl
      have kc1 := (hbel.cell (p := ⟨b, off + k * 2, none⟩) hbw).trans hc1
      have kc2 := (hbel.cell (p := ⟨b, off + k * 2 + 1, none⟩) hbw).trans hc2
      have hsx := (HSZ.out _ (List.getElem_mem hkl)).1
      have hfound := get_at hkl hall.out
      have hnext : hasN nm L[k] = false → ∀ i (h : i < L.length), i < k + 1 → hasN nm L[i] = false := fun h i h1 h2 => by
        rcases Nat.lt_or_ge i k with h3 | h3
        · exact hall.out i h1 h3
        · obtain rfl : i = k := by omega
          exact h
      have hki : (k : Int) < (L.length : Int) := by omega
      have HFD := Lib.hid hfound
      have HNX := Lib.hid hnext
      have HBEL := Lib.hid hbel
      clear hc1 hc2 hfound hnext hall hbel
      generalize L[k] = x at *
      obtain ⟨x1, x2⟩ := x
      simp only at kc1 kc2 hsx HFD
      have HFX := Lib.hid (fun W => FoldN_any x1 hsx W)
      clear hsx
      have hhas : hasN nm (x1, x2) = ((strL (foldL x1.data.toList)).toList == lw.toList) := by unfold hasN; rw [HLW.out]; rfl
      cases hcmp : ((strL (foldL x1.data.toList)).toList == lw.toList)
      · have HN2 := Lib.hid (HNX.out (by rw [hhas, hcmp]))
        clear hhas
        go_wp2_with (go_at_call 18; refine (HFX.out _).mono ?_; rintro e w3 ⟨rfl, hb3⟩; have hsz3 := hb3.size; have HB3 := Lib.hid hb3; have hbx1 : w3.cell? ⟨wr.heap.size, 0, none⟩ = some (.string x1) := (hb3.cell (p := ⟨wr.heap.size, 0, none⟩) (by simp)).trans (by rw [cell_of_row _ _ 0 _ 28 (0, 0) (heap_alloc_new wr (.cells #[.string x1, .string x2] 28))]; rfl); clear hb3)
        go_roundw
        case rel => exact ⟨k + 1, by omega, by go_num, HN2, ((HBEL.out.alloc hsz _)).trans (HB3.out.mono (by simp; omega))⟩
        case measure => simp [RowKit.intOf]; omega
      · have HG := Lib.hid (HFD.out (by rw [hhas, hcmp]))
        clear hhas
        go_wp2_with (go_at_call 18; refine (HFX.out _).mono ?_; rintro e w3 ⟨rfl, hb3⟩; have hsz3 := hb3.size; have HB3 := Lib.hid hb3; have hbx2 : w3.cell? ⟨wr.heap.size, 1, none⟩ = some (.string x2) := (hb3.cell (p := ⟨wr.heap.size, 1, none⟩) (by simp)).trans (by rw [cell_of_row _ _ 1 _ 28 (0, 0) (heap_alloc_new wr (.cells #[.string x1, .string x2] 28))]; rfl); clear hb3)
        refine bodyPost_ret (v := .tuple #[.string x2, .bool true]) (by simp [results, Tryd.results16, go_sem]) rfl ?_
        exact ⟨by rw [HG.out], ((HBEL.out.alloc hsz _)).trans (HB3.out.mono (by simp; omega))⟩
    · obtain rfl : k = L.length := by omega
      have HG := Lib.hid (get_none (fun i h => hall.out i h h))
      clear hall
      go_wp2_with fail
      refine bodyPost_ret (v := .tuple #[.string ⟨#[]⟩, .bool false]) (by simp [results, Tryd.results16, go_sem]) rfl ?_
      exact ⟨by rw [HG.out], hbel⟩
set_option maxRecDepth 100000 in
set_option maxHeartbeats 2000000 in
theorem rget_any (v : Value) (L : List Tk) (nm : ByteArray) (w : World) (hL : TksIn w v L) (hn : nm.size ≤ 140737488351232) (hl : L.length ≤ 100000) :
    Calls Tryd.prog 17 #[v, .string nm] w fun e w' => e = .returned (.tuple #[.string (getS L nm).1, .bool (getS L nm).2]) ∧ Below w.heap.size w w' := by
  obtain ⟨a, c, rfl⟩ := hL.shape
  obtain ⟨b, off, hat⟩ := hL.at
  have HAT := Lib.hid hat
  have HSZ := Lib.hid hL.1
  have hf : ∀ W, Calls Tryd.prog 19 #[.string nm] W fun e w' => e = .returned (.string (lowT nm)) ∧ Below W.heap.size W w' := fun W => foldN_any nm hn W
  generalize hlw : lowT nm = lw at *
  have HLW := Lib.hid hlw
  have HF := Lib.hid hf
  clear hL hat hn hf hlw
  go_enter Tryd.func17, Tryd.ntmps17
  go_wp2_with fail
  go_loopw [6] (fun i wr => ∃ k : Nat, k ≤ L.length ∧ i = .int .i64 k ∧ Hid (∀ i (h : i < L.length), i < k → hasN nm L[i] = false) ∧ Below w.heap.size w wr) (fun i _ => L.length - (RowKit.intOf i).toNat)
  case atStart => exact ⟨0, Nat.zero_le _, rfl, Lib.hid (fun i _ h => absurd h (by omega)), Below.refl _ _⟩
  case round =>
    obtain ⟨k, hk, rfl, hall, hbel⟩ := hrel
    have hsz := hbel.size
    by_cases hkl : k < L.length
    · obtain ⟨rfl, hbw, hc1, hc2⟩ := HAT.out k hkl
      have kc1 := (hbel.cell (p := ⟨b, off + k * 2, none⟩) hbw).trans hc1
      have kc2 := (hbel.cell (p := ⟨b, off + k * 2 + 1, none⟩) hbw).trans hc2
      have hsx := (HSZ.out _ (List.getElem_mem hkl)).1
      have hfound := get_at hkl hall.out
      have hnext : hasN nm L[k] = false → ∀ i (h : i < L.length), i < k + 1 → hasN nm L[i] = false := fun h i h1 h2 => by
        rcases Nat.lt_or_ge i k with h3 | h3
        · exact hall.out i h1 h3
        · obtain rfl : i = k := by omega
          exact h
      have hki : (k : Int) < (L.length : Int) := by omega
      have HFD := Lib.hid hfound
      have HNX := Lib.hid hnext
      have HBEL := Lib.hid hbel
      clear hc1 hc2 hfound hnext hall hbel
      generalize L[k] = x at *
      obtain ⟨x1, x2⟩ := x
      simp only at kc1 kc2 hsx HFD
      have HFX := Lib.hid (fun W => foldN_any x1 hsx W)
      clear hsx
      have hhas : hasN nm (x1, x2) = ((strL (foldL x1.data.toList)).toList == lw.toList) := by unfold hasN; rw [HLW.out]; rfl
      cases hcmp : ((strL (foldL x1.data.toList)).toList == lw.toList)
      · have HN2 := Lib.hid (HNX.out (by rw [hhas, hcmp]))
        clear hhas
        go_wp2_with fail
        refine (HFX.out _).mono ?_
        rintro e w3 ⟨rfl, hb3⟩
        have hs3 := hb3.size
        have HB3 := Lib.hid (HBEL.out.trans (hb3.mono hsz))
        clear hb3
        go_wp2_with fail
        refine (HF.out _).mono ?_
        rintro e w4 ⟨rfl, hb4⟩
        have HB4 := Lib.hid (HB3.out.trans (hb4.mono (by omega)))
        clear hb4
        go_wp2_with fail
        go_roundw
        case rel => exact ⟨k + 1, by omega, by go_num, HN2, HB4.out⟩
        case measure => simp [RowKit.intOf]; omega
      · have HG := Lib.hid (HFD.out (by rw [hhas, hcmp]))
        clear hhas
        go_wp2_with fail
        refine (HFX.out _).mono ?_
        rintro e w3 ⟨rfl, hb3⟩
        have hs3 := hb3.size
        have HB3 := Lib.hid (HBEL.out.trans (hb3.mono hsz))
        clear hb3
        go_wp2_with fail
        refine (HF.out _).mono ?_
        rintro e w4 ⟨rfl, hb4⟩
        have hb5 := HB3.out.trans (hb4.mono (by omega))
        have kc5 : w4.cell? ⟨b, off + k * 2 + 1, none⟩ = some (.string x2) := (hb5.cell (p := ⟨b, off + k * 2 + 1, none⟩) hbw).trans ((HBEL.out.cell (p := ⟨b, off + k * 2 + 1, none⟩) hbw).symm.trans kc2)
        have HB4 := Lib.hid hb5
        clear hb4 hb5
        go_wp2_with fail
        refine bodyPost_ret (v := .tuple #[.string x2, .bool true]) (by simp [results, Tryd.results17, go_sem]) rfl ?_
        exact ⟨by rw [HG.out], HB4.out⟩
    · obtain rfl : k = L.length := by omega
      have HG := Lib.hid (get_none (fun i h => hall.out i h h))
      clear hall
      go_wp2_with fail
      refine bodyPost_ret (v := .tuple #[.string ⟨#[]⟩, .bool false]) (by simp [results, Tryd.results17, go_sem]) rfl ?_
      exact ⟨by rw [HG.out], hbel⟩

/-- Bytes of two rows of the same bytes -/
theorem bytes_yes (va vb : Value) (l : List Nat) (w : World) (ha : RowB w va l) (hb : RowB w vb l) : Calls Tryd.prog 20 #[va, vb] w fun e w' => e = .returned (.bool true) ∧ w = w' := by
  have h1 := run_str ha
  have h2 := run_str hb
  clear ha hb
  generalize strN l = s at *
  go_enter Tryd.func20, Tryd.ntmps20
  go_wp2_with fail
  go_ret
  exact ⟨ret_eq (by simp), rfl⟩
end Go.Proofs.YtlfdcocaedeneaaDoor
