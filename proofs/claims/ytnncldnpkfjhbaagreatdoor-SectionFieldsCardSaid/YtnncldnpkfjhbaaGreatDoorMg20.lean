/-
  Several texts of one proof, each in a section of its own: SmallN, Gets, OnlyP.
-/
import Derived.Test.YtnncldnpkfjhbaaGreatDoorMg6
import Derived.Test.YtnncldnpkfjhbaaGreatDoorMg18
import Derived.Test.YtnncldnpkfjhbaaGreatDoorMg15
namespace Go.Proofs.YtnncldnpkfjhbaaGreatDoor
section
set_option linter.unusedVariables false
open Go.RowKit Go.Lib

set_option maxHeartbeats 1000000 in
set_option maxRecDepth 100000 in
theorem smallN_any (s : ByteArray) (hs : s.size ≤ 140737488351232) (w : World) :
    Calls Tryz.prog 63 #[.string s] w fun e w' => e = .returned (.string (strL (foldL s.data.toList))) ∧ Below w.heap.size w w' := by
  obtain ⟨l, hl⟩ : ∃ l, s.data.toList = l := ⟨_, rfl⟩
  have hsl : s.size = l.length := by rw [← hl]; exact size_l s
  have hb := below_bytesWorld w s
  have hr := RowU.conv w s
  have hs1 : (bytesWorld w 5 s).heap.size = w.heap.size + 1 := bytesWorld_size w 5 s
  obtain ⟨cap, w1, hcv, hb, hr, hs1⟩ : ∃ cap w1, (convert 9 22 (.string s)).run Tryz.prog w = .ok (.slice (some ⟨w.heap.size, 0, none⟩) l.length cap) w1 ∧ Below w.heap.size w w1 ∧ RowU w1 w.heap.size l ∧ w1.heap.size = w.heap.size + 1 := by
    refine ⟨grownCap w s.size 0 5, bytesWorld w 5 s, ?_, hb, by rw [← hl]; exact hr, hs1⟩
    rw [← hsl]
    exact Lib.run_convert_string_bytes w 9 22 5 s Tryz.underlying9 Tryz.underlying22 Tryz.underlying5
  rw [hl]
  have hll : l.length ≤ 140737488351232 := by omega
  obtain ⟨n, hn⟩ : ∃ n, l.length = n := ⟨_, rfl⟩
  rw [hn] at hcv hll
  generalize hg : w.heap.size = g at *
  have HB := Lib.hid hb
  have HR := Lib.hid hr
  have HC := Lib.hid hcv
  have HN := Lib.hid hn
  clear hb hr hcv hs hsl hl hn hg
  go_enter Tryz.func63, Tryz.ntmps63
  go_wp2
  rw [HC.out]
  simp only [Result.andThen]
  rw [Oper.upon_value]
  go_wp2
  go_loopw [10] (fun i wr => ∃ k : Nat, i = .int .i64 k ∧ k ≤ n ∧ RowU wr g (midL l k) ∧ Below g w wr ∧ g < wr.heap.size) (fun i _ => n - (RowKit.intOf i).toNat)
  case atStart => exact ⟨0, rfl, by omega, by rw [midL_zero]; exact HR.out, HB.out, by omega⟩
  case round =>
    obtain ⟨k, rfl, hk, hrow, hbw, hgs⟩ := hrel
    have HBW := Lib.hid hbw
    have HROW := Lib.hid hrow
    by_cases hkn : k < n
    · have hkz : (k : Int) < (n : Int) := by omega
      have hkl : k < l.length := by rw [HN.out]; exact hkn
      have hkl2 : k < (midL l k).length := by rw [midL_length]; exact hkl
      obtain ⟨c, hc⟩ : ∃ c, l[k] = c := ⟨_, rfl⟩
      have hcell := hrow.cell k hkl2
      have hfree := hrow.free k hkl2
      rw [midL_at l k hkl, hc] at hcell
      obtain ⟨x, hx⟩ : ∃ x, c.toNat = x := ⟨_, rfl⟩
      have hx2 : x < 256 := by rw [← hx]; exact c.toNat_lt
      rw [hx] at hcell
      have hk1 : (k : Int) + 1 ≤ 9223372036854775807 := by omega
      by_cases h1 : 65 ≤ x
      · have h1z : (65 : Int) ≤ (x : Int) := by omega
        by_cases h2 : x ≤ 90
        · have h2z : (x : Int) ≤ 90 := by omega
          have ha1 : IntKind.u8.wrap ((x : Int) + 97) = (x : Int) + 97 := IntWalk.u8_in _ (by omega)
          have ha2 : IntKind.u8.wrap ((x : Int) + 97 - 65) = (x : Int) + 32 := by rw [IntWalk.u8_in _ (by omega)]; omega
          have hlow : (lowB c).toNat = x + 32 := by rw [lowB_nat c (by omega), hx]
          have hset := hrow.set k hkl2 (lowB c)
          rw [hlow, ← hc, ← midL_step l k hkl] at hset
          have HSET := Lib.hid hset
          have he : ((x + 32 : Nat) : Int) = (x : Int) + 32 := by omega
          rw [he] at HSET
          clear hset hlow hrow hbw hx hc he
          go_wp2
          go_roundw
          case rel => exact ⟨k + 1, by simp, by omega, HSET.out, HBW.out.setCell (p := ⟨g, k, none⟩) (Nat.le_refl _) _, by simpa using hgs⟩
          case measure => simp [RowKit.intOf]; omega
        · have h2z : ¬ ((x : Int) ≤ 90) := by omega
          have hkeep := midL_keep l k hkl (by rw [hc, hx]; omega)
          have HK := Lib.hid hkeep
          clear hkeep hrow hbw hx hc
          go_wp2
          go_roundw
          case rel => exact ⟨k + 1, by simp, by omega, by rw [HK.out]; exact HROW.out, HBW.out, hgs⟩
          case measure => simp [RowKit.intOf]; omega
      · have h1z : ¬ ((65 : Int) ≤ (x : Int)) := by omega
        have hkeep := midL_keep l k hkl (by rw [hc, hx]; omega)
        have HK := Lib.hid hkeep
        clear hkeep hrow hbw hx hc
        go_wp2
        go_roundw
        case rel => exact ⟨k + 1, by simp, by omega, by rw [HK.out]; exact HROW.out, HBW.out, hgs⟩
        case measure => simp [RowKit.intOf]; omega
    · have hkz : ¬ ((k : Int) < (n : Int)) := by omega
      have hend := back_any wr g cap (midL l k) hrow
      rw [midL_length, HN.out, midL_all l k (by rw [HN.out]; omega)] at hend
      have HE := Lib.hid hend
      clear hend hrow hbw
      go_wp2
      rw [HE.out]
      simp only [Result.andThen]
      rw [Oper.upon_value]
      go_wp2
      go_ret
      exact ⟨rfl, HBW.out⟩
set_option maxHeartbeats 1000000 in
set_option maxRecDepth 100000 in
theorem foldN_any (s : ByteArray) (hs : s.size ≤ 140737488351232) (w : World) :
    Calls Tryz.prog 39 #[.string s] w fun e w' => e = .returned (.string (strL (foldL s.data.toList))) ∧ Below w.heap.size w w' := by
  obtain ⟨l, hl⟩ : ∃ l, s.data.toList = l := ⟨_, rfl⟩
  have hsl : s.size = l.length := by rw [← hl]; exact size_l s
  have hb := below_bytesWorld w s
  have hr := RowU.conv w s
  have hs1 : (bytesWorld w 5 s).heap.size = w.heap.size + 1 := bytesWorld_size w 5 s
  obtain ⟨cap, w1, hcv, hb, hr, hs1⟩ : ∃ cap w1, (convert 9 22 (.string s)).run Tryz.prog w = .ok (.slice (some ⟨w.heap.size, 0, none⟩) l.length cap) w1 ∧ Below w.heap.size w w1 ∧ RowU w1 w.heap.size l ∧ w1.heap.size = w.heap.size + 1 := by
    refine ⟨grownCap w s.size 0 5, bytesWorld w 5 s, ?_, hb, by rw [← hl]; exact hr, hs1⟩
    rw [← hsl]
    exact Lib.run_convert_string_bytes w 9 22 5 s Tryz.underlying9 Tryz.underlying22 Tryz.underlying5
  rw [hl]
  have hll : l.length ≤ 140737488351232 := by omega
  obtain ⟨n, hn⟩ : ∃ n, l.length = n := ⟨_, rfl⟩
  rw [hn] at hcv hll
  generalize hg : w.heap.size = g at *
  have HB := Lib.hid hb
  have HR := Lib.hid hr
  have HC := Lib.hid hcv
  have HN := Lib.hid hn
  clear hb hr hcv hs hsl hl hn hg
  go_enter Tryz.func39, Tryz.ntmps39
  go_wp2
  rw [HC.out]
  simp only [Result.andThen]
  rw [Oper.upon_value]
  go_wp2
  go_loopw [4] (fun i wr => ∃ k : Nat, i = .int .i64 k ∧ k ≤ n ∧ RowU wr g (midL l k) ∧ Below g w wr ∧ g < wr.heap.size) (fun i _ => n - (RowKit.intOf i).toNat)
  case atStart => exact ⟨0, rfl, by omega, by rw [midL_zero]; exact HR.out, HB.out, by omega⟩
  case round =>
    obtain ⟨k, rfl, hk, hrow, hbw, hgs⟩ := hrel
    have HBW := Lib.hid hbw
    have HROW := Lib.hid hrow
    by_cases hkn : k < n
    · have hkz : (k : Int) < (n : Int) := by omega
      have hkl : k < l.length := by rw [HN.out]; exact hkn
      have hkl2 : k < (midL l k).length := by rw [midL_length]; exact hkl
      obtain ⟨c, hc⟩ : ∃ c, l[k] = c := ⟨_, rfl⟩
      have hcell := hrow.cell k hkl2
      have hfree := hrow.free k hkl2
      rw [midL_at l k hkl, hc] at hcell
      obtain ⟨x, hx⟩ : ∃ x, c.toNat = x := ⟨_, rfl⟩
      have hx2 : x < 256 := by rw [← hx]; exact c.toNat_lt
      rw [hx] at hcell
      have hk1 : (k : Int) + 1 ≤ 9223372036854775807 := by omega
      by_cases h1 : 65 ≤ x
      · have h1z : (65 : Int) ≤ (x : Int) := by omega
        by_cases h2 : x ≤ 90
        · have h2z : (x : Int) ≤ 90 := by omega
          have ha1 : IntKind.u8.wrap ((x : Int) + 32) = (x : Int) + 32 := IntWalk.u8_in _ (by omega)
          have hlow : (lowB c).toNat = x + 32 := by rw [lowB_nat c (by omega), hx]
          have hset := hrow.set k hkl2 (lowB c)
          rw [hlow, ← hc, ← midL_step l k hkl] at hset
          have HSET := Lib.hid hset
          have he : ((x + 32 : Nat) : Int) = (x : Int) + 32 := by omega
          rw [he] at HSET
          clear hset hlow hrow hbw hx hc he
          go_wp2
          go_roundw
          case rel => exact ⟨k + 1, by simp, by omega, HSET.out, HBW.out.setCell (p := ⟨g, k, none⟩) (Nat.le_refl _) _, by simpa using hgs⟩
          case measure => simp [RowKit.intOf]; omega
        · have h2z : ¬ ((x : Int) ≤ 90) := by omega
          have hkeep := midL_keep l k hkl (by rw [hc, hx]; omega)
          have HK := Lib.hid hkeep
          clear hkeep hrow hbw hx hc
          go_wp2
          go_roundw
          case rel => exact ⟨k + 1, by simp, by omega, by rw [HK.out]; exact HROW.out, HBW.out, hgs⟩
          case measure => simp [RowKit.intOf]; omega
      · have h1z : ¬ ((65 : Int) ≤ (x : Int)) := by omega
        have hkeep := midL_keep l k hkl (by rw [hc, hx]; omega)
        have HK := Lib.hid hkeep
        clear hkeep hrow hbw hx hc
        go_wp2
        go_roundw
        case rel => exact ⟨k + 1, by simp, by omega, by rw [HK.out]; exact HROW.out, HBW.out, hgs⟩
        case measure => simp [RowKit.intOf]; omega
    · have hkz : ¬ ((k : Int) < (n : Int)) := by omega
      have hend := back_any wr g cap (midL l k) hrow
      rw [midL_length, HN.out, midL_all l k (by rw [HN.out]; omega)] at hend
      have HE := Lib.hid hend
      clear hend hrow hbw
      go_wp2
      rw [HE.out]
      simp only [Result.andThen]
      rw [Oper.upon_value]
      go_wp2
      go_ret
      exact ⟨rfl, HBW.out⟩
theorem FoldN_any (s : ByteArray) (hs : s.size ≤ 140737488351232) (w : World) :
    Calls Tryz.prog 41 #[.string s] w fun e w' => e = .returned (.string (strL (foldL s.data.toList))) ∧ Below w.heap.size w w' := by
  have HS := Lib.hid (smallN_any s hs w)
  go_enter Tryz.func41, Tryz.ntmps41
  go_wp2_with fail
  refine HS.out.mono ?_
  rintro e w2 ⟨rfl, hb⟩
  go_wp2_with fail
  go_ret
  exact ⟨rfl, hb⟩
end
section
set_option linter.unusedVariables false
open Go.RowKit Go.Lib

/-- a slice of fields -/
def TksIn (w : World) (v : Value) (L : List Tk) : Prop :=
  (∀ x ∈ L, x.1.size ≤ 140737488351232 ∧ x.2.size ≤ 140737488351232) ∧ ((L = [] ∧ ∃ a c, v = .slice a 0 c) ∨ ∃ b off c, v = .slice (some ⟨b, off, none⟩) L.length c ∧ b < w.heap.size ∧ L.length ≤ c ∧ ∀ i (h : i < L.length), w.cell? ⟨b, off + i * 2, none⟩ = some (.string L[i].1) ∧ w.cell? ⟨b, off + i * 2 + 1, none⟩ = some (.string L[i].2))
theorem TksIn.shape {w : World} {v : Value} {L : List Tk} (h : TksIn w v L) : ∃ a c, v = .slice a L.length c := by
  rcases h.2 with ⟨rfl, a, c, rfl⟩ | ⟨b, off, c, rfl, _⟩
  · exact ⟨a, c, rfl⟩
  · exact ⟨_, c, rfl⟩
theorem TksIn.at {w : World} {a : Option Addr} {n c : Nat} {L : List Tk} (h : TksIn w (.slice a n c) L) : ∃ b off, ∀ i (hi : i < L.length), a = some ⟨b, off, none⟩ ∧ b < w.heap.size ∧ w.cell? ⟨b, off + i * 2, none⟩ = some (.string L[i].1) ∧ w.cell? ⟨b, off + i * 2 + 1, none⟩ = some (.string L[i].2) := by
  rcases h.2 with ⟨rfl, a, c, e⟩ | ⟨b, off, c', e, h1, h2, h3⟩
  · exact ⟨0, 0, fun i hi => absurd hi (by simp)⟩
  · simp only [Value.slice.injEq] at e
    exact ⟨b, off, fun i hi => ⟨e.1, h1, h3 i hi⟩⟩
theorem TksIn.below {w W : World} {v : Value} {L : List Tk} (h : TksIn w v L) (hb : Below w.heap.size w W) : TksIn W v L := by
  refine ⟨h.1, ?_⟩
  rcases h.2 with h2 | ⟨b, off, c, e, h1, h2, h3⟩
  · exact .inl h2
  · exact .inr ⟨b, off, c, e, by have := hb.size; omega, h2, fun i hi => ⟨(hb.cell (p := ⟨b, off + i * 2, none⟩) h1).trans (h3 i hi).1, (hb.cell (p := ⟨b, off + i * 2 + 1, none⟩) h1).trans (h3 i hi).2⟩⟩

def lowT (s : ByteArray) : ByteArray := strL (foldL s.data.toList)
def hasN (nm : ByteArray) (x : Tk) : Bool := (lowT x.1).toList == (lowT nm).toList
/-- the first field of a name -/
def getS (L : List Tk) (nm : ByteArray) : ByteArray × Bool := match L.find? (hasN nm) with | some x => (x.2, true) | none => (⟨#[]⟩, false)
theorem get_at {L : List Tk} {nm : ByteArray} {k : Nat} (h : k < L.length) (hb : ∀ i (h : i < L.length), i < k → hasN nm L[i] = false) (hk : hasN nm L[k] = true) : getS L nm = (L[k].2, true) := by
  have : L.find? (hasN nm) = some L[k] := by
    rw [List.find?_eq_some_iff_getElem]
    exact ⟨hk, k, h, rfl, fun j hj => by rw [hb j (by omega) hj]; rfl⟩
  unfold getS
  rw [this]
theorem get_none {L : List Tk} {nm : ByteArray} (hb : ∀ i (h : i < L.length), hasN nm L[i] = false) : getS L nm = (⟨#[]⟩, false) := by
  have : L.find? (hasN nm) = none := by
    rw [List.find?_eq_none]
    intro x hx
    obtain ⟨i, hi, rfl⟩ := List.mem_iff_getElem.1 hx
    rw [hb i hi]
    exact Bool.false_ne_true
  unfold getS
  rw [this]

set_option maxRecDepth 100000 in
set_option maxHeartbeats 2000000 in
theorem get_any (v : Value) (L : List Tk) (nm : ByteArray) (w : World) (hL : TksIn w v L) (hn : nm.size ≤ 140737488351232) (hl : L.length ≤ 100000) :
    Calls Tryz.prog 27 #[v, .string nm] w fun e w' => e = .returned (.tuple #[.string (getS L nm).1, .bool (getS L nm).2]) ∧ Below w.heap.size w w' := by
  obtain ⟨a, c, rfl⟩ := hL.shape
  obtain ⟨b, off, hat⟩ := hL.at
  have HAT := Lib.hid hat
  have HSZ := Lib.hid hL.1
  have HF := Lib.hid (fun W => FoldN_any nm hn W)
  clear hL hat hn
  go_enter Tryz.func27, Tryz.ntmps27
  go_wp2_with fail
  refine (HF.out _).mono ?_
  rintro e w1 ⟨rfl, hb1⟩
  have hs1 := hb1.size
  have HB1 := Lib.hid hb1
  clear hb1
  have hlow : strL (foldL nm.data.toList) = lowT nm := rfl
  rw [hlow]
  generalize hlw : lowT nm = lw at *
  have HLW := Lib.hid hlw
  clear hlow hlw
  go_wp2_with fail
  go_loopw [13] (fun i wr => ∃ k : Nat, k ≤ L.length ∧ i = .int .i64 k ∧ Hid (∀ i (h : i < L.length), i < k → hasN nm L[i] = false) ∧ Below w.heap.size w wr) (fun i _ => L.length - (RowKit.intOf i).toNat)
  case atStart => exact ⟨0, Nat.zero_le _, rfl, Lib.hid (fun i _ h => absurd h (by omega)), HB1.out⟩
  case round =>
    obtain ⟨k, hk, rfl, hall, hbel⟩ := hrel
    have hsz := hbel.size
    by_cases hkl : k < L.length
    · obtain ⟨rfl, hbw, hc1, hc2⟩ := HAT.out k hkl
      have kc1 := (hbel.cell (p := ⟨b, off + k * 2, none⟩) hbw).trans hc1
      have kc2 := (hbel.cell (p := ⟨b, off + k * 2 + 1, none⟩) hbw).trans hc2
      have hsx := (HSZ.out _ (List.getElem_mem hkl)).1
      have hfound := get_at hkl hall.out
      have hnext : hasN nm L[k] = false → ∀ i (h : i < L.length), i < k + 1 → hasN nm L[i] = false := fun h i h1 h2 => by
        rcases Nat.lt_or_ge i k with h3 | h3
        · exact hall.out i h1 h3
        · obtain rfl : i = k := by omega
          exact h
      have hki : (k : Int) < (L.length : Int) := by omega
      have HFD := Lib.hid hfound
      have HNX := Lib.hid hnext
      have HBEL := Lib.hid hbel
      clear hc1 hc2 hfound hnext hall hbel
      generalize L[k] = x at *
      obtain ⟨x1, x2⟩ := x
      simp only at kc1 kc2 hsx HFD
      have HFX := Lib.hid (fun W => FoldN_any x1 hsx W)
      clear hsx
      have hhas : hasN nm (x1, x2) = ((strL (foldL x1.data.toList)).toList == lw.toList) := by unfold hasN; rw [HLW.out]; rfl
      cases hcmp : ((strL (foldL x1.data.toList)).toList == lw.toList)
      · have HN2 := Lib.hid (HNX.out (by rw [hhas, hcmp]))
        clear hhas
        go_wp2_with (go_at_call 41; refine (HFX.out _).mono ?_; rintro e w3 ⟨rfl, hb3⟩; have hsz3 := hb3.size; have HB3 := Lib.hid hb3; have hbx1 : w3.cell? ⟨wr.heap.size, 0, none⟩ = some (.string x1) := (hb3.cell (p := ⟨wr.heap.size, 0, none⟩) (by simp)).trans (by rw [cell_of_row _ _ 0 _ 57 (0, 0) (heap_alloc_new wr (.cells #[.string x1, .string x2] 57))]; rfl); clear hb3)
        go_roundw
        case rel => exact ⟨k + 1, by omega, by go_num, HN2, ((HBEL.out.alloc hsz _)).trans (HB3.out.mono (by simp; omega))⟩
        case measure => simp [RowKit.intOf]; omega
      · have HG := Lib.hid (HFD.out (by rw [hhas, hcmp]))
        clear hhas
        go_wp2_with (go_at_call 41; refine (HFX.out _).mono ?_; rintro e w3 ⟨rfl, hb3⟩; have hsz3 := hb3.size; have HB3 := Lib.hid hb3; have hbx2 : w3.cell? ⟨wr.heap.size, 1, none⟩ = some (.string x2) := (hb3.cell (p := ⟨wr.heap.size, 1, none⟩) (by simp)).trans (by rw [cell_of_row _ _ 1 _ 57 (0, 0) (heap_alloc_new wr (.cells #[.string x1, .string x2] 57))]; rfl); clear hb3)
        refine bodyPost_ret (v := .tuple #[.string x2, .bool true]) (by simp [results, Tryz.results27, go_sem]) rfl ?_
        exact ⟨by rw [HG.out], ((HBEL.out.alloc hsz _)).trans (HB3.out.mono (by simp; omega))⟩
    · obtain rfl : k = L.length := by omega
      have HG := Lib.hid (get_none (fun i h => hall.out i h h))
      clear hall
      go_wp2_with fail
      refine bodyPost_ret (v := .tuple #[.string ⟨#[]⟩, .bool false]) (by simp [results, Tryz.results27, go_sem]) rfl ?_
      exact ⟨by rw [HG.out], hbel⟩
set_option maxRecDepth 100000 in
set_option maxHeartbeats 2000000 in
/-- Bytes of two rows of the same bytes -/
theorem bytes_yes (va vb : Value) (l : List Nat) (w : World) (ha : RowB w va l) (hb : RowB w vb l) : Calls Tryz.prog 8 #[va, vb] w fun e w' => e = .returned (.bool true) ∧ w = w' := by
  have h1 := run_str ha
  have h2 := run_str hb
  clear ha hb
  generalize strN l = s at *
  go_enter Tryz.func8, Tryz.ntmps8
  go_wp2_with fail
  go_ret
  exact ⟨ret_eq (by simp), rfl⟩
end
section
set_option linter.unusedVariables false
open Go.RowKit Go.Lib

/-- is a name among others? -/
def amongB (S : List ByteArray) (nm : ByteArray) : Bool := S.any fun s => (strL (foldL s.data.toList)).toList == nm.toList
theorem amongB_snoc (S : List ByteArray) (k : Nat) (h : k < S.length) (nm : ByteArray) : amongB (S.take (k + 1)) nm = (amongB (S.take k) nm || ((strL (foldL S[k].data.toList)).toList == nm.toList)) := by
  unfold amongB
  rw [List.take_succ_eq_append_getElem h, List.any_append]
  simp
/-- which fields are told -/
def keepB (S : List ByteArray) (nt : Bool) (f : Fd) : Bool := amongB S f.nm != nt
def pickF (S : List ByteArray) (nt : Bool) (fs : List Fd) : List Fd := fs.filter (keepB S nt)
def rawF (fs : List Fd) : List Nat := fs.flatMap (·.R)
def onlyS (l : List Nat) (S : List ByteArray) (nt : Bool) : List Nat := rawF (pickF S nt (fieldsS l)) ++ [13, 10]
theorem pickF_snoc (S : List ByteArray) (nt : Bool) (fs : List Fd) (k : Nat) (h : k < fs.length) : rawF (pickF S nt (fs.take (k + 1))) = rawF (pickF S nt (fs.take k)) ++ (if keepB S nt fs[k] = true then fs[k].R else []) := by
  unfold pickF rawF
  rw [List.take_succ_eq_append_getElem h, List.filter_append, List.flatMap_append]
  congr 1
  by_cases e : keepB S nt fs[k] = true
  · rw [List.filter_cons_of_pos e, if_pos e]; simp
  · rw [List.filter_cons_of_neg e, if_neg e]; simp

/-! all fields' lines together are no longer than the text -/
def totR (s : List Fd × Option Fd) : Nat := (rawF (s.1 ++ s.2.toList)).length
theorem stepF_tot (s : List Fd × Option Fd) (wh tx : List Nat) : totR (stepF s wh tx) ≤ totR s + wh.length := by
  unfold stepF
  split
  · cases h : s.2 with
    | none => simp [totR, rawF, h]
    | some f => simp [totR, rawF, h]; omega
  · cases h : nameN tx with
    | none => simp [totR, rawF]
    | some q => simp [totR, rawF]; omega
theorem runF_tot (l : List Nat) (xs : List (Nat × Nat × Nat)) : ∀ s, totR (runF l s xs) ≤ totR s + sumW xs := by
  induction xs with
  | nil => intro s; simp [runF, sumW]
  | cons x xs ih =>
    intro s
    have h1 := ih (stepF s (lineW l x) (lineT l x))
    have h2 := stepF_tot s (lineW l x) (lineT l x)
    have h3 : (lineW l x).length ≤ x.2.1 := by simp [lineW]; omega
    show totR (runF l (stepF s (lineW l x) (lineT l x)) xs) ≤ totR s + (x.2.1 + sumW xs)
    omega
theorem sumW_prefix {a b : List (Nat × Nat × Nat)} (h : a <+: b) : sumW a ≤ sumW b := by
  obtain ⟨c, rfl⟩ := h
  rw [sumW_append]
  omega
theorem fieldsS_tot (l : List Nat) : (rawF (fieldsS l)).length ≤ l.length := by
  have h1 := runF_tot l (headF (linesP 0 l)) ([], none)
  have h2 := sumW_prefix (List.takeWhile_prefix (fun x : Nat × Nat × Nat => x.2.2 != 0) (l := linesP 0 l))
  have h3 := sumW_lines l.length 0 l (Nat.le_refl _)
  have h4 : totR (([] : List Fd), (none : Option Fd)) = 0 := rfl
  have h5 : totR (runF l ([], none) (headF (linesP 0 l))) = (rawF (fieldsS l)).length := rfl
  unfold headF at h1 h5
  omega
theorem rawF_filter (p : Fd → Bool) : ∀ fs : List Fd, (rawF (fs.filter p)).length ≤ (rawF fs).length := by
  intro fs
  induction fs with
  | nil => simp
  | cons f fs ih =>
    have e : rawF (f :: fs) = f.R ++ rawF fs := by simp [rawF]
    rw [e, List.length_append]
    by_cases h : p f = true
    · rw [List.filter_cons_of_pos h]
      have e2 : rawF (f :: fs.filter p) = f.R ++ rawF (fs.filter p) := by simp [rawF]
      rw [e2, List.length_append]
      omega
    · rw [List.filter_cons_of_neg h]
      omega
theorem rawF_take (fs : List Fd) (k : Nat) : (rawF (fs.take k)).length ≤ (rawF fs).length := by
  have e : rawF fs = rawF (fs.take k) ++ rawF (fs.drop k) := by unfold rawF; rw [← List.flatMap_append, List.take_append_drop]
  rw [e, List.length_append]
  omega
theorem pick_len (l : List Nat) (S : List ByteArray) (nt : Bool) (k : Nat) : (rawF (pickF S nt ((fieldsS l).take k))).length ≤ l.length :=
  Nat.le_trans (Nat.le_trans (rawF_filter _ _) (rawF_take _ _)) (fieldsS_tot l)

/-! what is told of the fields that are told -/
/-- a field whose lines, ahead of others, are told as it -/
def Whole (f : Fd) : Prop := ∀ s rest, runR s (f.R ++ rest) = runR (s.1 ++ s.2.toList, some f) rest
/-- one whose lines, ahead of an empty one, are told as it -/
def Last (f : Fd) : Prop := ∀ s, ∃ R', runR s (f.R ++ [13, 10]) = (s.1 ++ s.2.toList, some ⟨f.nm, f.T, R'⟩)
theorem Whole.last {f : Fd} (h : Whole f) : Last f := fun s => ⟨f.R, by
  rw [h]
  have := runR_line (line_end []).1 (s.1 ++ s.2.toList, some f) []
  rw [if_pos (line_end []).2] at this
  simpa using this⟩
def OkS (s : List Fd × Option Fd) : Prop := (∀ f ∈ s.1, Whole f) ∧ ∀ f ∈ s.2, Whole f
theorem step_whole {s : List Fd × Option Fd} {x : List Nat} (h : OkS s) (hx : LineP x) (hne : lineX x ≠ []) : OkS (stepF s x (lineX x)) := by
  unfold stepF
  by_cases hg : goesB (lineX x) = true
  · rw [if_pos hg]
    refine ⟨h.1, fun f hf => ?_⟩
    simp only [Option.mem_def, Option.map_eq_some_iff] at hf
    obtain ⟨f0, h0, rfl⟩ := hf
    intro s' rest
    simp only
    rw [List.append_assoc, h.2 f0 h0, runR_line hx, if_neg hne]
    congr 1
    unfold stepF
    rw [if_pos hg]
    rfl
  · rw [if_neg hg]
    refine ⟨fun f hf => ?_, fun f hf => ?_⟩
    · rcases List.mem_append.1 hf with hf | hf
      · exact h.1 f hf
      · exact h.2 f (by simpa using hf)
    · simp only [Option.mem_def, Option.map_eq_some_iff] at hf
      obtain ⟨q, hq, rfl⟩ := hf
      intro s' rest
      simp only
      rw [runR_line hx, if_neg hne]
      congr 1
      unfold stepF
      rw [if_neg hg, hq]
      rfl
/-- all but the last one are whole -/
theorem run_whole (n : Nat) : ∀ (r : List Nat) (s : List Fd × Option Fd), r.length ≤ n → OkS s → (∀ f ∈ (runR s r).1, Whole f) ∧ ∀ f ∈ (runR s r).2, Last f := by
  induction n with
  | zero =>
    intro r s h hs
    obtain rfl : r = [] := List.eq_nil_of_length_eq_zero (by omega)
    rw [runR]
    exact ⟨hs.1, fun f hf => (hs.2 f (by simpa using hf)).last⟩
  | succ n ih =>
    intro r s h hs
    by_cases hr : r = []
    · subst hr
      rw [runR]
      exact ⟨hs.1, fun f hf => (hs.2 f (by simpa using hf)).last⟩
    · by_cases hlf : aheadN 10 r < r.length
      · obtain ⟨hl, hw⟩ := line_first hlf
        obtain ⟨x, hx⟩ : ∃ x, r.take (wholeN r) = x := ⟨_, rfl⟩
        obtain ⟨r', hr'⟩ : ∃ r', r.drop (wholeN r) = r' := ⟨_, rfl⟩
        have e : r = x ++ r' := by rw [← hx, ← hr', List.take_append_drop]
        rw [hx] at hl hw
        have hxp : 0 < x.length := List.length_pos_iff.2 (line_ne hl)
        clear hx hr' hw hlf
        subst e
        rw [runR_line hl]
        by_cases h0 : lineX x = []
        · rw [if_pos h0]
          exact ⟨hs.1, fun f hf => (hs.2 f hf).last⟩
        · rw [if_neg h0]
          exact ih r' _ (by simp at h; omega) (step_whole hs hl h0)
      · have hw : wholeN r = r.length := by unfold wholeN; rw [if_neg hlf]
        have ht : textN r = r.length := by unfold textN; rw [if_neg hlf]
        have hpos := List.length_pos_iff.2 hr
        have hno : ∀ c ∈ r, c ≠ 10 := by
          intro c hc e
          subst e
          have : aheadN 10 r < r.length := by
            clear hlf hw ht h
            induction r with
            | nil => simp at hc
            | cons y r ih2 =>
              by_cases hy : y = 10
              · subst hy; simp [aheadN]
              · have e2 : aheadN 10 (y :: r) = aheadN 10 r + 1 := by simp [aheadN, hy]
                rw [e2]
                have hc2 : (10 : Nat) ∈ r := by
                  rcases List.mem_cons.1 hc with h | h
                  · exact absurd h.symm hy
                  · exact h
                have hr2 : r ≠ [] := by intro e; subst e; simp at hc2
                have := ih2 hr2 (List.length_pos_iff.2 hr2) hc2
                simp
                omega
          exact hlf this
        obtain ⟨l1, e1⟩ := lineX_crlf hno
        rw [runR, dif_neg hr, ht, if_neg (by omega), hw, List.take_of_length_le (Nat.le_refl _), List.drop_eq_nil_of_le (Nat.le_refl _), runR, dif_pos rfl]
        have hlast : ∀ s' : List Fd × Option Fd, runR s' (r ++ [13, 10]) = stepF s' (r ++ [13, 10]) r := by
          intro s'
          have := runR_line l1 s' []
          rw [List.append_nil, e1, if_neg hr] at this
          rw [this, runR, dif_pos rfl]
        unfold stepF
        by_cases hg : goesB r = true
        · rw [if_pos hg]
          refine ⟨hs.1, fun f hf => ?_⟩
          simp only [Option.mem_def, Option.map_eq_some_iff] at hf
          obtain ⟨f0, h0, rfl⟩ := hf
          intro s'
          simp only
          rw [List.append_assoc, hs.2 f0 h0, hlast]
          unfold stepF
          rw [if_pos hg]
          exact ⟨_, rfl⟩
        · rw [if_neg hg]
          refine ⟨fun f hf => ?_, fun f hf => ?_⟩
          · rcases List.mem_append.1 hf with hf | hf
            · exact hs.1 f hf
            · exact hs.2 f (by simpa using hf)
          · simp only [Option.mem_def, Option.map_eq_some_iff] at hf
            obtain ⟨q, hq, rfl⟩ := hf
            intro s'
            simp only
            rw [hlast]
            unfold stepF
            rw [if_neg hg, hq]
            exact ⟨_, rfl⟩
theorem raw_run : ∀ (A : List Fd) (s : List Fd × Option Fd) (rest : List Nat), (∀ f ∈ A, Whole f) → ∃ s', runR s (rawF A ++ rest) = runR s' rest ∧ s'.1 ++ s'.2.toList = s.1 ++ s.2.toList ++ A := by
  intro A
  induction A with
  | nil => intro s rest _; exact ⟨s, rfl, by simp⟩
  | cons f A ih =>
    intro s rest h
    have e : rawF (f :: A) ++ rest = f.R ++ (rawF A ++ rest) := by simp [rawF]
    rw [e, h f (List.mem_cons_self ..)]
    obtain ⟨s', h1, h2⟩ := ih (s.1 ++ s.2.toList, some f) rest fun g hg => h g (List.mem_cons_of_mem _ hg)
    exact ⟨s', h1, by rw [h2]; simp⟩
/-- Fields of what Only tells -/
theorem told_only (l : List Nat) (S : List ByteArray) (nt : Bool) : toldS (onlyS l S nt) = (pickF S nt (fieldsS l)).map tkOf := by
  obtain ⟨h1, h2⟩ := run_whole l.length l ([], none) (Nat.le_refl _) ⟨by simp, by simp⟩
  unfold toldS onlyS
  rw [fieldsS_eq l]
  obtain ⟨⟨A, op⟩, hs⟩ : ∃ st, runR ([], none) l = st := ⟨_, rfl⟩
  rw [hs] at h1 h2 ⊢
  simp only at h1 h2 ⊢
  have e1 : pickF S nt (A ++ op.toList) = pickF S nt A ++ pickF S nt op.toList := by simp [pickF]
  have e2 : ∀ a b, rawF (a ++ b) = rawF a ++ rawF b := by intro a b; simp [rawF]
  have hA : ∀ f ∈ pickF S nt A, Whole f := fun f hf => h1 f (List.mem_filter.1 hf).1
  obtain ⟨B, hB, hBl⟩ : ∃ B : Option Fd, pickF S nt op.toList = B.toList ∧ ∀ f ∈ B, Last f := by
    cases op with
    | none => exact ⟨none, rfl, by simp⟩
    | some g =>
      by_cases hp : keepB S nt g = true
      · exact ⟨some g, by simp only [pickF, Option.toList]; rw [List.filter_cons_of_pos hp]; rfl, h2⟩
      · exact ⟨none, by simp only [pickF, Option.toList]; rw [List.filter_cons_of_neg hp]; rfl, by simp⟩
  rw [e1, hB, e2, fieldsS_eq, List.append_assoc]
  obtain ⟨s', h3, h4⟩ := raw_run (pickF S nt A) ([], none) (rawF B.toList ++ [13, 10]) hA
  rw [h3]
  replace h4 : s'.1 ++ s'.2.toList = pickF S nt A := by simpa using h4
  cases B with
  | none =>
    have := runR_line (line_end []).1 s' []
    rw [if_pos (line_end []).2, List.append_nil] at this
    rw [show rawF (none : Option Fd).toList ++ [13, 10] = [13, 10] from rfl, this, h4]
    simp
  | some g =>
    obtain ⟨R', h5⟩ := hBl g rfl s'
    rw [show rawF (some g).toList ++ [13, 10] = g.R ++ [13, 10] by simp [rawF], h5, h4]
    simp [tkOf]
end
end Go.Proofs.YtnncldnpkfjhbaaGreatDoor
