/-
  Small letters: the program's Small and the reference's Fold.
-/
import Derived.Test.YtacalpgiopgkkaaDoorS9Mem
import Derived.Test.YtacalpgiopgkkaaDoorS9FlagP
import Derived.Laws.IdiomStrings
import Derived.Lib.ConvBytes
namespace Go.Proofs.YtacalpgiopgkkaaDoor
namespace S9
set_option linter.unusedVariables false
open Go.RowKit Go.Lib

theorem size_l (s : ByteArray) : s.size = s.data.toList.length := rfl
/-- a text of bytes -/
def strL (l : List UInt8) : ByteArray := ⟨l.toArray⟩
theorem lowB_nat (c : UInt8) (h : 65 ≤ c.toNat ∧ c.toNat ≤ 90) : (lowB c).toNat = c.toNat + 32 := by
  simp [lowB, h, UInt8.toNat_add]
  omega

/-- a row of bytes that may be written -/
structure RowU (w : World) (g : Nat) (l : List UInt8) : Prop where
  cell : ∀ j (h : j < l.length), w.cell? ⟨g, j, none⟩ = some (.int .u8 (l[j].toNat : Int))
  free : ∀ j, j < l.length → w.frozen? ⟨g, j, none⟩ = false

theorem RowU.set {w : World} {g : Nat} {l : List UInt8} (k : RowU w g l) (i : Nat) (hi : i < l.length) (c : UInt8) : RowU (w.setCell ⟨g, i, none⟩ (.int .u8 (c.toNat : Int))) g (l.set i c) := by
  refine ⟨fun j h => ?_, fun j h => ?_⟩
  · have h' : j < l.length := by simpa using h
    by_cases e : j = i
    · subst e
      rw [World.cell?_setCell_same _ _ _ (k.cell j h')]
      simp
    · rw [World.cell?_setCell_other _ _ _ _ (fun e2 => e (by have := congrArg Addr.off e2; simp at this; omega)), k.cell j h']
      simp [Ne.symm e]
  · simp only [List.length_set] at h
    rw [World.frozen?_setCell]
    exact k.free j h

theorem RowU.conv (w : World) (s : ByteArray) : RowU (bytesWorld w 5 s) w.heap.size s.data.toList := by
  refine ⟨fun j h => ?_, fun j h => ?_⟩
  · have hj : j < s.size := by rw [size_l]; exact h
    rw [bytesWorld_cell w 5 s j hj]
    simp [List.getD, List.getElem?_eq_getElem h]
  · have hn := bytesWorld_at_new w 5 s
    have hj : j < s.size := by rw [size_l]; exact h
    have hsz : s.size ≤ (bytesCells w 5 s).size := by
      rw [bytesCells, Array.size_append, Array.size_map]
      exact Nat.le_add_right _ _
    rw [World.frozen?, hn]
    simp
    omega

theorem below_bytesWorld (w : World) (s : ByteArray) : Below w.heap.size w (bytesWorld w 5 s) := by
  refine ⟨rfl, rfl, rfl, by rw [bytesWorld_size]; omega, fun i hi => bytesWorld_at_old w 5 s i hi⟩

/-- the bytes behind k rounds -/
def midL (l : List UInt8) (k : Nat) : List UInt8 := (l.take k).map lowB ++ l.drop k
theorem midL_length (l : List UInt8) (k : Nat) : (midL l k).length = l.length := by simp [midL]; omega
theorem midL_zero (l : List UInt8) : midL l 0 = l := by simp [midL]
theorem midL_all (l : List UInt8) (k : Nat) (h : l.length ≤ k) : midL l k = foldL l := by simp [midL, foldL, List.take_of_length_le h, List.drop_eq_nil_of_le h]
theorem midL_at (l : List UInt8) (k : Nat) (h : k < l.length) : (midL l k)[k]'(by rw [midL_length]; exact h) = l[k] := by
  simp [midL, List.getElem_append_right, Nat.min_eq_left (Nat.le_of_lt h)]
theorem midL_step (l : List UInt8) (k : Nat) (h : k < l.length) : midL l (k + 1) = (midL l k).set k (lowB l[k]) := by
  apply List.ext_getElem
  · rw [List.length_set, midL_length, midL_length]
  · intro j h1 h2
    rw [midL_length] at h1
    rw [List.getElem_set]
    by_cases e : k = j
    · subst e
      rw [if_pos rfl]
      simp [midL, List.getElem_append_left, h, Nat.lt_min]
    · rw [if_neg e]
      by_cases hj : j < k
      · simp [midL, List.getElem_append_left, Nat.lt_min, h1, hj, show j < k + 1 by omega]
      · have h3 : k + 1 ≤ j := by omega
        simp [midL, List.getElem_append_right, Nat.min_eq_left (Nat.le_of_lt h), Nat.min_eq_left (show k + 1 ≤ l.length by omega), show k ≤ j by omega, h3]
theorem midL_keep (l : List UInt8) (k : Nat) (h : k < l.length) (hc : ¬ (65 ≤ l[k].toNat ∧ l[k].toNat ≤ 90)) : midL l (k + 1) = midL l k := by
  rw [midL_step l k h, lowB, if_neg hc]
  apply List.ext_getElem
  · simp
  · intro j h1 h2
    rw [List.getElem_set]
    split
    · rename_i e
      subst e
      exact (midL_at l k h).symm
    · rfl

theorem back_any (w : World) (g cap : Nat) (l : List UInt8) (k : RowU w g l) : (convert 40 9 (.slice (some ⟨g, 0, none⟩) l.length cap)).run Tryd.prog w = .ok (.string (strL l)) w :=
  run_convert_bytes_back w 40 9 5 ⟨g, 0, none⟩ cap l Tryd.underlying40 Tryd.underlying5 Tryd.underlying9 (fun j hj => by
    have e : (⟨g, 0, none⟩ : Addr).add j = ⟨g, j, none⟩ := by simp only [Addr.add_lit, Nat.zero_add]
    rw [e]
    exact k.cell j hj)

set_option maxHeartbeats 1000000 in
set_option maxRecDepth 100000 in
theorem smallN_any (s : ByteArray) (hs : s.size ≤ 140737488351232) (w : World) :
    Calls Tryd.prog 24 #[.string s] w fun e w' => e = .returned (.string (strL (foldL s.data.toList))) ∧ Below w.heap.size w w' := by
  obtain ⟨l, hl⟩ : ∃ l, s.data.toList = l := ⟨_, rfl⟩
  have hsl : s.size = l.length := by rw [← hl]; exact size_l s
  have hb := below_bytesWorld w s
  have hr := RowU.conv w s
  have hs1 : (bytesWorld w 5 s).heap.size = w.heap.size + 1 := bytesWorld_size w 5 s
  obtain ⟨cap, w1, hcv, hb, hr, hs1⟩ : ∃ cap w1, (convert 9 40 (.string s)).run Tryd.prog w = .ok (.slice (some ⟨w.heap.size, 0, none⟩) l.length cap) w1 ∧ Below w.heap.size w w1 ∧ RowU w1 w.heap.size l ∧ w1.heap.size = w.heap.size + 1 := by
    refine ⟨grownCap w s.size 0 5, bytesWorld w 5 s, ?_, hb, by rw [← hl]; exact hr, hs1⟩
    rw [← hsl]
    exact Lib.run_convert_string_bytes w 9 40 5 s Tryd.underlying9 Tryd.underlying40 Tryd.underlying5
  rw [hl]
  have hll : l.length ≤ 140737488351232 := by omega
  obtain ⟨n, hn⟩ : ∃ n, l.length = n := ⟨_, rfl⟩
  rw [hn] at hcv hll
  generalize hg : w.heap.size = g at *
  have HB := Lib.hid hb
  have HR := Lib.hid hr
  have HC := Lib.hid hcv
  have HN := Lib.hid hn
  clear hb hr hcv hs hsl hl hn hg
  go_enter Tryd.func24, Tryd.ntmps24
  go_wp2
  rw [HC.out]
  simp only [Result.andThen]
  rw [Oper.upon_value]
  go_wp2
  go_loopw [10] (fun i wr => ∃ k : Nat, i = .int .i64 k ∧ k ≤ n ∧ RowU wr g (midL l k) ∧ Below g w wr ∧ g < wr.heap.size) (fun i _ => n - (RowKit.intOf i).toNat)
  case atStart => exact ⟨0, rfl, by omega, by rw [midL_zero]; exact HR.out, HB.out, by omega⟩
  case round =>
    obtain ⟨k, rfl, hk, hrow, hbw, hgs⟩ := hrel
    have HBW := Lib.hid hbw
    have HROW := Lib.hid hrow
    by_cases hkn : k < n
    · have hkz : (k : Int) < (n : Int) := by omega
      have hkl : k < l.length := by rw [HN.out]; exact hkn
      have hkl2 : k < (midL l k).length := by rw [midL_length]; exact hkl
      obtain ⟨c, hc⟩ : ∃ c, l[k] = c := ⟨_, rfl⟩
      have hcell := hrow.cell k hkl2
      have hfree := hrow.free k hkl2
      rw [midL_at l k hkl, hc] at hcell
      obtain ⟨x, hx⟩ : ∃ x, c.toNat = x := ⟨_, rfl⟩
      have hx2 : x < 256 := by rw [← hx]; exact c.toNat_lt
      rw [hx] at hcell
      have hk1 : (k : Int) + 1 ≤ 9223372036854775807 := by omega
      by_cases h1 : 65 ≤ x
      · have h1z : (65 : Int) ≤ (x : Int) := by omega
        by_cases h2 : x ≤ 90
        · have h2z : (x : Int) ≤ 90 := by omega
          have ha1 : IntKind.u8.wrap ((x : Int) + 97) = (x : Int) + 97 := IntWalk.u8_in _ (by omega)
          have ha2 : IntKind.u8.wrap ((x : Int) + 97 - 65) = (x : Int) + 32 := by rw [IntWalk.u8_in _ (by omega)]; omega
          have hlow : (lowB c).toNat = x + 32 := by rw [lowB_nat c (by omega), hx]
          have hset := hrow.set k hkl2 (lowB c)
          rw [hlow, ← hc, ← midL_step l k hkl] at hset
          have HSET := Lib.hid hset
          have he : ((x + 32 : Nat) : Int) = (x : Int) + 32 := by omega
          rw [he] at HSET
          clear hset hlow hrow hbw hx hc he
          go_wp2
          go_roundw
          case rel => exact ⟨k + 1, by simp, by omega, HSET.out, HBW.out.setCell (p := ⟨g, k, none⟩) (Nat.le_refl _) _, by simpa using hgs⟩
          case measure => simp [RowKit.intOf]; omega
        · have h2z : ¬ ((x : Int) ≤ 90) := by omega
          have hkeep := midL_keep l k hkl (by rw [hc, hx]; omega)
          have HK := Lib.hid hkeep
          clear hkeep hrow hbw hx hc
          go_wp2
          go_roundw
          case rel => exact ⟨k + 1, by simp, by omega, by rw [HK.out]; exact HROW.out, HBW.out, hgs⟩
          case measure => simp [RowKit.intOf]; omega
      · have h1z : ¬ ((65 : Int) ≤ (x : Int)) := by omega
        have hkeep := midL_keep l k hkl (by rw [hc, hx]; omega)
        have HK := Lib.hid hkeep
        clear hkeep hrow hbw hx hc
        go_wp2
        go_roundw
        case rel => exact ⟨k + 1, by simp, by omega, by rw [HK.out]; exact HROW.out, HBW.out, hgs⟩
        case measure => simp [RowKit.intOf]; omega
    · have hkz : ¬ ((k : Int) < (n : Int)) := by omega
      have hend := back_any wr g cap (midL l k) hrow
      rw [midL_length, HN.out, midL_all l k (by rw [HN.out]; omega)] at hend
      have HE := Lib.hid hend
      clear hend hrow hbw
      go_wp2
      rw [HE.out]
      simp only [Result.andThen]
      rw [Oper.upon_value]
      go_wp2
      go_ret
      exact ⟨rfl, HBW.out⟩
end S9
end Go.Proofs.YtacalpgiopgkkaaDoor
