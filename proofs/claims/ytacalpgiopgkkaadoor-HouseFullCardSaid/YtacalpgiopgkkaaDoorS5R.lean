/-
  utf7.Right at every text; the digits of a number below a hundred.
-/
import Derived.Shelf.Unicode.DecodeSlow
import Derived.Shelf.Unicode.ValidAny
import Derived.Ground.NamesProg
import Derived.Test.YtacalpgiopgkkaaDoorProg
import Derived.Test.YtacalpgiopgkkaaDoorHse
import Derived.Lib.ValidLaws
import Derived.Lib.RuneBytes
import Derived.Laws.IdiomStrings
import Derived.Laws.EntriesVeiled
import Derived.Lib.ConvBytes
import Derived.Lib.Builder
import Derived.Lib.FrozenHead2
import Derived.Lib.OthersKept
import Derived.BigCall

section
namespace Go.Proofs
open Go.Shelf
def Tryd.lays196_ren : Go.Shelf.Ren := ⟨fun | 196 => 23 | 259 => 36 | n => n, fun | 9 => 9 | 4 => 4 | 3 => 3 | 5 => 5 | 12 => 12 | 119 => 83 | 0 => 0 | 46 => 25 | 139 => 86 | 138 => 85 | 53 => 32 | n => n, fun | 3 => 0 | 4 => 1 | n => n⟩
theorem Tryd.lays196 : Go.Proofs.Lays.n196 Tryd.prog Tryd.lays196_ren := {
  mixed := by kernel_rfl
  f196 := Tryd.func23.trans (congrArg some (by kernel_rfl))
  f259 := Tryd.func36.trans (congrArg some (by kernel_rfl))
  t0 := Tryd.underlying0
  a0 := Tryd.isAgg0
  z0 := Tryd.sizeOf0
  v0 := Tryd.zeroValue0
  t3 := Tryd.underlying3
  a3 := Tryd.isAgg3
  z3 := Tryd.sizeOf3
  v3 := Tryd.zeroValue3
  t4 := Tryd.underlying4
  a4 := Tryd.isAgg4
  z4 := Tryd.sizeOf4
  v4 := Tryd.zeroValue4
  t5 := Tryd.underlying5
  a5 := Tryd.isAgg5
  z5 := Tryd.sizeOf5
  v5 := Tryd.zeroValue5
  t9 := Tryd.underlying9
  a9 := Tryd.isAgg9
  z9 := Tryd.sizeOf9
  v9 := Tryd.zeroValue9
  t12 := Tryd.underlying12
  a12 := Tryd.isAgg12
  z12 := Tryd.sizeOf12
  v12 := Tryd.zeroValue12
  t46 := Tryd.underlying25
  a46 := Tryd.isAgg25
  z46 := Tryd.sizeOf25
  v46 := Tryd.zeroValue25
  t53 := Tryd.underlying32
  a53 := Tryd.isAgg32
  z53 := Tryd.sizeOf32
  v53 := Tryd.zeroValue32
  t119 := Tryd.underlying83
  a119 := Tryd.isAgg83
  z119 := Tryd.sizeOf83
  t138 := Tryd.underlying85
  a138 := Tryd.isAgg85
  z138 := Tryd.sizeOf85
  v138 := Tryd.zeroValue85
  t139 := Tryd.underlying86
  a139 := Tryd.isAgg86
  z139 := Tryd.sizeOf86
  v139 := Tryd.zeroValue86
  g3 := by kernel_rfl
  g4 := by kernel_rfl }
open Go.RowKit in
/-- utf8.ValidString at every string. -/
theorem Tryd.utf8_ValidString (s : ByteArray) (w : World) (hs : s.size ≤ 9223372036854775807) (hT : Lib.Utf8Tabs (Tryd.lays196_ren.g 3) (Tryd.lays196_ren.g 4) w) :
    Calls Tryd.prog 23 #[.string s] w fun e w' => e = .returned (.bool (Lib.validD s.data.toList)) ∧ Below w.heap.size w w' := Any.utf8_ValidString Tryd.lays196 s w hs hT
end Go.Proofs
end

section
namespace Go.Proofs.YtacalpgiopgkkaaDoor
namespace S5
set_option linter.unusedVariables false
open Go.RowKit Go.Lib

/-! ### the runes of a text -/
def runesF : Nat → List UInt8 → List Nat
  | 0, _ => []
  | f + 1, l => if l = [] then [] else (decodeL l).1 :: runesF f (l.drop (decodeL l).2)
def runesD (l : List UInt8) : List Nat := runesF l.length l

theorem runesF_nil : ∀ f, runesF f [] = []
  | 0 => rfl
  | f + 1 => by simp [runesF]
theorem runesF_fuel : ∀ (n m : Nat) (l : List UInt8), l.length ≤ n → l.length ≤ m → runesF n l = runesF m l
  | 0, m, l, hn, _ => by
    obtain rfl : l = [] := List.eq_nil_of_length_eq_zero (by omega)
    rw [runesF_nil, runesF_nil]
  | n + 1, 0, l, _, hm => by
    obtain rfl : l = [] := List.eq_nil_of_length_eq_zero (by omega)
    rw [runesF_nil, runesF_nil]
  | n + 1, m + 1, l, hn, hm => by
    unfold runesF
    by_cases hne : l = []
    · simp [hne]
    · have hw := decodeL_width l
      have hl : 0 < l.length := List.length_pos_iff.2 hne
      rw [if_neg hne, if_neg hne, runesF_fuel n m (l.drop (decodeL l).2) (by rw [List.length_drop]; omega) (by rw [List.length_drop]; omega)]
theorem runesD_nil : runesD [] = [] := rfl
theorem runesD_step (l : List UInt8) (hne : l ≠ []) : runesD l = (decodeL l).1 :: runesD (l.drop (decodeL l).2) := by
  have hl : 0 < l.length := List.length_pos_iff.2 hne
  have hw := decodeL_width l
  obtain ⟨n, hn⟩ : ∃ n, l.length = n + 1 := ⟨l.length - 1, by omega⟩
  unfold runesD
  rw [hn]
  show (if l = [] then [] else _) = _
  rw [if_neg hne, runesF_fuel n (l.drop (decodeL l).2).length _ (by rw [List.length_drop]; omega) (Nat.le_refl _)]
def strL (l : List UInt8) : ByteArray := ⟨l.toArray⟩
/-- the two tables of the library's, where they lie -/
def Tabs (w : World) : Prop := Lib.Utf8Tabs 0 1 w
theorem Tabs.size {w : World} (h : Tabs w) : 2 ≤ w.heap.size := by
  have h1 := (h.2 0 (by decide)).1
  unfold World.cell? at h1
  rcases Nat.lt_or_ge 1 w.heap.size with h' | h'
  · exact h'
  · simp [Array.getElem?_eq_none (show w.heap.size ≤ 1 from h')] at h1
theorem Tabs.below {w w' : World} {S : Nat} (h : Tabs w) (hb : Below S w w') (hS : 2 ≤ S) : Tabs w' := by
  refine ⟨fun c hc => ?_, fun i hi => ⟨?_, ?_⟩⟩
  · exact (hb.cell (p := ⟨0, c, none⟩) (by simp; omega)).trans (h.1 c hc)
  · exact (hb.cell (p := ⟨1, 2 * i, none⟩) (by simp; omega)).trans (h.2 i hi).1
  · exact (hb.cell (p := ⟨1, 2 * i + 1, none⟩) (by simp; omega)).trans (h.2 i hi).2

def lowB (c : UInt8) : UInt8 := if 65 ≤ c.toNat ∧ c.toNat ≤ 90 then c + 32 else c
def foldL (l : List UInt8) : List UInt8 := l.map lowB
theorem lowB_nat (c : UInt8) (h : 65 ≤ c.toNat ∧ c.toNat ≤ 90) : (lowB c).toNat = c.toNat + 32 := by
  simp [lowB, h, UInt8.toNat_add]
  omega

/-- a row of bytes that may be written -/
structure RowU (w : World) (g : Nat) (l : List UInt8) : Prop where
  cell : ∀ j (h : j < l.length), w.cell? ⟨g, j, none⟩ = some (.int .u8 (l[j].toNat : Int))
  free : ∀ j, j < l.length → w.frozen? ⟨g, j, none⟩ = false

theorem RowU.set {w : World} {g : Nat} {l : List UInt8} (k : RowU w g l) (i : Nat) (hi : i < l.length) (c : UInt8) : RowU (w.setCell ⟨g, i, none⟩ (.int .u8 (c.toNat : Int))) g (l.set i c) := by
  refine ⟨fun j h => ?_, fun j h => ?_⟩
  · have h' : j < l.length := by simpa using h
    by_cases e : j = i
    · subst e
      rw [World.cell?_setCell_same _ _ _ (k.cell j h')]
      simp
    · rw [World.cell?_setCell_other _ _ _ _ (fun e2 => e (by have := congrArg Addr.off e2; simp at this; omega)), k.cell j h']
      simp [Ne.symm e]
  · simp only [List.length_set] at h
    rw [World.frozen?_setCell]
    exact k.free j h

theorem RowU.conv (w : World) (s : ByteArray) : RowU (bytesWorld w 5 s) w.heap.size s.data.toList := by
  refine ⟨fun j h => ?_, fun j h => ?_⟩
  · have hj : j < s.size := by rw [Lib.size_eq]; exact h
    rw [bytesWorld_cell w 5 s j hj]
    simp [List.getD, List.getElem?_eq_getElem h]
  · have hn := bytesWorld_at_new w 5 s
    have hj : j < s.size := by rw [Lib.size_eq]; exact h
    have hsz : s.size ≤ (bytesCells w 5 s).size := by
      rw [bytesCells, Array.size_append, Array.size_map]
      exact Nat.le_add_right _ _
    rw [World.frozen?, hn]
    simp
    omega

theorem below_bytesWorld (w : World) (s : ByteArray) : Below w.heap.size w (bytesWorld w 5 s) := by
  refine ⟨rfl, rfl, rfl, by rw [bytesWorld_size]; omega, fun i hi => bytesWorld_at_old w 5 s i hi⟩

/-- the bytes behind k rounds -/
def midL (l : List UInt8) (k : Nat) : List UInt8 := (l.take k).map lowB ++ l.drop k
theorem midL_length (l : List UInt8) (k : Nat) : (midL l k).length = l.length := by simp [midL]; omega
theorem midL_zero (l : List UInt8) : midL l 0 = l := by simp [midL]
theorem midL_all (l : List UInt8) (k : Nat) (h : l.length ≤ k) : midL l k = foldL l := by simp [midL, foldL, List.take_of_length_le h, List.drop_eq_nil_of_le h]
theorem midL_at (l : List UInt8) (k : Nat) (h : k < l.length) : (midL l k)[k]'(by rw [midL_length]; exact h) = l[k] := by
  simp [midL, List.getElem_append_right, Nat.min_eq_left (Nat.le_of_lt h)]
theorem midL_step (l : List UInt8) (k : Nat) (h : k < l.length) : midL l (k + 1) = (midL l k).set k (lowB l[k]) := by
  apply List.ext_getElem
  · rw [List.length_set, midL_length, midL_length]
  · intro j h1 h2
    rw [midL_length] at h1
    rw [List.getElem_set]
    by_cases e : k = j
    · subst e
      rw [if_pos rfl]
      simp [midL, List.getElem_append_left, h, Nat.lt_min]
    · rw [if_neg e]
      by_cases hj : j < k
      · simp [midL, List.getElem_append_left, Nat.lt_min, h1, hj, show j < k + 1 by omega]
      · have h3 : k + 1 ≤ j := by omega
        simp [midL, List.getElem_append_right, Nat.min_eq_left (Nat.le_of_lt h), Nat.min_eq_left (show k + 1 ≤ l.length by omega), show k ≤ j by omega, h3]
theorem midL_keep (l : List UInt8) (k : Nat) (h : k < l.length) (hc : ¬ (65 ≤ l[k].toNat ∧ l[k].toNat ≤ 90)) : midL l (k + 1) = midL l k := by
  rw [midL_step l k h, lowB, if_neg hc]
  apply List.ext_getElem
  · simp
  · intro j h1 h2
    rw [List.getElem_set]
    split
    · rename_i e
      subst e
      exact (midL_at l k h).symm
    · rfl

theorem back_any (w : World) (g cap : Nat) (l : List UInt8) (k : RowU w g l) : (convert 40 9 (.slice (some ⟨g, 0, none⟩) l.length cap)).run Tryd.prog w = .ok (.string (strL l)) w :=
  run_convert_bytes_back w 40 9 5 ⟨g, 0, none⟩ cap l Tryd.underlying40 Tryd.underlying5 Tryd.underlying9 (fun j hj => by
    have e : (⟨g, 0, none⟩ : Addr).add j = ⟨g, j, none⟩ := by simp only [Addr.add_lit, Nat.zero_add]
    rw [e]
    exact k.cell j hj)

set_option maxHeartbeats 1000000 in
set_option maxRecDepth 100000 in
theorem small_any (s : ByteArray) (hs : s.size ≤ 100000) (w : World) :
    Calls Tryd.prog 24 #[.string s] w fun e w' => e = .returned (.string (strL (foldL s.data.toList))) ∧ Below w.heap.size w w' := by
  obtain ⟨l, hl⟩ : ∃ l, s.data.toList = l := ⟨_, rfl⟩
  have hsl : s.size = l.length := by rw [← hl]; exact Lib.size_eq s
  have hb := below_bytesWorld w s
  have hr := RowU.conv w s
  have hs1 : (bytesWorld w 5 s).heap.size = w.heap.size + 1 := bytesWorld_size w 5 s
  obtain ⟨cap, w1, hcv, hb, hr, hs1⟩ : ∃ cap w1, (convert 9 40 (.string s)).run Tryd.prog w = .ok (.slice (some ⟨w.heap.size, 0, none⟩) l.length cap) w1 ∧ Below w.heap.size w w1 ∧ RowU w1 w.heap.size l ∧ w1.heap.size = w.heap.size + 1 := by
    refine ⟨grownCap w s.size 0 5, bytesWorld w 5 s, ?_, hb, by rw [← hl]; exact hr, hs1⟩
    rw [← hsl]
    exact Lib.run_convert_string_bytes w 9 40 5 s Tryd.underlying9 Tryd.underlying40 Tryd.underlying5
  rw [hl]
  have hll : l.length ≤ 100000 := by omega
  obtain ⟨n, hn⟩ : ∃ n, l.length = n := ⟨_, rfl⟩
  rw [hn] at hcv hll
  generalize hg : w.heap.size = g at *
  have HB := Lib.hid hb
  have HR := Lib.hid hr
  have HC := Lib.hid hcv
  have HN := Lib.hid hn
  clear hb hr hcv hs hsl hl hn hg
  go_enter Tryd.func24, Tryd.ntmps24
  go_wp2
  rw [HC.out]
  simp only [Result.andThen]
  rw [Oper.upon_value]
  go_wp2
  go_loopw [10] (fun i wr => ∃ k : Nat, i = .int .i64 k ∧ k ≤ n ∧ RowU wr g (midL l k) ∧ Below g w wr ∧ g < wr.heap.size) (fun i _ => n - (RowKit.intOf i).toNat)
  case atStart => exact ⟨0, rfl, by omega, by rw [midL_zero]; exact HR.out, HB.out, by omega⟩
  case round =>
    obtain ⟨k, rfl, hk, hrow, hbw, hgs⟩ := hrel
    have HBW := Lib.hid hbw
    have HROW := Lib.hid hrow
    by_cases hkn : k < n
    · have hkz : (k : Int) < (n : Int) := by omega
      have hkl : k < l.length := by rw [HN.out]; exact hkn
      have hkl2 : k < (midL l k).length := by rw [midL_length]; exact hkl
      obtain ⟨c, hc⟩ : ∃ c, l[k] = c := ⟨_, rfl⟩
      have hcell := hrow.cell k hkl2
      have hfree := hrow.free k hkl2
      rw [midL_at l k hkl, hc] at hcell
      obtain ⟨x, hx⟩ : ∃ x, c.toNat = x := ⟨_, rfl⟩
      have hx2 : x < 256 := by rw [← hx]; exact c.toNat_lt
      rw [hx] at hcell
      have hk1 : (k : Int) + 1 ≤ 9223372036854775807 := by omega
      by_cases h1 : 65 ≤ x
      · have h1z : (65 : Int) ≤ (x : Int) := by omega
        by_cases h2 : x ≤ 90
        · have h2z : (x : Int) ≤ 90 := by omega
          have ha1 : IntKind.u8.wrap ((x : Int) + 97) = (x : Int) + 97 := IntWalk.u8_in _ (by omega)
          have ha2 : IntKind.u8.wrap ((x : Int) + 97 - 65) = (x : Int) + 32 := by rw [IntWalk.u8_in _ (by omega)]; omega
          have hlow : (lowB c).toNat = x + 32 := by rw [lowB_nat c (by omega), hx]
          have hset := hrow.set k hkl2 (lowB c)
          rw [hlow, ← hc, ← midL_step l k hkl] at hset
          have HSET := Lib.hid hset
          have he : ((x + 32 : Nat) : Int) = (x : Int) + 32 := by omega
          rw [he] at HSET
          clear hset hlow hrow hbw hx hc he
          go_wp2
          go_roundw
          case rel => exact ⟨k + 1, by simp, by omega, HSET.out, HBW.out.setCell (p := ⟨g, k, none⟩) (Nat.le_refl _) _, by simpa using hgs⟩
          case measure => simp [RowKit.intOf]; omega
        · have h2z : ¬ ((x : Int) ≤ 90) := by omega
          have hkeep := midL_keep l k hkl (by rw [hc, hx]; omega)
          have HK := Lib.hid hkeep
          clear hkeep hrow hbw hx hc
          go_wp2
          go_roundw
          case rel => exact ⟨k + 1, by simp, by omega, by rw [HK.out]; exact HROW.out, HBW.out, hgs⟩
          case measure => simp [RowKit.intOf]; omega
      · have h1z : ¬ ((65 : Int) ≤ (x : Int)) := by omega
        have hkeep := midL_keep l k hkl (by rw [hc, hx]; omega)
        have HK := Lib.hid hkeep
        clear hkeep hrow hbw hx hc
        go_wp2
        go_roundw
        case rel => exact ⟨k + 1, by simp, by omega, by rw [HK.out]; exact HROW.out, HBW.out, hgs⟩
        case measure => simp [RowKit.intOf]; omega
    · have hkz : ¬ ((k : Int) < (n : Int)) := by omega
      have hend := back_any wr g cap (midL l k) hrow
      rw [midL_length, HN.out, midL_all l k (by rw [HN.out]; omega)] at hend
      have HE := Lib.hid hend
      clear hend hrow hbw
      go_wp2
      rw [HE.out]
      simp only [Result.andThen]
      rw [Oper.upon_value]
      go_wp2
      go_ret
      exact ⟨rfl, HBW.out⟩
end S5
end Go.Proofs.YtacalpgiopgkkaaDoor
end

section
namespace Go.Proofs.YtacalpgiopgkkaaDoor
namespace S5
set_option linter.unusedVariables false
open Go.RowKit Go.Lib

/-- a sign that no name has, behind the sign a -/
def badC (a r : Nat) : Bool := decide (r < 32) || (r == 127) || (r == 37) || (r == 42) || ((r == 47) && (a == 47))
def badR : Nat → List Nat → Bool
  | _, [] => false
  | a, r :: rs => badC a r || badR r rs
def inbS : List UInt8 := [73, 78, 66, 79, 88]
def inbL : List UInt8 := [105, 110, 98, 111, 120]
def lastB (l : List UInt8) : Bool := (l == inbS) || (foldL l != inbL)
def rightS (l : List UInt8) : Bool :=
  if validD l = false ∨ l.length = 0 ∨ 60 < l.length then false
  else if (l.getD 0 0).toNat = 47 ∨ (l.getD (l.length - 1) 0).toNat = 47 then false
  else !badR 32 (runesD l) && lastB l

theorem str_at (s : ByteArray) (k : Nat) (h : k < s.size) : (s[k]'h).toNat = (s.data.toList.getD k 0).toNat := by
  have h2 : k < s.data.toList.length := by rw [← Lib.size_eq]; exact h
  simp only [List.getD, List.getElem?_eq_getElem h2, Option.getD_some]
  rfl
theorem str_eq (s : ByteArray) (l : List UInt8) : (s = ⟨l.toArray⟩) ↔ (s.data.toList = l) := by
  constructor
  · rintro rfl; rfl
  · intro h
    rw [← h]

theorem strL_toList (l : List UInt8) : (strL l).toList = l := by rw [Lib.toList_data]; rfl

set_option maxHeartbeats 2000000 in
set_option maxRecDepth 100000 in
theorem right_any (s : ByteArray) (hs : s.size ≤ 9223372036854775807) (w : World) (hT : Tabs w) :
    Calls Tryd.prog 14 #[.string s] w fun e w' => e = .returned (.bool (rightS s.data.toList)) ∧ Below w.heap.size w w' := by
  have hv := Tryd.utf8_ValidString s w hs hT
  obtain ⟨l, hl⟩ : ∃ l, s.data.toList = l := ⟨_, rfl⟩
  have hsl : s.size = l.length := by rw [← hl]; exact Lib.size_eq s
  rw [hl] at hv ⊢
  obtain ⟨R, hR⟩ : ∃ R, rightS l = R := ⟨_, rfl⟩
  rw [hR]
  unfold rightS at hR
  cases hval : validD l with
  | false =>
    rw [hval] at hv
    have hRf : false = R := by rw [← hR, if_pos (Or.inl hval)]
    clear hl hsl hR hval
    subst hRf
    go_enter Tryd.func14, Tryd.ntmps14
    go_wp2_with (go_at_call 23; refine hv.mono ?_; rintro e w1 ⟨rfl, hb1⟩)
    all_goals exact bodyPost_ret (v := .bool false) (by simp [results, Tryd.results14, go_sem]) rfl ⟨rfl, hb1⟩
  | true =>
    rw [hval] at hv
    by_cases h0 : l.length = 0
    · have hz0 : s.size = 0 := by omega
      have hRf : false = R := by rw [← hR, if_pos (Or.inr (Or.inl h0))]
      clear hl hsl h0 hR hval
      subst hRf
      go_enter Tryd.func14, Tryd.ntmps14
      go_wp2_with (go_at_call 23; refine hv.mono ?_; rintro e w1 ⟨rfl, hb1⟩)
      all_goals exact bodyPost_ret (v := .bool false) (by simp [results, Tryd.results14, go_sem]) rfl ⟨rfl, hb1⟩
    · by_cases h60 : 60 < l.length
      · have hz0 : ¬ (s.size = 0) := by omega
        have hz60 : (60 : Int) < (s.size : Int) := by omega
        have hRf : false = R := by rw [← hR, if_pos (Or.inr (Or.inr h60))]
        clear hl hsl h0 h60 hR hval
        subst hRf
        go_enter Tryd.func14, Tryd.ntmps14
        go_wp2_with (go_at_call 23; refine hv.mono ?_; rintro e w1 ⟨rfl, hb1⟩)
        all_goals exact bodyPost_ret (v := .bool false) (by simp [results, Tryd.results14, go_sem]) rfl ⟨rfl, hb1⟩
      · rw [if_neg (fun h => by
          rcases h with h | h | h
          · rw [hval] at h; cases h
          · exact h0 h
          · exact h60 h)] at hR
        obtain ⟨m, hm⟩ : ∃ m, s.size = m + 1 := ⟨s.size - 1, by omega⟩
        have hm60 : m < 60 := by omega
        have hls : 0 < s.size := by omega
        have hlm2 : m < s.size := by omega
        have hx0 := str_at s 0 hls
        have hx1 := str_at s m hlm2
        rw [hl] at hx0 hx1
        have hlm : l.length - 1 = m := by omega
        rw [hlm] at hR
        obtain ⟨x, hx⟩ : ∃ x, (l.getD 0 0).toNat = x := ⟨_, rfl⟩
        obtain ⟨y, hy⟩ : ∃ y, (l.getD m 0).toNat = y := ⟨_, rfl⟩
        rw [hx] at hx0 hR
        rw [hy] at hx1 hR
        have HL := Lib.hid (And.intro hl hsl)
        clear hl hsl hx hy hlm h0 h60 hval
        have hmz : ((m + 1 : Nat) : Int) - 1 = (m : Int) := by omega
        have hz60 : decide ((60 : Int) < (m : Int) + 1) = false := decide_eq_false (by omega)
        have hz00 : ((m : Int) + 1 == 0) = false := by simp; omega
        by_cases hx47 : x = 47
        · have hRf : false = R := by rw [← hR, if_pos (Or.inl hx47)]
          subst hRf
          subst hx47
          clear hR
          go_enter Tryd.func14, Tryd.ntmps14
          go_wp2_with (go_at_call 23; refine hv.mono ?_; rintro e w1 ⟨rfl, hb1⟩)
          all_goals exact bodyPost_ret (v := .bool false) (by simp [results, Tryd.results14, go_sem]) rfl ⟨rfl, hb1⟩
        · have hxz : ((x : Int) == 47) = false := by simp; omega
          by_cases hy47 : y = 47
          · have hRf : false = R := by rw [← hR, if_pos (Or.inr hy47)]
            subst hRf
            subst hy47
            clear hR
            go_enter Tryd.func14, Tryd.ntmps14
            go_wp2_with (go_at_call 23; refine hv.mono ?_; rintro e w1 ⟨rfl, hb1⟩)
            all_goals exact bodyPost_ret (v := .bool false) (by simp [results, Tryd.results14, go_sem]) rfl ⟨rfl, hb1⟩
          · have hyz : ((y : Int) == 47) = false := by simp; omega
            rw [if_neg (by omega)] at hR
            have HR := Lib.hid hR
            clear hR
            go_enter Tryd.func14, Tryd.ntmps14
            go_wp2_with (go_at_call 23; refine hv.mono ?_; rintro e w1 ⟨rfl, hb1⟩; have HB := Lib.hid hb1; have hsz1 := hb1.size; clear hb1)
            obtain ⟨p, hp⟩ : ∃ p, w1.heap.size = p := ⟨_, rfl⟩
            rw [hp]
            have HP := Lib.hid hp
            rw [hp] at hsz1
            go_loopw [3] (fun i wr => ∃ (pos a : Nat), i = .int .i32 a ∧ wr.heap[p]? = some (.stringIter s pos) ∧ Below p w1 wr ∧ badR a (runesD (l.drop pos)) = badR 32 (runesD l) ∧ pos ≤ m + 1 ∧ a ≤ 1114111) (fun _ wr => s.size - wr.iterPos p)
            case atStart =>
              refine ⟨0, 32, rfl, ?_, ?_, by simp, by omega, by omega⟩
              · have := World.iter_heap w1 s 0
                rw [hp] at this
                exact this
              · exact (Below.refl _ _).alloc (by omega) _
            case round =>
              obtain ⟨pos, a, rfl, hit, hbw, hf, hps, ha⟩ := hrel
              have hsz2 : p < wr.heap.size := (Array.getElem?_eq_some_iff.1 hit).1
              have hdd := decodeL_drop s pos
              rw [HL.out.1] at hdd
              by_cases hpp : pos < s.size
              · have hnx : ∀ ty, (Instr.next (.pointer (some ⟨p, 0, none⟩)) true ty).run Tryd.prog wr = _ := fun ty => Lib.run_next_any_at wr p s pos ty hit hpp
                have hne : l.drop pos ≠ [] := by
                  intro e
                  have := congrArg List.length e
                  rw [List.length_drop, ← HL.out.2] at this
                  simp at this
                  omega
                have hru := decodeL_rune (l.drop pos)
                have hwl := decodeL_le (l.drop pos) hne
                have hw1 := decodeL_width (l.drop pos)
                rw [List.length_drop, ← HL.out.2] at hwl
                rw [runesD_step _ hne, List.drop_drop] at hf
                rw [hdd] at hru hwl hw1 hf
                obtain ⟨r, hr⟩ : ∃ r, (Utf8.decode s pos).1 = r := ⟨_, rfl⟩
                obtain ⟨D, hD⟩ : ∃ D, (Utf8.decode s pos).2 = D := ⟨_, rfl⟩
                rw [hr] at hru hf
                rw [hD] at hwl hw1 hf
                rw [hr, hD] at hnx
                have hit2 := Lib.iterAt_heap wr p s pos (pos + D) hit
                have hbw2 := Lib.below_iterAt hbw (k := p) (by omega) s (pos + D)
                have HS2 := Lib.hid (And.intro hit2 hbw2)
                have HF := Lib.hid hf
                clear hit2 hbw2 hf hdd hr hD
                cases hbad : badC a r with
                | true =>
                  have hRf : false = R := by rw [← HR.out, ← HF.out]; simp [badR, hbad]
                  subst hRf
                  have hq1 : ∀ q : Nat, q ≠ r → ((r : Int) == (q : Int)) = false := fun q hq => by simp; omega
                  have fin : ∀ w4 : World, w4 = wr.iterAt p s (pos + D) → Below w.heap.size w w4 := fun w4 e => by
                    subst e
                    exact HB.out.trans (HS2.out.2.mono hsz1)
                  have HFN := Lib.hid fin
                  clear fin
                  by_cases h32 : r < 32
                  · have g1 : decide ((r : Int) < 32) = true := decide_eq_true (by omega)
                    clear hbad hq1
                    go_wp2
                    exact bodyPost_ret (v := .bool false) (by simp [results, Tryd.results14, go_sem]) rfl ⟨rfl, HFN.out _ rfl⟩
                  · have g1 : decide ((r : Int) < 32) = false := decide_eq_false (by omega)
                    by_cases h127 : r = 127
                    · subst h127
                      clear hbad hq1
                      go_wp2
                      exact bodyPost_ret (v := .bool false) (by simp [results, Tryd.results14, go_sem]) rfl ⟨rfl, HFN.out _ rfl⟩
                    · have g2 : ((r : Int) == 127) = false := by simp; omega
                      by_cases h37 : r = 37
                      · subst h37
                        clear hbad hq1
                        go_wp2
                        exact bodyPost_ret (v := .bool false) (by simp [results, Tryd.results14, go_sem]) rfl ⟨rfl, HFN.out _ rfl⟩
                      · have g3 : ((r : Int) == 37) = false := by simp; omega
                        by_cases h42 : r = 42
                        · subst h42
                          clear hbad hq1
                          go_wp2
                          exact bodyPost_ret (v := .bool false) (by simp [results, Tryd.results14, go_sem]) rfl ⟨rfl, HFN.out _ rfl⟩
                        · have g4 : ((r : Int) == 42) = false := by simp; omega
                          have h47 : r = 47 ∧ a = 47 := by
                            simp [badC, h32, h127, h37, h42] at hbad
                            exact hbad
                          obtain ⟨rfl, rfl⟩ := h47
                          clear hbad hq1
                          go_wp2
                          exact bodyPost_ret (v := .bool false) (by simp [results, Tryd.results14, go_sem]) rfl ⟨rfl, HFN.out _ rfl⟩
                | false =>
                  have hbad' := hbad
                  simp only [badC, Bool.or_eq_false_iff, decide_eq_false_iff_not, beq_eq_false_iff_ne] at hbad'
                  obtain ⟨⟨⟨⟨h32, h127⟩, h37⟩, h42⟩, h47⟩ := hbad'
                  have g1 : decide ((r : Int) < 32) = false := decide_eq_false (by omega)
                  have g2 : ((r : Int) == 127) = false := by simp; omega
                  have g3 : ((r : Int) == 37) = false := by simp; omega
                  have g4 : ((r : Int) == 42) = false := by simp; omega
                  have hf2 : badR r (runesD (l.drop (pos + D))) = badR 32 (runesD l) := by
                    rw [← HF.out]
                    simp [badR, hbad]
                  have HF2 := Lib.hid hf2
                  clear hbad hf2 h32 h127 h37 h42
                  by_cases h47r : r = 47
                  · have h47a : a ≠ 47 := by
                      intro e
                      subst e h47r
                      simp at h47
                    have g5 : ((a : Int) == 47) = false := by simp; omega
                    subst h47r
                    clear h47
                    go_wp2
                    go_roundw
                    case rel => exact ⟨pos + D, 47, rfl, HS2.out.1, HS2.out.2, HF2.out, by omega, by omega⟩
                    case measure =>
                      have hit3 := HS2.out.1
                      simp only [World.iterPos, hit3, hit]
                      omega
                  · have g5 : ((r : Int) == 47) = false := by simp; omega
                    clear h47
                    go_wp2
                    go_roundw
                    case rel => exact ⟨pos + D, r, rfl, HS2.out.1, HS2.out.2, HF2.out, by omega, hru⟩
                    case measure =>
                      have hit3 := HS2.out.1
                      simp only [World.iterPos, hit3, hit]
                      omega
              · have hnx : ∀ ty, (Instr.next (.pointer (some ⟨p, 0, none⟩)) true ty).run Tryd.prog wr = _ := fun ty => Lib.run_next_end_at wr p s pos ty hit hpp
                have hd : l.drop pos = [] := List.drop_eq_nil_of_le (by rw [← HL.out.2]; omega)
                rw [hd, runesD_nil] at hf
                have hb0 : badR 32 (runesD l) = false := by rw [← hf]; rfl
                have HRL : Hid (lastB l = R) := by
                  apply Lib.hid
                  rw [← HR.out, hb0]
                  rfl
                have HBW := Lib.hid hbw
                clear hf hb0 hdd hd hbw
                have hsm := small_any s (by omega) wr
                rw [HL.out.1] at hsm
                have htl : s.toList = l := by rw [Lib.toList_data, HL.out.1]
                have htl2 := strL_toList (foldL l)
                obtain ⟨fl, hfl⟩ : ∃ fl, foldL l = fl := ⟨_, rfl⟩
                rw [hfl] at hsm htl2
                have HFL := Lib.hid hfl
                clear hfl
                cases hb1 : (l == [73, 78, 66, 79, 88]) with
                | true =>
                  have hRf : true = R := by
                    rw [← HRL.out, lastB, inbS, hb1]
                    rfl
                  subst hRf
                  clear hsm
                  go_wp2
                  go_ret
                  exact ⟨rfl, HB.out.trans (HBW.out.mono hsz1)⟩
                | false =>
                  cases hb2 : (fl == [105, 110, 98, 111, 120]) with
                  | true =>
                    have hRf : false = R := by
                      rw [← HRL.out, lastB, inbS, hb1, HFL.out]
                      simp only [bne, inbL, hb2]
                      rfl
                    subst hRf
                    go_wp2_with (go_at_call 24; refine hsm.mono ?_; rintro e w4 ⟨rfl, hb4⟩; have HB4 := Lib.hid hb4; clear hb4)
                    go_ret
                    exact ⟨rfl, HB.out.trans ((HBW.out.trans (HB4.out.mono (by omega))).mono hsz1)⟩
                  | false =>
                    have hRf : true = R := by
                      rw [← HRL.out, lastB, inbS, hb1, HFL.out]
                      simp only [bne, inbL, hb2]
                      rfl
                    subst hRf
                    go_wp2_with (go_at_call 24; refine hsm.mono ?_; rintro e w4 ⟨rfl, hb4⟩; have HB4 := Lib.hid hb4; clear hb4)
                    go_ret
                    exact ⟨rfl, HB.out.trans ((HBW.out.trans (HB4.out.mono (by omega))).mono hsz1)⟩
end S5
end Go.Proofs.YtacalpgiopgkkaaDoor
end

section
namespace Go.Proofs.YtacalpgiopgkkaaDoor
set_option linter.unusedVariables false
open Go.RowKit Go.Lib S5

/-- the sign of a digit -/
def dig (k : Nat) : UInt8 := UInt8.ofNat (48 + k)
theorem conv_one (W : World) (b n : Nat) (hn : n < 256) (h : W.cell? ⟨b, 0, none⟩ = some (.int .u8 (n : Int))) : (convert 40 9 (.slice (some ⟨b, 0, none⟩) 1 1)).run Tryd.prog W = .ok (.string (strL [UInt8.ofNat n])) W :=
  run_convert_bytes_back W 40 9 5 ⟨b, 0, none⟩ 1 [UInt8.ofNat n] Tryd.underlying40 Tryd.underlying5 Tryd.underlying9 (fun j hj => by
    have e : j = 0 := by simpa using hj
    subst e
    have e2 : (UInt8.ofNat n).toNat = n := by simp [UInt8.toNat_ofNat']; omega
    simp only [Addr.add_lit, Nat.zero_add]
    rw [h]
    simp only [List.getElem_cons_zero, e2])
set_option maxRecDepth 100000 in
set_option maxHeartbeats 1000000 in
theorem digits_one (v : Nat) (h : v < 10) (w : World) : Calls Tryd.prog 8 #[.int .u64 v] w fun e w' => e = .returned (.string (strL [dig v])) ∧ Below w.heap.size w w' := by
  have h1 : (v : Int) < 10 := by omega
  have h2 : IntKind.u8.wrap (48 + (v : Int)) = 48 + v := IntWalk.u8_in _ (by omega)
  have h3 : IntKind.u64.wrap (48 + (v : Int)) = 48 + v := IntWalk.u64_in _ (by omega)
  have hc : (convert 40 9 (.slice (some ⟨w.heap.size, 0, none⟩) 1 1)).run Tryd.prog (w.alloc (.cells #[.int .u8 (48 + (v : Int))] 5)) = .ok (.string (strL [dig v])) (w.alloc (.cells #[.int .u8 (48 + (v : Int))] 5)) := conv_one _ w.heap.size (48 + v) (by omega) ((cell_of_row _ _ 0 _ 5 (0, 0) (heap_alloc_new w _)).trans (by simp))
  have hb : Below w.heap.size w (w.alloc (.cells #[.int .u8 (48 + (v : Int))] 5)) := (Below.refl _ w).alloc (Nat.le_refl _) _
  go_enter Tryd.func8, Tryd.ntmps8
  go_wp2_with fail
  go_ret
  exact ⟨rfl, hb⟩
set_option maxRecDepth 100000 in
set_option maxHeartbeats 1000000 in
theorem digits_two (v : Nat) (h : 10 ≤ v) (h' : v < 100) (w : World) : Calls Tryd.prog 8 #[.int .u64 v] w fun e w' => e = .returned (.string (strL [dig (v / 10), dig (v % 10)])) ∧ Below w.heap.size w w' := by
  have h1 : ¬ ((v : Int) < 10) := by omega
  have hd : Int.tdiv (v : Int) 10 = ((v / 10 : Nat) : Int) := by rw [Int.tdiv_eq_ediv_of_nonneg (by omega)]; omega
  have hm : Int.tmod (v : Int) 10 = ((v % 10 : Nat) : Int) := by rw [Int.tmod_eq_emod_of_nonneg (by omega)]; omega
  obtain ⟨q, hq⟩ : ∃ q, v / 10 = q := ⟨_, rfl⟩
  obtain ⟨r, hr⟩ : ∃ r, v % 10 = r := ⟨_, rfl⟩
  rw [hq] at hd ⊢
  rw [hr] at hm ⊢
  have hq9 : q < 10 := by omega
  have hr9 : r < 10 := by omega
  have w1 : IntKind.u64.wrap (q : Int) = q := IntWalk.u64_in _ (by omega)
  have w2 : IntKind.u64.wrap (r : Int) = r := IntWalk.u64_in _ (by omega)
  have w3 : IntKind.u64.wrap (48 + (r : Int)) = 48 + r := IntWalk.u64_in _ (by omega)
  have w4 : IntKind.u8.wrap (48 + (r : Int)) = 48 + r := IntWalk.u8_in _ (by omega)
  have HD := Lib.hid (fun W => digits_one q hq9 W)
  have hs : ∀ a b : List UInt8, strL a ++ strL b = strL (a ++ b) := fun a b => by
    apply ByteArray.ext
    simp [strL]
  have HC : ∀ W : World, (convert 40 9 (.slice (some ⟨W.heap.size, 0, none⟩) 1 1)).run Tryd.prog (W.alloc (.cells #[.int .u8 (48 + (r : Int))] 5)) = .ok (.string (strL [dig r])) (W.alloc (.cells #[.int .u8 (48 + (r : Int))] 5)) := fun W => conv_one _ W.heap.size (48 + r) (by omega) ((cell_of_row _ _ 0 _ 5 (0, 0) (heap_alloc_new W _)).trans (by simp))
  have HC2 : ∀ W : World, (convert 40 9 (.slice (some ⟨W.heap.size, 0, none⟩) 1 1)).run Tryd.prog (W.alloc (.cells #[.int .u8 (48 + (r : Int))] 5)).drew = .ok (.string (strL [dig r])) (W.alloc (.cells #[.int .u8 (48 + (r : Int))] 5)).drew := fun W => conv_one _ W.heap.size (48 + r) (by omega) (((World.cell?_drew _ _)).trans ((cell_of_row _ _ 0 _ 5 (0, 0) (heap_alloc_new W _)).trans (by simp)))
  have HA : ∀ (W V : World) (k : Nat), k = W.heap.size → Below (W.alloc (.cells #[.int .u8 (48 + (r : Int))] 5)).heap.size (W.alloc (.cells #[.int .u8 (48 + (r : Int))] 5)) V → (convert 40 9 (.slice (some ⟨k, 0, none⟩) 1 1)).run Tryd.prog V = .ok (.string (strL [dig r])) V := fun W V k hk hV => by
    subst hk
    exact conv_one _ W.heap.size (48 + r) (by omega) ((hV.cell (p := ⟨W.heap.size, 0, none⟩) (by simp)).trans ((cell_of_row _ _ 0 _ 5 (0, 0) (heap_alloc_new W _)).trans (by simp)))
  have HAH := Lib.hid HA
  clear HA
  have hsz : ¬ (9223372036854775807 < (strL [dig q]).size + (strL [dig r]).size) := by simp [strL, ByteArray.size]
  clear hq hr h h'
  go_enter Tryd.func8, Tryd.ntmps8
  go_upto_region 3 with fail
  go_region_law (first
    | (go_simp; go_at_call 8; refine (HD.out _).mono ?_; rintro e w5 ⟨rfl, hb5⟩; (first | have hcc := HAH.out w.drew w5 w.heap.size (by simp) hb5 | skip); have HB5 := Lib.hid hb5; clear hb5)
    | (go_simp; first | rw [HC] | rw [HC2] | rw [hcc]; go_simp))
  all_goals go_wp2_with fail
  all_goals go_ret
  all_goals refine ⟨rfl, ?_⟩
  all_goals first
    | exact ((Below.refl _ w).drew.trans HB5.out).alloc (by have := HB5.out.size; simpa using this) _
    | exact ((Below.refl _ w).drew.alloc (Nat.le_refl _) _).trans (HB5.out.mono (by simp))
    | exact (((Below.refl _ w).alloc (Nat.le_refl _) _).drew).trans (HB5.out.mono (by simp))
    | exact (((Below.refl _ w).alloc (Nat.le_refl _) _).drew).trans HB5.out
    | (refine Below.trans (?_ : Below w.heap.size w (w.drew.alloc (.cells #[.int .u8 (48 + (r : Int))] 5))) ((HB5.out).mono (by simp)); exact (Below.refl _ w).drew.alloc (Nat.le_refl _) _)
    | (refine Below.trans (?_ : Below w.heap.size w (w.alloc (.cells #[.int .u8 (48 + (r : Int))] 5)).drew) ((HB5.out).mono (by simp)); exact ((Below.refl _ w).alloc (Nat.le_refl _) _).drew)
end Go.Proofs.YtacalpgiopgkkaaDoor
end
