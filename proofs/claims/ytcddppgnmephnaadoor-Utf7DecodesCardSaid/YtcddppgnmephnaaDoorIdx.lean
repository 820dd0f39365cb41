/-
  IndexRune at the digits, at every rune.
-/
import Derived.Test.YtcddppgnmephnaaDoorBackP
import Derived.Test.YtcddppgnmephnaaDoorLocB
import Derived.Test.YtcddppgnmephnaaDoorShelfB
import Derived.Test.YtcddppgnmephnaaDoorEnc
import Derived.Laws.Runes
import Derived.WalkMore
import Derived.BigRegion
namespace Go.Proofs.YtcddppgnmephnaaDoor
set_option linter.unusedVariables false
open Go.RowKit Go.Lib

def idxV (r : Nat) : Int := match digVal r with | some k => (k : Int) | none => -1
theorem idx_low (r : Nat) (h : r < 128) : Lib.indexByte digS r.toUInt8 = idxV r := by
  have : ∀ r : Fin 128, Lib.indexByte digS r.val.toUInt8 = idxV r.val := by decide +kernel
  exact this ⟨r, h⟩
theorem idx_high (r : Nat) (h : 128 ≤ r) : digVal r = none := by
  unfold digVal
  rw [List.find?_eq_none]
  intro k hk
  have hk64 : k < 64 := by simpa using hk
  have := (digit_lt k hk64).1
  simp
  omega
theorem idxV_high (r : Nat) (h : 128 ≤ r) : idxV r = -1 := by simp [idxV, idx_high r h]
theorem indexByte_no : ∀ (l : List UInt8) (c : UInt8), (∀ x ∈ l, x ≠ c) → Lib.indexByte l c = -1
  | [], c, _ => rfl
  | x :: xs, c, h => by
    unfold Lib.indexByte
    have := h x (by simp)
    have ih := indexByte_no xs c (fun y hy => h y (by simp [hy]))
    simp [this, ih]
theorem ok_valid (r : Nat) (h : okR r) : Lib.validRune (r : Int) = true ∧ Utf8.valid (r : Int) = true := by
  have h1 := h.1
  have h2 := h.2
  constructor
  · simp [Lib.validRune]
    omega
  · simp [Utf8.valid]
    omega

theorem cut_high (m : Nat) (y : Nat) (hy1 : 128 ≤ y) (hy2 : y < 256) : Lib.indexByte ((⟨#[65, 66, 67, 68, 69, 70, 71, 72, 73, 74, 75, 76, 77, 78, 79, 80, 81, 82, 83, 84, 85, 86, 87, 88, 89, 90, 97, 98, 99, 100, 101, 102, 103, 104, 105, 106, 107, 108, 109, 110, 111, 112, 113, 114, 115, 116, 117, 118, 119, 120, 121, 122, 48, 49, 50, 51, 52, 53, 54, 55, 56, 57, 43, 44]⟩ : ByteArray).extract m 64).data.toList (y : Int).toNat.toUInt8 = -1 := by
  refine indexByte_no _ _ fun x hx => ?_
  have h1 : ∀ x ∈ (⟨#[65, 66, 67, 68, 69, 70, 71, 72, 73, 74, 75, 76, 77, 78, 79, 80, 81, 82, 83, 84, 85, 86, 87, 88, 89, 90, 97, 98, 99, 100, 101, 102, 103, 104, 105, 106, 107, 108, 109, 110, 111, 112, 113, 114, 115, 116, 117, 118, 119, 120, 121, 122, 48, 49, 50, 51, 52, 53, 54, 55, 56, 57, 43, 44]⟩ : ByteArray).data.toList, x.toNat < 128 := by decide +kernel
  have h2 : x ∈ (⟨#[65, 66, 67, 68, 69, 70, 71, 72, 73, 74, 75, 76, 77, 78, 79, 80, 81, 82, 83, 84, 85, 86, 87, 88, 89, 90, 97, 98, 99, 100, 101, 102, 103, 104, 105, 106, 107, 108, 109, 110, 111, 112, 113, 114, 115, 116, 117, 118, 119, 120, 121, 122, 48, 49, 50, 51, 52, 53, 54, 55, 56, 57, 43, 44]⟩ : ByteArray).data.toList := by
    rw [ByteArray.data_extract, Array.toList_extract] at hx
    exact List.mem_of_mem_drop (List.mem_of_mem_take hx)
  have h3 := h1 x h2
  intro e
  have := congrArg UInt8.toNat e
  rw [Nat.toUInt8_eq, UInt8.toNat_ofNat'] at this
  simp at this
  omega
theorem dec_dig (k : Nat) (h : k < 64) : (Utf8.decode (⟨#[65, 66, 67, 68, 69, 70, 71, 72, 73, 74, 75, 76, 77, 78, 79, 80, 81, 82, 83, 84, 85, 86, 87, 88, 89, 90, 97, 98, 99, 100, 101, 102, 103, 104, 105, 106, 107, 108, 109, 110, 111, 112, 113, 114, 115, 116, 117, 118, 119, 120, 121, 122, 48, 49, 50, 51, 52, 53, 54, 55, 56, 57, 43, 44]⟩ : ByteArray) k).1 ≠ 65533 ∧ (Utf8.decode (⟨#[65, 66, 67, 68, 69, 70, 71, 72, 73, 74, 75, 76, 77, 78, 79, 80, 81, 82, 83, 84, 85, 86, 87, 88, 89, 90, 97, 98, 99, 100, 101, 102, 103, 104, 105, 106, 107, 108, 109, 110, 111, 112, 113, 114, 115, 116, 117, 118, 119, 120, 121, 122, 48, 49, 50, 51, 52, 53, 54, 55, 56, 57, 43, 44]⟩ : ByteArray) k).2 = 1 := by
  have : ∀ k : Fin 64, (Utf8.decode (⟨#[65, 66, 67, 68, 69, 70, 71, 72, 73, 74, 75, 76, 77, 78, 79, 80, 81, 82, 83, 84, 85, 86, 87, 88, 89, 90, 97, 98, 99, 100, 101, 102, 103, 104, 105, 106, 107, 108, 109, 110, 111, 112, 113, 114, 115, 116, 117, 118, 119, 120, 121, 122, 48, 49, 50, 51, 52, 53, 54, 55, 56, 57, 43, 44]⟩ : ByteArray) k.val).1 ≠ 65533 ∧ (Utf8.decode (⟨#[65, 66, 67, 68, 69, 70, 71, 72, 73, 74, 75, 76, 77, 78, 79, 80, 81, 82, 83, 84, 85, 86, 87, 88, 89, 90, 97, 98, 99, 100, 101, 102, 103, 104, 105, 106, 107, 108, 109, 110, 111, 112, 113, 114, 115, 116, 117, 118, 119, 120, 121, 122, 48, 49, 50, 51, 52, 53, 54, 55, 56, 57, 43, 44]⟩ : ByteArray) k.val).2 = 1 := by decide +kernel
  exact this ⟨k, h⟩

set_option maxHeartbeats 2000000 in
set_option maxRecDepth 100000 in
theorem idx_err (s : ByteArray) (hs : s.size ≤ 100000) (hd : ∀ k, k < s.size → (Utf8.decode s k).1 ≠ 65533 ∧ (Utf8.decode s k).2 = 1) (w : World) :
    Calls Tryd.prog 42 #[.string s, .int .i32 65533] w fun e w' => e = .returned (.int .i64 (-1)) ∧ Below w.heap.size w w' := by
  go_enter Tryd.func42, Tryd.ntmps42
  go_wp2
  obtain ⟨p, hp⟩ : ∃ p, w.heap.size = p := ⟨_, rfl⟩
  rw [hp]
  go_loopw [] (fun wr => ∃ (pos : Nat), wr.heap[p]? = some (.stringIter s pos) ∧ Below p w wr ∧ pos ≤ s.size) (fun wr => s.size - wr.iterPos p)
  case atStart =>
    refine ⟨0, ?_, (Below.refl p w).alloc (by omega) _, by omega⟩
    have := World.iter_heap w s 0
    rw [hp] at this
    simpa using this
  case round =>
    obtain ⟨pos, hit, hbw, hps⟩ := hrel
    by_cases hlt : pos < s.size
    · have hnx : ∀ ty, (Instr.next (.pointer (some ⟨p, 0, none⟩)) true ty).run Tryd.prog wr = _ := fun ty => Lib.run_next_any_at wr p s pos ty hit hlt
      obtain ⟨d1, d2⟩ := hd pos hlt
      obtain ⟨x, hx⟩ : ∃ x, (Utf8.decode s pos).1 = x := ⟨_, rfl⟩
      rw [d2, hx] at hnx
      rw [hx] at d1
      have hx1 : ((x : Int) == 65533) = false := by simp; omega
      have hit2 := Lib.iterAt_heap wr p s pos (pos + 1) hit
      have hbw2 := Lib.below_iterAt hbw (k := p) (by omega) s (pos + 1)
      have HS2 := Lib.hid (And.intro hit2 hbw2)
      have HD := Lib.hid (And.intro hd d1)
      clear hit2 hbw2 hd d1 d2 hx
      go_wp2
      go_roundw
      case rel => exact ⟨pos + 1, HS2.out.1, HS2.out.2, by omega⟩
      case measure =>
        simp only [World.iterPos, HS2.out.1, hit]
        omega
    · have hnx : ∀ ty, (Instr.next (.pointer (some ⟨p, 0, none⟩)) true ty).run Tryd.prog wr = _ := fun ty => Lib.run_next_end_at wr p s pos ty hit hlt
      go_wp2
      go_ret
      exact ⟨rfl, by rw [hp]; exact hbw⟩

set_option maxHeartbeats 2000000 in
set_option maxRecDepth 100000 in
theorem idx_any (r : Nat) (hr : okR r) (w : World) :
    Calls Tryd.prog 42 #[.string (⟨#[65, 66, 67, 68, 69, 70, 71, 72, 73, 74, 75, 76, 77, 78, 79, 80, 81, 82, 83, 84, 85, 86, 87, 88, 89, 90, 97, 98, 99, 100, 101, 102, 103, 104, 105, 106, 107, 108, 109, 110, 111, 112, 113, 114, 115, 116, 117, 118, 119, 120, 121, 122, 48, 49, 50, 51, 52, 53, 54, 55, 56, 57, 43, 44]⟩ : ByteArray), .int .i32 (r : Int)] w fun e w' => e = .returned (.int .i64 (idxV r)) ∧ Below w.heap.size w w' := by
  by_cases hlow : r < 128
  · have h := Tryd.strings_IndexRune_ascii (⟨#[65, 66, 67, 68, 69, 70, 71, 72, 73, 74, 75, 76, 77, 78, 79, 80, 81, 82, 83, 84, 85, 86, 87, 88, 89, 90, 97, 98, 99, 100, 101, 102, 103, 104, 105, 106, 107, 108, 109, 110, 111, 112, 113, 114, 115, 116, 117, 118, 119, 120, 121, 122, 48, 49, 50, 51, 52, 53, 54, 55, 56, 57, 43, 44]⟩ : ByteArray) (r : Int) w (by omega) (by omega)
    refine h.mono fun e w' ⟨he, hw⟩ => ⟨?_, by rw [hw]; exact Below.refl _ _⟩
    rw [he]
    have := idx_low r hlow
    simp only [Int.toNat_natCast]
    rw [← this]
    rfl
  · rw [idxV_high r (by omega)]
    have g1 : decide ((r : Int) < 128) = false := decide_eq_false (by omega)
    by_cases h65 : r = 65533
    · subst h65
      exact idx_err _ (by decide) (fun k hk => dec_dig k hk) w
    · have g2 : ((r : Int) == 65533) = false := by simp; omega
      have hvr := Tryd.utf8_ValidRune (r : Int) w
      obtain ⟨v1, v2⟩ := ok_valid r hr
      rw [v1] at hvr
      obtain ⟨f1, f2, f3⟩ := encode_facts (r : Int) v2 (by omega)
      obtain ⟨S, hS⟩ : ∃ S, Utf8.encode (r : Int) = S := ⟨_, rfl⟩
      rw [hS] at f1 f2 f3
      obtain ⟨n, hn⟩ : ∃ n, S.size = n + 1 := ⟨S.size - 1, by omega⟩
      have hn1 : 1 ≤ n ∧ n ≤ 3 := by omega
      have hns : n < S.size := by omega
      obtain ⟨y, hy⟩ : ∃ y, (S[n]'hns).toNat = y := ⟨_, rfl⟩
      have hy1 : 128 ≤ y := by
        have := f3 (by omega)
        simp only [hn] at this
        rw [← hy]
        exact this
      have hy2 : y < 256 := by rw [← hy]; exact UInt8.toNat_lt _
      clear f1 f2 f3 v1 v2 hlow h65
      go_enter Tryd.func42, Tryd.ntmps42
      go_wp2_with (go_at_call 46; refine hvr.mono ?_; rintro e w1 ⟨rfl, rfl⟩)
      have hconv : (convert 21 9 (.int .i32 (r : Int))).run Tryd.prog w1 = .ok (.string S) w1 := by
        rw [run_convert_int_string w1 21 9 .i32 (r : Int) (by rw [Tryd.underlying21]; rfl) Tryd.underlying9, hS]
      have hk64n : n < 64 := Nat.lt_of_le_of_lt hn1.2 (by decide)
      obtain ⟨m, hm⟩ : ∃ m, n + 1 = m := ⟨_, rfl⟩
      rw [hm] at hn
      have hnz : (m : Int) - 1 = (n : Int) := by omega
      have hnp : (n : Int) + 1 = (m : Int) := by omega
      have hm64 : (m : Int) ≤ 64 := by omega
      have hm0 : (0 : Int) ≤ (m : Int) := by omega
      go_step3
      go_wp2
      obtain ⟨x, hx⟩ : ∃ x, (digit n).toNat = x := ⟨_, rfl⟩
      have hx1 : x < 128 := by rw [← hx]; exact (digit_lt n (by omega)).1
      have hdx := dig_str n hk64n
      rw [hx] at hdx
      have hxy : ((x : Int) != (y : Int)) = true := by simp; omega
      have hn64 : (n : Int) < 64 := by omega
      have hib := fun (w : World) => Tryd.strings_IndexByte ((⟨#[65, 66, 67, 68, 69, 70, 71, 72, 73, 74, 75, 76, 77, 78, 79, 80, 81, 82, 83, 84, 85, 86, 87, 88, 89, 90, 97, 98, 99, 100, 101, 102, 103, 104, 105, 106, 107, 108, 109, 110, 111, 112, 113, 114, 115, 116, 117, 118, 119, 120, 121, 122, 48, 49, 50, 51, 52, 53, 54, 55, 56, 57, 43, 44]⟩ : ByteArray).extract m 64) (y : Int) w
      have hib2 : Lib.indexByte ((⟨#[65, 66, 67, 68, 69, 70, 71, 72, 73, 74, 75, 76, 77, 78, 79, 80, 81, 82, 83, 84, 85, 86, 87, 88, 89, 90, 97, 98, 99, 100, 101, 102, 103, 104, 105, 106, 107, 108, 109, 110, 111, 112, 113, 114, 115, 116, 117, 118, 119, 120, 121, 122, 48, 49, 50, 51, 52, 53, 54, 55, 56, 57, 43, 44]⟩ : ByteArray).extract m 64).data.toList (y : Int).toNat.toUInt8 = -1 := cut_high m y hy1 hy2
      rw [hib2] at hib
      have HI := Lib.hid hib
      clear hib hib2 hconv hvr hx hx1 hm
      go_loopw [9] (fun i wr => i = .int .i64 (n : Int) ∧ wr = w1) (fun _ _ => 0)
      case atStart => exact ⟨rfl, rfl⟩
      case round =>
        obtain ⟨rfl, rfl⟩ := hrel
        go_wp2
        go_step3
        go_wp2
        go_region
        go_wp2
        have hbd : Below wr.heap.size wr wr.drew := (Below.refl _ _).drew
        generalize wr.drew = w2 at *
        have hbd2 := hbd.drew
        clear hxy g1 g2 hy1 hy2 hr
        have hnm : (n : Int) < (m : Int) := by omega
        have hwm : IntKind.i64.wrap ((m : Nat) : Int) = (m : Int) := Go.IntWalk.i64_in _ ⟨by omega, by omega⟩
        go_still_tail 7, (by kernel_rfl)
        change wpList _ _ _ _ _ w2.drew
        generalize w2.drew = w3 at *
        go_wp2_with (go_at_call 45; refine (HI.out _).mono ?_; rintro e w4 ⟨rfl, rfl⟩)
        rw [Exit.noGoto_ret]
        simp (config := {zetaDelta := true}) only [Exit.inBlock, Exit.then, Exit.noGoto_ret]
        refine bodyPost_ret (results_tmp rfl _ _ _) rfl ?_
        exact ⟨rfl, hbd2⟩
end Go.Proofs.YtcddppgnmephnaaDoor
