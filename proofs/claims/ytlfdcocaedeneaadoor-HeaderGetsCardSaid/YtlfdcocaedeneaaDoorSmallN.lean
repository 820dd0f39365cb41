/-
  Small letters of texts of any length.
-/
import Derived.Test.YtlfdcocaedeneaaDoorName
namespace Go.Proofs.YtlfdcocaedeneaaDoor
set_option linter.unusedVariables false
open Go.RowKit Go.Lib

set_option maxHeartbeats 1000000 in
set_option maxRecDepth 100000 in
theorem smallN_any (s : ByteArray) (hs : s.size ≤ 140737488351232) (w : World) :
    Calls Tryd.prog 37 #[.string s] w fun e w' => e = .returned (.string (strL (foldL s.data.toList))) ∧ Below w.heap.size w w' := by
  obtain ⟨l, hl⟩ : ∃ l, s.data.toList = l := ⟨_, rfl⟩
  have hsl : s.size = l.length := by rw [← hl]; exact size_l s
  have hb := below_bytesWorld w s
  have hr := RowU.conv w s
  have hs1 : (bytesWorld w 5 s).heap.size = w.heap.size + 1 := bytesWorld_size w 5 s
  obtain ⟨cap, w1, hcv, hb, hr, hs1⟩ : ∃ cap w1, (convert 9 22 (.string s)).run Tryd.prog w = .ok (.slice (some ⟨w.heap.size, 0, none⟩) l.length cap) w1 ∧ Below w.heap.size w w1 ∧ RowU w1 w.heap.size l ∧ w1.heap.size = w.heap.size + 1 := by
    refine ⟨grownCap w s.size 0 5, bytesWorld w 5 s, ?_, hb, by rw [← hl]; exact hr, hs1⟩
    rw [← hsl]
    exact Lib.run_convert_string_bytes w 9 22 5 s Tryd.underlying9 Tryd.underlying22 Tryd.underlying5
  rw [hl]
  have hll : l.length ≤ 140737488351232 := by omega
  obtain ⟨n, hn⟩ : ∃ n, l.length = n := ⟨_, rfl⟩
  rw [hn] at hcv hll
  generalize hg : w.heap.size = g at *
  have HB := Lib.hid hb
  have HR := Lib.hid hr
  have HC := Lib.hid hcv
  have HN := Lib.hid hn
  clear hb hr hcv hs hsl hl hn hg
  go_enter Tryd.func37, Tryd.ntmps37
  go_wp2
  rw [HC.out]
  simp only [Result.andThen]
  rw [Oper.upon_value]
  go_wp2
  go_loopw [10] (fun i wr => ∃ k : Nat, i = .int .i64 k ∧ k ≤ n ∧ RowU wr g (midL l k) ∧ Below g w wr ∧ g < wr.heap.size) (fun i _ => n - (RowKit.intOf i).toNat)
  case atStart => exact ⟨0, rfl, by omega, by rw [midL_zero]; exact HR.out, HB.out, by omega⟩
  case round =>
    obtain ⟨k, rfl, hk, hrow, hbw, hgs⟩ := hrel
    have HBW := Lib.hid hbw
    have HROW := Lib.hid hrow
    by_cases hkn : k < n
    · have hkz : (k : Int) < (n : Int) := by omega
      have hkl : k < l.length := by rw [HN.out]; exact hkn
      have hkl2 : k < (midL l k).length := by rw [midL_length]; exact hkl
      obtain ⟨c, hc⟩ : ∃ c, l[k] = c := ⟨_, rfl⟩
      have hcell := hrow.cell k hkl2
      have hfree := hrow.free k hkl2
      rw [midL_at l k hkl, hc] at hcell
      obtain ⟨x, hx⟩ : ∃ x, c.toNat = x := ⟨_, rfl⟩
      have hx2 : x < 256 := by rw [← hx]; exact c.toNat_lt
      rw [hx] at hcell
      have hk1 : (k : Int) + 1 ≤ 9223372036854775807 := by omega
      by_cases h1 : 65 ≤ x
      · have h1z : (65 : Int) ≤ (x : Int) := by omega
        by_cases h2 : x ≤ 90
        · have h2z : (x : Int) ≤ 90 := by omega
          have ha1 : IntKind.u8.wrap ((x : Int) + 97) = (x : Int) + 97 := IntWalk.u8_in _ (by omega)
          have ha2 : IntKind.u8.wrap ((x : Int) + 97 - 65) = (x : Int) + 32 := by rw [IntWalk.u8_in _ (by omega)]; omega
          have hlow : (lowB c).toNat = x + 32 := by rw [lowB_nat c (by omega), hx]
          have hset := hrow.set k hkl2 (lowB c)
          rw [hlow, ← hc, ← midL_step l k hkl] at hset
          have HSET := Lib.hid hset
          have he : ((x + 32 : Nat) : Int) = (x : Int) + 32 := by omega
          rw [he] at HSET
          clear hset hlow hrow hbw hx hc he
          go_wp2
          go_roundw
          case rel => exact ⟨k + 1, by simp, by omega, HSET.out, HBW.out.setCell (p := ⟨g, k, none⟩) (Nat.le_refl _) _, by simpa using hgs⟩
          case measure => simp [RowKit.intOf]; omega
        · have h2z : ¬ ((x : Int) ≤ 90) := by omega
          have hkeep := midL_keep l k hkl (by rw [hc, hx]; omega)
          have HK := Lib.hid hkeep
          clear hkeep hrow hbw hx hc
          go_wp2
          go_roundw
          case rel => exact ⟨k + 1, by simp, by omega, by rw [HK.out]; exact HROW.out, HBW.out, hgs⟩
          case measure => simp [RowKit.intOf]; omega
      · have h1z : ¬ ((65 : Int) ≤ (x : Int)) := by omega
        have hkeep := midL_keep l k hkl (by rw [hc, hx]; omega)
        have HK := Lib.hid hkeep
        clear hkeep hrow hbw hx hc
        go_wp2
        go_roundw
        case rel => exact ⟨k + 1, by simp, by omega, by rw [HK.out]; exact HROW.out, HBW.out, hgs⟩
        case measure => simp [RowKit.intOf]; omega
    · have hkz : ¬ ((k : Int) < (n : Int)) := by omega
      have hend := back_any wr g cap (midL l k) hrow
      rw [midL_length, HN.out, midL_all l k (by rw [HN.out]; omega)] at hend
      have HE := Lib.hid hend
      clear hend hrow hbw
      go_wp2
      rw [HE.out]
      simp only [Result.andThen]
      rw [Oper.upon_value]
      go_wp2
      go_ret
      exact ⟨rfl, HBW.out⟩
set_option maxHeartbeats 1000000 in
set_option maxRecDepth 100000 in
theorem foldN_any (s : ByteArray) (hs : s.size ≤ 140737488351232) (w : World) :
    Calls Tryd.prog 19 #[.string s] w fun e w' => e = .returned (.string (strL (foldL s.data.toList))) ∧ Below w.heap.size w w' := by
  obtain ⟨l, hl⟩ : ∃ l, s.data.toList = l := ⟨_, rfl⟩
  have hsl : s.size = l.length := by rw [← hl]; exact size_l s
  have hb := below_bytesWorld w s
  have hr := RowU.conv w s
  have hs1 : (bytesWorld w 5 s).heap.size = w.heap.size + 1 := bytesWorld_size w 5 s
  obtain ⟨cap, w1, hcv, hb, hr, hs1⟩ : ∃ cap w1, (convert 9 22 (.string s)).run Tryd.prog w = .ok (.slice (some ⟨w.heap.size, 0, none⟩) l.length cap) w1 ∧ Below w.heap.size w w1 ∧ RowU w1 w.heap.size l ∧ w1.heap.size = w.heap.size + 1 := by
    refine ⟨grownCap w s.size 0 5, bytesWorld w 5 s, ?_, hb, by rw [← hl]; exact hr, hs1⟩
    rw [← hsl]
    exact Lib.run_convert_string_bytes w 9 22 5 s Tryd.underlying9 Tryd.underlying22 Tryd.underlying5
  rw [hl]
  have hll : l.length ≤ 140737488351232 := by omega
  obtain ⟨n, hn⟩ : ∃ n, l.length = n := ⟨_, rfl⟩
  rw [hn] at hcv hll
  generalize hg : w.heap.size = g at *
  have HB := Lib.hid hb
  have HR := Lib.hid hr
  have HC := Lib.hid hcv
  have HN := Lib.hid hn
  clear hb hr hcv hs hsl hl hn hg
  go_enter Tryd.func19, Tryd.ntmps19
  go_wp2
  rw [HC.out]
  simp only [Result.andThen]
  rw [Oper.upon_value]
  go_wp2
  go_loopw [4] (fun i wr => ∃ k : Nat, i = .int .i64 k ∧ k ≤ n ∧ RowU wr g (midL l k) ∧ Below g w wr ∧ g < wr.heap.size) (fun i _ => n - (RowKit.intOf i).toNat)
  case atStart => exact ⟨0, rfl, by omega, by rw [midL_zero]; exact HR.out, HB.out, by omega⟩
  case round =>
    obtain ⟨k, rfl, hk, hrow, hbw, hgs⟩ := hrel
    have HBW := Lib.hid hbw
    have HROW := Lib.hid hrow
    by_cases hkn : k < n
    · have hkz : (k : Int) < (n : Int) := by omega
      have hkl : k < l.length := by rw [HN.out]; exact hkn
      have hkl2 : k < (midL l k).length := by rw [midL_length]; exact hkl
      obtain ⟨c, hc⟩ : ∃ c, l[k] = c := ⟨_, rfl⟩
      have hcell := hrow.cell k hkl2
      have hfree := hrow.free k hkl2
      rw [midL_at l k hkl, hc] at hcell
      obtain ⟨x, hx⟩ : ∃ x, c.toNat = x := ⟨_, rfl⟩
      have hx2 : x < 256 := by rw [← hx]; exact c.toNat_lt
      rw [hx] at hcell
      have hk1 : (k : Int) + 1 ≤ 9223372036854775807 := by omega
      by_cases h1 : 65 ≤ x
      · have h1z : (65 : Int) ≤ (x : Int) := by omega
        by_cases h2 : x ≤ 90
        · have h2z : (x : Int) ≤ 90 := by omega
          have ha1 : IntKind.u8.wrap ((x : Int) + 32) = (x : Int) + 32 := IntWalk.u8_in _ (by omega)
          have hlow : (lowB c).toNat = x + 32 := by rw [lowB_nat c (by omega), hx]
          have hset := hrow.set k hkl2 (lowB c)
          rw [hlow, ← hc, ← midL_step l k hkl] at hset
          have HSET := Lib.hid hset
          have he : ((x + 32 : Nat) : Int) = (x : Int) + 32 := by omega
          rw [he] at HSET
          clear hset hlow hrow hbw hx hc he
          go_wp2
          go_roundw
          case rel => exact ⟨k + 1, by simp, by omega, HSET.out, HBW.out.setCell (p := ⟨g, k, none⟩) (Nat.le_refl _) _, by simpa using hgs⟩
          case measure => simp [RowKit.intOf]; omega
        · have h2z : ¬ ((x : Int) ≤ 90) := by omega
          have hkeep := midL_keep l k hkl (by rw [hc, hx]; omega)
          have HK := Lib.hid hkeep
          clear hkeep hrow hbw hx hc
          go_wp2
          go_roundw
          case rel => exact ⟨k + 1, by simp, by omega, by rw [HK.out]; exact HROW.out, HBW.out, hgs⟩
          case measure => simp [RowKit.intOf]; omega
      · have h1z : ¬ ((65 : Int) ≤ (x : Int)) := by omega
        have hkeep := midL_keep l k hkl (by rw [hc, hx]; omega)
        have HK := Lib.hid hkeep
        clear hkeep hrow hbw hx hc
        go_wp2
        go_roundw
        case rel => exact ⟨k + 1, by simp, by omega, by rw [HK.out]; exact HROW.out, HBW.out, hgs⟩
        case measure => simp [RowKit.intOf]; omega
    · have hkz : ¬ ((k : Int) < (n : Int)) := by omega
      have hend := back_any wr g cap (midL l k) hrow
      rw [midL_length, HN.out, midL_all l k (by rw [HN.out]; omega)] at hend
      have HE := Lib.hid hend
      clear hend hrow hbw
      go_wp2
      rw [HE.out]
      simp only [Result.andThen]
      rw [Oper.upon_value]
      go_wp2
      go_ret
      exact ⟨rfl, HBW.out⟩
theorem FoldN_any (s : ByteArray) (hs : s.size ≤ 140737488351232) (w : World) :
    Calls Tryd.prog 18 #[.string s] w fun e w' => e = .returned (.string (strL (foldL s.data.toList))) ∧ Below w.heap.size w w' := by
  have HS := Lib.hid (smallN_any s hs w)
  go_enter Tryd.func18, Tryd.ntmps18
  go_wp2_with fail
  refine HS.out.mono ?_
  rintro e w2 ⟨rfl, hb⟩
  go_wp2_with fail
  go_ret
  exact ⟨rfl, hb⟩

end Go.Proofs.YtlfdcocaedeneaaDoor
