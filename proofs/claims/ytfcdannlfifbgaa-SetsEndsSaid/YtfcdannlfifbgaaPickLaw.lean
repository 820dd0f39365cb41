/-
  The walk of SetsPick.
-/
import Derived.Test.YtfcdannlfifbgaaAwake
import Derived.Test.YtfcdannlfifbgaaPick
import Derived.Test.YtfcdannlfifbgaaRises
import Derived.Test.YtfcdannlfifbgaaROf
import Derived.Test.YtfcdannlfifbgaaKept
namespace Go.Proofs.Ytfcdannlfifbgaa
set_option linter.unusedVariables false
open Go.RowKit

theorem pickL_bd {s : List (Int × Int)} {l : List Int} (h : ∀ n ∈ l, 0 ≤ n ∧ n < 4294967296) : ∀ n ∈ pickL s l, 0 ≤ n ∧ n < 4294967296 := fun n hn => h n (List.mem_filter.1 hn).1
theorem Up.pos {l : List Int} (h : Up l) (hb : ∀ n ∈ l, 0 ≤ n ∧ n < 4294967296) : ∀ n ∈ l, 1 ≤ n := by
  intro n hn
  obtain ⟨i, hi, rfl⟩ := List.mem_iff_getElem.1 hn
  have := h.1 i hi
  have := (hb _ (List.getElem_mem hi)).1
  omega

set_option maxHeartbeats 2000000 in
theorem setsPick_any (va vb : Value) (s : List (Int × Int)) (l : List Int) (n top : Int) (w : World) (hs : RowR w va s) (hl : RowN w vb l) (n0 : 0 ≤ n) (n1 : n < 4294967296) (t0 : 0 ≤ top) (t1 : top < 4294967296) :
    Calls Try.prog 3 #[va, .int .u32 n, .int .u32 top, vb] w fun e w' => e = .returned (.bool true) ∧ Below w.heap.size w w' := by
  have HS := Lib.hid hs
  have HL := Lib.hid hl
  obtain ⟨b1, o1, a1, c1, rfl, hc1, hm1, -, -⟩ := hs.shape
  obtain ⟨b2, o2, a2, c2, rfl, hc2, hm2, -, -⟩ := hl.shape
  clear hs hl
  by_cases hlen : 200 < s.length ∨ 200 < l.length
  · have hd : (decide (200 < (s.length : Int)) = true) ∨ (decide (200 < (s.length : Int)) = false ∧ decide (200 < (l.length : Int)) = true) := by
      simp; omega
    have HD := Lib.hid hd
    clear hlen hd
    rcases HD.out with h | ⟨h, h'⟩
    all_goals
      go_enter Try.func3, Try.ntmps3
      go_wp2_with (go_at_call 5; refine (awake_any _).mono ?_; rintro e w1 ⟨rfl, hb1⟩)
      go_ret
      exact ⟨rfl, hb1⟩
  · have hs1 : s.length ≤ 200 := by omega
    have hl1 : l.length ≤ 200 := by omega
    clear hlen
    go_enter Try.func3, Try.ntmps3
    go_wp2_with fail
    refine (awake_any _).mono ?_
    rintro e w1 ⟨rfl, hb1⟩
    have H1 := Lib.hid hb1
    have HS1 := Lib.hid (HS.out.below hb1)
    clear hb1
    go_wp2_with fail
    refine (has_any _ s n top _ HS1.out n0 n1 t0 t1 (by omega)).mono ?_
    rintro e w2 ⟨rfl, hb2⟩
    have H2 := Lib.hid (H1.out.trans (hb2.mono H1.out.size))
    have HS2 := Lib.hid (HS.out.below H2.out)
    clear hb2
    go_wp2_with fail
    refine (rhas_any _ s n top _ HS2.out n0 n1 t0 t1 (by omega)).mono ?_
    rintro e w3 ⟨rfl, hb3⟩
    have H3 := Lib.hid (H2.out.trans (hb3.mono H2.out.size))
    have HL3 := Lib.hid (HL.out.below H3.out)
    clear hb3
    have hself : (hasB s n top != hasB s n top) = false := by simp
    go_wp2_with fail
    refine (rises_any _ l _ HL3.out (by omega)).mono ?_
    rintro e w4 ⟨hr, hb4⟩
    have H4 := Lib.hid (H3.out.trans (hb4.mono H3.out.size))
    clear hb4
    rcases hr with ⟨hup, rfl⟩ | ⟨hup, rfl⟩
    · have HU := Lib.hid (hup.pos HL.out.2)
      clear hup
      have HL4 := Lib.hid (HL.out.below H4.out)
      go_wp2_with fail
      refine (own_any _ l _ 71 HL4.out (by omega)).mono ?_
      rintro e w5 ⟨o, rfl, hown, hb5⟩
      have HO := Lib.hid hown
      have H5 := Lib.hid (H4.out.trans (hb5.mono H4.out.size))
      have HR5 := Lib.hid (hown.row HL.out.2)
      clear hb5 hown
      have HS5 := Lib.hid (HS.out.below H5.out)
      go_wp2_with fail
      refine (pick_any _ _ s l _ HS5.out HR5.out (by omega) (by omega)).mono ?_
      rintro e w6 ⟨p1, rfl, hp1, hb6⟩
      have H6 := Lib.hid (H5.out.trans (hb6.mono H5.out.size))
      have HO6 := Lib.hid (HO.out.below hb6)
      have HP1 := Lib.hid (hp1.row (pickL_bd HL.out.2))
      clear hb6 hp1
      have HS6 := Lib.hid (HS.out.below H6.out)
      have HL6 := Lib.hid (HL.out.below H6.out)
      go_wp2_with fail
      refine (rpick_any _ _ s l _ HS6.out HL6.out (by omega) (by omega)).mono ?_
      rintro e w7 ⟨p2, rfl, hp2, hb7⟩
      have H7 := Lib.hid (H6.out.trans (hb7.mono H6.out.size))
      have HO7 := Lib.hid (HO6.out.below hb7)
      have HP2 := Lib.hid (hp2.row (pickL_bd HL.out.2))
      have HP17 := Lib.hid (HP1.out.below hb7)
      clear hb7 hp2
      go_wp2_with fail
      refine (plainN_any HP17.out HP2.out).mono ?_
      rintro e w8 ⟨rfl, hb8⟩
      have H8 := Lib.hid (H7.out.trans (hb8.mono H7.out.size))
      have HO8 := Lib.hid (HO7.out.below hb8)
      have HR8 := Lib.hid (HO8.out.row HL.out.2)
      clear hb8
      simp only [decide_true]
      go_wp2_with fail
      refine (of_any _ l _ HR8.out HU.out (by omega)).mono ?_
      rintro e w9 ⟨q1, rfl, hq1, hb9⟩
      have H9 := Lib.hid (H8.out.trans (hb9.mono H8.out.size))
      have HO9 := Lib.hid (HO8.out.below hb9)
      have HQ1 := Lib.hid (hq1.row (ofL_bd HL.out.2))
      have HL9 := Lib.hid (HL.out.below H9.out)
      clear hb9 hq1
      go_wp2_with fail
      refine (rof_any _ l _ HL9.out HU.out (by omega)).mono ?_
      rintro e w10 ⟨q2, rfl, hq2, hb10⟩
      have H10 := Lib.hid (H9.out.trans (hb10.mono H9.out.size))
      have HO10 := Lib.hid (HO9.out.below hb10)
      have HQ2 := Lib.hid (hq2.row (ofL_bd HL.out.2))
      have HQ110 := Lib.hid (HQ1.out.below hb10)
      clear hb10 hq2
      go_wp2_with fail
      refine (plainR_any HQ110.out HQ2.out).mono ?_
      rintro e w11 ⟨rfl, hb11⟩
      have H11 := Lib.hid (H10.out.trans (hb11.mono H10.out.size))
      have HO11 := Lib.hid (HO10.out.below hb11)
      have HL11 := Lib.hid (HL.out.below H11.out)
      clear hb11
      simp only [decide_true]
      go_wp2_with fail
      refine (kept_any HO11.out HL11.out (by omega)).mono ?_
      rintro e w12 ⟨rfl, hb12⟩
      have H12 := Lib.hid (H11.out.trans (hb12.mono H11.out.size))
      clear hb12
      go_wp2_with fail
      go_ret
      exact ⟨rfl, H12.out⟩
    · go_wp2_with fail
      go_ret
      exact ⟨rfl, H4.out⟩
end Go.Proofs.Ytfcdannlfifbgaa
