/-
  The walk of SetsEnds.
-/
import Derived.Test.YtfcdannlfifbgaaEndsA
import Derived.Test.YtfcdannlfifbgaaEndsB
import Derived.Test.YtfcdannlfifbgaaEndsC
namespace Go.Proofs.Ytfcdannlfifbgaa
set_option linter.unusedVariables false
open Go.RowKit

set_option maxRecDepth 100000 in
set_option maxHeartbeats 4000000 in
theorem setsEnds_any (va vb : Value) (s : List (Int × Int)) (l : List Int) (n top cut : Int) (w : World) (hs : RowR w va s) (hl : RowN w vb l) (n0 : 0 ≤ n) (n1 : n < 4294967296) (t0 : 0 ≤ top) (t1 : top < 4294967296) :
    Calls Try.prog 4 #[va, .int .u32 n, .int .u32 top, .int .i64 cut, vb] w fun e w' => e = .returned (.bool true) ∧ Below w.heap.size w w' := by
  have HS := Lib.hid hs
  have HL := Lib.hid hl
  obtain ⟨b1, o1, a1, c1, rfl, hc1, hm1, ha1, hce1⟩ := hs.shape
  obtain ⟨b2, o2, a2, c2, rfl, hc2, hm2, -, -⟩ := hl.shape
  clear hs hl ha1 hce1
  by_cases hlen : 100 < s.length ∨ 200 < l.length
  · have hd : (decide (100 < (s.length : Int)) = true) ∨ (decide (100 < (s.length : Int)) = false ∧ decide (200 < (l.length : Int)) = true) := by
      simp; omega
    have HD := Lib.hid hd
    clear hlen hd
    rcases HD.out with h | ⟨h, h'⟩
    all_goals
      go_enter Try.func4, Try.ntmps4
      go_wp2_with fail
      refine (awake_any _).mono ?_
      rintro e w1 ⟨rfl, hb1⟩
      have H1 := Lib.hid hb1
      clear hb1
      go_wp2_with fail
      refine (awake_any _).mono ?_
      rintro e w2 ⟨rfl, hb2⟩
      have H2 := Lib.hid (H1.out.trans (hb2.mono H1.out.size))
      clear hb2
      go_wp2_with fail
      go_ret
      exact ⟨rfl, H2.out⟩
  · obtain ⟨q, hq, hqm⟩ := cut_of cut s.length (by omega)
    by_cases hs0 : 0 < s.length
    · by_cases hcq : c1 = q
      · cases hv : hasB s n top
        · exact ends_c a1 c1 _ s l n top cut q w HS.out HL.out n0 n1 t0 t1 hq hqm (by omega) (by omega) fun _ => ⟨fun _ => hv, fun h => absurd hcq h⟩
        · exact ends_b a1 c1 _ s l n top cut q w HS.out HL.out n0 n1 t0 t1 hq hqm (by omega) (by omega) hs0 hcq hv
      · cases hv : hasB (s.take q) n top
        · exact ends_c a1 c1 _ s l n top cut q w HS.out HL.out n0 n1 t0 t1 hq hqm (by omega) (by omega) fun _ => ⟨fun h => absurd h hcq, fun _ => hv⟩
        · exact ends_a a1 c1 _ s l n top cut q w HS.out HL.out n0 n1 t0 t1 hq hqm (by omega) (by omega) hs0 hcq hv
    · exact ends_c a1 c1 _ s l n top cut q w HS.out HL.out n0 n1 t0 t1 hq hqm (by omega) (by omega) fun h => absurd h hs0
end Go.Proofs.Ytfcdannlfifbgaa
