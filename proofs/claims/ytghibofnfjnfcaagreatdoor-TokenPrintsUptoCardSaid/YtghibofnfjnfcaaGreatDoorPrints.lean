/-
  TokenPrints: the walk.
-/
import Derived.Test.YtghibofnfjnfcaaGreatDoorOwn
import Derived.Test.YtghibofnfjnfcaaGreatDoorRPrt
import Derived.Test.YtghibofnfjnfcaaGreatDoorBack
namespace Go.Proofs.YtghibofnfjnfcaaGreatDoor
set_option linter.unusedVariables false
open Go.RowKit

def resL (l : List Tk) : List Nat × Nat := match printL l with | some x => (x, 0) | none => ([], 9)
def ResOut (w : World) (r : List Nat × Nat) (e : Ending) (w' : World) : Prop := ∃ o, e = .returned (.tuple #[o, .int .i64 (r.2 : Nat)]) ∧ RowB w' o r.1 ∧ Below w.heap.size w w'
theorem res_out {w w' : World} {e : Ending} {L : List TkI} (hs : ∀ t ∈ L, ∀ c ∈ t.2, c < 256) (h : PrintOut w (printL (L.map nrm)) e w') : ResOut w (resL (L.map nrm)) e w' := by
  unfold resL
  rcases h with ⟨x, o, hp, rfl, ho, hb⟩ | ⟨hp, rfl, hb⟩
  · rw [hp]
    exact ⟨o, rfl, ho.row (print_lt hp hs), hb⟩
  · rw [hp]
    exact ⟨_, rfl, rowB_nil _, hb⟩
theorem print_res (v : Value) (L : List TkI) (w : World) (hL : TkIn w v L) (hs : ∀ t ∈ L, ∀ c ∈ t.2, c < 256) (hw : wgt L ≤ 1048576) (ht : TabV w) : Calls Tryz.prog 8 #[v] w (ResOut w (resL (L.map nrm))) :=
  (print_any2 v L w hL hs hw ht).mono fun e w' h => res_out hs h
theorem rprint_res (v : Value) (L : List TkI) (w : World) (hL : TkIn w v L) (hs : ∀ t ∈ L, ∀ c ∈ t.2, c < 256) (hw : wgt L ≤ 1048576) : Calls Tryz.prog 9 #[v] w (ResOut w (resL (L.map nrm))) :=
  (rprint_any v L w hL (fun t h => ⟨hs t h, by have := wgt_mem h; omega⟩) (by have := wgt_len L; omega) (by have := said_len L; omega)).mono fun e w' h => res_out hs h

set_option maxRecDepth 100000 in
set_option maxHeartbeats 8000000 in
theorem prints_walk (w : World) (a : Option Addr) (cap n0 : Nat) (L : List TkI) (hL : TkIn w (.slice a n0 cap) L) (hs : ∀ t ∈ L, ∀ c ∈ t.2, c < 256) (hw : wgt L ≤ 1048576) (hn : a = none → cap = 0) (s : ByteArray) (hsl : s.size ≤ 1048576) (hr : RngV w) (ht : TabV w) :
    Calls Tryz.prog 3 #[.slice a n0 cap, .string s] w fun e w' => e = .returned (.bool true) ∧ Below w.heap.size w w' := by
  obtain rfl : n0 = L.length := by obtain ⟨a', c', e⟩ := hL.shape; simp only [Value.slice.injEq] at e; exact e.2.1
  have HL := Lib.hid hL
  have HS := Lib.hid hs
  have HW := Lib.hid hw
  have HR := Lib.hid hr
  have HT := Lib.hid ht
  have hlen : L.length ≤ 1048576 := by have := wgt_len L; omega
  by_cases h3 : L.length ≤ 300
  · have e1 : ¬ (300 : Int) < (L.length : Int) := by omega
    have HO := Lib.hid (own_any a cap L w hL hn (by omega))
    obtain ⟨T, hT⟩ : ∃ T : List Nat, T = s.data.toList.map UInt8.toNat := ⟨_, rfl⟩
    have hst : strN T = s := by rw [hT]; exact bytes_nat' s
    have hTT : ∀ c ∈ T, c < 256 := by rw [hT]; intro c hc; obtain ⟨b, _, rfl⟩ := List.mem_map.1 hc; exact b.toNat_lt
    have htl : T.length = s.size := by rw [hT, List.length_map]; rfl
    have hat := fun W => atomic_any T hTT (by omega) W
    have hrat := fun W => ratomic_any T hTT (by omega) W
    have hqu := fun W => quote_any T hTT (by omega) W
    have hrqu := fun W => rquote_any T hTT (by omega) W
    rw [hst] at hat hrat hqu hrqu
    generalize hz : (if quoL T then (2 : Int) else 3) = z at hqu hrqu
    generalize hab : atomL T = ab at hat hrat
    have HAT := Lib.hid hat
    have HRAT := Lib.hid hrat
    have HQU := Lib.hid hqu
    have HRQU := Lib.hid hrqu
    have habb : (ab == ab) = true := by simp
    have hzz : (z == z) = true := by simp
    have hss : (s.toList == s.toList) = true := by simp
    clear hat hrat hqu hrqu hz hab hT hst hTT htl hL hs hw hr ht hn h3
    generalize hres : resL (L.map nrm) = r at *
    obtain ⟨x, nf⟩ := r
    have HRES := Lib.hid hres
    clear hres
    have hnf : ((nf : Int) == (nf : Int)) = true := by simp
    go_enter Tryz.func3, Tryz.ntmps3
    go_wp2_with (first
      | (go_at_call 7; refine HO.out.mono ?_; rintro e w1 ⟨g, rfl, hx, hg, hb1⟩; have HX := Lib.hid hx; have HB1 := Lib.hid hb1; have HPR := Lib.hid (print_res _ L w1 (hx.tkIn (L.length + 3)) HS.out HW.out (HT.out.below hb1)); rw [HRES.out] at HPR; clear hx hb1)
      | (go_at_call 8; refine HPR.out.mono ?_; rintro e w2 ⟨o2, rfl, ho2, hb2⟩; have HO2 := Lib.hid ho2; have HB2 := Lib.hid (HB1.out.trans (hb2.mono HB1.out.size)); have HX2 := Lib.hid (HX.out.below hb2 HX.out.lt); have HPR2 := Lib.hid (rprint_res _ L w2 (HL.out.below HB2.out) HS.out HW.out); rw [HRES.out] at HPR2; clear ho2 hb2)
      | (go_at_call 9; refine HPR2.out.mono ?_; rintro e w3 ⟨o3, rfl, ho3, hb3⟩; have HO3 := Lib.hid ho3; have HO23 := Lib.hid (HO2.out.below hb3); have HB3 := Lib.hid (HB2.out.trans (hb3.mono HB2.out.size)); have HX3 := Lib.hid (HX2.out.below hb3 HX2.out.lt); have HA3 := Lib.hid (awake_any w3 (HR.out.below HB3.out)); clear ho3 hb3)
      | (go_at_call 6; refine HA3.out.mono ?_; rintro e w4 ⟨rfl, hb4⟩; have HO4 := Lib.hid (HO3.out.below hb4); have HO24 := Lib.hid (HO23.out.below hb4); have HB4 := Lib.hid (HB3.out.trans (hb4.mono HB3.out.size)); have HX4 := Lib.hid (HX3.out.below hb4 HX3.out.lt); clear hb4)
      | (go_at_call 10; refine (bytes_yes HO24.out HO4.out).mono ?_; rintro e w5 ⟨rfl, rfl⟩)
      | (go_at_call 11; refine (HAT.out _).mono ?_; rintro e w5 ⟨rfl, rfl⟩)
      | (go_at_call 12; refine (HRAT.out _).mono ?_; rintro e w5 ⟨rfl, rfl⟩)
      | (go_at_call 13; refine (HQU.out _).mono ?_; rintro e w6 ⟨rfl, hb6⟩; have HB6 := Lib.hid (HB4.out.trans (hb6.mono HB4.out.size)); have HX6 := Lib.hid (HX4.out.below hb6 HX4.out.lt); clear hb6)
      | (go_at_call 14; refine (HRQU.out _).mono ?_; rintro e w7 ⟨rfl, hb7⟩; have HB7 := Lib.hid (HB6.out.trans (hb7.mono HB6.out.size)); have HX7 := Lib.hid (HX6.out.below hb7 HX6.out.lt); have HKP := Lib.hid (kept_any g _ L w7 HX7.out (HL.out.below HB7.out) (by omega)); clear hb7)
      | (go_at_call 15; refine HKP.out.mono ?_; rintro e w8 ⟨rfl, hb8⟩; have HB8 := Lib.hid (HB7.out.trans (hb8.mono HB7.out.size)); clear hb8))
    go_ret
    exact ⟨by first | rfl | simp, HB8.out⟩
  · have e1 : (300 : Int) < (L.length : Int) := by omega
    have HA := Lib.hid (awake_any w hr)
    clear h3 hL hs hw hr ht hn
    go_enter Tryz.func3, Tryz.ntmps3
    go_wp2_with (go_at_call 6; refine HA.out.mono ?_; rintro e w1 ⟨rfl, hb1⟩; have HB1 := Lib.hid hb1; clear hb1)
    go_ret
    exact ⟨rfl, HB1.out⟩
end Go.Proofs.YtghibofnfjnfcaaGreatDoor
