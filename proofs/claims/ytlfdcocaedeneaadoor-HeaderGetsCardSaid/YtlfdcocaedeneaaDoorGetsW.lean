/-
  HeaderGets: its walk.
-/
import Derived.Test.YtlfdcocaedeneaaDoorGets
import Derived.Test.YtlfdcocaedeneaaDoorRefG
import Derived.Test.YtlfdcocaedeneaaDoorTellsW
import Derived.Test.YtlfdcocaedeneaaDoorPartsW
namespace Go.Proofs.YtlfdcocaedeneaaDoor
set_option linter.unusedVariables false
open Go.RowKit Go.Lib

theorem onlyS_lt {l : List Nat} (hl : ∀ c ∈ l, c < 256) (S : List ByteArray) (nt : Bool) : ∀ c ∈ onlyS l S nt, c < 256 := fun c hc => by
  unfold onlyS at hc
  rcases List.mem_append.1 hc with h | h
  · obtain ⟨f, hf, hcf⟩ := List.mem_flatMap.1 h
    exact (fieldsS_bts hl f (List.mem_filter.1 hf).1).2 c hcf
  · simp at h; omega

set_option maxRecDepth 100000 in
set_option maxHeartbeats 4000000 in
theorem gets_walk (v0 v1 v3 : Value) (l : List Nat) (L : List Tk) (nm : ByteArray) (S : List ByteArray) (nt : Bool) (w : World) (h0 : RowB w v0 l) (hb0 : l.length ≤ 140737488351232) (h1 : TksIn w v1 L) (h2 : nm.size ≤ 140737488351232) (h3 : StrsIn w v3 S) :
    Calls Tryd.prog 4 #[v0, v1, .string nm, v3, .bool nt] w fun e w' => e = .returned (.bool true) ∧ Below w.heap.size w w' := by
  have HAW := Lib.hid (fun w => awake_any w)
  obtain ⟨a0, n0, c0, rfl, hl0, -⟩ := id h0
  obtain ⟨a1, c1, rfl⟩ := h1.shape
  obtain ⟨a3, c3, rfl⟩ := h3.shape
  have H0 := Lib.hid h0
  have H1 := Lib.hid h1
  have H2 := Lib.hid h2
  have H3 := Lib.hid h3
  have HL0 := Lib.hid hl0
  clear h0 h1 h2 h3 hl0
  by_cases g0 : 20000 < (n0 : Int)
  · go_enter Tryd.func4, Tryd.ntmps4
    go_wp2_with fail
    refine (HAW.out _).mono ?_
    rintro e w1 ⟨rfl, hb⟩
    go_wp2_with fail
    go_ret
    exact ⟨rfl, hb⟩
  · by_cases g1 : 200 < L.length
    · go_enter Tryd.func4, Tryd.ntmps4
      go_wp2_with fail
      refine (HAW.out _).mono ?_
      rintro e w1 ⟨rfl, hb⟩
      go_wp2_with fail
      go_ret
      exact ⟨rfl, hb⟩
    · by_cases g2 : 60 < S.length
      · go_enter Tryd.func4, Tryd.ntmps4
        go_wp2_with fail
        refine (HAW.out _).mono ?_
        rintro e w1 ⟨rfl, hb⟩
        go_wp2_with fail
        go_ret
        exact ⟨rfl, hb⟩
      · have hll : l.length ≤ 20000 := by rw [HL0.out]; omega
        have HOL := Lib.hid (onlyS_lt H0.out.lt S nt)
        have HRO : Hid (∀ W, Below w.heap.size w W → Calls Tryd.prog 22 #[.slice a0 n0 c0, .slice a3 S.length c3, .bool nt] W fun e w' => ∃ o, e = .returned o ∧ OwnB w' W.heap.size o (onlyS l S nt) ∧ Below W.heap.size W w') := Lib.hid (fun W hb => by
          obtain ⟨lb, lo, e1, e2, e3, e4, e5⟩ := RowB.place (H0.out.below hb)
          have := ronly_any a0 lb lo c0 (.slice a3 S.length c3) l S nt W e1 e2 e3 e4 e5 (by omega) H0.out.lt (H3.out.below hb) (by omega)
          rwa [HL0.out] at this)
        have HGE : Hid (∀ W, Below w.heap.size w W → Calls Tryd.prog 16 #[.slice a1 L.length c1, .string nm] W fun e w' => e = .returned (.tuple #[.string (getS L nm).1, .bool (getS L nm).2]) ∧ Below W.heap.size W w') := Lib.hid (fun W hb => get_any _ L nm W (H1.out.below hb) H2.out (by omega))
        have HRG : Hid (∀ W, Below w.heap.size w W → Calls Tryd.prog 17 #[.slice a1 L.length c1, .string nm] W fun e w' => e = .returned (.tuple #[.string (getS L nm).1, .bool (getS L nm).2]) ∧ Below W.heap.size W w') := Lib.hid (fun W hb => rget_any _ L nm W (H1.out.below hb) H2.out (by omega))
        generalize getS L nm = gs at *
        obtain ⟨g1, g2⟩ := gs
        have HF1 := Lib.hid (fun W => FoldN_any nm H2.out W)
        have HF2 := Lib.hid (fun W => foldN_any nm H2.out W)
        generalize strL (foldL nm.data.toList) = lw at *
        have HLL := Lib.hid hll
        clear hll
        go_enter Tryd.func4, Tryd.ntmps4
        go_wp2_with fail
        refine (own_any _ l w 71 H0.out (by have := HLL.out; omega)).mono ?_
        rintro e w1 ⟨o, rfl, ho, hb1⟩
        have HO := Lib.hid ho
        have HB1 := Lib.hid hb1
        have hs1 := hb1.size
        clear ho hb1
        go_wp2_with fail
        refine (HGE.out w1 HB1.out).mono ?_
        rintro e w2 ⟨rfl, hb2⟩
        have HO2 := Lib.hid (HO.out.below hb2)
        have HB2 := Lib.hid (HB1.out.trans (hb2.mono (by omega)))
        have hs2 := hb2.size
        clear hb2
        go_wp2_with fail
        refine (HRG.out w2 HB2.out).mono ?_
        rintro e w3 ⟨rfl, hb3⟩
        have HO3 := Lib.hid (HO2.out.below hb3)
        have HB3 := Lib.hid (HB2.out.trans (hb3.mono (by omega)))
        have hs3 := hb3.size
        clear hb3
        go_wp2_with fail
        refine (HAW.out _).mono ?_
        rintro e w4 ⟨rfl, hb4⟩
        have HO4 := Lib.hid (HO3.out.below hb4)
        have HB4 := Lib.hid (HB3.out.trans (hb4.mono (by omega)))
        have hs4 := hb4.size
        clear hb4
        go_wp2_with fail
        refine (HF1.out _).mono ?_
        rintro e w5 ⟨rfl, hb5⟩
        have HO5 := Lib.hid (HO4.out.below hb5)
        have HB5 := Lib.hid (HB4.out.trans (hb5.mono (by omega)))
        have hs5 := hb5.size
        clear hb5
        go_wp2_with fail
        refine (HF2.out _).mono ?_
        rintro e w6 ⟨rfl, hb6⟩
        have HO6 := Lib.hid (HO5.out.below hb6)
        have HB6 := Lib.hid (HB5.out.trans (hb6.mono (by omega)))
        have hs6 := hb6.size
        clear hb6
        go_wp2_with fail
        refine (only_any _ _ l S nt w6 (HO6.out.row H0.out.lt) (by have := HLL.out; omega) (H3.out.below HB6.out) (by omega)).mono ?_
        rintro e w7 ⟨o7, rfl, ho7, hb7⟩
        have HO7 := Lib.hid (HO6.out.below hb7)
        have HB7 := Lib.hid (HB6.out.trans (hb7.mono (by omega)))
        have HW7 := Lib.hid ho7
        have hs7 := hb7.size
        clear hb7 ho7
        go_wp2_with fail
        refine (HRO.out w7 HB7.out).mono ?_
        rintro e w8 ⟨o8, rfl, ho8, hb8⟩
        have HO8 := Lib.hid (HO7.out.below hb8)
        have HB8 := Lib.hid (HB7.out.trans (hb8.mono (by omega)))
        have HW8 := Lib.hid (OwnB.keep HW7.out hb8 (ownB_lt HW7.out))
        have HX8 := Lib.hid ho8
        have hs8 := hb8.size
        clear hb8 ho8
        go_wp2_with fail
        refine (bytes_yes _ _ _ w8 (OwnB.rowB HW8.out HOL.out) (OwnB.rowB HX8.out HOL.out)).mono ?_
        rintro e w9 ⟨rfl, rfl⟩
        go_wp2_with fail
        refine (kept_any HO8.out (H0.out.below HB8.out) (by have := HLL.out; omega)).mono ?_
        rintro e w9 ⟨rfl, hb9⟩
        have HB9 := Lib.hid (HB8.out.trans (hb9.1.mono (by omega)))
        clear hb9
        go_wp2_with fail
        go_ret
        exact ⟨rfl, HB9.out⟩
end Go.Proofs.YtlfdcocaedeneaaDoor
