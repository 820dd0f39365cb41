/-
  What the law FlagsOrder wants besides: few enough; two lists held alike; a text stored into a row of the call's own; the opener.
-/
import Derived.Test.YtekfpgjnmfplaaaAwake
import Derived.Deep.QuietTactic
import Derived.SliceStrings
import Derived.JoinedCond
import Derived.SizedLaws
namespace Go.Proofs.Ytekfpgjnmfplaaa
set_option linter.unusedVariables false
open Go.RowKit Go.ChangeShapes Go.WideShapes

set_option maxHeartbeats 1000000 in
theorem small5_any (g : Nat) (a : Option Addr) (n cap : Nat) (w : World) (hc : w.cell? ⟨g, 0, none⟩ = some (.slice a n cap)) :
    Calls Try.prog 5 #[.slice (some ⟨g, 0, none⟩) 1 1] w fun e w' => e = .returned (.bool (decide (n ≤ 60))) ∧ w' = w := by
  go_enter Try.func5, Try.ntmps5
  go_wp2_with fail
  go_loopw [3] (fun i wr => ∃ k : Nat, i = .int .i64 k ∧ k ≤ 1 ∧ wr = w ∧ (0 < k → n ≤ 60)) (fun i _ => 1 - (RowKit.intOf i).toNat)
  case atStart => exact ⟨0, rfl, by omega, rfl, fun h => by omega⟩
  case round =>
    obtain ⟨k, rfl, hk, rfl, hkn⟩ := hrel
    have hk2 : k = 0 ∨ k = 1 := by omega
    rcases hk2 with rfl | rfl
    · clear hkn
      by_cases h : 60 < n
      · have hd : decide ((60 : Int) < (n : Int)) = true := decide_eq_true (by omega)
        have HD : Hid (decide (n ≤ 60) = false) := Lib.hid (decide_eq_false (by omega))
        clear h
        go_wp2_with fail
        go_ret
        exact ⟨by rw [HD.out]; first | done | rfl, rfl⟩
      · have hd : decide ((60 : Int) < (n : Int)) = false := decide_eq_false (by omega)
        have HN : Hid (n ≤ 60) := Lib.hid (by omega)
        clear h
        go_wp2_with fail
        go_roundw
        case rel => exact ⟨1, by simp, by omega, by first | rfl | trivial, fun _ => HN.out⟩
        case measure => simp [RowKit.intOf]
    · have HD : Hid (decide (n ≤ 60) = true) := Lib.hid (decide_eq_true (hkn (by omega)))
      clear hkn
      go_wp2_with fail
      go_ret
      exact ⟨by rw [HD.out]; first | done | rfl, rfl⟩

theorem eqT_any (s : ByteArray) (w : World) : Calls Try.prog 15 #[.string s, .string s] w fun e w' => e = .returned (.bool true) ∧ w' = w := by
  go_enter Try.func15, Try.ntmps15
  go_wp2_with fail
  go_ret
  exact ⟨by simp, rfl⟩
theorem below_drewN {B : Nat} {w a : World} (h : Below B w a) (n : Nat) : Below B w (a.drewN n) := ⟨h.os, h.tape, h.output, h.size, h.block⟩
set_option maxRecDepth 100000 in
set_option maxHeartbeats 2000000 in
theorem sameT_any {va vb : Value} {T : List Tx} {w : World} (ha : RowT w va T) (hb : RowT w vb T) :
    Calls Try.prog 14 #[va, vb, .func (.func 15) #[] #[]] w fun e w' => e = .returned (.bool true) ∧ Below w.heap.size w w' := by
  obtain ⟨b1, o1, a1, c1, rfl, hc1, hm1, h1, g1⟩ := ha.shape
  obtain ⟨b2, o2, a2, c2, rfl, -, -, h2, g2⟩ := hb.shape
  have hm : T.length ≤ 9223372036854775807 := by unfold maxLen at hm1; omega
  have H1 := Lib.hid h1
  have H2 := Lib.hid h2
  have G1 := Lib.hid g1
  have G2 := Lib.hid g2
  clear ha hb h1 h2 g1 g2 hc1 hm1
  go_enter Try.func14, Try.ntmps14
  go_wp2_with fail
  go_loopw [7] (fun i wr => ∃ k : Nat, k ≤ T.length ∧ i = .int .i64 k ∧ Below w.heap.size w wr) (fun i _ => T.length - (intOf i).toNat)
  case atStart => exact ⟨0, Nat.zero_le _, rfl, Below.refl _ _⟩
  case round =>
    obtain ⟨k, hk, rfl, hst⟩ := hrel
    by_cases hlt : k < T.length
    · have hii : (k : Int) < (T.length : Int) := by omega
      obtain ⟨rfl, hb1⟩ := H1.out (by omega)
      obtain ⟨rfl, hb2⟩ := H2.out (by omega)
      have d1 : wr.cell? ⟨b1, o1 + k, none⟩ = some (.string (strL T[k])) := (hst.cell (p := ⟨b1, o1 + k, none⟩) hb1).trans (G1.out k hlt)
      have d2 : wr.cell? ⟨b2, o2 + k, none⟩ = some (.string (strL T[k])) := (hst.cell (p := ⟨b2, o2 + k, none⟩) hb2).trans (G2.out k hlt)
      generalize strL T[k] = s at *
      go_wp2_with fail
      go_quiet ((go_at_call 15; exact Calls.quiet_of_same (eqT_any s _)))
      go_wp2_with fail
      go_roundw
      case rel => exact ⟨k + 1, by omega, by go_num, below_drewN hst _⟩
      case measure => simp [intOf]; omega
    · have hii : ¬ (k : Int) < (T.length : Int) := by omega
      go_wp2_with fail
      go_ret
      exact ⟨rfl, hst⟩
theorem plainT_any {va vb : Value} {T : List Tx} {w : World} (ha : RowT w va T) (hb : RowT w vb T) :
    Calls Try.prog 8 #[va, vb] w fun e w' => e = .returned (.bool true) ∧ Below w.heap.size w w' := by
  go_enter Try.func8, Try.ntmps8
  go_wp2_with fail
  refine (sameT_any ha hb).mono ?_
  rintro e w1 ⟨rfl, hst⟩
  go_wp2_with fail
  go_ret
  exact ⟨rfl, hst⟩

/-- a text stored into a row of the call's own -/
theorem OwnT.set {w : World} {B g n cap : Nat} {T : List Tx} (h : OwnT w B (.slice (some ⟨g, 0, none⟩) n cap) T) (i : Nat) (hi : i < T.length) (t : Tx) :
    OwnT (w.setCell ⟨g, i, none⟩ (.string (strL t))) B (.slice (some ⟨g, 0, none⟩) n cap) (T.set i t) ∧ Below B w (w.setCell ⟨g, i, none⟩ (.string (strL t))) ∧ w.frozen? ⟨g, i, none⟩ = false ∧ w.cell? ⟨g, i, none⟩ = some (.string (strL T[i])) := by
  obtain ⟨g', cap', cur, hv, hB, hh, hn, hm, hs, ht⟩ := h.block (by intro e; rw [e] at hi; simp at hi)
  simp only [Value.slice.injEq, Option.some.injEq, Addr.mk.injEq, and_true] at hv
  obtain ⟨rfl, rfl, rfl⟩ := hv
  refine ⟨⟨by simp, .inr ⟨g, cap, cur.setIfInBounds i (.string (strL t)), by simp, hB, heap_setCell_same w g i cur 9 _ hh, by simpa using hn, hm, by simpa using hs, ?_⟩⟩, ?_, frozen_of_row _ _ _ _ _ hh, ?_⟩
  · rw [List.length_set, Nat.mul_one, Array.toList_setIfInBounds, List.take_set, ht]
    simp [txV, List.map_set]
  · exact ⟨rfl, rfl, rfl, by simp [World.setCell], fun k hk => Below.heap_setCell _ _ _ _ (by simp; omega)⟩
  · have := (OwnT.row h).shape
    obtain ⟨b, off, a, c, hv2, _, _, ha, hcell⟩ := this
    obtain ⟨rfl, _⟩ := ha (by omega)
    simp only [Value.slice.injEq, Option.some.injEq, Addr.mk.injEq, and_true] at hv2
    obtain ⟨⟨rfl, rfl⟩, _, _⟩ := hv2
    have := hcell i hi
    rwa [Nat.zero_add] at this

theorem weightsAll_mem {H : Type} {P : Program} {e : TypeId} {d : DataW H} : ∀ {l : List (DataW H)}, d ∈ l → ∀ n ∈ d.weights P e, n ∈ DataW.weightsAll P e l := by
  intro l
  induction l with
  | nil => intro h; cases h
  | cons c r ih =>
    intro h n hn
    rw [DataW.weightsAll]
    rcases List.mem_cons.1 h with rfl | h
    · exact List.mem_append_left _ hn
    · exact List.mem_append_right _ (ih h n hn)
/-- a slice of texts, opened -/
theorem open_txts {H : Type} {enc : TypeId × Value → H} {w : World} {a : Option Addr} {len cap : Nat} {d : DataW H} {p : List MemPlace}
    (h : DataW.Trod enc Try.prog w 0 (fun _ => true) true 22 (.slice a len cap) d p) (hwt : ∀ n ∈ d.weights Try.prog 22, n ≤ reachBytes) : ∃ T : List Tx, RowT w (.slice a len cap) T ∧ ∀ t ∈ T, t.length ≤ 140737488351232 := by
  obtain ⟨fuel, hf⟩ := h
  rcases open_strings Try.underlying22 Try.underlying9 (by kernel_rfl) hf with ⟨hcs, _⟩ | ⟨x, l, c, ss, hcs, _, hl, hm, hz, hx, hcell, hsz⟩
  · simp [Value.cells] at hcs
    obtain ⟨rfl, rfl, rfl⟩ := hcs
    exact ⟨[], RowV.none_ w 1, by simp⟩
  · simp [Value.cells] at hcs
    obtain ⟨rfl, rfl, rfl⟩ := hcs
    have hz' : ss.length = cap := by simpa using hz
    have htl : (ss.take len).length = len := by simp; omega
    obtain ⟨rfl, rfl⟩ := Prod.mk.inj hx
    refine ⟨(ss.take len).map fun s => s.data.toList, ⟨some x, cap, by simp; omega, by simp; omega, hm, by simp, by simp, ?_⟩, ?_⟩
    · intro y hy j hj
      obtain rfl := Option.some.inj hy
      have hj' : j < len := by simp at hj; omega
      rw [hcell j (by omega), txV_at _ j (by simp; omega)]
      simp only [List.getElem_map, List.getElem_take]
      rw [List.getD_eq_getElem?_getD, List.getElem?_eq_getElem (by omega)]
      rfl
    · intro t ht
      obtain ⟨s, hs, rfl⟩ := List.mem_map.1 ht
      have h9 := hwt s.data.toList.length (by
        rw [DataW.weights, Try.underlying22]
        refine List.mem_cons_of_mem _ (List.mem_append_left _ (weightsAll_mem (d := .lit (.string s.data.toList)) ?_ _ (by rw [DataW.weights]; exact List.mem_singleton.2 rfl)))
        exact List.mem_map.2 ⟨s, hs, rfl⟩)
      simp only [reachBytes] at h9
      omega
end Go.Proofs.Ytekfpgjnmfplaaa
