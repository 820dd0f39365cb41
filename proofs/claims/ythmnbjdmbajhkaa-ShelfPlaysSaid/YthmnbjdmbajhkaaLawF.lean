/-
  The law's own at, size and less.
-/
import Derived.Test.YthmnbjdmbajhkaaHRow
namespace Go.Proofs.Ythmnbjdmbajhkaa
set_option linter.unusedVariables false
open Go.RowKit
attribute [local go_sem] Oper.semAt_some

/-- the place of an ID in the law's list -/
def atH : List (Th × Bool) → Int → Int → Option Nat
  | [], _, _ => none
  | x :: r, a, b => if x.1.v = a ∧ x.1.u = b then some 0 else (atH r a b).map (· + 1)
theorem atH_at (H : List (Th × Bool)) (E : List (Th × Nat)) (a b : Int) (h : H.map (·.1) = E.map (·.1)) : atH H a b = (at? E a b).map (·.1) := by
  induction H generalizing E with
  | nil => cases E with
    | nil => rfl
    | cons y r => simp at h
  | cons x r ih => cases E with
    | nil => simp at h
    | cons y s =>
      simp only [List.map_cons, List.cons.injEq] at h
      have e : at? (y :: s) a b = if y.1.v = a ∧ y.1.u = b then some (0, y.1) else (at? s a b).map fun z => (z.1 + 1, z.2) := by rw [at?]
      rw [atH, ih s h.2, h.1, e]
      split
      · rfl
      · cases at? s a b <;> rfl
def kI : Option Nat → Int
  | none => -1
  | some k => k
theorem atH_none {H : List (Th × Bool)} {a b : Int} : atH H a b = none → ∀ x ∈ H, ¬ (x.1.v = a ∧ x.1.u = b) := by
  induction H with
  | nil => intro _ x hx; cases hx
  | cons y r ih =>
    intro h x hx
    rw [atH] at h
    split at h
    · cases h
    · rename_i hn
      rcases List.mem_cons.1 hx with rfl | hx
      · exact hn
      · exact ih (by simpa using h) x hx

set_option maxRecDepth 100000 in
set_option maxHeartbeats 4000000 in
theorem at_any (B : Nat) (v : Value) (H : List (Th × Bool)) (a b : Int) (w : World) (h : HRow w B v H) (hn : H.length ≤ 1000000) :
    Calls Try.prog 9 #[v, .agg #[.int .u32 a, .int .u32 b]] w fun e w' => e = .returned (.int .i64 (kI (atH H a b))) ∧ Below w.heap.size w w' := by
  obtain ⟨ra, cap, rfl, -, -, hg⟩ := h.shape
  have HH := Lib.hid h
  have HG := Lib.hid hg
  clear h hg
  go_enter Try.func9, Try.ntmps9
  go_wp2_with fail
  have HX : Hid (At (w.alloc (.cells #[.int .u32 a, .int .u32 b] 31)) w.heap.size (.cells #[.int .u32 a, .int .u32 b] 31 (0, 0))) := Lib.hid (heap_alloc_new w _)
  go_loopw [5] (fun iv wr => ∃ i : Nat, iv = .int .i64 i ∧ i ≤ H.length ∧ Hid (atH H a b = (atH (H.drop i) a b).map (· + i)) ∧ Below (w.heap.size + 1) (w.alloc (.cells #[.int .u32 a, .int .u32 b] 31)) wr) (fun iv _ => H.length - (RowKit.intOf iv).toNat)
  case atStart => exact ⟨0, rfl, Nat.zero_le _, Lib.hid (by simp), Below.refl _ _⟩
  case round =>
    obtain ⟨i, rfl, hi, hev, hb⟩ := hrel
    have HB := Lib.hid hb
    have HBW : Hid (Below w.heap.size w wr) := Lib.hid (((Below.refl _ _).alloc (Nat.le_refl _) _).trans (hb.mono (by omega)))
    have hx := HX.out.below hb (by omega)
    have x0 := hx.cell 0 (.int .u32 a) rfl
    have x1 := hx.cell 1 (.int .u32 b) rfl
    have hown : HRow wr B (.slice ra H.length cap) H := HH.out.below HBW.out
    clear hb hx
    by_cases hlt : i < H.length
    · have hii : (i : Int) < (H.length : Int) := by omega
      obtain ⟨g, rfl⟩ := HG.out (by omega)
      obtain ⟨g0, g1, -⟩ := oneC_at H i hlt
      have e0 : wr.cell? ⟨g, i * 5, none⟩ = some (.int .u32 H[i].1.v) := hown.cell (by rw [Nat.mul_comm i 5]; exact g0)
      have e1 : wr.cell? ⟨g, i * 5 + 1, none⟩ = some (.int .u32 H[i].1.u) := hown.cell (by rw [Nat.mul_comm i 5]; exact g1)
      have hk := eql_key H[i].1.v H[i].1.u a b
      have HD : Hid (atH (H.drop i) a b = if H[i].1.v = a ∧ H[i].1.u = b then some 0 else (atH (H.drop (i + 1)) a b).map (· + 1)) := Lib.hid (by rw [List.drop_eq_getElem_cons hlt, atH])
      clear hown g0 g1
      by_cases hd : H[i].1.v = a ∧ H[i].1.u = b
      · rw [decide_eq_true hd] at hk
        rw [if_pos hd] at HD
        clear hd
        go_wp2_with fail
        go_quiet (fail)
        go_wp2_with fail
        go_ret
        exact ⟨ret_eq (by rw [hev.out, HD.out]; simp [kI]), below_drewN HBW.out _⟩
      · rw [decide_eq_false hd] at hk
        rw [if_neg hd] at HD
        clear hd
        go_wp2_with fail
        go_quiet (fail)
        go_wp2_with fail
        go_roundw
        case rel => exact ⟨i + 1, by go_num, hlt, Lib.hid (by
          rw [hev.out, HD.out, Option.map_map]
          congr 1
          funext x
          simp only [Function.comp]
          omega), below_drewN HB.out _⟩
        case measure => simp [RowKit.intOf]; omega
    · have hii : ¬ (i : Int) < (H.length : Int) := by omega
      have HD : Hid (atH (H.drop i) a b = none) := Lib.hid (by rw [List.drop_eq_nil_of_le (by omega)]; rfl)
      clear hown
      go_wp2_with fail
      go_ret
      exact ⟨ret_eq (by rw [hev.out, HD.out]; rfl), HBW.out⟩

def sumH (H : List (Th × Bool)) : Int := (H.map fun x => x.1.size).sum
theorem sumH_snoc (H : List (Th × Bool)) (x : Th × Bool) : sumH (H ++ [x]) = sumH H + x.1.size := by simp [sumH]
theorem sumH_bound {H : List (Th × Bool)} (h : ∀ x ∈ H, 0 ≤ x.1.size ∧ x.1.size ≤ 1048576) : 0 ≤ sumH H ∧ sumH H ≤ 1048576 * H.length := by
  induction H with
  | nil => simp [sumH]
  | cons y r ih =>
    have h1 := h y (by simp)
    have h2 := ih (fun x hx => h x (by simp [hx]))
    simp only [sumH, List.map_cons, List.sum_cons, List.length_cons] at h2 ⊢
    push_cast
    omega
theorem sumH_E {H : List (Th × Bool)} {E : List (Th × Nat)} (h : H.map (·.1) = E.map (·.1)) : sumH H = sumE E := by
  have := congrArg (List.map Th.size) h
  unfold sumH sumE
  congr 1
  simpa [List.map_map, Function.comp_def] using this
set_option maxRecDepth 100000 in
set_option maxHeartbeats 4000000 in
theorem sizeH_any (B : Nat) (v : Value) (H : List (Th × Bool)) (w : World) (h : HRow w B v H) (hn : H.length ≤ 1000000) (hr : ∀ x ∈ H, 0 ≤ x.1.size ∧ x.1.size ≤ 1048576) :
    Calls Try.prog 19 #[v] w fun e w' => e = .returned (.int .i64 (sumH H)) ∧ Below w.heap.size w w' := by
  obtain ⟨ra, cap, rfl, -, -, hg⟩ := h.shape
  have HH := Lib.hid h
  have HG := Lib.hid hg
  have HR := Lib.hid hr
  clear h hg hr
  go_enter Try.func19, Try.ntmps19
  go_wp2_with fail
  go_loopw [3, 4] (fun nv iv wr => ∃ i : Nat, iv = .int .i64 i ∧ i ≤ H.length ∧ nv = .int .i64 (sumH (H.take i)) ∧ Below w.heap.size w wr) (fun _ iv _ => H.length - (RowKit.intOf iv).toNat)
  case atStart => exact ⟨0, rfl, Nat.zero_le _, rfl, Below.refl _ _⟩
  case round =>
    obtain ⟨i, rfl, hi, rfl, hb⟩ := hrel
    have HB := Lib.hid hb
    have hown : HRow wr B (.slice ra H.length cap) H := HH.out.below hb
    clear hb
    by_cases hlt : i < H.length
    · have hii : (i : Int) < (H.length : Int) := by omega
      obtain ⟨g, rfl⟩ := HG.out (by omega)
      obtain ⟨-, -, g2, -⟩ := oneC_at H i hlt
      have e2 : wr.cell? ⟨g, i * 5 + 2, none⟩ = some (.int .i64 H[i].1.size) := hown.cell (by rw [Nat.mul_comm i 5]; exact g2)
      have hsn : sumH (H.take (i + 1)) = sumH (H.take i) + H[i].1.size := by rw [List.take_succ_eq_append_getElem hlt, sumH_snoc]
      have hbd := sumH_bound (H := H.take (i + 1)) (fun x hx => HR.out x (List.mem_of_mem_take hx))
      have hlen : (H.take (i + 1)).length ≤ 1000000 := by simp; omega
      have HSN := Lib.hid hsn
      rw [hsn] at hbd
      clear hown g2 hsn
      generalize sumH (H.take i) = S at *
      generalize H[i].1.size = z at *
      have h1 : -9223372036854775808 ≤ S + z := by omega
      have h2 : S + z ≤ 9223372036854775807 := by omega
      have hw := wrapS h1 h2
      clear hbd hlen
      go_wp2_with fail
      go_roundw
      case rel => exact ⟨i + 1, by go_num, hlt, by rw [HSN.out], HB.out⟩
      case measure => simp [RowKit.intOf]; omega
    · have hii : ¬ (i : Int) < (H.length : Int) := by omega
      obtain rfl : i = H.length := by omega
      rw [List.take_length]
      clear hown
      go_wp2_with fail
      go_ret
      exact ⟨rfl, HB.out⟩

set_option maxRecDepth 100000 in
set_option maxHeartbeats 4000000 in
theorem lessH_any (a b : Th) (p q : Bool) (w : World) : Calls Try.prog 26 #[.agg #[.int .u32 a.v, .int .u32 a.u, .int .i64 a.size, .int .i64 a.used, .bool p], .agg #[.int .u32 b.v, .int .u32 b.u, .int .i64 b.size, .int .i64 b.used, .bool q]] w
    fun e w' => e = .returned (.bool (ltB a b)) ∧ Below w.heap.size w w' := by
  have HL : Hid (ltB a b = decide (a.used < b.used ∨ (a.used = b.used ∧ (a.v < b.v ∨ (a.v = b.v ∧ a.u < b.u))))) := Lib.hid (by
    rw [Bool.eq_iff_iff, decide_eq_true_iff, ltB_iff])
  obtain ⟨ab, av, au, asz, aus⟩ := a
  obtain ⟨bb, bv, bu, bsz, bus⟩ := b
  simp only at HL ⊢
  by_cases h1 : aus = bus
  · by_cases h2 : av = bv
    · have e1 : (aus != bus) = false := by simp [h1]
      have e2 : (av != bv) = false := by simp [h2]
      have HR : Hid (decide (au < bu) = ltB ⟨ab, av, au, asz, aus⟩ ⟨bb, bv, bu, bsz, bus⟩) := Lib.hid (by rw [HL.out]; congr 1; apply propext; omega)
      clear h1 h2
      go_enter Try.func26, Try.ntmps26
      go_wp2_with fail
      go_ret
      exact ⟨ret_eq (by rw [← HR.out]; rfl), ((Below.refl _ _).alloc (Nat.le_refl _) _).alloc (by simp) _⟩
    · have e1 : (aus != bus) = false := by simp [h1]
      have e2 : (av != bv) = true := by simp [h2]
      have HR : Hid (decide (av < bv) = ltB ⟨ab, av, au, asz, aus⟩ ⟨bb, bv, bu, bsz, bus⟩) := Lib.hid (by rw [HL.out]; congr 1; apply propext; omega)
      clear h1 h2
      go_enter Try.func26, Try.ntmps26
      go_wp2_with fail
      go_ret
      exact ⟨ret_eq (by rw [← HR.out]; rfl), ((Below.refl _ _).alloc (Nat.le_refl _) _).alloc (by simp) _⟩
  · have e1 : (aus != bus) = true := by simp [h1]
    have HR : Hid (decide (aus < bus) = ltB ⟨ab, av, au, asz, aus⟩ ⟨bb, bv, bu, bsz, bus⟩) := Lib.hid (by rw [HL.out]; congr 1; apply propext; omega)
    clear h1
    go_enter Try.func26, Try.ntmps26
    go_wp2_with fail
    go_ret
    exact ⟨ret_eq (by rw [← HR.out]; rfl), ((Below.refl _ _).alloc (Nat.le_refl _) _).alloc (by simp) _⟩
end Go.Proofs.Ythmnbjdmbajhkaa
