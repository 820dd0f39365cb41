/-
  The contracts of Has, of the program and of the reference.
-/
import Derived.Test.YtligplnmgoailaaMem
namespace Go.Proofs.Ytligplnmgoailaa
set_option linter.unusedVariables false
open Go.RowKit

/-- an end of a range -/
def endOf (x top : Int) : Int := if x = 0 then top else x
/-- has one range n? -/
def inB (p : Int × Int) (n top : Int) : Bool := decide (min (endOf p.1 top) (endOf p.2 top) ≤ n) && decide (n ≤ max (endOf p.1 top) (endOf p.2 top))
/-- has a set n? -/
def hasB (l : List (Int × Int)) (n top : Int) : Bool := decide (0 < n) && l.any fun p => inB p n top

theorem inB_of {x y n top : Int} (h : (x = 0 → y = 0 → top ≤ n ∧ n ≤ top) ∧ (x = 0 → y ≠ 0 → (top ≤ n ∨ y ≤ n) ∧ (n ≤ top ∨ n ≤ y)) ∧ (x ≠ 0 → y = 0 → (x ≤ n ∨ top ≤ n) ∧ (n ≤ top ∨ n ≤ x)) ∧ (x ≠ 0 → y ≠ 0 → (x ≤ n ∨ y ≤ n) ∧ (n ≤ x ∨ n ≤ y))) : inB (x, y) n top = true := by
  unfold inB endOf
  simp only [Bool.and_eq_true, decide_eq_true_eq]
  by_cases hx : x = 0 <;> by_cases hy : y = 0 <;> simp only [hx, hy, if_true, if_false] <;> omega
theorem inB_not {x y n top : Int} (h : ¬ ((x = 0 → y = 0 → top ≤ n ∧ n ≤ top) ∧ (x = 0 → y ≠ 0 → (top ≤ n ∨ y ≤ n) ∧ (n ≤ top ∨ n ≤ y)) ∧ (x ≠ 0 → y = 0 → (x ≤ n ∨ top ≤ n) ∧ (n ≤ top ∨ n ≤ x)) ∧ (x ≠ 0 → y ≠ 0 → (x ≤ n ∨ y ≤ n) ∧ (n ≤ x ∨ n ≤ y)))) : inB (x, y) n top = false := by
  cases e : inB (x, y) n top with
  | false => rfl
  | true =>
    exfalso
    apply h
    unfold inB endOf at e
    simp only [Bool.and_eq_true, decide_eq_true_eq] at e
    by_cases hx : x = 0 <;> by_cases hy : y = 0 <;> simp only [hx, hy, if_true, if_false] at e <;> omega
theorem has_ret {l : List (Int × Int)} {n top : Int} {k : Nat} {p : Int × Int} (hk : l.take (k + 1) = l.take k ++ [p]) (hn : 0 < n) (h : inB p n top = true) : hasB l n top = true := by
  unfold hasB
  rw [decide_eq_true hn, Bool.true_and, List.any_eq_true]
  refine ⟨p, ?_, h⟩
  have : p ∈ l.take (k + 1) := by rw [hk]; simp
  exact List.mem_of_mem_take this
theorem has_step {l : List (Int × Int)} {n top : Int} {k : Nat} {p : Int × Int} (hk : l.take (k + 1) = l.take k ++ [p]) (ha : (l.take k).any (fun p => inB p n top) = false) (h : inB p n top = false) : (l.take (k + 1)).any (fun p => inB p n top) = false := by
  rw [hk, List.any_append, ha]; simp [h]
theorem has_end {l : List (Int × Int)} {n top : Int} {k : Nat} (hk : l.length ≤ k) (ha : (l.take k).any (fun p => inB p n top) = false) : hasB l n top = false := by
  rw [List.take_of_length_le hk] at ha
  unfold hasB
  rw [ha, Bool.and_false]

set_option maxHeartbeats 1000000 in
theorem has_any (v : Value) (l : List (Int × Int)) (n top : Int) (w : World) (hr : RowR w v l) (n0 : 0 ≤ n) (n1 : n < 4294967296) (t0 : 0 ≤ top) (t1 : top < 4294967296) (hlen : l.length ≤ 1000000) :
    Calls Try.prog 33 #[v, .int .u32 n, .int .u32 top] w fun e w' => e = .returned (.bool (hasB l n top)) ∧ Below w.heap.size w w' := by
  obtain ⟨b, off, a, cap, rfl, hc, hm, ha, hcell⟩ := hr.shape
  have Ha := Lib.hid ha
  have Hc := Lib.hid hcell
  clear ha hcell
  by_cases hn : n = 0
  · subst hn
    go_enter Try.func33, Try.ntmps33
    go_wp2_with fail
    go_ret
    exact ⟨ret_eq (by simp [hasB]), Below.refl _ _⟩
  · have hn0 : (n == 0) = false := by simpa using hn
    have hnp : 0 < n := by omega
    go_enter Try.func33, Try.ntmps33
    go_wp2_with fail
    go_loopw [15] (fun i wr => ∃ k : Nat, k ≤ l.length ∧ i = .int .i64 k ∧ (l.take k).any (fun p => inB p n top) = false ∧ Below w.heap.size w wr) (fun i _ => l.length - (intOf i).toNat)
    case atStart => exact ⟨0, by omega, rfl, by simp, Below.refl _ _⟩
    case round =>
      obtain ⟨k, hk, rfl, hany, hb⟩ := hrel
      have Hany := Lib.hid hany
      clear hany
      by_cases hlt : k < l.length
      · obtain ⟨rfl, hbl⟩ := Ha.out (by omega)
        obtain ⟨hc0, hc1⟩ := Hc.out k hlt
        have hq0 : wr.cell? ⟨b, off + k * 2, none⟩ = some (.int .u32 l[k].1) := (hb.cell (p := ⟨b, off + k * 2, none⟩) hbl).trans hc0
        have hq1 : wr.cell? ⟨b, off + k * 2 + 1, none⟩ = some (.int .u32 l[k].2) := (hb.cell (p := ⟨b, off + k * 2 + 1, none⟩) hbl).trans hc1
        clear hc0 hc1
        have HK := Lib.hid (List.take_succ_eq_append_getElem hlt)
        have hp := hr.2 l[k] (List.getElem_mem hlt)
        generalize l[k] = p at *
        obtain ⟨x, y⟩ := p
        obtain ⟨⟨x0, x1⟩, y0, y1⟩ := hp
        simp only at hq0 hq1 x0 x1 y0 y1
        go_wp2_with fail
        go_quiet (fail)
        go_wp2_with fail
        all_goals
          simp only [beq_iff_eq, beq_eq_false_iff_ne, ne_eq] at *
          first
          | (go_ret
             exact ⟨ret_eq (show Value.bool true = Value.bool (hasB l n top) by rw [has_ret HK.out hnp (inB_of (by omega))]), hb.trans (below_drewN ((Below.refl _ _).alloc (Nat.le_refl _) _) _ |>.mono hb.size)⟩)
          | (go_roundw
             case rel => exact ⟨k + 1, by omega, by go_num, has_step HK.out Hany.out (inB_not (by omega)), hb.trans (below_drewN ((Below.refl _ _).alloc (Nat.le_refl _) _) _ |>.mono hb.size)⟩
             case measure => simp [intOf]; omega)
      · go_wp2_with fail
        go_ret
        exact ⟨ret_eq (show Value.bool false = Value.bool (hasB l n top) by rw [has_end (by omega) Hany.out]), hb⟩

set_option maxHeartbeats 1000000 in
theorem rhas_any (v : Value) (l : List (Int × Int)) (n top : Int) (w : World) (hr : RowR w v l) (n0 : 0 ≤ n) (n1 : n < 4294967296) (t0 : 0 ≤ top) (t1 : top < 4294967296) (hlen : l.length ≤ 1000000) :
    Calls Try.prog 35 #[v, .int .u32 n, .int .u32 top] w fun e w' => e = .returned (.bool (hasB l n top)) ∧ Below w.heap.size w w' := by
  obtain ⟨b, off, a, cap, rfl, hc, hm, ha, hcell⟩ := hr.shape
  have Ha := Lib.hid ha
  have Hc := Lib.hid hcell
  clear ha hcell
  by_cases hn : n = 0
  · subst hn
    have hB : Hid (hasB l 0 top = false) := Lib.hid (by simp [hasB])
    go_enter Try.func35, Try.ntmps35
    go_wp2_with fail
    go_loopw [7] (fun i wr => ∃ k : Nat, k ≤ l.length ∧ i = .int .i64 k ∧ Below w.heap.size w wr) (fun i _ => l.length - (intOf i).toNat)
    case atStart => exact ⟨0, by omega, rfl, Below.refl _ _⟩
    case round =>
      obtain ⟨k, hk, rfl, hb⟩ := hrel
      by_cases hlt : k < l.length
      · obtain ⟨rfl, hbl⟩ := Ha.out (by omega)
        obtain ⟨hc0, hc1⟩ := Hc.out k hlt
        have hq0 : wr.cell? ⟨b, off + k * 2, none⟩ = some (.int .u32 l[k].1) := (hb.cell (p := ⟨b, off + k * 2, none⟩) hbl).trans hc0
        have hq1 : wr.cell? ⟨b, off + k * 2 + 1, none⟩ = some (.int .u32 l[k].2) := (hb.cell (p := ⟨b, off + k * 2 + 1, none⟩) hbl).trans hc1
        clear hc0 hc1
        have hp := hr.2 l[k] (List.getElem_mem hlt)
        generalize l[k] = p at *
        obtain ⟨x, y⟩ := p
        obtain ⟨⟨x0, x1⟩, y0, y1⟩ := hp
        simp only at hq0 hq1 x0 x1 y0 y1
        go_wp2_with fail
        go_quiet (fail)
        go_wp2_with fail
        all_goals
          go_roundw
          case rel => exact ⟨k + 1, by omega, by go_num, below_drewN hb _⟩
          case measure => simp [intOf]; omega
      · go_wp2_with fail
        go_ret
        exact ⟨ret_eq (show Value.bool false = Value.bool (hasB l 0 top) by rw [hB.out]), hb⟩
  · have hnp : 0 < n := by omega
    go_enter Try.func35, Try.ntmps35
    go_wp2_with fail
    go_loopw [7] (fun i wr => ∃ k : Nat, k ≤ l.length ∧ i = .int .i64 k ∧ (l.take k).any (fun p => inB p n top) = false ∧ Below w.heap.size w wr) (fun i _ => l.length - (intOf i).toNat)
    case atStart => exact ⟨0, by omega, rfl, by simp, Below.refl _ _⟩
    case round =>
      obtain ⟨k, hk, rfl, hany, hb⟩ := hrel
      have Hany := Lib.hid hany
      clear hany
      by_cases hlt : k < l.length
      · obtain ⟨rfl, hbl⟩ := Ha.out (by omega)
        obtain ⟨hc0, hc1⟩ := Hc.out k hlt
        have hq0 : wr.cell? ⟨b, off + k * 2, none⟩ = some (.int .u32 l[k].1) := (hb.cell (p := ⟨b, off + k * 2, none⟩) hbl).trans hc0
        have hq1 : wr.cell? ⟨b, off + k * 2 + 1, none⟩ = some (.int .u32 l[k].2) := (hb.cell (p := ⟨b, off + k * 2 + 1, none⟩) hbl).trans hc1
        clear hc0 hc1
        have HK := Lib.hid (List.take_succ_eq_append_getElem hlt)
        have hp := hr.2 l[k] (List.getElem_mem hlt)
        generalize l[k] = p at *
        obtain ⟨x, y⟩ := p
        obtain ⟨⟨x0, x1⟩, y0, y1⟩ := hp
        simp only at hq0 hq1 x0 x1 y0 y1
        go_wp2_with fail
        go_quiet (fail)
        go_wp2_with fail
        all_goals
          simp only [beq_iff_eq, beq_eq_false_iff_ne, ne_eq] at *
          first
          | (go_ret
             exact ⟨ret_eq (show Value.bool true = Value.bool (hasB l n top) by rw [has_ret HK.out hnp (inB_of (by omega))]), below_drewN hb _⟩)
          | (go_roundw
             case rel => exact ⟨k + 1, by omega, by go_num, has_step HK.out Hany.out (inB_not (by omega)), below_drewN hb _⟩
             case measure => simp [intOf]; omega)
      · go_wp2_with fail
        go_ret
        exact ⟨ret_eq (show Value.bool false = Value.bool (hasB l n top) by rw [has_end (by omega) Hany.out]), hb⟩
end Go.Proofs.Ytligplnmgoailaa
