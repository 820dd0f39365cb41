/-
  The contract of Sector: bytes over and over.
-/
import Derived.Test.YtgdfobhhkfplbaaRead
namespace Go.Proofs.Ytgdfobhhkfplbaa
set_option linter.unusedVariables false
open Go.RowKit

/-- so many bytes of a sector of bytes over and over, the rest zeros -/
def over (l : List Nat) (k : Nat) : List Nat := (List.range 64).map fun i => if i < k then l.getD (i % l.length) 0 else 0
def secOf (l : List Nat) : List Nat := over l 64
theorem over_len (l : List Nat) (k : Nat) : (over l k).length = 64 := by simp [over]
theorem secOf_len (l : List Nat) : (secOf l).length = 64 := over_len l 64
theorem over_zero (l : List Nat) : over l 0 = zeros 64 := by simp only [over, zeros, Nat.not_lt_zero, if_false]; decide
theorem over_lt {l : List Nat} (h : ∀ n ∈ l, n < 256) (k : Nat) : ∀ n ∈ over l k, n < 256 := by
  intro n hn
  obtain ⟨i, _, rfl⟩ := List.mem_map.1 hn
  split
  · rw [List.getD_eq_getElem?_getD]
    cases hq : l[i % l.length]? with
    | none => simp
    | some x => simpa using h x (List.mem_of_getElem? hq)
  · decide
theorem secOf_lt {l : List Nat} (h : ∀ n ∈ l, n < 256) : ∀ n ∈ secOf l, n < 256 := over_lt h 64
theorem over_nil (k : Nat) : over [] k = zeros 64 := by
  have e : (fun i => if i < k then ([] : List Nat).getD (i % ([] : List Nat).length) 0 else 0) = fun _ => 0 := by funext i; simp
  unfold over
  rw [e]
  decide
theorem over_succ (l : List Nat) (k : Nat) (hk : k < 64) : over l (k + 1) = (over l k).set k (l.getD (k % l.length) 0) := by
  apply List.ext_getElem
  · simp [over]
  · intro i h1 h2
    simp only [over, List.getElem_map, List.getElem_range, List.getElem_set]
    by_cases e : k = i
    · subst e; simp
    · have : (i < k + 1) = (i < k) := by simp; omega
      simp [e, this]

/-- 64 zeros are made -/
theorem make_64 {w : World} {ops : Array Oper} {rest : List Oper} {o : Oper} {a : Act} {Q : Exit → Act → World → Prop} (hg : o.guard = none) (l c : Operand) (hop : o.op = Op.makeSlice 30 l c)
    (hl : a.eval l = .int .i64 64) (hc : a.eval c = .int .i64 64)
    (h : ∀ w', OwnB w' w.heap.size (.slice (some ⟨w.heap.size, 0, none⟩) 64 64) (zeros 64) → Below w.heap.size w w' → wpList Try.prog ops Q rest (a.put o.dst (.slice (some ⟨w.heap.size, 0, none⟩) 64 64)) w') :
    wpList Try.prog ops Q (o :: rest) a w := by
  obtain ⟨i0, hi, hz0, hz1, hz2⟩ := info_parts Try.info5
  refine wpList_make_full _ hg l c 30 hop w.heap.size 5 i0 (.int .u8 0) 1 Try.underlying30 hi hz0 hz1 _ _ _ _ 64 hl hc rfl rfl (by rw [hz2]; decide) (by decide) (Nat.le_refl _) ?_
  intro w' h1 h2
  refine h w' ?_ ((Below.refl _ _).grown h2 (Nat.le_refl _) (by simp))
  have e : (madeCells (Value.int IntKind.u8 0).cells (64 * 1)).toList = u8s (zeros 64) := by kernel_rfl
  rw [e] at h1
  exact h1

set_option maxHeartbeats 1000000 in
theorem sector_any (v : Value) (l : List Nat) (w : World) (hr : RowB w v l) (hs : l.length ≤ 9223372036854775807) : Calls Try.prog 25 #[v] w fun e w' => ∃ o, e = .returned o ∧ OwnB w' w.heap.size o (secOf l) ∧ Below w.heap.size w w' := by
  rcases hr.shape with ⟨rfl, a, cap, rfl, hm⟩ | ⟨b, off, cap, rfl, hpos, hlc, hm, hcell⟩
  · go_enter Try.func25, Try.ntmps25
    go_wp2_with (at_make; refine make_64 rfl _ _ rfl rfl rfl ?_)
    intro w1 ho hb
    go_wp2_with fail
    refine wp_loop_rounds 1 ?_
    rw [rounds_succ]
    go_wp2_with fail
    go_ret
    exact ⟨_, rfl, by unfold secOf; rw [over_nil]; exact ho, hb⟩
  · have HC := Lib.hid hcell
    have hbs : b < w.heap.size := World.block_lt_of_cell? w _ (hcell 0 hpos)
    clear hcell hr
    have hpi : (0 : Int) < (l.length : Int) := by omega
    have hnz : ((l.length : Int) == 0) = false := beq_eq_false_iff_ne.2 (by omega)
    go_enter Try.func25, Try.ntmps25
    go_wp2_with (at_make; refine make_64 rfl _ _ rfl rfl rfl ?_)
    intro w1 ho hb
    have HO := Lib.hid ho
    have HB := Lib.hid hb
    clear ho hb
    go_wp2_with fail
    go_loopw [4] (fun i wr => ∃ k : Nat, k ≤ 64 ∧ i = .int .i64 (k : Int) ∧ OwnB wr w.heap.size (.slice (some ⟨w.heap.size, 0, none⟩) 64 64) (over l k) ∧ Below w.heap.size w wr) (fun i _ => (64 - intOf i).toNat)
    case atStart => exact ⟨0, by omega, rfl, by rw [over_zero]; exact HO.out, HB.out⟩
    case round =>
      obtain ⟨k, hk, rfl, hown, hbel⟩ := hrel
      by_cases hk64 : k < 64
      · have hmod : k % l.length < l.length := Nat.mod_lt _ hpos
        have hc1 : wr.cell? ⟨b, off + k % l.length, none⟩ = some (.int .u8 (l.getD (k % l.length) 0 : Nat)) := by
          rw [hbel.cell (p := ⟨b, off + k % l.length, none⟩) hbs, HC.out _ hmod, List.getD_eq_getElem?_getD, List.getElem?_eq_getElem hmod]
          rfl
        have hc2 := hown.cell (by rw [over_len]) k (by rw [over_len]; exact hk64)
        have hf2 := hown.free (by rw [over_len]) k
        have HS := Lib.hid (hown.set (by rw [over_len]) k (l.getD (k % l.length) 0))
        have HOS := Lib.hid (over_succ l k hk64)
        have HBE := Lib.hid hbel
        have hki : (k : Int) < 64 := by omega
        have hmc : k % l.length < cap := by omega
        have hmci : ((k % l.length : Nat) : Int) < (l.length : Int) := by omega
        generalize l.getD (k % l.length) 0 = x at *
        generalize (over l k)[k]'(by rw [over_len]; exact hk64) = y at *
        clear hown hbel
        go_wp2_with fail
        go_roundw
        case rel => exact ⟨k + 1, by omega, by go_num, by rw [HOS.out]; exact HS.out, HBE.out.setCell (p := ⟨w.heap.size, k, none⟩) (Nat.le_refl _) _⟩
        case measure => simp [intOf]; omega
      · obtain rfl : k = 64 := by omega
        go_wp2_with fail
        go_ret
        exact ⟨_, rfl, hown, hbel⟩
end Go.Proofs.Ytgdfobhhkfplbaa
