/-
  Bytes among the arguments; a text of bytes.
-/
import Derived.Test.YtopocmihbmaamaaGreatDoorSmall
namespace Go.Proofs.YtopocmihbmaamaaGreatDoor
set_option linter.unusedVariables false
open Go.RowKit

theorem ret_eq {u v : Value} (h : u = v) : Ending.returned u = Ending.returned v := by rw [h]
def u8s (l : List Nat) : List Value := l.map (fun (n : Nat) => Value.int .u8 n)
@[simp] theorem u8s_length (l : List Nat) : (u8s l).length = l.length := by simp [u8s]
theorem u8s_get (l : List Nat) (j : Nat) (h : j < l.length) : (u8s l)[j]? = some (.int .u8 (l[j] : Nat)) := by simp [u8s, h]
def RowB (w : World) (v : Value) (l : List Nat) : Prop :=
  ∃ a len cap, v = .slice a len cap ∧ l.length = len ∧ len ≤ cap ∧ cap ≤ maxLen ∧ (∀ n ∈ l, n < 256) ∧ (a = none → len = 0 ∧ cap = 0) ∧ ∀ x, a = some x → ∀ i, (h : i < l.length) → w.cell? (x.add i) = some (.int .u8 (l[i] : Nat))

theorem rowB_nil (w : World) : RowB w (.slice none 0 0) [] := ⟨none, 0, 0, rfl, rfl, Nat.le_refl _, by decide, by simp, fun _ => ⟨rfl, rfl⟩, by simp⟩

theorem rowB_of_ints {w : World} {a : Addr} {len cap : Nat} {zs : List Int} (hl : len ≤ cap) (hm : cap ≤ maxLen) (hz : zs.length = cap)
    (hcell : ∀ i, i < zs.length → w.cell? (a.add i) = some (.int .u8 (zs.getD i 0))) (hwz : ∀ n ∈ zs, (Lit.int .u8 n).wf = true) :
    RowB w (.slice (some a) len cap) ((zs.take len).map Int.toNat) := by
  have hlen : ((zs.take len).map Int.toNat).length = len := by simp; omega
  refine ⟨some a, len, cap, rfl, hlen, hl, hm, ?_, by simp, ?_⟩
  · intro n hn
    obtain ⟨z, hz', rfl⟩ := List.mem_map.1 hn
    have := Go.bounds_u8 (hwz z (List.mem_of_mem_take hz'))
    omega
  · intro x hx i hi
    obtain rfl := Option.some.inj hx
    rw [hlen] at hi
    have hiz : i < zs.length := by omega
    have hb := Go.bounds_u8 (hwz zs[i] (List.getElem_mem hiz))
    rw [hcell i hiz]
    have : zs.getD i 0 = zs[i] := by simp [List.getD, hiz]
    rw [this]
    simp
    omega

theorem RowB.lt {w : World} {v : Value} {l : List Nat} (h : RowB w v l) : ∀ n ∈ l, n < 256 := by
  obtain ⟨a, len, cap, e, hl, hc, hm, hw, _⟩ := h
  exact hw

theorem RowB.below {w w1 : World} {v : Value} {l : List Nat} (h : RowB w v l) (hb : Below w.heap.size w w1) : RowB w1 v l := by
  obtain ⟨a, len, cap, e, hl, hc, hm, hw, hn, hcell⟩ := h
  refine ⟨a, len, cap, e, hl, hc, hm, hw, hn, fun x hx i hi => ?_⟩
  have h1 := hcell x hx i hi
  rw [hb.cell (World.block_lt_of_cell? w _ h1)]
  exact h1

theorem RowB.shape {w : World} {v : Value} {l : List Nat} (h : RowB w v l) :
    (l = [] ∧ ∃ a cap, v = .slice a 0 cap ∧ cap ≤ maxLen) ∨
    ∃ b off cap, v = .slice (some ⟨b, off, none⟩) l.length cap ∧ 0 < l.length ∧ l.length ≤ cap ∧ cap ≤ maxLen ∧ ∀ i, (h : i < l.length) → w.cell? ⟨b, off + i, none⟩ = some (.int .u8 (l[i] : Nat)) := by
  obtain ⟨a, len, cap, e, hl, hc, hm, hw, hn, hcell⟩ := h
  by_cases h0 : l.length = 0
  · left
    exact ⟨List.eq_nil_of_length_eq_zero h0, a, cap, by rw [e, ← hl, h0], hm⟩
  · right
    cases a with
    | none => have := hn rfl; omega
    | some x =>
      obtain ⟨b, off, spot⟩ := x
      have hc0 := hcell _ rfl 0 (by omega)
      have hspot : spot = none := by simpa [Addr.add] using World.cell?_spot hc0
      subst hspot
      refine ⟨b, off, cap, by rw [e, ← hl], by omega, by omega, hm, fun i hi => ?_⟩
      have := hcell _ rfl i hi
      rwa [Addr.add_lit] at this

theorem bulk_one_le {H : Type} (d : DataW H) : 1 ≤ Rows.uptoBulk d := by
  cases d with
  | lit l => cases l <;> simp [Rows.uptoBulk]
  | nil => simp [Rows.uptoBulk]
  | ptr d => simp [Rows.uptoBulk]
  | slice elems spare => simp [Rows.uptoBulk]
  | agg parts => simp [Rows.uptoBulk]
  | iface t d => simp [Rows.uptoBulk]
  | map entries => simp [Rows.uptoBulk]
  | held h => simp [Rows.uptoBulk]

theorem bulk_length_le {H : Type} (l : List (DataW H)) : l.length ≤ Rows.uptoBulkAll l := by
  induction l with
  | nil => simp [Rows.uptoBulkAll]
  | cons x r ih => have := bulk_one_le x; simp only [Rows.uptoBulkAll, List.length_cons]; omega

theorem bulk_slice_le {H : Type} (elems spare : List (DataW H)) : elems.length + spare.length + 1 ≤ Rows.uptoBulk (.slice elems spare) := by
  have h1 := bulk_length_le elems
  have h2 := bulk_length_le spare
  simp only [Rows.uptoBulk]
  omega
def strN (l : List Nat) : ByteArray := ⟨(l.map UInt8.ofNat).toArray⟩
theorem strN_toList (l : List Nat) : (strN l).toList = l.map UInt8.ofNat := by simp [strN]

theorem ints_of (l : List Nat) : strOfNums (l.map (fun (n : Nat) => (n : Int))) = strN l := by simp [strOfNums, strN, Function.comp_def]

/-- bytes as a text -/
theorem run_str {w : World} {v : Value} {l : List Nat} (h : RowB w v l) : (convert 22 9 v).run Tryz.prog w = .ok (.string (strN l)) w := by
  obtain ⟨a, len, cap, rfl, hl, hc, hm, hw, hn, hcell⟩ := h
  cases a with
  | none =>
    obtain ⟨rfl, rfl⟩ := hn rfl
    obtain rfl : l = [] := List.eq_nil_of_length_eq_zero hl
    exact run_convert_bytes_nil w 22 5 Tryz.underlying22 Tryz.underlying5 0 0 9 Tryz.underlying9
  | some x =>
    rw [run_convert_bytes_string w 22 9 5 _ len cap Tryz.underlying22 Tryz.underlying5 Tryz.underlying9,
      run_bytesToString w x len cap (l.map (fun (n : Nat) => (n : Int))) ?_, foldl_push_bytes]
    · rw [← ints_of]
      simp [strOfNums, ByteArray.empty, ByteArray.emptyWithCapacity]
      rfl
    · have := run_loadCells_list (P := Tryz.prog) w x (u8s l) (fun j v hj => by
        have hjl : j < l.length := by have := (List.getElem?_eq_some_iff.1 hj).1; simpa using this
        rw [u8s_get l j hjl] at hj
        cases hj
        exact hcell x rfl j hjl)
      rw [u8s_length, hl] at this
      rw [this]
      simp [u8s, Function.comp_def]
end Go.Proofs.YtopocmihbmaamaaGreatDoor
