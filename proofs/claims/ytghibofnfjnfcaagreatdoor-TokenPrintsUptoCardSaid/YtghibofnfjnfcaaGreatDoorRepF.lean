/-
  (*strings.byteStringReplacer).Replace at the four texts: what it makes, its buffer.
-/
import Derived.Test.YtghibofnfjnfcaaGreatDoorRepE
import Derived.Test.YtghibofnfjnfcaaGreatDoorPrintQ
import Derived.Lib.LazyBuf
import Derived.Laws.CopyRow
import Derived.Laws.CopyOwn
namespace Go.Proofs.YtghibofnfjnfcaaGreatDoor
set_option linter.unusedVariables false
open Go.RowKit

/-- how many bytes are escaped -/
def cntE (T : List Nat) : Nat := T.countP fun c => decide (c = 34 ∨ c = 92)
theorem cntE_snoc (T : List Nat) (c : Nat) : cntE (T ++ [c]) = cntE T + (if c = 34 ∨ c = 92 then 1 else 0) := by
  unfold cntE
  rw [List.countP_append, List.countP_cons, List.countP_nil]
  by_cases h : c = 34 ∨ c = 92 <;> simp [h]
theorem cntE_cons (T : List Nat) (c : Nat) : cntE (c :: T) = cntE T + (if c = 34 ∨ c = 92 then 1 else 0) := by
  unfold cntE
  rw [List.countP_cons]
  by_cases h : c = 34 ∨ c = 92 <;> simp [h]
theorem cntE_le (T : List Nat) : cntE T ≤ T.length := List.countP_le_length
theorem cntE_two (T : List Nat) : T.count 34 + T.count 92 = cntE T := by
  induction T with
  | nil => rfl
  | cons c T ih =>
    rw [cntE_cons, ← ih, List.count_cons, List.count_cons]
    by_cases h : c = 34
    · subst h; simp; omega
    · by_cases h2 : c = 92
      · subst h2; simp; omega
      · simp [h, h2]
theorem escL_cons (c : Nat) (T : List Nat) : escL (c :: T) = (if c = 34 ∨ c = 92 then [92, c] else [c]) ++ escL T := rfl
theorem escL_len (T : List Nat) : (escL T).length = T.length + cntE T := by
  induction T with
  | nil => rfl
  | cons c T ih =>
    rw [escL_cons, List.length_append, ih, cntE_cons, List.length_cons]
    by_cases h : c = 34 ∨ c = 92
    · rw [if_pos h, if_pos h]; simp; omega
    · rw [if_neg h, if_neg h]; simp; omega
theorem escL_none {T : List Nat} (h : cntE T = 0) : escL T = T := by
  induction T with
  | nil => rfl
  | cons c T ih =>
    rw [cntE_cons] at h
    have hc : ¬ (c = 34 ∨ c = 92) := by intro e; rw [if_pos e] at h; omega
    rw [escL_cons, if_neg hc, ih (by omega)]
    rfl
theorem escL_lt {T : List Nat} (h : ∀ c ∈ T, c < 256) : ∀ c ∈ escL T, c < 256 := by
  intro x hx
  unfold escL at hx
  obtain ⟨c, hc, hx⟩ := List.mem_flatMap.1 hx
  have := h c hc
  by_cases e : c = 34 ∨ c = 92
  · rw [if_pos e] at hx; simp at hx; omega
  · rw [if_neg e] at hx; simp at hx; omega
theorem count_bytes {T : List Nat} (h : ∀ c ∈ T, c < 256) (k : Nat) (hk : k < 256) : (T.map UInt8.ofNat).count (UInt8.ofNat k) = T.count k := by
  induction T with
  | nil => rfl
  | cons c T ih =>
    rw [List.map_cons, List.count_cons, List.count_cons, ih (fun x hx => h x (by simp [hx]))]
    have hc := h c (by simp)
    by_cases e : c = k
    · subst e; simp
    · have : UInt8.ofNat c ≠ UInt8.ofNat k := by
        intro q
        have := congrArg UInt8.toNat q
        simp only [UInt8.toNat_ofNat'] at this
        omega
      simp [e, this]
theorem count_str {T : List Nat} (h : ∀ c ∈ T, c < 256) (k : Nat) (hk : k < 256) : Lib.countByte (strN T).data.toList (UInt8.ofNat k) = T.count k := by
  unfold Lib.countByte strN
  rw [List.toList_toArray]
  exact count_bytes h k hk
theorem strN_size (T : List Nat) : (strN T).size = T.length := by
  show (List.map UInt8.ofNat T).toArray.size = _
  simp
theorem strN_at {T : List Nat} (h : ∀ c ∈ T, c < 256) (k : Nat) (hk : k < (strN T).size) : (strN T)[k].toNat = T[k]'(by rw [strN_size] at hk; exact hk) := by
  have hk' : k < T.length := by rw [strN_size] at hk; exact hk
  have hb := h _ (List.getElem_mem hk')
  show ((List.map UInt8.ofNat T).toArray[k]'(by simpa using hk')).toNat = _
  simp only [List.getElem_toArray, List.getElem_map, UInt8.toNat_ofNat']
  omega

/-- the buffer: what is written, zeros behind -/
def zs8 (n : Nat) : List Value := List.replicate n (.int .u8 0)
def BufR (w : World) (b : Nat) (E : List Nat) (N : Nat) : Prop := E.length ≤ N ∧ w.heap[b]? = some (.cells (u8s E ++ zs8 (N - E.length)).toArray 5 (0, 0))
theorem zs8_len (n : Nat) : (zs8 n).length = n := List.length_replicate
theorem zs8_drop (n k : Nat) : (zs8 n).drop k = zs8 (n - k) := by unfold zs8; rw [List.drop_replicate]
theorem made_zs (n : Nat) : (madeCells (Value.int IntKind.u8 0).cells (n * 1)).toList = zs8 n := by
  rw [show (Value.int IntKind.u8 0).cells = #[.int .u8 0] from rfl, Nat.mul_one]
  apply List.ext_getElem
  · simp [size_madeCells, zs8_len]
  · intro i h1 h2
    have hi : i < n := by rw [zs8_len] at h2; exact h2
    simp [madeCells, zs8, Nat.mod_one]
theorem BufR.new {w : World} {S b N : Nat} (h : w.ownsRow S 5 1 (.slice (some ⟨b, 0, none⟩) N N) N (madeCells (Value.int IntKind.u8 0).cells (N * 1)).toList) : BufR w b [] N := by
  rw [made_zs] at h
  rcases h.2 with ⟨h2, _⟩ | ⟨g, cap, cur, hv, hb, hh, hc, hm, hs, ht⟩
  · cases h2
  · simp only [Value.slice.injEq, Option.some.injEq, Addr.mk.injEq] at hv
    obtain ⟨⟨rfl, -⟩, -, rfl⟩ := hv
    refine ⟨Nat.zero_le _, ?_⟩
    rw [hh]
    have : cur.toList = zs8 N := by
      rw [← ht, List.take_of_length_le (by simp [hs])]
    have hcur : cur = (zs8 N).toArray := by rw [← this]
    rw [hcur]
    simp [u8s]
theorem BufR.lt {w : World} {b N : Nat} {E : List Nat} (h : BufR w b E N) : b < w.heap.size := (Array.getElem?_eq_some_iff.1 h.2).1
theorem BufR.drew {w : World} {b N : Nat} {E : List Nat} (h : BufR w b E N) : BufR w.drew b E N := h
theorem BufR.froz {w : World} {b N : Nat} {E : List Nat} (h : BufR w b E N) (j : Nat) : w.frozen? ⟨b, j, none⟩ = false := frozen_of_row _ _ _ _ _ h.2
theorem BufR.zero {w : World} {b N : Nat} {E : List Nat} (h : BufR w b E N) (hn : E.length < N) : w.cell? ⟨b, E.length, none⟩ = some (.int .u8 0) := by
  rw [cell_of_row w b _ _ _ _ h.2]
  simp only [List.getElem?_toArray]
  rw [List.getElem?_append_right (by simp), u8s_length, Nat.sub_self]
  unfold zs8
  rw [List.getElem?_replicate, if_pos (by omega)]
theorem BufR.cells {w : World} {b N : Nat} {E : List Nat} (h : BufR w b E N) (hn : E.length = N) (j : Nat) (hj : j < E.length) : w.cell? ⟨b, j, none⟩ = some (.int .u8 (E[j] : Nat)) := by
  rw [cell_of_row w b _ _ _ _ h.2]
  simp only [List.getElem?_toArray]
  rw [List.getElem?_append_left (by simpa using hj), u8s_get _ _ hj]
theorem BufR.snoc {w : World} {b N : Nat} {E : List Nat} (h : BufR w b E N) (hn : E.length < N) (c : Nat) : BufR (w.setCell ⟨b, E.length, none⟩ (.int .u8 (c : Nat))) b (E ++ [c]) N := by
  refine ⟨by simp; omega, ?_⟩
  rw [heap_setCell_same w b _ _ _ _ h.2]
  congr 2
  rw [List.setIfInBounds_toArray, List.set_append_right _ _ (by simp), u8s_length, Nat.sub_self, u8s_append]
  obtain ⟨m, hm⟩ : ∃ m, N - E.length = m + 1 := ⟨N - E.length - 1, by omega⟩
  rw [hm, show N - (E ++ [c]).length = m by simp; omega]
  unfold zs8
  rw [List.replicate_succ, List.set_cons_zero, List.append_assoc]
  rfl
theorem BufR.put {w : World} {b N : Nat} {E : List Nat} (h : BufR w b E N) (d : List Nat) (hn : E.length + d.length ≤ N) :
    BufR (w.setRow b ((u8s E ++ zs8 (N - E.length)).toArray.toList.take E.length ++ u8s d ++ (u8s E ++ zs8 (N - E.length)).toArray.toList.drop (E.length + d.length)).toArray) b (E ++ d) N := by
  refine ⟨by simp; omega, ?_⟩
  rw [setRow_heap w b _ _ 5 _ h.2]
  congr 2
  rw [List.toList_toArray, List.take_append_of_le_length (by simp), List.take_of_length_le (by simp), List.drop_append, List.drop_of_length_le (by simp), u8s_length, zs8_drop, u8s_append, List.nil_append]
  congr 3
  simp; omega
end Go.Proofs.YtghibofnfjnfcaaGreatDoor
