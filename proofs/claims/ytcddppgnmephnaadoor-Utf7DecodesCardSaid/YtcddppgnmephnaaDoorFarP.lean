/-
  Plain laws of the reader of base 64, a step at a time.
-/
import Derived.Test.YtcddppgnmephnaaDoorIdx
import Derived.Test.YtcddppgnmephnaaDoorPlainD
import Derived.Laws.BitsAllLaws
namespace Go.Proofs.YtcddppgnmephnaaDoor
set_option linter.unusedVariables false
open Go.RowKit Go.Lib

theorem decodeL_okR (l : List UInt8) : okR (decodeL l).1 := by
  refine ⟨decodeL_rune l, ?_⟩
  rw [decodeL_N]
  have hb0 := (l.getD 0 0).toNat_lt
  rcases decodeN_shape l.length (l.getD 0 0).toNat (l.getD 1 0).toNat (l.getD 2 0).toNat (l.getD 3 0).toNat with ⟨c1, e⟩ | ⟨c1, c2, c3, cv, e⟩ | ⟨c1, c2, c3, c4, cv, cs, e⟩ | ⟨c1, c2, c3, c4, c5, cv, cw, e⟩ | e
  · rw [e]; left; show _ < 55296; omega
  · rw [e]; left; show _ < 55296; simp only; omega
  · rw [e]; exact cs
  · rw [e]; right; show 57344 ≤ _; simp only; omega
  · rw [e]; right; show 57344 ≤ _; decide
theorem digVal_lt (c k : Nat) (h : digVal c = some k) : k < 64 := by
  have := List.mem_of_find?_eq_some h
  simpa using this

structure RdG (s : Rd) : Prop where
  waiting : s.waiting < 16
  wait : s.wait < 2 ^ s.waiting
  first : s.first = 0 ∨ (55296 ≤ s.first ∧ s.first < 56320)
theorem rdg0 : RdG r0 := ⟨by decide, by decide, .inl rfl⟩

theorem dS_small (o : List UInt8) (f a b d : Nat) (h : b + 6 < 16) : dS ⟨o, f, a, b⟩ d = some ⟨o, f, a * 64 + d, b + 6⟩ := by
  simp [dS, h]
theorem dS_unit (o : List UInt8) (f a b d V m v X : Nat) (h : ¬ b + 6 < 16) (hV : a * 64 + d = V) (hm : b + 6 - 16 = m) (hv : V / 2 ^ m = v) (hX : V % 2 ^ m = X) :
    dS ⟨o, f, a, b⟩ d = match uS (o, f) v with | none => none | some x => some ⟨x.1, x.2, X, m⟩ := by
  simp only [dS]
  rw [if_neg h, hm, hV, hv, hX]
  cases uS (o, f) v <;> rfl
theorem uS_A (o : List UInt8) (f v : Nat) (hf : f ≠ 0) (h : v < 56320 ∨ 57344 ≤ v) : uS (o, f) v = none := by
  unfold uS
  rw [if_pos ⟨hf, h⟩]
theorem uS_B (o : List UInt8) (f v : Nat) (hf : f ≠ 0) (h : 56320 ≤ v ∧ v < 57344) : uS (o, f) v = some (o ++ encodeRune (((f - 55296) * 1024 + (v - 56320) + 65536 : Nat) : Int), 0) := by
  unfold uS
  rw [if_neg (by omega), if_pos hf]
theorem uS_C (o : List UInt8) (v : Nat) (h : 55296 ≤ v ∧ v < 56320) : uS (o, 0) v = some (o, v) := by
  unfold uS
  rw [if_neg (by simp), if_neg (by simp), if_pos h]
theorem uS_D (o : List UInt8) (v : Nat) (h : 56320 ≤ v ∧ v < 57344) : uS (o, 0) v = none := by
  unfold uS
  rw [if_neg (by simp), if_neg (by simp), if_neg (by omega), if_pos h]
theorem uS_E (o : List UInt8) (v : Nat) (h : v < 55296 ∨ 57344 ≤ v) : uS (o, 0) v = some (o ++ encodeRune ((v : Nat) : Int), 0) := by
  unfold uS
  rw [if_neg (by simp), if_neg (by simp), if_neg (by omega), if_neg (by omega)]
theorem uS_cases (f v : Nat) (hf : f = 0 ∨ (55296 ≤ f ∧ f < 56320)) :
    (f ≠ 0 ∧ v < 56320) ∨ (f ≠ 0 ∧ 57344 ≤ v) ∨ (f ≠ 0 ∧ 56320 ≤ v ∧ v < 57344) ∨ (f = 0 ∧ v < 55296) ∨ (f = 0 ∧ 55296 ≤ v ∧ v < 56320) ∨ (f = 0 ∧ 56320 ≤ v ∧ v < 57344) ∨ (f = 0 ∧ 57344 ≤ v) := by omega
theorem or64 (a d : Nat) (ha : a < 65536) (hd : d < 64) : bits .or .u32 ((a : Int) * 64) (d : Int) = ((a * 64 + d : Nat) : Int) := by
  have e : (a : Int) * 64 = ((a * 64 : Nat) : Int) := by omega
  rw [e, u32_or_nat _ _ (by omega) (by omega)]
  congr 1
  have := Nat.two_pow_add_eq_or_of_lt (i := 6) (b := d) (by omega) a
  rw [show a * 64 = 2 ^ 6 * a by omega]
  exact this.symm
theorem or1024 (a d : Nat) (ha : a < 1024) (hd : d < 1024) : bits .or .u32 ((a : Int) * 1024) (d : Int) = ((a * 1024 + d : Nat) : Int) := by
  have e : (a : Int) * 1024 = ((a * 1024 : Nat) : Int) := by omega
  rw [e, u32_or_nat _ _ (by omega) (by omega)]
  congr 1
  have := Nat.two_pow_add_eq_or_of_lt (i := 10) (b := d) (by omega) a
  rw [show a * 1024 = 2 ^ 10 * a by omega]
  exact this.symm
theorem farR_none (s : Rd) (r : Nat) (rs : List Nat) (h : digVal r = none) : farR s (r :: rs) = none := by
  simp [farR, h]
theorem farR_dead (s : Rd) (r d : Nat) (rs : List Nat) (h : digVal r = some d) (hd : dS s d = none) : farR s (r :: rs) = none := by
  simp [farR, h, hd]
theorem farR_step (s t : Rd) (r d : Nat) (rs : List Nat) (h : digVal r = some d) (hd : dS s d = some t) : farR s (r :: rs) = farR t rs := by
  simp [farR, h, hd]
theorem farD_none (l : List UInt8) (h : farR r0 (runesD l) = none) : farD l = none := by
  simp [farD, h]
theorem farD_some (l : List UInt8) (s : Rd) (h : farR r0 (runesD l) = some s) : farD l = if s.first = 0 then some s.out else none := by
  simp [farD, h]
theorem byteCells_rune (o : List UInt8) (r : Int) : byteCells o ++ runeCells r = byteCells (o ++ encodeRune r) := by
  rw [byteCells_append, byteCells_encodeRune]
theorem encodeRune_len (r : Int) : (encodeRune r).length ≤ 4 := by
  rw [← runeCells_length]
  exact (Lib.runeCells_le r).2
theorem bldF_below {w w' : World} {B b : Nat} {bs : List Value} (h : IsBuilderF 33 5 B b bs w) (hb : Below w.heap.size w w') : IsBuilderF 33 5 B b bs w' := by
  have one : ∀ {p : Value}, BuilderAtF 33 5 B b p bs w → BuilderAtF 33 5 B b p bs w' := by
    rintro p ⟨hB, v, h1, hown, hne⟩
    have hlt : b < w.heap.size := (Array.getElem?_eq_some_iff.1 h1).1
    refine ⟨hB, v, (hb.block b hlt).trans h1, ⟨hown.1, ?_⟩, hne⟩
    rcases hown.2 with hn | ⟨g, cap, cur, fz, hv, hbg, hg, rest⟩
    · exact .inl hn
    · have hgl : g < w.heap.size := (Array.getElem?_eq_some_iff.1 hg).1
      exact .inr ⟨g, cap, cur, fz, hv, hbg, (hb.block g hgl).trans hg, rest⟩
  exact h.elim (fun x => .inl (one x)) (fun x => .inr (one x))
end Go.Proofs.YtcddppgnmephnaaDoor
