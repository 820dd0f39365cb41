/-
  The contracts of the steps by which a text is read.
-/
import Derived.Test.YtfaecojhkiombaaRunNum
namespace Go.Proofs.Ytfaecojhkiombaa
set_option linter.unusedVariables false
open Go.RowKit

/-- a text, read byte by byte: what is at fault (0 nothing, 8 too short, 9 no such form), what it is, how many bytes -/
def txtP : List Nat → Bool → List Nat → Nat → Nat × List Nat × Nat
  | [], _, _, _ => (8, [], 0)
  | c :: t, false, acc, n => if c = 0 then txtP t true acc (n + 1) else txtP t false (acc ++ [c]) (n + 1)
  | c :: t, true, acc, n => if c = 255 then txtP t false (acc ++ [0]) (n + 1) else if c = 1 then (0, acc, n + 1) else (9, [], 0)

theorem plain_zero {w : World} {h : Nat} : Calls Try.prog 28 #[.pointer (some ⟨h, 0, none⟩), .int .u8 0] w fun e w' => e = .returned (.int .i64 1) ∧ w = w' := by
  go_enter Try.func28, Try.ntmps28
  go_wp2_with fail
  go_ret
  exact ⟨rfl, rfl⟩

/-- a byte more of the text -/
theorem plain_more {w : World} {h S : Nat} {T : Value} {acc : List Nat} (s : Scan w h 0 0 T) (ho : OwnB w S T acc) (hS : S ≤ w.heap.size) (hh : h < S) (hl : acc.length + 1 ≤ 140737488355328) (c : Nat) (hc : 0 < c) :
    Calls Try.prog 28 #[.pointer (some ⟨h, 0, none⟩), .int .u8 c] w fun e w' => e = .returned (.int .i64 0) ∧ (∃ T', Scan w' h 0 0 T' ∧ OwnB w' S T' (acc ++ [c])) ∧ Beside (fun k => k = h ∨ S ≤ k) w w' ∧ S ≤ w'.heap.size := by
  have c2 := s.cell2
  have f2 := s.free 2
  obtain ⟨ao, cap, e⟩ := ho.shape
  subst e
  have hz : ((c : Int) == 0) = false := by simp; omega
  have HO := Lib.hid ho
  have HSc := Lib.hid s
  clear ho s
  go_enter Try.func28, Try.ntmps28
  go_wp2_with (at_builtin; go_loud (refine app1 rfl (.tmp 11) (.tmp 13) rfl HO.out (Below.refl S w) hS rfl rfl hl (n := c) (Lib.hid rfl) ?_))
  intro o w2 ho2 hb2
  have s2 : Scan w2 h 0 0 (.slice ao acc.length cap) := by
    unfold Scan
    rw [hb2.block h hh]
    exact HSc.out
  have g2 := s2.free 2
  have k2 := s2.cell2
  obtain ⟨ao2, cap2, e2⟩ := ho2.shape
  simp only [List.length_append, List.length_cons, List.length_nil, Nat.zero_add] at e2
  subst e2
  have HS2 := Lib.hid s2
  have HO2 := Lib.hid ho2
  clear s2 ho2
  go_wp2_with fail
  go_ret
  refine ⟨rfl, ⟨_, HS2.out.set2 _, HO2.out.beside (Beside.one w2 h 2 _) (fun x hx e => HO2.out.ne HS2.out (by decide) (by rw [hx, e]))⟩, ?_, by simpa using Nat.le_trans hS hb2.size⟩
  exact Beside.setCell (own := fun k => k = h ∨ S ≤ k) ⟨hb2.os, hb2.tape, hb2.output, hb2.size, fun k hk hn => hb2.block k (by omega)⟩ (Or.inl (Or.inl rfl)) _

theorem esc_one {w : World} {h : Nat} : Calls Try.prog 29 #[.pointer (some ⟨h, 0, none⟩), .int .u8 1] w fun e w' => e = .returned (.int .i64 (-1)) ∧ w = w' := by
  go_enter Try.func29, Try.ntmps29
  go_wp2_with fail
  go_ret
  exact ⟨rfl, rfl⟩

theorem esc_wrong {w : World} {h c : Nat} (h1 : c ≠ 1) (h2 : c ≠ 255) : Calls Try.prog 29 #[.pointer (some ⟨h, 0, none⟩), .int .u8 c] w fun e w' => e = .returned (.int .i64 (-2)) ∧ w = w' := by
  have e1 : ((c : Int) == 1) = false := by simp; omega
  have e2 : ((c : Int) == 255) = false := by simp; omega
  go_enter Try.func29, Try.ntmps29
  go_wp2_with fail
  go_ret
  exact ⟨rfl, rfl⟩

theorem esc_more {w : World} {h S : Nat} {T : Value} {acc : List Nat} (s : Scan w h 0 0 T) (ho : OwnB w S T acc) (hS : S ≤ w.heap.size) (hh : h < S) (hl : acc.length + 1 ≤ 140737488355328) :
    Calls Try.prog 29 #[.pointer (some ⟨h, 0, none⟩), .int .u8 255] w fun e w' => e = .returned (.int .i64 0) ∧ (∃ T', Scan w' h 0 0 T' ∧ OwnB w' S T' (acc ++ [0])) ∧ Beside (fun k => k = h ∨ S ≤ k) w w' ∧ S ≤ w'.heap.size := by
  have c2 := s.cell2
  have f2 := s.free 2
  obtain ⟨ao, cap, e⟩ := ho.shape
  subst e
  have HO := Lib.hid ho
  have HSc := Lib.hid s
  clear ho s
  go_enter Try.func29, Try.ntmps29
  go_wp2_with (at_builtin; go_loud (refine app1 rfl (.tmp 12) (.tmp 13) rfl HO.out (Below.refl S w) hS rfl rfl hl (n := 0) (Lib.hid rfl) ?_))
  intro o w2 ho2 hb2
  have s2 : Scan w2 h 0 0 (.slice ao acc.length cap) := by
    unfold Scan
    rw [hb2.block h hh]
    exact HSc.out
  have g2 := s2.free 2
  have k2 := s2.cell2
  obtain ⟨ao2, cap2, e2⟩ := ho2.shape
  simp only [List.length_append, List.length_cons, List.length_nil, Nat.zero_add] at e2
  subst e2
  have HS2 := Lib.hid s2
  have HO2 := Lib.hid ho2
  clear s2 ho2
  go_wp2_with fail
  go_ret
  refine ⟨rfl, ⟨_, HS2.out.set2 _, HO2.out.beside (Beside.one w2 h 2 _) (fun x hx e => HO2.out.ne HS2.out (by decide) (by rw [hx, e]))⟩, ?_, by simpa using Nat.le_trans hS hb2.size⟩
  exact Beside.setCell (own := fun k => k = h ∨ S ≤ k) ⟨hb2.os, hb2.tape, hb2.output, hb2.size, fun k hk hn => hb2.block k (by omega)⟩ (Or.inl (Or.inl rfl)) _
end Go.Proofs.Ytfaecojhkiombaa
