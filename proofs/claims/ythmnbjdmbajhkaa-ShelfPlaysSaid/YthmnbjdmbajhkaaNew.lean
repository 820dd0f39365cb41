/-
  New, Size and Len, whatever the shelf holds.
-/
import Derived.Test.YthmnbjdmbajhkaaNilLaw
import Derived.Test.YthmnbjdmbajhkaaEvW
namespace Go.Proofs.Ythmnbjdmbajhkaa
set_option linter.unusedVariables false
open Go.RowKit
attribute [local go_sem] Oper.semAt_some

theorem new_any (b : Int) (w : World) (h0 : ¬ b < 0) (h1 : ¬ b > 1073741824) : Calls Try.prog 7 #[.int .i64 b] w fun e w' => e = .returned (.tuple #[.pointer (some ⟨w.heap.size + 1, 0, none⟩), .int .i64 0]) ∧ w' = (w.alloc (.map #[] 0)).alloc (.cells #[.int .i64 b, .int .i64 0, .map (some w.heap.size), .slice none 0 0] 56) := by
  have hm := make52
  go_enter Try.func7, Try.ntmps7
  go_wp2_with fail
  exact bodyPost_ret (v := .tuple #[.pointer (some ⟨w.heap.size + 1, 0, none⟩), .int .i64 0]) (by simp [results, Try.results7, go_sem]) rfl ⟨rfl, rfl⟩
theorem new_not (b : Int) (w : World) (h : b < 0 ∨ b > 1073741824) : Calls Try.prog 7 #[.int .i64 b] w fun e w' => e = .returned (.tuple #[.pointer none, .int .i64 1]) ∧ w' = w := by
  by_cases h0 : b < 0
  · clear h
    go_enter Try.func7, Try.ntmps7
    go_wp2_with fail
    exact bodyPost_ret (v := .tuple #[.pointer none, .int .i64 1]) (by simp [results, Try.results7, go_sem]) rfl ⟨rfl, rfl⟩
  · have h1 : b > 1073741824 := h.resolve_left h0
    clear h
    go_enter Try.func7, Try.ntmps7
    go_wp2_with fail
    exact bodyPost_ret (v := .tuple #[.pointer none, .int .i64 1]) (by simp [results, Try.results7, go_sem]) rfl ⟨rfl, rfl⟩
/-- a new shelf -/
theorem new_shelf (b : Int) (w : World) : ShB ((w.alloc (.map #[] 0)).alloc (.cells #[.int .i64 b, .int .i64 0, .map (some w.heap.size), .slice none 0 0] 56)) (w.heap.size + 1) w.heap.size 0 b none 0 [] [] :=
  ⟨(two_rows w _ _).2, (two_rows w _ _).1, .inl ⟨rfl, rfl, rfl⟩⟩
theorem good_nil : Good [] [] := ⟨List.Pairwise.nil, fun _ h => (by cases h), List.nodup_nil, fun _ h => (by cases h), by simp⟩

theorem size_any (p m c : Nat) (b : Int) (r : Option Addr) (cap : Nat) (E : List (Th × Nat)) (L : List Th) (w : World) (hS : ShB w p m c b r cap E L) :
    Calls Try.prog 18 #[.pointer (some ⟨p, 0, none⟩)] w fun e w' => e = .returned (.int .i64 (sumE E)) ∧ Below w.heap.size w w' := by
  have c1 := hS.row.cell 1 (.int .i64 (sumE E)) rfl
  clear hS
  generalize sumE E = S at *
  go_enter Try.func18, Try.ntmps18
  go_wp2_with fail
  go_ret
  exact ⟨rfl, Below.refl _ _⟩
theorem count_any (p m c : Nat) (b : Int) (r : Option Addr) (cap : Nat) (E : List (Th × Nat)) (L : List Th) (w : World) (hS : ShB w p m c b r cap E L) :
    Calls Try.prog 17 #[.pointer (some ⟨p, 0, none⟩)] w fun e w' => e = .returned (.int .i64 E.length) ∧ Below w.heap.size w w' := by
  have c2 := hS.row.cell 2 (.map (some m)) rfl
  have hl := len_mapE m c E w hS.map
  clear hS
  go_enter Try.func17, Try.ntmps17
  go_wp2_with fail
  go_ret
  exact ⟨rfl, Below.refl _ _⟩

/-- a new thing among those of a shelf -/
theorem Good.put {E : List (Th × Nat)} {L : List Th} {t : Th} {c : Nat} (h : Good E L) (hq : at? E t.v t.u = none) (h0 : 0 ≤ t.size) (h1 : t.size ≤ 1048576) (hc : E.length < 65536) (clean : Bool) :
    Good (E ++ [(t, c)]) (if clean then upL (L ++ [t]) L.length else L) := by
  have hno := at_none.1 hq
  have hids : (E ++ [(t, c)]).Pairwise apart := List.pairwise_append.2 ⟨h.ids, by simp, fun a ha y hy => by
    obtain rfl := List.mem_singleton.1 hy
    exact hno a ha⟩
  have hrng : ∀ x ∈ E ++ [(t, c)], 0 ≤ x.1.size ∧ x.1.size ≤ 1048576 := fun x hx => by
    rcases List.mem_append.1 hx with hx | hx
    · exact h.rng x hx
    · obtain rfl := List.mem_singleton.1 hx
      exact ⟨h0, h1⟩
  have hsub : ∀ x ∈ L, ∃ n, (x, n) ∈ E ++ [(t, c)] := fun x hx => by
    obtain ⟨n, hn⟩ := h.sub x hx
    exact ⟨n, List.mem_append_left _ hn⟩
  have htL : t ∉ L := fun ht => by
    obtain ⟨n, hn⟩ := h.sub t ht
    exact hno _ hn ⟨rfl, rfl⟩
  cases clean
  · exact ⟨hids, hsub, h.nd, hrng, by simp; omega⟩
  · have hp := upL_perm (L ++ [t]) L.length (by simp)
    refine ⟨hids, fun x hx => ?_, hp.nodup_iff.2 (List.nodup_append.2 ⟨h.nd, by simp, fun a ha y hy e => ?_⟩), hrng, by simp; omega⟩
    · rcases List.mem_append.1 (hp.mem_iff.1 hx) with hx | hx
      · exact hsub x hx
      · obtain rfl := List.mem_singleton.1 hx
        exact ⟨c, by simp⟩
    · obtain rfl := List.mem_singleton.1 hy
      exact htL (e ▸ ha)
end Go.Proofs.Ythmnbjdmbajhkaa
