/-
  What ShelfKeeps has of what was put, as facts of lists.
-/
import Derived.Test.YthmnbjdmbajhkaaOpsO
namespace Go.Proofs.Ythmnbjdmbajhkaa
set_option linter.unusedVariables false
open Go.RowKit

/-- the law's own row: each thing, and whether it may go -/
structure Like (E : List (Th × Nat)) (L : List Th) (H : List (Th × Bool)) : Prop where
  th : H.map (·.1) = E.map (·.1)
  ok : ∀ x ∈ H, x.2 = true ↔ x.1 ∈ L
theorem like_nil : Like [] [] [] := ⟨rfl, fun _ h => by cases h⟩
theorem Like.len {E : List (Th × Nat)} {L : List Th} {H : List (Th × Bool)} (h : Like E L H) : H.length = E.length := by
  have := congrArg List.length h.th
  simpa using this
theorem Like.mem {E : List (Th × Nat)} {L : List Th} {H : List (Th × Bool)} (h : Like E L H) {x : Th × Bool} (hx : x ∈ H) : ∃ n, (x.1, n) ∈ E := by
  have h1 : x.1 ∈ H.map (·.1) := List.mem_map.2 ⟨x, hx, rfl⟩
  rw [h.th] at h1
  obtain ⟨y, hy, e⟩ := List.mem_map.1 h1
  exact ⟨y.2, by rw [← e]; exact hy⟩
theorem Like.put {E : List (Th × Nat)} {L : List Th} {H : List (Th × Bool)} (h : Like E L H) (hG : Good E L) {t : Th} (c : Nat) (clean : Bool) (hq : at? E t.v t.u = none) :
    Like (E ++ [(t, c)]) (if clean then upL (L ++ [t]) L.length else L) (H ++ [(t, clean)]) := by
  have hno := at_none.1 hq
  have hx : ∀ x ∈ H, x.1 ≠ t := fun x hx e => by
    obtain ⟨n, hn⟩ := h.mem hx
    exact hno _ hn ⟨by simp [e], by simp [e]⟩
  have htL : t ∉ L := fun ht => by
    obtain ⟨n, hn⟩ := hG.sub t ht
    exact hno _ hn ⟨rfl, rfl⟩
  refine ⟨by simp [h.th], fun x hxm => ?_⟩
  rcases List.mem_append.1 hxm with hm | hm
  · rw [h.ok x hm]
    cases clean
    · rfl
    · have hp := upL_perm (L ++ [t]) L.length (by simp)
      simp only [if_true]
      rw [hp.mem_iff, List.mem_append, List.mem_singleton]
      exact ⟨.inl, fun k => k.resolve_right (hx x hm)⟩
  · obtain rfl := List.mem_singleton.1 hm
    cases clean
    · simp [htL]
    · have hp := upL_perm (L ++ [t]) L.length (by simp)
      simp only [if_true, true_iff]
      rw [hp.mem_iff]
      simp
theorem Good.one {E : List (Th × Nat)} {L : List Th} (h : Good E L) {x y : Th} {n m : Nat} (hx : (x, n) ∈ E) (hy : (y, m) ∈ E) (hv : x.v = y.v) (hu : x.u = y.u) : x = y := by
  obtain ⟨i, hi⟩ := at_mem h.ids hx
  obtain ⟨j, hj⟩ := at_mem h.ids hy
  rw [hv, hu, hj] at hi
  simpa using (congrArg (fun z => z.map (·.2)) hi).symm
theorem in_iff {E : List (Th × Nat)} {L : List Th} (h : Good E L) {G : List Th} (hG : ∀ x ∈ G, x ∈ L) {x : Th} {n : Nat} (hx : (x, n) ∈ E) : inG G x.v x.u = true ↔ x ∈ G := by
  unfold inG
  rw [List.any_eq_true]
  constructor
  · rintro ⟨y, hy, e⟩
    have e := of_decide_eq_true e
    obtain ⟨m, hm⟩ := h.sub y (hG y hy)
    rw [← h.one hm hx e.1 e.2]
    exact hy
  · intro hx
    exact ⟨x, hx, decide_eq_true ⟨rfl, rfl⟩⟩

/-- how many that may go are still there -/
def cntK (G : List Th) (H : List (Th × Bool)) : Nat := (H.filter fun x => !inG G x.1.v x.1.u && x.2).length
theorem cntK_snoc (G : List Th) (H : List (Th × Bool)) (x : Th × Bool) : cntK G (H ++ [x]) = cntK G H + (if (!inG G x.1.v x.1.u && x.2) = true then 1 else 0) := by
  unfold cntK
  rw [List.filter_append, List.length_append, List.filter_cons, List.filter_nil]
  split <;> rfl
/-- what the law asks for -/
theorem keeps (b : Int) {E : List (Th × Nat)} {L : List Th} {H : List (Th × Bool)} (hG : Good E L) (h : Like E L H) :
    (∀ x ∈ H, inG (evS b E L).2.2 x.1.v x.1.u = true → x.2 = true) ∧ (sumE (evS b E L).1 ≤ b ∨ cntK (evS b E L).2.2 H = 0) ∧ (evS b E L).1.length + (evS b E L).2.2.length = H.length := by
  obtain ⟨h1, h2, h3, h4, h5, h6⟩ := evS_facts b L.length E L rfl hG
  have hsub : ∀ x ∈ (evS b E L).2.2, x ∈ L := fun x hx => h3.mem_iff.1 (List.mem_append_left _ hx)
  refine ⟨fun x hx hi => ?_, h1.imp id (fun h0 => ?_), by rw [h2, h.len]⟩
  · obtain ⟨n, hn⟩ := h.mem hx
    exact (h.ok x hx).2 (hsub _ ((in_iff hG hsub hn).1 hi))
  · unfold cntK
    rw [List.length_eq_zero_iff, List.filter_eq_nil_iff]
    intro x hx hb
    simp only [Bool.and_eq_true, Bool.not_eq_true'] at hb
    obtain ⟨n, hn⟩ := h.mem hx
    have hxL := (h.ok x hx).1 hb.2
    have hxG := h3.mem_iff.2 hxL
    rw [h0, List.append_nil] at hxG
    rw [(in_iff hG hsub hn).2 hxG] at hb
    cases hb.1

/-- the law's own row, as cells -/
def oneC (H : List (Th × Bool)) : List Value := H.flatMap fun x => [.int .u32 x.1.v, .int .u32 x.1.u, .int .i64 x.1.size, .int .i64 x.1.used, .bool x.2]
theorem oneC_snoc (H : List (Th × Bool)) (x : Th × Bool) : oneC (H ++ [x]) = oneC H ++ [.int .u32 x.1.v, .int .u32 x.1.u, .int .i64 x.1.size, .int .i64 x.1.used, .bool x.2] := by simp [oneC]
theorem oneC_at (H : List (Th × Bool)) (i : Nat) (hi : i < H.length) : (oneC H)[5 * i]? = some (.int .u32 H[i].1.v) ∧ (oneC H)[5 * i + 1]? = some (.int .u32 H[i].1.u) ∧ (oneC H)[5 * i + 2]? = some (.int .i64 H[i].1.size) ∧
    (oneC H)[5 * i + 3]? = some (.int .i64 H[i].1.used) ∧ (oneC H)[5 * i + 4]? = some (.bool H[i].2) := by
  induction H generalizing i with
  | nil => simp at hi
  | cons x r ih =>
    cases i with
    | zero => simp [oneC]
    | succ i =>
      have := ih i (by simpa using hi)
      rw [show 5 * (i + 1) = 5 * i + 1 + 1 + 1 + 1 + 1 by omega]
      simpa [oneC] using this
theorem oneC_len (H : List (Th × Bool)) : (oneC H).length = 5 * H.length := by
  induction H with
  | nil => rfl
  | cons x r ih =>
    simp only [oneC, List.flatMap_cons, List.length_append, List.length_cons, List.length_nil] at ih ⊢
    omega
end Go.Proofs.Ythmnbjdmbajhkaa
