/-
  A field's text: the builder's String, over rows that may be frozen.
-/
import Derived.Test.YtlfdcocaedeneaaDoorFlds
import Derived.Lib.UnsafeStr
import Derived.Shelf.RegionOpenPlain
namespace Go.Proofs.YtlfdcocaedeneaaDoor
set_option linter.unusedVariables false
open Go.RowKit Go.Lib

/-- cells below E lie as they lay, frozen or not -/
def KeepC (E : Nat) (W W' : World) : Prop := (∀ k, k < E → ∀ C t fz, W.heap[k]? = some (.cells C t fz) → ∃ fz', W'.heap[k]? = some (.cells C t fz')) ∧ W.heap.size ≤ W'.heap.size
theorem KeepC.refl (E : Nat) (W : World) : KeepC E W W := ⟨fun k _ C t fz h => ⟨fz, h⟩, Nat.le_refl _⟩
theorem KeepC.trans {E : Nat} {A B C : World} (h : KeepC E A B) (k : KeepC E B C) : KeepC E A C := ⟨fun j hj D t fz hD => by obtain ⟨fz', h1⟩ := h.1 j hj D t fz hD; exact k.1 j hj D t fz' h1, Nat.le_trans h.2 k.2⟩
theorem KeepC.mono {E E' : Nat} {A B : World} (h : KeepC E A B) (hE : E' ≤ E) : KeepC E' A B := ⟨fun j hj => h.1 j (by omega), h.2⟩
theorem KeepC.below {E : Nat} {A B : World} (h : Below E A B) : KeepC E A B := ⟨fun j hj D t fz hD => ⟨fz, (h.block j hj).trans hD⟩, h.size⟩
theorem KeepC.freeze (E : Nat) (W : World) (p : Addr) (n : Nat) : KeepC E W (W.freeze p n) := by
  refine ⟨fun k hk C t fz h => ?_, ?_⟩
  · unfold World.freeze
    split
    · exact ⟨fz, h⟩
    · simp only [Array.getElem?_modify]
      by_cases e : p.block = k
      · rw [if_pos e, h]
        exact ⟨_, rfl⟩
      · rw [if_neg e, h]
        exact ⟨_, rfl⟩
  · unfold World.freeze
    split
    · exact Nat.le_refl _
    · simp

theorem freeze_other (W : World) (p : Addr) (n k : Nat) (h : k ≠ p.block) : (W.freeze p n).heap[k]? = W.heap[k]? := by
  unfold World.freeze
  split
  · rfl
  · simp only [Array.getElem?_modify]
    rw [if_neg (fun e => h e.symm)]
/-- a row of bytes that can be read, from block n on, below E -/
def RowT (W : World) (n E : Nat) (v : Value) (T : List Nat) : Prop :=
  (v = .slice none 0 0 ∧ T = []) ∨ ∃ b cap cur fz, v = .slice (some ⟨b, 0, none⟩) T.length cap ∧ n ≤ b ∧ b < E ∧ W.heap[b]? = some (.cells cur 5 fz) ∧ T.length ≤ cap ∧ cap ≤ maxLen ∧ cur.size = cap * 1 ∧ cur.toList.take (T.length * 1) = u8s T
theorem RowT.keep {W W' : World} {n E : Nat} {v : Value} {T : List Nat} (h : RowT W n E v T) (hk : KeepC E W W') : RowT W' n E v T := by
  rcases h with h | ⟨b, cap, cur, fz, rfl, h1, h2, h3, r⟩
  · exact .inl h
  · obtain ⟨fz', h4⟩ := hk.1 b h2 _ _ _ h3
    exact .inr ⟨b, cap, cur, fz', rfl, h1, h2, h4, r⟩
theorem ownB_rowT {W : World} {n E : Nat} {v : Value} {T : List Nat} (h : OwnB W n v T) (hE : ∀ k, v.ownBlock = some k → k < E) : RowT W n E v T := by
  rcases h.2 with ⟨rfl, h0⟩ | ⟨b, cap, cur, rfl, h1, h2, h3, h4, h5, h6⟩
  · exact .inl ⟨rfl, List.eq_nil_of_length_eq_zero h0⟩
  · exact .inr ⟨b, cap, cur, _, rfl, h1, hE b rfl, h2, h3, h4, h5, h6⟩

/-- a field that can be read -/
def FinR (W : World) (n E g : Nat) (f : Fd) : Prop := (n ≤ g ∧ g < E) ∧ ∃ a v r fz, W.heap[g]? = some (.cells #[.string f.nm, a, v, r] 57 fz) ∧ RowT W n E v f.T ∧ RowT W n E r f.R
theorem FinR.keep {W W' : World} {n E g : Nat} {f : Fd} (h : FinR W n E g f) (hk : KeepC E W W') : FinR W' n E g f := by
  obtain ⟨hg, a, v, r, fz, h1, h2, h3⟩ := h
  obtain ⟨fz', h4⟩ := hk.1 g hg.2 _ _ _ h1
  exact ⟨hg, a, v, r, fz', h4, h2.keep hk, h3.keep hk⟩
theorem Fin.read {W : World} {n E g : Nat} {f : Fd} (h : Fin W n E f g) : FinR W n E g f := by
  obtain ⟨a, v, r, _, hc, h1, h2, h3⟩ := h
  exact ⟨⟨hc.base, h1⟩, a, v, r, _, hc.row, ownB_rowT hc.own h2, ownB_rowT hc.raw h3⟩

theorem cells5 : Tryd.prog.cellsOf 5 = 1 := by kernel_rfl

/-- the text that a builder holds -/
def strT (T : List Nat) : ByteArray := ⟨(T.map UInt8.ofNat).toArray⟩

set_option maxHeartbeats 2000000 in
set_option maxRecDepth 100000 in
/-- String of a field's builder -/
theorem str_any (g n E : Nat) (f : Fd) (w : World) (h : FinR w n E g f) (hn : n ≤ w.heap.size) (hE : E ≤ w.heap.size) (hlt : ∀ c ∈ f.T, c < 256) :
    Calls Tryd.prog 33 #[.pointer (some ⟨g, 1, none⟩)] w fun e w' => e = .returned (.string (strT f.T)) ∧ Below n w w' ∧ KeepC E w w' ∧ ∀ k, E ≤ k → k < w.heap.size → w'.heap[k]? = w.heap[k]? := by
  have mixed : Tryd.prog.follows Departure.mixedOrders = true := by kernel_rfl
  obtain ⟨hgE, a, v, r, fz, hrow, hv, -⟩ := h
  obtain ⟨nm, T, R⟩ := f
  simp only at hv hlt hrow ⊢
  have hgl : g < w.heap.size := (Array.getElem?_eq_some_iff.1 hrow).1
  have c1 : w.drew.cell? ⟨g, 2, none⟩ = some v := cell_of_row _ _ 2 _ _ _ hrow
  rcases hv with ⟨rfl, rfl⟩ | ⟨b, cap, cur, fz2, rfl, h1, h2, h3, h4, h5, h6, h7⟩
  · have hSD : (Builtin.unsafeSliceData_ #[22] 78 #[.slice none 0 0]).run Tryd.prog w.drew = .ok (.pointer none) w.drew := Lib.run_unsafeSliceData_nil _ _ _ _ _
    have hUS : (Builtin.unsafeString_ #[78, 3] 9 #[.pointer none, .int .i64 0]).run Tryd.prog w.drew = .ok (.string .empty) w.drew := Lib.run_unsafeString_none _ _ _ _ _
    clear hrow hgE hgl
    go_enter Tryd.func33, Tryd.ntmps33
    go_wp2
    go_region_o
    all_goals (go_wp2; go_ret; exact ⟨rfl, Below.drew (Below.refl n w), KeepC.refl E w, fun k _ _ => rfl⟩)
  · by_cases hT : T = []
    · subst hT
      have hUS := fun (W : World) (q : Option Addr) => Lib.run_unsafeString_none (P := Tryd.prog) W 78 3 9 q
      simp only [List.length_nil] at c1 ⊢
      by_cases hc0 : cap = 0
      · subst hc0
        have hsh : w.drew.shape? b = some (5, cur.size) := by have hg' : w.drew.heap[b]? = some (.cells cur 5 fz2) := h3; simp [World.shape?, hg']
        have hSD : (Builtin.unsafeSliceData_ #[22] 78 #[.slice (some ⟨b, 0, none⟩) 0 0]).run Tryd.prog w.drew = .ok (.pointer (some ⟨w.drew.heap.size, 0, none⟩)) (w.drew.alloc (.view ⟨b, 0, none⟩ 5)) :=
          Lib.run_unsafeSliceData_zero w.drew _ _ 5 Tryd.underlying78 ⟨b, 0, none⟩ 0 (5, cur.size) hsh
        have c2 : (w.drew.alloc (.view ⟨b, 0, none⟩ 5)).cell? ⟨g, 2, none⟩ = some (.slice (some ⟨b, 0, none⟩) 0 0) := (((Below.drew (Below.refl w.heap.size w)).alloc (Nat.le_refl _) (.view ⟨b, 0, none⟩ 5)).cell (p := ⟨g, 2, none⟩) hgl).trans c1
        have c3 : (w.alloc (.view ⟨b, 0, none⟩ 5)).drew.cell? ⟨g, 2, none⟩ = some (.slice (some ⟨b, 0, none⟩) 0 0) := c2
        have c0 : w.cell? ⟨g, 2, none⟩ = some (.slice (some ⟨b, 0, none⟩) 0 0) := c1
        clear hrow hgE h1 h2 h3 h4 h5 h6 h7 hsh hgl
        go_enter Tryd.func33, Tryd.ntmps33
        go_wp2
        go_region_o
        all_goals (go_wp2; go_ret; exact ⟨rfl, (Below.drew (Below.refl n w)).alloc hn _, KeepC.below (E := E) ((Below.drew (Below.refl E w)).alloc hE _), fun k _ hk => ((Below.drew (Below.refl w.heap.size w)).alloc (Nat.le_refl _) _).block k hk⟩)
      · have hSD : (Builtin.unsafeSliceData_ #[22] 78 #[.slice (some ⟨b, 0, none⟩) 0 cap]).run Tryd.prog w.drew = .ok (.pointer (some ⟨b, 0, none⟩)) w.drew :=
          Lib.run_unsafeSliceData_row _ _ _ _ _ _ hc0
        clear hrow hgE h1 h2 h3 h4 h5 h6 h7 hc0 hgl
        go_enter Tryd.func33, Tryd.ntmps33
        go_wp2
        go_region_o
        all_goals (go_wp2; go_ret; exact ⟨rfl, Below.drew (Below.refl n w), KeepC.refl E w, fun k _ _ => rfl⟩)
    · have hTl : T.length ≠ 0 := by simpa using hT
      have hl : (T.map UInt8.ofNat).length = T.length := by simp
      have hSD : (Builtin.unsafeSliceData_ #[22] 78 #[.slice (some ⟨b, 0, none⟩) T.length cap]).run Tryd.prog w.drew = .ok (.pointer (some ⟨b, 0, none⟩)) w.drew :=
        Lib.run_unsafeSliceData_row _ _ _ _ _ _ (by omega)
      have hUS : (Builtin.unsafeString_ #[78, 3] 9 #[.pointer (some ⟨b, 0, none⟩), .int .i64 T.length]).run Tryd.prog w.drew = .ok (.string (strT T)) (w.drew.freeze ⟨b, 0, none⟩ T.length) := by
        have := Lib.run_unsafeString_row (P := Tryd.prog) w.drew 78 3 9 5 Tryd.underlying78 cells5 b cur.size (by have hg' : w.drew.heap[b]? = some (.cells cur 5 fz2) := h3; simp [World.shape?, hg']) (T.map UInt8.ofNat) (by simpa using hT) (by rw [hl]; omega) (by rw [hl]; unfold maxLen at h5; omega) (by
          intro j x hx
          rw [Addr.add_lit, Nat.zero_add]
          have hj : j < T.length := by have := (List.getElem?_eq_some_iff.1 hx).1; simpa using this
          have hx' : x = UInt8.ofNat T[j] := by rw [List.getElem?_eq_getElem (by simpa using hj)] at hx; simp at hx; exact hx.symm
          have hb := hlt T[j] (List.getElem_mem hj)
          have e1 : (UInt8.ofNat T[j]).toNat = T[j] := by simp; omega
          rw [hx', e1]
          have hq : cur.toList[j]? = some (.int .u8 (T[j] : Nat)) := by
            have : (cur.toList.take (T.length * 1))[j]? = some (.int .u8 (T[j] : Nat)) := by rw [h7, u8s_get T j hj]
            rwa [List.getElem?_take_of_lt (by omega)] at this
          have := cell_of_row w.drew b j cur 5 fz2 h3
          rw [this]
          simpa using hq)
        rw [hl] at this
        exact this
      have HLE := Lib.hid hn
      clear hrow hgE h3 h4 h5 h6 h7 hgl hlt hn hT hTl hl
      go_enter Tryd.func33, Tryd.ntmps33
      go_wp2
      go_region_o
      all_goals (go_wp2; go_ret; exact ⟨rfl, Lib.below_freeze (Below.drew (Below.refl n w)) (p := ⟨b, 0, none⟩) h1 _, KeepC.freeze E w.drew _ _, fun k hk _ => freeze_other w.drew _ _ k (by simp only; omega)⟩)
end Go.Proofs.YtlfdcocaedeneaaDoor
