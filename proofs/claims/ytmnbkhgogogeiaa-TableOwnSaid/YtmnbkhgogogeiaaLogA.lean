/-
  A log's small calls: none, cells, write.
-/
import Derived.Test.YtmnbkhgogogeiaaLg
import Derived.Lib.MinMax
namespace Go.Proofs.Ytmnbkhgogogeiaa
set_option linter.unusedVariables false
open Go.RowKit

theorem shown_mem {S : List (List Nat)} {W : List (Nat × List Nat)} {a : Nat} (ha : a < S.length) : shown S W a ∈ S ∨ ∃ x ∈ W, shown S W a = x.2 := by
  unfold shown
  cases h : lastIdx W a with
  | none =>
    left
    simp [List.getD, ha]
  | some i =>
    right
    obtain ⟨hi, _⟩ := lastIdx_some h
    exact ⟨W[i], List.getElem_mem hi, by simp [hi]⟩
theorem shown_64 {S : List (List Nat)} {W : List (Nat × List Nat)} (h : Good S W) {a : Nat} (ha : a < S.length) : (shown S W a).length = 64 := by
  rcases shown_mem (W := W) ha with h1 | ⟨x, hx, e⟩
  · exact h.s64 _ h1
  · rw [e]; exact h.w64 x hx
theorem shown_256 {S : List (List Nat)} {W : List (Nat × List Nat)} (h : Good S W) {a : Nat} (ha : a < S.length) : ∀ n ∈ shown S W a, n < 256 := by
  rcases shown_mem (W := W) ha with h1 | ⟨x, hx, e⟩
  · exact h.s256 _ h1
  · rw [e]; exact h.w256 x hx
set_option maxRecDepth 100000 in
theorem write_any {B : Nat} {w0 w : World} {pl pd : Nat} {kv : Value} {S : List (List Nat)} {W : List (Nat × List Nat)} (hd : Held B w0 w pd kv S W 0 false) (hc : ∃ cs, w.heap[pl]? = some (.cells cs 91 (0, 0)) ∧ cs[0]? = some (.pointer (some ⟨pd, 0, none⟩)))
    (a : Nat) (ha : a < S.length) {g : Nat} {l : List Nat} (hr : Row8 w g l) (hl : l.length = 64) (h256 : ∀ n ∈ l, n < 256) (hwl : W.length < 1000000) (hB : B ≤ g) :
    Calls Try.prog 72 #[.pointer (some ⟨pl, 0, none⟩), .int .i64 (a : Nat), .slice (some ⟨g, 0, none⟩) 64 64] w fun e w' => e = .returned (.bool true) ∧ Held B w0 w' pd kv S (W ++ [(a, sealL l (shown S W a))]) 0 false ∧ QB g w w' := by
  obtain ⟨cs, hcs, hc0⟩ := hc
  have c0 := (cell_of_row w pl 0 _ _ _ hcs).trans hc0
  have hgood : Good S W := by obtain ⟨wv, mv, hdk, _⟩ := hd.dk; exact hdk.good
  have hsl : (shown S W a).length = 64 := shown_64 hgood ha
  have hs256 : ∀ n ∈ shown S W a, n < 256 := shown_256 hgood ha
  have HH := Lib.hid hd
  have HR := Lib.hid hr
  have HRD := Lib.hid (read_held hd a ha)
  have HS := Lib.hid hsl
  have HS2 := Lib.hid hs256
  have H256 := Lib.hid h256
  have HCS := Lib.hid hcs
  clear hd hr hgood hsl hs256 h256
  go_enter Try.func72, Try.ntmps72
  go_wp2_with fail
  refine HRD.out.mono ?_
  rintro e w1 ⟨o, rfl, ho, hb1⟩
  have hrow : RowB w1 o (shown S W a) := ho.rowB HS2.out
  have hr1 : Row8 w1 g l := HR.out.beside (own := fun _ => False) ⟨hb1.os, hb1.tape, hb1.output, hb1.size, fun k hk _ => hb1.block k hk⟩ (fun h => h)
  have HE := Lib.hid (seal_any hr1 hl (Nat.le_refl _) hrow HS.out)
  obtain ⟨oa, oc, rfl⟩ := ho.shape
  have HB1 := Lib.hid hb1
  have HD1 := Lib.hid (HH.out.below' hb1)
  have HR1 := Lib.hid hr1
  clear ho hrow hb1 hr1
  go_wp2_with fail
  refine HE.out.mono ?_
  rintro e w2 ⟨rfl, hr2, hb2⟩
  have hal : Alien w1 (.slice (some ⟨g, 0, none⟩) 64 64) := row8_alien HR1.out
  have hd2 := HD1.out.beside' (v := .slice (some ⟨g, 0, none⟩) 64 64) (hb2.mono (fun k _ e => by subst e; simp [Value.ownBlock])) hal (fun k hk => by
    obtain rfl : g = k := by simpa [Value.ownBlock] using hk
    exact hB)
  have hgl := HR1.out.lt
  have hq2 : QB g w w2 := (Below.qb (HB1.out.mono (Nat.le_of_lt HR.out.lt))).trans (hb2.qb (fun k hk => by omega))
  have HQ2 := Lib.hid hq2
  have HWR := Lib.hid (write_qb hd2 a ha _ _ (row8_rowB hr2 (by rw [sealL_length]; exact hl) (sealL_lt H256.out HS2.out)) (by rw [sealL_length]; exact hl) (row8_alien hr2) hwl g)
  have hpg : pl ≠ g := fun e => by
    have h1 := HCS.out
    have h2 := HR.out
    unfold Row8 at h2
    rw [e, h2] at h1
    simp at h1
  have c1 : w2.cell? ⟨pl, 0, none⟩ = some (.pointer (some ⟨pd, 0, none⟩)) := by
    have h1 : w2.heap[pl]? = some (.cells cs 91 (0, 0)) := by
      rw [hb2.block pl (Nat.lt_of_lt_of_le (lt_of_block HCS.out) HB1.out.size) hpg, HB1.out.block pl (lt_of_block HCS.out), HCS.out]
    exact (cell_of_row w2 pl 0 _ _ _ h1).trans hc0
  clear hr2 hb2 hal hd2 hq2 hgl hpg c0
  go_wp2_with fail
  refine HWR.out.mono ?_
  rintro e w3 ⟨rfl, hd3, hq3⟩
  go_wp2_with fail
  go_ret
  exact ⟨rfl, hd3, HQ2.out.trans hq3⟩
end Go.Proofs.Ytmnbkhgogogeiaa
