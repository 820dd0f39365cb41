/-
  In, of a row of IDs.
-/
import Derived.Test.YthmnbjdmbajhkaaNew
namespace Go.Proofs.Ythmnbjdmbajhkaa
set_option linter.unusedVariables false
open Go.RowKit
attribute [local go_sem] Oper.semAt_some

/-- is an ID among those of things? -/
def inG (G : List Th) (a b : Int) : Bool := G.any fun y => decide (y.v = a ∧ y.u = b)
theorem eql_key (a b c d : Int) (w : World) : (binOp .eql 31 (.agg #[.int .u32 a, .int .u32 b]) (.agg #[.int .u32 c, .int .u32 d])).run Try.prog w = .ok (.bool (decide (a = c ∧ b = d))) w := by
  have h := eq_key a b c d w
  unfold key at h
  rw [run_eql_struct]
  rw [show (10000 : Nat) = Op.maxDepth from rfl]
  unfold Op.equal at h
  rw [h]
  rfl
theorem idC_at (G : List Th) (i : Nat) (hi : i < G.length) : (idC G)[2 * i]? = some (.int .u32 G[i].v) ∧ (idC G)[2 * i + 1]? = some (.int .u32 G[i].u) := by
  induction G generalizing i with
  | nil => simp at hi
  | cons x r ih =>
    cases i with
    | zero => simp [idC]
    | succ i =>
      have := ih i (by simpa using hi)
      rw [show 2 * (i + 1) = 2 * i + 1 + 1 by omega]
      simpa [idC] using this

set_option maxRecDepth 100000 in
set_option maxHeartbeats 4000000 in
theorem in_any (B g cap : Nat) (G : List Th) (a b : Int) (w : World) (h : w.ownsRow B 31 2 (.slice (some ⟨g, 0, none⟩) G.length cap) G.length (idC G)) (hn : G.length ≤ 1000000) :
    Calls Try.prog 20 #[.slice (some ⟨g, 0, none⟩) G.length cap, .agg #[.int .u32 a, .int .u32 b]] w fun e w' => e = .returned (.bool (inG G a b)) ∧ Below w.heap.size w w' := by
  have H := Lib.hid h
  clear h
  go_enter Try.func20, Try.ntmps20
  go_wp2_with fail
  have HX : Hid (At (w.alloc (.cells #[.int .u32 a, .int .u32 b] 31)) w.heap.size (.cells #[.int .u32 a, .int .u32 b] 31 (0, 0))) := Lib.hid (heap_alloc_new w _)
  go_loopw [5] (fun iv wr => ∃ i : Nat, iv = .int .i64 i ∧ i ≤ G.length ∧ Hid (inG G a b = inG (G.drop i) a b) ∧ Below (w.heap.size + 1) (w.alloc (.cells #[.int .u32 a, .int .u32 b] 31)) wr) (fun iv _ => G.length - (RowKit.intOf iv).toNat)
  case atStart => exact ⟨0, rfl, Nat.zero_le _, Lib.hid rfl, Below.refl _ _⟩
  case round =>
    obtain ⟨i, rfl, hi, hev, hb⟩ := hrel
    have HB := Lib.hid hb
    have HBW : Hid (Below w.heap.size w wr) := Lib.hid (((Below.refl _ _).alloc (Nat.le_refl _) _).trans (hb.mono (by omega)))
    have hx := HX.out.below hb (by omega)
    have x0 := hx.cell 0 (.int .u32 a) rfl
    have x1 := hx.cell 1 (.int .u32 b) rfl
    have hown : wr.ownsRow B 31 2 (.slice (some ⟨g, 0, none⟩) G.length cap) G.length (idC G) := owns_beside (own := fun _ => False) H.out (Below.beside HBW.out) (fun _ h => h.elim)
    clear hb hx
    by_cases hlt : i < G.length
    · have hii : (i : Int) < (G.length : Int) := by omega
      obtain ⟨g0, g1⟩ := idC_at G i hlt
      have e0 : wr.cell? ⟨g, i * 2, none⟩ = some (.int .u32 G[i].v) := (World.ownsRow.cellAt hown (i * 2) (by omega)).trans (by rw [Nat.mul_comm i 2]; exact g0)
      have e1 : wr.cell? ⟨g, i * 2 + 1, none⟩ = some (.int .u32 G[i].u) := (World.ownsRow.cellAt hown (i * 2 + 1) (by omega)).trans (by rw [Nat.mul_comm i 2]; exact g1)
      have hk := eql_key G[i].v G[i].u a b
      have HD : Hid (inG (G.drop i) a b = (decide (G[i].v = a ∧ G[i].u = b) || inG (G.drop (i + 1)) a b)) := Lib.hid (by unfold inG; rw [List.drop_eq_getElem_cons hlt, List.any_cons])
      clear hown g0 g1
      cases hd : decide (G[i].v = a ∧ G[i].u = b)
      · rw [hd] at hk HD
        clear hd
        go_wp2_with fail
        go_quiet (fail)
        go_wp2_with fail
        go_roundw
        case rel => exact ⟨i + 1, by go_num, hlt, Lib.hid (by rw [hev.out, HD.out]; rfl), below_drewN HB.out _⟩
        case measure => simp [RowKit.intOf]; omega
      · rw [hd] at hk HD
        clear hd
        go_wp2_with fail
        go_quiet (fail)
        go_wp2_with fail
        go_ret
        exact ⟨by rw [hev.out, HD.out]; rfl, below_drewN HBW.out _⟩
    · have hii : ¬ (i : Int) < (G.length : Int) := by omega
      have HD : Hid (inG (G.drop i) a b = false) := Lib.hid (by rw [List.drop_eq_nil_of_le (by omega)]; rfl)
      clear hown
      go_wp2_with fail
      go_ret
      exact ⟨ret_eq (by rw [hev.out, HD.out]; rfl), HBW.out⟩
end Go.Proofs.Ythmnbjdmbajhkaa
