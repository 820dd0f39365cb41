/-
  Rows of texts and of bytes, and copies of them.
-/
import Derived.Test.YtligplnmgoailaaViewHeld
import Derived.Laws.AppendOwnNone
import Derived.Laws.EntriesVeiled
import Derived.Maps.AppendAt
namespace Go.Proofs.Ytligplnmgoailaa
set_option linter.unusedVariables false
open Go.RowKit

def strV (F : List ByteArray) : List Value := F.map Value.string
def bytV (B : List Nat) : List Value := B.map fun (n : Nat) => Value.int .u8 (n : Int)
/-- a row of texts; one of bytes -/
def RowS (w : World) (v : Value) (F : List ByteArray) : Prop := RowV w 1 v F.length (strV F) ∧ F.length ≤ 8796093022208
def RowY (w : World) (v : Value) (B : List Nat) : Prop := RowV w 1 v B.length (bytV B) ∧ B.length ≤ 140737488355328 ∧ ∀ n ∈ B, n < 256
theorem RowS.below {w w' : World} {v : Value} {F : List ByteArray} (h : RowS w v F) (hb : Below w.heap.size w w') : RowS w' v F := ⟨h.1.below hb, h.2⟩
theorem RowY.below {w w' : World} {v : Value} {B : List Nat} (h : RowY w v B) (hb : Below w.heap.size w w') : RowY w' v B := ⟨h.1.below hb, h.2⟩
theorem strV_cells (F : List ByteArray) : ∀ u ∈ strV F, u.oneCell' = true := by
  intro u hu
  obtain ⟨s, _, rfl⟩ := List.mem_map.1 hu
  rfl
theorem bytV_cells (B : List Nat) : ∀ u ∈ bytV B, u.oneCell' = true := by
  intro u hu
  obtain ⟨s, _, rfl⟩ := List.mem_map.1 hu
  rfl
/-- 'append' of a row to an empty one of the call's own -/
theorem run_copyV {w : World} {v s : Value} {n size bytes : Nat} {xs : List Value} {B t e : Nat} {i : TypeInfo} {z : Value} (ty : TypeId) (ht : Try.prog.underlying t = some (.slice e)) (hi : Try.prog.info? e = some i) (hz : i.zero = some z)
    (h1 : i.size = size) (h2 : i.bytes = bytes) (h3 : z.cells.size = size) (h4 : 0 < size) (hs : w.ownsRow B e size s 0 []) (hB : B ≤ w.heap.size)
    (h : RowV w size v n xs) (hc : ∀ u ∈ xs, u.oneCell' = true) (hb : n * bytes ≤ 140737488355328) :
    ∃ v' w', (Builtin.append_ #[t, t] ty #[s, v]).run Try.prog w = .ok v' w' ∧ w'.ownsRow B e size v' n xs ∧ Below B w w' := by
  obtain ⟨a, cap, rfl, hn, hm, hl, ha, hcell⟩ := h
  cases a with
  | none =>
    obtain ⟨rfl, rfl⟩ := ha rfl
    have hx : xs = [] := List.eq_nil_of_length_eq_zero (by simpa using hl)
    subst hx
    exact ⟨s, w, run_append_owned_none (P := Try.prog) (w := w) B t ty e i size ht hi s 0 [] hs, hs, Below.refl _ _⟩
  | some x =>
    obtain ⟨v', w', hr, ho, hg, -⟩ := run_append_own (P := Try.prog) w B t ty e i z size bytes ht hi hz h1 h2 h3 h4 s 0 [] hs x n cap xs hl (fun j u hj => by
      obtain ⟨hlt, rfl⟩ := List.getElem?_eq_some_iff.1 hj
      exact hcell x rfl j hlt) hc (by omega) (by rw [Nat.zero_add]; exact hb) hB
    refine ⟨v', w', hr, by simpa using ho, ?_⟩
    exact ⟨hg.os, hg.tape, hg.output, hg.size, fun k hk => hg.block k (by omega) (fun e => by
      have := (World.ownsRow.lt hs k (by rw [e])).1
      omega)⟩
theorem Try.info9 : (Try.prog.info? 9).map (fun i => (i.zero, i.size, i.bytes)) = some (some (.string ⟨#[]⟩), 1, 16) := by kernel_rfl
theorem Try.info5 : (Try.prog.info? 5).map (fun i => (i.zero, i.size, i.bytes)) = some (some (.int .u8 0), 1, 1) := by kernel_rfl
/-- of texts -/
theorem run_copyS {w : World} {v s : Value} {F : List ByteArray} {B : Nat} (ty : TypeId) (hs : w.ownsRow B 9 1 s 0 []) (hB : B ≤ w.heap.size) (h : RowS w v F) :
    ∃ v' w', (Builtin.append_ #[46, 46] ty #[s, v]).run Try.prog w = .ok v' w' ∧ RowS w' v' F ∧ Below B w w' ∧ ∀ k, v'.ownBlock = some k → B ≤ k := by
  obtain ⟨i0, hi, hz0, hz1, hz2⟩ := info_parts Try.info9
  obtain ⟨v', w', hr, ho, hb⟩ := run_copyV ty Try.underlying46 hi hz0 hz1 hz2 rfl (by decide) hs hB h.1 (strV_cells F) (by have := h.2; omega)
  exact ⟨v', w', hr, ⟨owns_row ho, h.2⟩, hb, owns_le ho⟩
/-- of bytes -/
theorem run_copyY {w : World} {v s : Value} {L : List Nat} {B : Nat} (ty : TypeId) (hs : w.ownsRow B 5 1 s 0 []) (hB : B ≤ w.heap.size) (h : RowY w v L) :
    ∃ v' w', (Builtin.append_ #[47, 47] ty #[s, v]).run Try.prog w = .ok v' w' ∧ RowY w' v' L ∧ Below B w w' ∧ ∀ k, v'.ownBlock = some k → B ≤ k := by
  obtain ⟨i0, hi, hz0, hz1, hz2⟩ := info_parts Try.info5
  obtain ⟨v', w', hr, ho, hb⟩ := run_copyV ty Try.underlying47 hi hz0 hz1 hz2 rfl (by decide) hs hB h.1 (bytV_cells L) (by have := h.2.1; omega)
  exact ⟨v', w', hr, ⟨owns_row ho, h.2⟩, hb, owns_le ho⟩
/-- at the operation -/
theorem wpList_run {ops : Array Oper} {rest : List Oper} {o : Oper} {a : Act} {Q : Exit → Act → World → Prop} {w : World} (hgd : o.guard = none) (s x : Operand) (t : TypeId)
    (ho : o.op = .call { callee := .builtin .append, args := #[s, x], argTypes := #[t, t] }) {v y : Value} (hs : a.eval s = v) (hx : a.eval x = y) {R : Value → World → Prop}
    (hr : ∃ v' w', (Builtin.append_ #[t, t] o.type #[v, y]).run Try.prog w = .ok v' w' ∧ R v' w') (h : ∀ v' w', R v' w' → wpList Try.prog ops Q rest (a.put o.dst v') w') : wpList Try.prog ops Q (o :: rest) a w := by
  refine wpList_plain hgd fun K hK => ?_
  obtain ⟨v', w', hr, hR⟩ := hr
  unfold Oper.wp
  simp [execOp, ho, resolve, invoke, builtin, hs, hx, hr, Result.andThen]
  exact hK _ _ (h v' w' hR)
theorem empty_new (w : World) (t : TypeId) (e : TypeId) : (w.alloc (.cells #[] e)).ownsRow w.heap.size e 1 (.slice (some ⟨w.heap.size, 0, none⟩) 0 0) 0 [] :=
  ⟨rfl, .inr ⟨w.heap.size, 0, #[], rfl, Nat.le_refl _, heap_alloc_new w _, Nat.le_refl _, by decide, rfl, rfl⟩⟩

set_option maxRecDepth 100000 in
set_option maxHeartbeats 2000000 in
theorem copied_any (v : Value) (F : List ByteArray) (w : World) (h : RowS w v F) : Calls Try.prog 25 #[v] w fun e w' => ∃ v', e = .returned v' ∧ RowS w' v' F ∧ Below w.heap.size w w' ∧ ∀ k, v'.ownBlock = some k → w.heap.size ≤ k := by
  have HR := Lib.hid (run_copyS 46 (World.ownsRow_nil w w.heap.size 9 1) (Nat.le_refl _) h)
  clear h
  go_enter Try.func25, Try.ntmps25
  go_wp2_with (at_builtin
               refine wpList_run (v := .slice none 0 0) (y := v) (R := fun v' w' => RowS w' v' F ∧ Below w.heap.size w w' ∧ ∀ k, v'.ownBlock = some k → w.heap.size ≤ k) rfl (.const (.slice none 0 0)) (.tmp 3) 46 rfl rfl rfl HR.out ?_
               intro v1 w1 h1
               have H1 := Lib.hid h1
               clear h1)
  exact bodyPost_ret (v := v1) (by simp [results, Try.results25, go_sem]) rfl ⟨_, rfl, H1.out⟩
set_option maxRecDepth 100000 in
set_option maxHeartbeats 2000000 in
theorem cloneS_any (v : Value) (F : List ByteArray) (w : World) (h : RowS w v F) : Calls Try.prog 40 #[v] w fun e w' => ∃ v', e = .returned v' ∧ RowS w' v' F ∧ Below w.heap.size w w' ∧ ∀ k, v'.ownBlock = some k → w.heap.size ≤ k := by
  obtain ⟨a, cap, hv, hn, hm, hl, ha, hcell⟩ := id h.1
  cases a with
  | none =>
    obtain ⟨h0, rfl⟩ := ha rfl
    rw [h0] at hv
    subst hv
    have he := Lib.run_eql_slice_nil (P := Try.prog)
    go_enter Try.func40, Try.ntmps40
    go_wp2_with fail
    exact bodyPost_ret (v := .slice none 0 0) (by simp [results, Try.results40, go_sem]) rfl ⟨_, rfl, h, Below.refl _ _, fun k hk => by cases hk⟩
  | some x =>
    have hba : Below w.heap.size w (w.alloc (.cells #[] 9)) := (Below.refl _ _).alloc (Nat.le_refl _) _
    have HR := Lib.hid (run_copyS 46 (empty_new w 46 9) (by simp) (h.below hba))
    have HBA := Lib.hid hba
    subst hv
    have he := fun (W : World) => Lib.run_eql_slice_nil (P := Try.prog) W 46 9 (some x) F.length cap 0 0 Try.underlying46
    clear h ha hcell hl hba
    go_enter Try.func40, Try.ntmps40
    go_wp2_with (at_builtin
                 refine wpList_run (v := .slice (some ⟨w.heap.size, 0, none⟩) 0 0) (y := .slice (some x) F.length cap) (R := fun v' w' => RowS w' v' F ∧ Below w.heap.size (w.alloc (.cells #[] 9)) w' ∧ ∀ k, v'.ownBlock = some k → w.heap.size ≤ k) rfl (.tmp 5) (.tmp 6) 46 rfl rfl rfl HR.out ?_
                 intro v1 w1 h1
                 have H1 := Lib.hid h1
                 clear h1)
    exact bodyPost_ret (v := v1) (by simp [results, Try.results40, go_sem]) rfl ⟨_, rfl, H1.out.1, HBA.out.trans H1.out.2.1, H1.out.2.2⟩
set_option maxRecDepth 100000 in
set_option maxHeartbeats 2000000 in
theorem cloneY_any (v : Value) (L : List Nat) (w : World) (h : RowY w v L) : Calls Try.prog 41 #[v] w fun e w' => ∃ v', e = .returned v' ∧ RowY w' v' L ∧ Below w.heap.size w w' ∧ ∀ k, v'.ownBlock = some k → w.heap.size ≤ k := by
  obtain ⟨a, cap, hv, hn, hm, hl, ha, hcell⟩ := id h.1
  cases a with
  | none =>
    obtain ⟨h0, rfl⟩ := ha rfl
    rw [h0] at hv
    subst hv
    have he := Lib.run_eql_slice_nil (P := Try.prog)
    go_enter Try.func41, Try.ntmps41
    go_wp2_with fail
    exact bodyPost_ret (v := .slice none 0 0) (by simp [results, Try.results41, go_sem]) rfl ⟨_, rfl, h, Below.refl _ _, fun k hk => by cases hk⟩
  | some x =>
    have hba : Below w.heap.size w (w.alloc (.cells #[] 5)) := (Below.refl _ _).alloc (Nat.le_refl _) _
    have HR := Lib.hid (run_copyY 47 (empty_new w 47 5) (by simp) (h.below hba))
    have HBA := Lib.hid hba
    subst hv
    have he := fun (W : World) => Lib.run_eql_slice_nil (P := Try.prog) W 47 5 (some x) L.length cap 0 0 Try.underlying47
    clear h ha hcell hl hba
    go_enter Try.func41, Try.ntmps41
    go_wp2_with (at_builtin
                 refine wpList_run (v := .slice (some ⟨w.heap.size, 0, none⟩) 0 0) (y := .slice (some x) L.length cap) (R := fun v' w' => RowY w' v' L ∧ Below w.heap.size (w.alloc (.cells #[] 5)) w' ∧ ∀ k, v'.ownBlock = some k → w.heap.size ≤ k) rfl (.tmp 5) (.tmp 6) 47 rfl rfl rfl HR.out ?_
                 intro v1 w1 h1
                 have H1 := Lib.hid h1
                 clear h1)
    exact bodyPost_ret (v := v1) (by simp [results, Try.results41, go_sem]) rfl ⟨_, rfl, H1.out.1, HBA.out.trans H1.out.2.1, H1.out.2.2⟩
end Go.Proofs.Ytligplnmgoailaa
