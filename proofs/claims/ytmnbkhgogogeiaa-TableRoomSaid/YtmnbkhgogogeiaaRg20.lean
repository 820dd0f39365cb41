/-
  Several texts of one proof, each in a section of its own: Del, DelR, InsL, InsS.
-/
import Derived.Test.YtmnbkhgogogeiaaRg19
import Derived.Deep.RegionLaw
import Derived.Lib.ReflectliteSwap
import Derived.Deep.Upon
import Derived.Lib.EndianMore
import Derived.Lib.AppendZeros
import Derived.Lib.Overlaps
import Derived.Laws.IdiomCopy
namespace Go.Proofs.Ytmnbkhgogogeiaa
section
set_option linter.unusedVariables false
open Go.RowKit

set_option maxRecDepth 100000 in
set_option maxHeartbeats 4000000 in
theorem del_walk {w : World} {g n cap i : Nat} {xs : List Value} (hl : xs.length = n * 2) (hi : i < n) (hn : n ≤ 100000) (hcap : n ≤ cap) (hm : cap ≤ maxLen)
    (hcell : ∀ j u, xs[j]? = some u → w.cell? ⟨g, j, none⟩ = some u) (hfr : ∀ j, w.frozen? ⟨g, j, none⟩ = false) (one : ∀ u ∈ xs, u.oneCell' = true) :
    Calls Try.prog 58 #[.slice (some ⟨g, 0, none⟩) n cap, .int .i64 (i : Nat), .int .i64 ((i : Int) + 1)] w fun e w' => e = .returned (.slice (some ⟨g, 0, none⟩) (n - 1) cap) ∧
      w' = (w.drew.setCells g (0 + i * 2) (xs.drop (i * 2 + 2))).setCells g ((n - 1) * 2) [.slice none 0 0, .slice none 0 0] := by
  obtain ⟨m, rfl⟩ : ∃ m, n = m + 1 := ⟨n - 1, by omega⟩
  obtain ⟨i0, hi0, hz0, hz1, hz2⟩ := info_parts Try.info79
  obtain ⟨news, hnews⟩ : ∃ news, news = xs.drop (i * 2 + 2) := ⟨_, rfl⟩
  have him : i ≤ m := by omega
  have hlen : news.length = (m - i) * 2 := by rw [hnews, List.length_drop, hl]; omega
  obtain ⟨A, hA, hsrc⟩ : ∃ A : Addr, (if cap = i + 1 then some (⟨g, 0, none⟩ : Addr) else some ⟨g, (i + 1) * 2, none⟩) = some A ∧ Hid (∀ t u, news[t]? = some u → w.drew.cell? (A.add t) = some u) := by
    by_cases h : cap = i + 1
    · refine ⟨⟨g, 0, none⟩, by simp [h], fun t u hu => ?_⟩
      have h0 : news.length = 0 := by rw [hlen]; omega
      rw [List.length_eq_zero_iff.1 h0] at hu
      simp at hu
    · refine ⟨⟨g, (i + 1) * 2, none⟩, by simp [h], fun t u hu => ?_⟩
      rw [hnews, List.getElem?_drop] at hu
      rw [Addr.add_lit, show (i + 1) * 2 + t = i * 2 + 2 + t by omega]
      exact hcell _ _ hu
  have s1 : Hid (news.length = (m - i) * 2) := hlen
  have s2 : Hid (∀ u ∈ news, u.oneCell' = true) := fun u hu => one u (by rw [hnews] at hu; exact List.mem_of_mem_drop hu)
  have hsome : ∀ j, j < (m + 1) * 2 → (w.cell? ⟨g, j, none⟩).isSome = true := fun j hj => by
    rw [hcell j xs[j] (List.getElem?_eq_getElem (by omega))]
    rfl
  have s3 : Hid (∀ t, t < news.length → (w.drew.cell? ⟨g, 0 + i * 2 + t, none⟩).isSome = true ∧ w.drew.frozen? ⟨g, 0 + i * 2 + t, none⟩ = false) := fun t ht => by
    rw [hlen] at ht
    exact ⟨hsome _ (by omega), hfr _⟩
  obtain ⟨W1, hW1⟩ : ∃ W1, W1 = w.drew.setCells g (0 + i * 2) news := ⟨_, rfl⟩
  have hW : Hid (W1 = w.drew.setCells g (0 + i * 2) news) := hW1
  have HN := Lib.hid hnews
  have hc1 : (i : Int) + 1 ≤ (cap : Int) := by omega
  have hc2 : (i : Int) ≤ (cap : Int) := by omega
  have hn1 : (i : Int) + 1 ≤ (m : Int) + 1 := by omega
  have e1 : ((i : Int) == (i : Int) + 1) = false := beq_false_of_ne (by omega)
  have htn : ((i : Int) + 1).toNat = i + 1 := by omega
  have hcz : (m : Int) + 1 ≤ (cap : Int) := by omega
  have h0z : (0 : Int) ≤ (i : Int) + 1 := by omega
  clear hW1 hcell hlen hnews one
  go_enter Try.func58, Try.ntmps58
  go_upto_region 5 with (fail)
  go_region_law (refine step_append_room rfl (.tmp 22) (.tmp 25) 66 rfl 79 i0 2 Try.underlying66 hi0 hz1 g 0 i cap (by simp [Act.eval, Act.put]) A (m - i) (cap - (i + 1)) news (by simp [Act.eval, Act.put]) s1.out hsrc.out s2.out (by omega) s3.out ?_; rw [← hW.out])
  have hmm2 : i + (m - i) = m := by omega
  have hf1 : ¬ cap = m := by omega
  have hs1 : m + 1 - m = 1 := by omega
  have hz3 : (m : Int) ≤ (m : Int) + 1 := by omega
  have hz4 : (m : Int) + 1 ≤ (cap : Int) := by omega
  have hcl : ∀ ty c, (Builtin.clear_ #[66] ty #[.slice (some ⟨g, m * 2, none⟩) 1 c]).run Try.prog W1 = .ok (.tuple #[]) (W1.setCells g (m * 2) [.slice none 0 0, .slice none 0 0]) := fun ty c => run_clear_pair W1 ty g (m * 2) c (fun j hj => by rw [hW.out]; exact Go.Lib.isSome_setCells g _ _ _ _ (hsome _ (by omega))) (fun j hj => by rw [hW.out, World.frozen?_setCells]; exact hfr _)
  clear hA hsome
  go_wp2_with fail
  go_ret
  exact ⟨rfl, by rw [hW.out, HN.out]; simp⟩
end
section
set_option linter.unusedVariables false
open Go.RowKit

theorem heap_setCells_own (g : Nat) (t : TypeId) : ∀ (vs : List Value) (o : Nat) (w : World) (cs : Array Value), w.heap[g]? = some (.cells cs t (0, 0)) →
    ∃ cs', (w.setCells g o vs).heap[g]? = some (.cells cs' t (0, 0)) ∧ cs'.size = cs.size ∧ ∀ j, cs'[j]? = if o ≤ j ∧ j < o + vs.length ∧ j < cs.size then vs[j - o]? else cs[j]? := by
  intro vs
  induction vs with
  | nil =>
    intro o w cs h
    exact ⟨cs, h, rfl, fun j => by rw [if_neg (by simp; omega)]⟩
  | cons v vs ih =>
    intro o w cs h
    have h1 : (w.setCell ⟨g, o, none⟩ v).heap[g]? = some (.cells (cs.setIfInBounds o v) t (0, 0)) := heap_setCell_same w g o cs t v h
    obtain ⟨cs', h2, h3, h4⟩ := ih (o + 1) _ _ h1
    refine ⟨cs', h2, by rw [h3]; simp, fun j => ?_⟩
    rw [h4 j]
    simp only [List.length_cons, Array.size_setIfInBounds]
    by_cases c1 : o + 1 ≤ j ∧ j < o + 1 + vs.length ∧ j < cs.size
    · rw [if_pos c1, if_pos (by omega), show j - o = (j - (o + 1)) + 1 by omega]
      rfl
    · rw [if_neg c1]
      by_cases c2 : o = j
      · subst c2
        by_cases c3 : o < cs.size
        · rw [if_pos (by omega)]
          simp [c3]
        · rw [if_neg (by omega)]
          simp [c3]
      · rw [if_neg (by omega), Array.getElem?_setIfInBounds_ne c2]

theorem del_any {w : World} {B : Nat} {pv : Value} {n : Nat} {xs : List Value} (h : w.ownsRow B 79 2 pv n xs) (one : ∀ u ∈ xs, u.oneCell' = true) {i : Nat} (hi : i < n) (hn : n ≤ 100000) :
    Calls Try.prog 58 #[pv, .int .i64 (i : Nat), .int .i64 ((i : Int) + 1)] w fun e w' => ∃ a c, e = .returned (.slice a (n - 1) c) ∧ w'.ownsRow B 79 2 (.slice a (n - 1) c) (n - 1) (xs.take (i * 2) ++ xs.drop (i * 2 + 2)) ∧ (Value.slice a (n - 1) c).ownBlock = pv.ownBlock ∧ Beside (fun k => pv.ownBlock = some k) w w' := by
  have hl := h.1
  rcases h.2 with ⟨e, h1⟩ | ⟨g, cap, cur, rfl, hb, hh, hc, hmx, hs, ht⟩
  · omega
  have hget : ∀ j, j < n * 2 → cur[j]? = xs[j]? := fun j hj => by
    rw [← ht, List.getElem?_take_of_lt hj]
    simp
  refine (del_walk (xs := xs) hl hi hn hc hmx (fun j u hu => ?_) (fun j => by simp [World.frozen?, hh]) one).mono ?_
  · rw [cell_of_row _ _ _ _ 79 (0, 0) hh]
    have hj : j < n * 2 := by have := (List.getElem?_eq_some_iff.1 hu).1; omega
    rw [hget j hj]
    exact hu
  · rintro e w' ⟨rfl, rfl⟩
    obtain ⟨c1, p1, p2, p3⟩ := heap_setCells_own g 79 (xs.drop (i * 2 + 2)) (0 + i * 2) w.drew cur hh
    obtain ⟨c2, q1, q2, q3⟩ := heap_setCells_own g 79 [.slice none 0 0, .slice none 0 0] ((n - 1) * 2) _ c1 p1
    refine ⟨_, _, rfl, ⟨?_, .inr ⟨g, cap, c2, rfl, hb, q1, by omega, hmx, by omega, ?_⟩⟩, rfl, ?_⟩
    · rw [List.length_append, List.length_take, List.length_drop]
      omega
    · refine List.ext_getElem? fun j => ?_
      by_cases hj : j < (n - 1) * 2
      · rw [List.getElem?_take_of_lt hj, Array.getElem?_toList, q3 j, if_neg (by simp; omega), p3 j, List.length_drop]
        by_cases hji : j < i * 2
        · rw [if_neg (by omega), List.getElem?_append_left (by rw [List.length_take]; omega), List.getElem?_take_of_lt hji, hget j (by omega)]
        · rw [if_pos (by omega), List.getElem?_append_right (by rw [List.length_take]; omega), List.length_take, Nat.zero_add, Nat.min_eq_left (by omega)]
      · rw [List.getElem?_eq_none (by rw [List.length_take]; omega), List.getElem?_eq_none (by rw [List.length_append, List.length_take, List.length_drop]; omega)]
    · have hset : ∀ (vs : List Value) (o : Nat) (X : World), Beside (fun k => k = g) w X → Beside (fun k => k = g) w (X.setCells g o vs) := by
        intro vs
        induction vs with
        | nil => intro o X hX; exact hX
        | cons v vs ih => intro o X hX; exact ih _ _ (hX.setCell (p := ⟨g, o, none⟩) (.inl rfl) v)
      exact (hset _ _ _ (hset _ _ _ ((Beside.refl _ w).drew))).mono (fun k _ e => by rw [e]; rfl)
end
section
set_option linter.unusedVariables false
open Go.RowKit

theorem run_append_grow_zeros {P : Program} (w : World) (t tn ty e : TypeId) (i : TypeInfo) (z : Value) (k kn : IntKind) (ht : P.underlying t = some (.slice e)) (htn : P.underlying tn = some (.int kn)) (hi : P.info? e = some i) (hz : i.zero = some z)
    (base : Option Addr) (sLen sCap : Nat) (olds : List Value) (hold : (Builtin.firstCells i.size sLen (.slice base sLen sCap)).run P w.drew = .ok olds.toArray w.drew)
    (n : Nat) (h0 : 0 < n) (hs : 0 < i.size) (hg : sCap < sLen + n) (h63 : ((sLen + n : Nat) : Int) ≤ 9223372036854775807) (h48 : n * i.bytes ≤ 281474976710656) (hfit : Builtin.nextslicecap (sLen + n) sCap * i.bytes ≤ 281474976710656) :
    (Builtin.append_ #[t, tn] ty #[.slice base sLen sCap, .int k n]).run P w =
      .ok (.slice (some ⟨w.heap.size, 0, none⟩) (sLen + n) (grownCap w (sLen + n) sCap e)) (w.drew.alloc (.cells (olds.toArray ++ Builtin.zeroCells z.cells n ++ Builtin.zeroCells z.cells (grownCap w (sLen + n) sCap e - (sLen + n))) e)) := by
  have hn : n ≠ 0 := by omega
  have hw : IntKind.i64.wrap (n : Int) = n := by rw [IntKind.wrap_i64]; omega
  have h63' : ¬ (9223372036854775807 < ((sLen : Int) + (n : Int))) := by omega
  have h48' : ¬ (281474976710656 < Builtin.nextslicecap (sLen + n) sCap * i.bytes) := by omega
  have h48i : ¬ (281474976710656 < (n : Int) * (i.bytes : Int)) := by
    rw [← Int.natCast_mul]
    omega
  have hneg : ¬ ((n : Int) < 0) := by omega
  have hns : ¬ (n * i.size = 0) := Nat.mul_ne_zero hn (by omega)
  have hnr : ¬ (sLen + n ≤ sCap) := by omega
  simp [Builtin.append_, run_underlying ht, run_underlying htn, sizeOf, typeInfo, zeroValue, hi, hz, asInt, asIntOf, hw, hneg, hns, hnr, h63', h48', h48i, Question.forced, hold, newRow, grownCap]

theorem run_copy_many {P : Program} (w : World) (dT sT ty elem : TypeId) (i : TypeInfo) (b o dLen dCap : Nat) (a : Addr) (sLen sCap m : Nat) (cs : List Value)
    (hu : P.underlying dT = some (.slice elem)) (hi : P.info? elem = some i) (hm : Nat.min sLen dLen = m) (hn : cs.length = m * i.size)
    (hsrc : ∀ j v, cs[j]? = some v → w.cell? (a.add j) = some v) (hc : ∀ j, j < cs.length → (w.cell? ⟨b, o + j, none⟩).isSome = true) (hf : ∀ j, j < cs.length → w.frozen? ⟨b, o + j, none⟩ = false) (h1 : ∀ v ∈ cs, v.oneCell' = true) :
    (Builtin.copy_ #[dT, sT] ty #[.slice (some ⟨b, o, none⟩) dLen dCap, .slice (some a) sLen sCap]).run P w = .ok (goInt m) (w.setCells b o cs) := by
  have hl := run_loadCells_list (P := P) w a cs hsrc
  have hst := run_storeCells_cells (P := P) b o cs 0 w (by simpa using hc) (by simpa using hf) h1
  subst hm
  simp [Builtin.copy_, run_underlying hu, Builtin.lenOf, Builtin.firstCells, sizeOf, typeInfo, hi, ← hn, hl, hst]

/-- a call of copy whose run is known, as a step of a region -/
theorem step_copyR {P : Program} {ops : Array Oper} {o : Oper} {a : Act} {w w' : World} {K : Act → World → Prop} {Q : Exit → Act → World → Prop} {E : Prop} (x y : Operand) (tx ty : TypeId) {vx vy v : Value}
    (hg : o.guard = none) (ho : o.op = .call { callee := .builtin .copy, args := #[x, y], argTypes := #[tx, ty] }) (hx : a.eval x = vx) (hy : a.eval y = vy)
    (hr : (Builtin.copy_ #[tx, ty] o.type #[vx, vy]).run P w = .ok v w') (h : K (a.put o.dst v) w') : if Region.wanted o (yielded ops a.tmps) = true then Oper.wp P o a w K Q else E := by
  rw [if_pos (by simp [Region.wanted, hg])]
  unfold Oper.wp
  simp [execOp, ho, resolve, invoke, builtin, hx, hy, hr, Result.andThen]
  exact h
/-- .. and in a list of operations -/
theorem list_copyR {P : Program} {ops : Array Oper} {rest : List Oper} {o : Oper} {a : Act} {w w' : World} {Q : Exit → Act → World → Prop} (x y : Operand) (tx ty : TypeId) {vx vy v : Value}
    (hg : o.guard = none) (ho : o.op = .call { callee := .builtin .copy, args := #[x, y], argTypes := #[tx, ty] }) (hx : a.eval x = vx) (hy : a.eval y = vy)
    (hr : (Builtin.copy_ #[tx, ty] o.type #[vx, vy]).run P w = .ok v w') (h : wpList P ops Q rest (a.put o.dst v) w') : wpList P ops Q (o :: rest) a w :=
  wpList_plain hg fun K hK => by
    unfold Oper.wp
    simp [execOp, ho, resolve, invoke, builtin, hx, hy, hr, Result.andThen]
    exact hK _ _ h

/-- a call of append whose run is known, as a step of a region -/
theorem step_appR {P : Program} {ops : Array Oper} {o : Oper} {a : Act} {w w' : World} {K : Act → World → Prop} {Q : Exit → Act → World → Prop} {E : Prop} (x y : Operand) (tx ty : TypeId) {vx vy v : Value}
    (hg : o.guard = none) (ho : o.op = .call { callee := .builtin .append, args := #[x, y], argTypes := #[tx, ty] }) (hx : a.eval x = vx) (hy : a.eval y = vy)
    (hr : (Builtin.append_ #[tx, ty] o.type #[vx, vy]).run P w = .ok v w') (h : K (a.put o.dst v) w') : if Region.wanted o (yielded ops a.tmps) = true then Oper.wp P o a w K Q else E := by
  rw [if_pos (by simp [Region.wanted, hg])]
  unfold Oper.wp
  simp [execOp, ho, resolve, invoke, builtin, hx, hy, hr, Result.andThen]
  exact h
/-- .. and in a list of operations -/
theorem list_appR {P : Program} {ops : Array Oper} {rest : List Oper} {o : Oper} {a : Act} {w w' : World} {Q : Exit → Act → World → Prop} (x y : Operand) (tx ty : TypeId) {vx vy v : Value}
    (hg : o.guard = none) (ho : o.op = .call { callee := .builtin .append, args := #[x, y], argTypes := #[tx, ty] }) (hx : a.eval x = vx) (hy : a.eval y = vy)
    (hr : (Builtin.append_ #[tx, ty] o.type #[vx, vy]).run P w = .ok v w') (h : wpList P ops Q rest (a.put o.dst v) w') : wpList P ops Q (o :: rest) a w :=
  wpList_plain hg fun K hK => by
    unfold Oper.wp
    simp [execOp, ho, resolve, invoke, builtin, hx, hy, hr, Result.andThen]
    exact hK _ _ h

/-- what a row with two cells put in at a place is -/
def insC (xs : List Value) (i : Nat) (vs : List Value) : List Value := xs.take (i * 2) ++ vs ++ xs.drop (i * 2)
theorem insC_length (xs : List Value) (i : Nat) (vs : List Value) : (insC xs i vs).length = xs.length + vs.length := by
  unfold insC
  simp
  omega
theorem insC_get (xs : List Value) (i n : Nat) (a b : Value) (hl : xs.length = n * 2) (hi : i ≤ n) (j : Nat) :
    (insC xs i [a, b])[j]? = if j < i * 2 then xs[j]? else if j = i * 2 then some a else if j = i * 2 + 1 then some b else xs[j - 2]? := by
  unfold insC
  have ht : (xs.take (i * 2)).length = i * 2 := by rw [List.length_take]; omega
  by_cases h1 : j < i * 2
  · rw [if_pos h1, List.append_assoc, List.getElem?_append_left (by omega), List.getElem?_take_of_lt h1]
  · rw [if_neg h1, List.append_assoc, List.getElem?_append_right (by omega), ht]
    by_cases h2 : j = i * 2
    · rw [if_pos h2, h2, Nat.sub_self]; rfl
    · rw [if_neg h2]
      by_cases h3 : j = i * 2 + 1
      · rw [if_pos h3, h3, show i * 2 + 1 - i * 2 = 1 by omega]; rfl
      · rw [if_neg h3, List.getElem?_append_right (by simp; omega), List.getElem?_drop]
        congr 1
        simp
        omega
/-- the row behind both copies: in place -/
theorem shift_row {w : World} {B g n cap i : Nat} {xs : List Value} {cur : Array Value} {kv vv : Value} (hB : B ≤ g) (hh : w.heap[g]? = some (.cells cur 79 (0, 0))) (hs : cur.size = cap * 2) (ht : cur.toList.take (n * 2) = xs) (hl : xs.length = n * 2) (hi : i ≤ n) (hroom : n + 1 ≤ cap) (hmx : cap ≤ maxLen)
    (W : World) (hW : W.heap = w.heap) : ((W.setCells g (0 + (i + 1) * 2) (xs.drop (i * 2))).setCells g (0 + i * 2) [kv, vv]).ownsRow B 79 2 (.slice (some ⟨g, 0, none⟩) (n + 1) cap) (n + 1) (insC xs i [kv, vv]) := by
  have hhW : W.heap[g]? = some (.cells cur 79 (0, 0)) := by rw [hW]; exact hh
  obtain ⟨c1, p1, p2, p3⟩ := heap_setCells_own g 79 (xs.drop (i * 2)) (0 + (i + 1) * 2) W cur hhW
  obtain ⟨c2, q1, q2, q3⟩ := heap_setCells_own g 79 [kv, vv] (0 + i * 2) _ c1 p1
  refine ⟨by rw [insC_length, hl]; simp; omega, .inr ⟨g, cap, c2, rfl, hB, q1, hroom, hmx, by omega, ?_⟩⟩
  have hget : ∀ j, j < n * 2 → cur[j]? = xs[j]? := fun j hj => by
    rw [← ht, List.getElem?_take_of_lt hj]
    simp
  refine List.ext_getElem? fun j => ?_
  rw [insC_get xs i n kv vv hl hi]
  by_cases hj : j < (n + 1) * 2
  · rw [List.getElem?_take_of_lt hj, Array.getElem?_toList, q3 j]
    simp only [List.length_cons, List.length_nil]
    by_cases h1 : j < i * 2
    · rw [if_neg (by omega), p3 j, if_neg (by omega), hget j (by omega), if_pos h1]
    · by_cases h2 : j = i * 2
      · rw [if_pos (by omega), h2]
        simp
      · by_cases h3 : j = i * 2 + 1
        · rw [if_pos (by omega), if_neg h1, if_neg h2, if_pos h3, h3]
          simp
        · rw [if_neg (by omega), p3 j, List.length_drop, if_pos (by omega), if_neg h1, if_neg h2, if_neg h3, List.getElem?_drop]
          congr 1
          omega
  · rw [List.getElem?_eq_none (by rw [List.length_take]; omega), if_neg (by omega), if_neg (by omega), if_neg (by omega), List.getElem?_eq_none (by omega)]
theorem grow_row {W : World} {B g n c i : Nat} {xs : List Value} {kv vv : Value} {cur : Array Value} (hB : B ≤ g) (hh : W.heap[g]? = some (.cells cur 79 (0, 0))) (hs : cur.size = c * 2) (hc : n + 1 ≤ c) (hmx : c ≤ maxLen)
    (hcur : ∀ j, j < i * 2 → cur[j]? = xs[j]?) (hl : xs.length = n * 2) (hi : i ≤ n) :
    ((W.setCells g (i * 2) [kv, vv]).setCells g ((i + 1) * 2) (xs.drop (i * 2))).ownsRow B 79 2 (.slice (some ⟨g, 0, none⟩) (n + 1) c) (n + 1) (insC xs i [kv, vv]) := by
  obtain ⟨c1, p1, p2, p3⟩ := heap_setCells_own g 79 [kv, vv] (i * 2) W cur hh
  obtain ⟨c2, q1, q2, q3⟩ := heap_setCells_own g 79 (xs.drop (i * 2)) ((i + 1) * 2) _ c1 p1
  refine ⟨by rw [insC_length, hl]; simp; omega, .inr ⟨g, c, c2, rfl, hB, q1, hc, hmx, by omega, ?_⟩⟩
  refine List.ext_getElem? fun j => ?_
  rw [insC_get xs i n kv vv hl hi]
  by_cases hj : j < (n + 1) * 2
  · rw [List.getElem?_take_of_lt hj, Array.getElem?_toList, q3 j, List.length_drop]
    by_cases h1 : j < i * 2
    · rw [if_neg (by omega), p3 j, if_neg (by omega), hcur j h1, if_pos h1]
    · by_cases h2 : j = i * 2
      · rw [if_neg (by omega), p3 j, if_pos (by simp; omega), h2]
        simp
      · by_cases h3 : j = i * 2 + 1
        · rw [if_neg (by omega), p3 j, if_pos (by simp; omega), if_neg h1, if_neg h2, if_pos h3, h3]
          simp
        · rw [if_pos (by omega), if_neg h1, if_neg h2, if_neg h3, List.getElem?_drop]
          congr 1
          omega
  · rw [List.getElem?_eq_none (by rw [List.length_take]; omega), if_neg (by omega), if_neg (by omega), if_neg (by omega), List.getElem?_eq_none (by omega)]
end
section
set_option linter.unusedVariables false
open Go.RowKit

set_option maxRecDepth 100000 in
set_option maxHeartbeats 4000000 in
theorem ins_shift {w : World} {g gk n cap i : Nat} {xs : List Value} {cur : Array Value} {kv vv : Value} (hl : xs.length = n * 2) (hi : i < n) (hroom : n + 1 ≤ cap) (hm : cap ≤ maxLen) (hh : w.heap[g]? = some (.cells cur 79 (0, 0))) (hs : cur.size = cap * 2) (ht : cur.toList.take (n * 2) = xs)
    (one : ∀ u ∈ xs, u.oneCell' = true) (hg : w.heap[gk]? = some (.cells #[kv, vv] 79 (0, 0))) (hne : gk ≠ g) (h1 : kv.oneCell' = true) (h2 : vv.oneCell' = true) :
    Calls Try.prog 59 #[.slice (some ⟨g, 0, none⟩) n cap, .int .i64 (i : Nat), .slice (some ⟨gk, 0, none⟩) 1 1] w fun e w' => e = .returned (.slice (some ⟨g, 0, none⟩) (n + 1) cap) ∧
      w' = (w.drew.setCells g (0 + (i + 1) * 2) (xs.drop (i * 2))).setCells g (0 + i * 2) [kv, vv] := by
  obtain ⟨i0, hi0, hz0, hz1, hz2⟩ := info_parts Try.info79
  have hcell : ∀ j u, xs[j]? = some u → w.cell? ⟨g, j, none⟩ = some u := fun j u hu => by
    rw [cell_of_row _ _ _ _ 79 (0, 0) hh]
    have hj : j < n * 2 := by have := (List.getElem?_eq_some_iff.1 hu).1; omega
    rw [← ht, List.getElem?_take_of_lt hj] at hu
    simpa using hu
  have hsome : ∀ j, j < cap * 2 → (w.cell? ⟨g, j, none⟩).isSome = true := fun j hj => by
    rw [cell_of_row _ _ _ _ 79 (0, 0) hh, Array.getElem?_eq_getElem (by omega)]
    rfl
  have hfr : ∀ j, w.frozen? ⟨g, j, none⟩ = false := fun j => by simp [World.frozen?, hh]
  have hsg : w.shape? g = some (79, cap * 2) := by simp [World.shape?, hh, hs]
  have hsk : w.shape? gk = some (79, 2) := by simp [World.shape?, hg]
  have hfk : ∀ j, w.frozen? ⟨gk, j, none⟩ = false := fun j => by simp [World.frozen?, hg]
  have hov : ∀ lb cb, (callFunc 86 #[.slice (some ⟨gk, 0, none⟩) 1 1, .slice (some ⟨g, (i + 1) * 2, none⟩) lb cb]).run Try.prog w = .ok (.value (.bool false)) w := fun lb cb => by
    rw [run_callFunc_extern Try.func86 (by kernel_rfl) (by kernel_rfl) (by kernel_rfl) (e := Extern.SlicesOverlaps.overlaps #[66, 66] #[4]) (by kernel_rfl),
      Lib.run_overlaps_apart w 66 4 79 Try.underlying66 2 (fun w => by simp [sizeOf, typeInfo, hi0, hz1]) ⟨gk, 0, none⟩ ⟨g, (i + 1) * 2, none⟩ 1 1 lb cb hne 79 79 2 (cap * 2) hsk hsg (by omega) (hfk _) (hfk _)]
    rfl
  have hdl : (xs.drop (i * 2)).length = (n - i) * 2 := by rw [List.length_drop, hl]; omega
  have hcp1 : ∀ ty dc sc, (Builtin.copy_ #[66, 66] ty #[.slice (some ⟨g, (i + 1) * 2, none⟩) (n - i) dc, .slice (some ⟨g, i * 2, none⟩) (n + 1 - i) sc]).run Try.prog w.drew = .ok (goInt ((n - i : Nat) : Int)) (w.drew.setCells g (0 + (i + 1) * 2) (xs.drop (i * 2))) := fun ty dc sc => by
    have := run_copy_many (P := Try.prog) w.drew 66 66 ty 79 i0 g ((i + 1) * 2) (n - i) dc ⟨g, i * 2, none⟩ (n + 1 - i) sc (n - i) (xs.drop (i * 2)) Try.underlying66 hi0 (by show min _ _ = _; omega) (by rw [hdl, hz1])
      (fun j v hj => by rw [Addr.add_lit]; exact hcell (i * 2 + j) v (by rwa [List.getElem?_drop] at hj))
      (fun j hj => hsome _ (by rw [hdl] at hj; omega)) (fun j hj => hfr _) (fun v hv => one v (List.mem_of_mem_drop hv))
    rw [this, Nat.zero_add]
  obtain ⟨W1, hW1⟩ : ∃ W1, W1 = w.drew.setCells g (0 + (i + 1) * 2) (xs.drop (i * 2)) := ⟨_, rfl⟩
  have hcp2 : ∀ ty dc, (Builtin.copy_ #[66, 66] ty #[.slice (some ⟨g, i * 2, none⟩) (n + 1 - i) dc, .slice (some ⟨gk, 0, none⟩) 1 1]).run Try.prog W1 = .ok (goInt ((1 : Nat) : Int)) (W1.setCells g (0 + i * 2) [kv, vv]) := fun ty dc => by
    have := run_copy_many (P := Try.prog) W1 66 66 ty 79 i0 g (i * 2) (n + 1 - i) dc ⟨gk, 0, none⟩ 1 1 1 [kv, vv] Try.underlying66 hi0 (by show min _ _ = _; omega) (by rw [hz1]; rfl)
      (fun j v hj => by
        rw [Addr.add_lit, hW1, World.cell?_setCells_out g _ _ _ _ (fun h _ => absurd h hne)]
        rw [← Addr.add_lit]
        exact (World.news_of_block hg j v hj))
      (fun j hj => by
        rw [hW1]
        exact Go.Lib.isSome_setCells g _ _ _ _ (hsome _ (by simp at hj; omega)))
      (fun j hj => by rw [hW1, World.frozen?_setCells]; exact hfr _) (by intro u hu; simp at hu; rcases hu with rfl | rfl <;> assumption)
    rw [this, Nat.zero_add]
  have HOV := Lib.hid hov
  have HC1 := Lib.hid hcp1
  have HC2 := Lib.hid hcp2
  rw [← hW1] at HC1
  have HW1 := Lib.hid hW1
  have hw1 : IntKind.i64.wrap ((i : Int) + 1) = (i : Int) + 1 := by rw [IntKind.wrap_i64]; unfold maxLen at hm; omega
  have hmz : (cap : Int) ≤ 9223372036854775807 := by unfold maxLen at hm; omega
  have hnz : (n : Int) + 1 ≤ 9223372036854775807 := by omega
  have hnz2 : (n : Int) < 9223372036854775807 := by omega
  have hiz : (i : Int) + 1 ≤ 9223372036854775807 := by omega
  have hin : ((i : Int) == (n : Int)) = false := beq_false_of_ne (by omega)
  have hnc : ¬ (cap : Int) < (n : Int) + 1 := by omega
  have hncd : decide ((cap : Int) < (n : Int) + 1) = false := decide_eq_false hnc
  have hle1 : (n : Int) + 1 ≤ (cap : Int) := by omega
  have htn1 : ((n : Int) + 1).toNat = n + 1 := by omega
  have hti : ((i : Int) + 1).toNat = i + 1 := by omega
  have hi1 : (i : Int) + 1 ≤ (n : Int) + 1 := by omega
  have hi2 : (i : Int) ≤ (n : Int) + 1 := by omega
  have hi3 : (i : Int) ≤ (n : Int) := by omega
  have hi4 : ¬ cap = i + 1 := by omega
  have hi5 : ¬ cap = i := by omega
  have h0z : (0 : Int) ≤ (i : Int) + 1 := by omega
  have h0n : (0 : Int) ≤ (n : Int) + 1 := by omega
  have hcz : (n : Int) ≤ (cap : Int) := by omega
  have hicz : (i : Int) ≤ (cap : Int) := by omega
  clear hov hcp1 hcp2 hW1 hcell hsome hfr hsg hsk hfk hdl hh ht hs hg one hl hi hm hroom hi0 hz0 hz1 hz2
  go_enter Try.func59, Try.ntmps59
  go_upto_region 14 with (fail)
  go_wp2_with (simp only [HOV.out])
  go_region_law (refine step_copyR (.tmp 73) (.tmp 76) 66 66 (vx := .slice (some ⟨g, (i + 1) * 2, none⟩) (n - i) (cap - (i + 1))) (vy := .slice (some ⟨g, i * 2, none⟩) (n + 1 - i) (cap - i)) rfl rfl (by simp [Act.eval, Act.put]) (by simp [Act.eval, Act.put]) (HC1.out _ _ _) ?_)
  go_wp2_with fail
  rw [HC2.out]
  simp only [Result.andThen]
  rw [Oper.upon_value]
  go_wp2_with fail
  go_ret
  exact ⟨rfl, by rw [HW1.out]; simp only [Nat.zero_add]⟩
end
end Go.Proofs.Ytmnbkhgogogeiaa
