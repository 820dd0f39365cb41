/-
  slices.Insert of one pair, anywhere.
-/
import Derived.Test.YtmnbkhgogogeiaaRg20
namespace Go.Proofs.Ytmnbkhgogogeiaa
set_option linter.unusedVariables false
open Go.RowKit

set_option maxRecDepth 100000 in
set_option maxHeartbeats 4000000 in
theorem ins_grow {w : World} {B g gk n i : Nat} {xs : List Value} {cur : Array Value} {kv vv : Value} (hB : B ≤ w.heap.size) (hl : xs.length = n * 2) (hi : i < n) (hn : n ≤ 100000) (hh : w.heap[g]? = some (.cells cur 79 (0, 0))) (hs : cur.size = n * 2) (ht : cur.toList.take (n * 2) = xs)
    (one : ∀ u ∈ xs, u.oneCell' = true) (hg : w.heap[gk]? = some (.cells #[kv, vv] 79 (0, 0))) (h1 : kv.oneCell' = true) (h2 : vv.oneCell' = true) :
    Calls Try.prog 59 #[.slice (some ⟨g, 0, none⟩) n n, .int .i64 (i : Nat), .slice (some ⟨gk, 0, none⟩) 1 1] w fun e w' => ∃ g' c, e = .returned (.slice (some ⟨g', 0, none⟩) (n + 1) c) ∧
      w'.ownsRow B 79 2 (.slice (some ⟨g', 0, none⟩) (n + 1) c) (n + 1) (insC xs i [kv, vv]) ∧ Below w.heap.size w w' := by
  obtain ⟨i0, hi0, hz0, hz1, hz2⟩ := info_parts Try.info79
  have hcell : ∀ j u, xs[j]? = some u → w.cell? ⟨g, j, none⟩ = some u := fun j u hu => by
    rw [cell_of_row _ _ _ _ 79 (0, 0) hh]
    have hj : j < n * 2 := by have := (List.getElem?_eq_some_iff.1 hu).1; omega
    rw [← ht, List.getElem?_take_of_lt hj] at hu
    simpa using hu
  have hti2 : (xs.take (i * 2)).length = i * 2 := by rw [List.length_take]; omega
  obtain ⟨c, hc⟩ : ∃ c, grownCap w (i + (n + 1 - i)) n 79 = c := ⟨_, rfl⟩
  have hcg : n + 1 ≤ c := by rw [← hc]; have := grownCap_ge w (i + (n + 1 - i)) n 79; omega
  have hcm : c ≤ maxLen := by rw [← hc]; exact grownCap_le_maxLen w (i + (n + 1 - i)) n 79 (by unfold maxLen; omega)
  obtain ⟨row, hrow⟩ : ∃ row, row = (xs.take (i * 2)).toArray ++ Builtin.zeroCells (Value.agg #[.slice none 0 0, .slice none 0 0]).cells (n + 1 - i) ++ Builtin.zeroCells (Value.agg #[.slice none 0 0, .slice none 0 0]).cells (c - (i + (n + 1 - i))) := ⟨_, rfl⟩
  have hap : ∀ ty, (Builtin.append_ #[66, 3] ty #[.slice (some ⟨g, 0, none⟩) i n, .int .i64 ((n : Int) + 1 - (i : Int))]).run Try.prog w = .ok (.slice (some ⟨w.heap.size, 0, none⟩) (n + 1) c) (w.drew.alloc (.cells row 79)) := fun ty => by
    have := run_append_grow_zeros (P := Try.prog) w 66 3 ty 79 i0 _ .i64 .i64 Try.underlying66 Try.underlying3 hi0 hz0 (some ⟨g, 0, none⟩) i n (xs.take (i * 2))
      (run_firstCells_some w.drew i0.size i ⟨g, 0, none⟩ i n (xs.take (i * 2)) (by rw [hti2, hz1]) (fun j v hj => by
        have hjl : j < i * 2 := by have := (List.getElem?_eq_some_iff.1 hj).1; omega
        rw [Addr.add_lit, Nat.zero_add]
        rw [List.getElem?_take_of_lt hjl] at hj
        exact hcell j v hj)) (n + 1 - i) (by omega) (by omega) (by omega) (by omega) (by rw [hz2]; omega) (by rw [hz2]; exact growslice_fits (by omega) (by omega))
    rw [hc, ← hrow, show i + (n + 1 - i) = n + 1 by omega, show ((n + 1 - i : Nat) : Int) = (n : Int) + 1 - (i : Int) by omega] at this
    exact this
  have hzl : (Value.agg #[.slice none 0 0, .slice none 0 0]).cells.size = 2 := rfl
  have hrs : row.size = c * 2 := by
    rw [hrow]
    simp only [Array.size_append, List.size_toArray, size_zeroCells, hzl, hti2]
    omega
  have hrc : ∀ j, j < i * 2 → row[j]? = xs[j]? := fun j hj => by
    rw [hrow, Array.append_assoc, Array.getElem?_append_left (by simp only [List.size_toArray, hti2]; exact hj), List.getElem?_toArray, List.getElem?_take_of_lt hj]
  obtain ⟨W1, hW1⟩ : ∃ W1, W1 = w.drew.alloc (.cells row 79) := ⟨_, rfl⟩
  have hnew : W1.heap[w.heap.size]? = some (.cells row 79 (0, 0)) := by rw [hW1]; exact heap_alloc_new w.drew _
  have hbW : Below w.heap.size w W1 := by rw [hW1]; exact (Below.refl _ _).drew.alloc (Nat.le_refl _) _
  have hsome : ∀ j, j < c * 2 → (W1.cell? ⟨w.heap.size, j, none⟩).isSome = true := fun j hj => by
    rw [cell_of_row _ _ _ _ 79 (0, 0) hnew, Array.getElem?_eq_getElem (by omega)]
    rfl
  have hfr : ∀ j, W1.frozen? ⟨w.heap.size, j, none⟩ = false := fun j => by simp [World.frozen?, hnew]
  have hcp1 : ∀ ty dc, (Builtin.copy_ #[66, 66] ty #[.slice (some ⟨w.heap.size, i * 2, none⟩) (n + 1 - i) dc, .slice (some ⟨gk, 0, none⟩) 1 1]).run Try.prog W1 = .ok (goInt ((1 : Nat) : Int)) (W1.setCells w.heap.size (i * 2) [kv, vv]) := fun ty dc =>
    run_copy_many (P := Try.prog) W1 66 66 ty 79 i0 w.heap.size (i * 2) (n + 1 - i) dc ⟨gk, 0, none⟩ 1 1 1 [kv, vv] Try.underlying66 hi0 (by show min _ _ = _; omega) (by rw [hz1]; rfl)
      (fun j v hj => World.news_of_block ((hbW.block gk (lt_of_block hg)).trans hg) j v hj)
      (fun j hj => hsome _ (by simp at hj; omega)) (fun j hj => hfr _) (by intro u hu; simp at hu; rcases hu with rfl | rfl <;> assumption)
  obtain ⟨W2, hW2⟩ : ∃ W2, W2 = W1.setCells w.heap.size (i * 2) [kv, vv] := ⟨_, rfl⟩
  have hdl : (xs.drop (i * 2)).length = (n - i) * 2 := by rw [List.length_drop, hl]; omega
  have hcp2 : ∀ ty dc sc, (Builtin.copy_ #[66, 66] ty #[.slice (some ⟨w.heap.size, (i + 1) * 2, none⟩) (n - i) dc, .slice (some ⟨g, i * 2, none⟩) (n - i) sc]).run Try.prog W2.drew = .ok (goInt ((n - i : Nat) : Int)) (W2.drew.setCells w.heap.size ((i + 1) * 2) (xs.drop (i * 2))) := fun ty dc sc =>
    run_copy_many (P := Try.prog) W2.drew 66 66 ty 79 i0 w.heap.size ((i + 1) * 2) (n - i) dc ⟨g, i * 2, none⟩ (n - i) sc (n - i) (xs.drop (i * 2)) Try.underlying66 hi0 (by show min _ _ = _; omega) (by rw [hdl, hz1])
      (fun j v hj => by
        rw [Addr.add_lit]
        show W2.cell? _ = _
        rw [hW2, World.cell?_setCells_out _ _ _ _ _ (fun h _ => absurd h (Nat.ne_of_lt (lt_of_block hh)))]
        rw [hbW.cell (p := ⟨g, i * 2 + j, none⟩) (lt_of_block hh)]
        exact hcell (i * 2 + j) v (by rwa [List.getElem?_drop] at hj))
      (fun j hj => by
        show (W2.cell? _).isSome = true
        rw [hW2]
        exact Go.Lib.isSome_setCells _ _ _ _ _ (hsome _ (by rw [hdl] at hj; omega)))
      (fun j hj => by show W2.frozen? _ = _; rw [hW2, World.frozen?_setCells]; exact hfr _) (fun v hv => one v (List.mem_of_mem_drop hv))
  have HAP := Lib.hid hap
  have HC1 := Lib.hid hcp1
  have HC2 := Lib.hid hcp2
  rw [← hW1] at HAP
  rw [← hW2] at HC1
  have HFIN : Hid ((W2.drew.setCells w.heap.size ((i + 1) * 2) (xs.drop (i * 2))).ownsRow B 79 2 (.slice (some ⟨w.heap.size, 0, none⟩) (n + 1) c) (n + 1) (insC xs i [kv, vv]) ∧ Below w.heap.size w (W2.drew.setCells w.heap.size ((i + 1) * 2) (xs.drop (i * 2)))) := Lib.hid (by
    constructor
    · have hd : W2.drew = W1.drew.setCells w.heap.size (i * 2) [kv, vv] := by rw [hW2]; rfl
      rw [hd]
      exact grow_row (W := W1.drew) hB hnew hrs hcg hcm hrc hl (by omega)
    · have hset : ∀ (vs : List Value) (o : Nat) (X : World), Below w.heap.size w X → Below w.heap.size w (X.setCells w.heap.size o vs) := by
        intro vs
        induction vs with
        | nil => intro o X hX; exact hX
        | cons v vs ih => intro o X hX; exact ih _ _ (hX.setCell (p := ⟨w.heap.size, o, none⟩) (Nat.le_refl _) v)
      refine hset _ _ _ ?_
      rw [hW2]
      exact (hset _ _ _ hbW).drew)
  have hw1 : IntKind.i64.wrap ((i : Int) + 1) = (i : Int) + 1 := by rw [IntKind.wrap_i64]; omega
  obtain ⟨d, hd⟩ : ∃ d, n + 1 - i = d := ⟨_, rfl⟩
  have hdz : (n : Int) + 1 - (i : Int) = (d : Int) := by omega
  have hw2 : IntKind.i64.wrap (d : Int) = (d : Int) := by rw [IntKind.wrap_i64]; omega
  rw [hdz] at HAP
  have hnz : (n : Int) + 1 ≤ 9223372036854775807 := by omega
  have hnz2 : (n : Int) < 9223372036854775807 := by omega
  have hiz : (i : Int) + 1 ≤ 9223372036854775807 := by omega
  have hin : ((i : Int) == (n : Int)) = false := beq_false_of_ne (by omega)
  have hnc : (n : Int) < (n : Int) + 1 := by omega
  have hncd : decide ((n : Int) < (n : Int) + 1) = true := decide_eq_true hnc
  have hti : ((i : Int) + 1).toNat = i + 1 := by omega
  have hi1 : (i : Int) + 1 ≤ (n : Int) + 1 := by omega
  have hi2 : (i : Int) ≤ (n : Int) + 1 := by omega
  have hi3 : (i : Int) ≤ (n : Int) := by omega
  have hi4 : ¬ n = i + 1 ∨ n = i + 1 := by omega
  have hi5 : ¬ n = i := by omega
  have hci : ¬ c = i := by omega
  have hci1 : ¬ c = i + 1 := by omega
  have h0z : (0 : Int) ≤ (i : Int) + 1 := by omega
  have hcz : (n : Int) + 1 ≤ (c : Int) := by omega
  have hicz : (i : Int) ≤ (c : Int) := by omega
  clear hap hcp1 hcp2 hW1 hW2 hcell hsome hfr hdl hh hs ht hg one hl hi hi4 hrow hrs hrc hnew hbW hti2 hc hcg hcm hi0 hz0 hz1 hz2 hzl hnc hn hd
  go_enter Try.func59, Try.ntmps59
  go_upto_region 9 with (fail)
  go_upto_region 10 with (at_builtin; go_loud (refine list_appR (.tmp 34) (.tmp 39) 66 3 (vx := .slice (some ⟨g, 0, none⟩) i n) (vy := .int .i64 (d : Nat)) rfl rfl rfl rfl (HAP.out _) ?_))
  clear HAP
  go_wp2_with fail
  rw [HC1.out]
  simp only [Result.andThen]
  rw [Oper.upon_value]
  go_upto_region 11 with (fail)
  go_region_law (go_loud (refine step_copyR (.tmp 50) (.tmp 53) 66 66 (vx := .slice (some ⟨w.heap.size, (i + 1) * 2, none⟩) (n - i) (c - (i + 1))) (vy := .slice (some ⟨g, i * 2, none⟩) (n - i) (n - i)) rfl rfl (by simp [Act.eval, Act.put]) (by simp [Act.eval, Act.put]) (HC2.out _ _ _) ?_))
  go_wp2_with fail
  go_ret
  exact ⟨_, _, rfl, HFIN.out.1, HFIN.out.2⟩

theorem ins_any {w : World} {B : Nat} {pv : Value} {L : List Pr} (h : w.ownsRow B 79 2 pv L.length (prC L)) (one : ∀ u ∈ prC L, u.oneCell' = true) (hB : B ≤ w.heap.size) (hL : L.length ≤ 100000) {i : Nat} (hi : i ≤ L.length) {gk : Nat} {kv vv : Value} (hg : w.heap[gk]? = some (.cells #[kv, vv] 79 (0, 0))) (hgk : pv.ownBlock ≠ some gk) (h1 : kv.oneCell' = true) (h2 : vv.oneCell' = true) :
    Calls Try.prog 59 #[pv, .int .i64 (i : Nat), .slice (some ⟨gk, 0, none⟩) 1 1] w fun e w' => ∃ a c, e = .returned (.slice a (L.length + 1) c) ∧ w'.ownsRow B 79 2 (.slice a (L.length + 1) c) (L.length + 1) (insC (prC L) i [kv, vv]) ∧ Beside (fun k => pv.ownBlock = some k) w w' := by
  by_cases hin : i = L.length
  · subst hin
    refine (ins_end h hB hL hg h1 h2).mono ?_
    rintro e w' ⟨a, c, rfl, ho, hgr⟩
    refine ⟨a, c, rfl, ?_, (Beside.refl _ w).grown hgr (fun k hk => .inl hk)⟩
    have e1 : insC (prC L) L.length [kv, vv] = prC L ++ [kv, vv] := by
      unfold insC
      rw [← prC_length, List.take_length, List.drop_length, List.append_nil]
    rw [e1]
    exact ho
  · have hlt : i < L.length := by omega
    rcases h.2 with ⟨e, h0⟩ | ⟨g, cap, cur, rfl, hb, hh, hc, hmx, hs, ht⟩
    · omega
    · have hne : gk ≠ g := fun e => hgk (by rw [e]; rfl)
      by_cases hroom : L.length + 1 ≤ cap
      · refine (ins_shift (prC_length L) hlt hroom hmx hh hs ht one hg hne h1 h2).mono ?_
        rintro e w' ⟨rfl, rfl⟩
        refine ⟨_, _, rfl, shift_row hb hh hs ht (prC_length L) (by omega) hroom hmx w.drew rfl, ?_⟩
        have hset : ∀ (vs : List Value) (o : Nat) (X : World), Beside (fun k => k = g) w X → Beside (fun k => k = g) w (X.setCells g o vs) := by
          intro vs
          induction vs with
          | nil => intro o X hX; exact hX
          | cons v vs ih => intro o X hX; exact ih _ _ (hX.setCell (p := ⟨g, o, none⟩) (.inl rfl) v)
        exact (hset _ _ _ (hset _ _ _ ((Beside.refl _ w).drew))).mono (fun k _ e => by rw [e]; rfl)
      · obtain rfl : cap = L.length := by omega
        refine (ins_grow hB (prC_length L) hlt hL hh hs ht one hg h1 h2).mono ?_
        rintro e w' ⟨g', c, rfl, ho, hbel⟩
        exact ⟨_, _, rfl, ho, Below.beside hbel⟩
end Go.Proofs.Ytmnbkhgogogeiaa
