/-
  The contracts of Plain, Own and Kept.
-/
import Derived.Test.YtfcdannlfifbgaaOwn
namespace Go.Proofs.Ytfcdannlfifbgaa
set_option linter.unusedVariables false
open Go.RowKit

theorem eqN_any (x y : Int) (w : World) : Calls Try.prog 19 #[.int .u32 x, .int .u32 y] w fun e w' => e = .returned (.bool (x == y)) ∧ w' = w := by
  go_enter Try.func19, Try.ntmps19
  go_wp2_with fail
  go_ret
  exact ⟨rfl, rfl⟩

theorem take_same {α : Type} {la lb : List α} {k : Nat} (h : la.length = lb.length) (hk : k < la.length) (ht : la.take k = lb.take k) : (la.take (k + 1) = lb.take (k + 1)) ↔ la[k] = lb[k]'(by omega) := by
  rw [List.take_succ_eq_append_getElem hk, List.take_succ_eq_append_getElem (show k < lb.length by omega), ht, List.append_cancel_left_eq]
  simp

set_option maxHeartbeats 1000000 in
theorem sameN_any {va vb : Value} {la lb : List Int} {w : World} (ha : RowN w va la) (hb : RowN w vb lb) :
    Calls Try.prog 18 #[va, vb, .func (.func 19) #[] #[]] w fun e w' => e = .returned (.bool (decide (la = lb))) ∧ Below w.heap.size w w' := by
  obtain ⟨ba, oa, aa, capa, rfl, hca, hma, hpa, hcella⟩ := ha.shape
  obtain ⟨bb, ob, ab, capb, rfl, hcb, hmb, hpb, hcellb⟩ := hb.shape
  have hma' : la.length ≤ maxLen := by omega
  have hmb' : lb.length ≤ maxLen := by omega
  unfold maxLen at hma' hmb'
  have PA := Lib.hid hpa
  have PB := Lib.hid hpb
  have CA := Lib.hid hcella
  have CB := Lib.hid hcellb
  clear ha hb hpa hpb hcella hcellb
  by_cases hlen : la.length = lb.length
  · have HL := Lib.hid hlen
    have hl1 : ((la.length : Int) == (lb.length : Int)) = true := by simp; omega
    have hl2 : ((la.length : Int) != (lb.length : Int)) = false := by simp; omega
    clear hlen
    go_enter Try.func18, Try.ntmps18
    go_wp2_with fail
    go_loopw [7] (fun i wr => ∃ k : Nat, k ≤ la.length ∧ i = .int .i64 k ∧ Hid (la.take k = lb.take k) ∧ Below w.heap.size w wr) (fun i _ => la.length - (intOf i).toNat)
    case atStart => exact ⟨0, Nat.zero_le _, rfl, Lib.hid rfl, Below.refl _ _⟩
    case round =>
      obtain ⟨k, hk, rfl, ht, hst⟩ := hrel
      by_cases hka : k < la.length
      · have hkb : k < lb.length := by rw [← HL.out]; exact hka
        obtain ⟨rfl, hba⟩ := PA.out (by omega)
        obtain ⟨rfl, hbb⟩ := PB.out (by omega)
        have c1 : wr.cell? ⟨ba, oa + k, none⟩ = some (.int .u32 la[k]) := (hst.cell (p := ⟨ba, oa + k, none⟩) hba).trans (CA.out k hka)
        have c2 : wr.cell? ⟨bb, ob + k, none⟩ = some (.int .u32 lb[k]) := (hst.cell (p := ⟨bb, ob + k, none⟩) hbb).trans (CB.out k hkb)
        by_cases he : la[k] = lb[k]
        · have Ht := Lib.hid ((take_same HL.out hka ht.out).2 he)
          have hb1 : (la[k] == lb[k]) = true := by simp [he]
          clear he
          generalize la[k] = x at *
          generalize lb[k] = y at *
          go_wp2_with fail
          go_quiet ((go_at_call 19; exact Calls.quiet_of_same (eqN_any _ _ _)))
          go_wp2_with fail
          go_roundw
          case rel => exact ⟨k + 1, by omega, by go_num, Ht, below_drewN hst _⟩
          case measure => simp [intOf]; omega
        · have hne : Hid (¬ la = lb) := by
            intro h
            subst h
            exact he rfl
          have hb1 : (la[k] == lb[k]) = false := by simp [he]
          clear he
          generalize la[k] = x at *
          generalize lb[k] = y at *
          go_wp2_with fail
          go_quiet ((go_at_call 19; exact Calls.quiet_of_same (eqN_any _ _ _)))
          go_wp2_with fail
          go_ret
          exact ⟨ret_eq (show Value.bool false = _ by simp [hne.out]), below_drewN hst _⟩
      · obtain rfl : k = la.length := by omega
        have heq : Hid (la = lb) := by
          have := ht.out
          rwa [List.take_of_length_le (Nat.le_refl _), List.take_of_length_le (by rw [HL.out]; exact Nat.le_refl _)] at this
        go_wp2_with fail
        go_ret
        exact ⟨ret_eq (show Value.bool true = _ by simp [heq.out]), hst⟩
  · have hne : ¬ la = lb := by
      intro h
      subst h
      omega
    have Hne := Lib.hid hne
    clear hne
    have hd : ((la.length : Int) == (lb.length : Int)) = false := by simp; omega
    have hd2 : ((la.length : Int) != (lb.length : Int)) = true := by simp; omega
    go_enter Try.func18, Try.ntmps18
    go_wp2_with fail
    go_ret
    exact ⟨ret_eq (show Value.bool false = _ by simp [Hne.out]), Below.refl _ _⟩

theorem plainN_any {va vb : Value} {la lb : List Int} {w : World} (ha : RowN w va la) (hb : RowN w vb lb) :
    Calls Try.prog 10 #[va, vb] w fun e w' => e = .returned (.bool (decide (la = lb))) ∧ Below w.heap.size w w' := by
  go_enter Try.func10, Try.ntmps10
  go_wp2_with fail
  refine (sameN_any ha hb).mono ?_
  rintro e w1 ⟨rfl, hst⟩
  go_wp2_with fail
  go_ret
  exact ⟨rfl, hst⟩

/-- ranges -/
theorem eqR_any (a b c d : Int) (w : World) : Calls Try.prog 21 #[.agg #[.int .u32 a, .int .u32 b], .agg #[.int .u32 c, .int .u32 d]] w fun e w' => e = .returned (.bool (a == c && b == d)) ∧ Below w.heap.size w w' := by
  have hcase : ((a == c) = false ∨ ((a == c) = true ∧ ((b == d) = false ∨ (b == d) = true))) := by cases a == c <;> cases b == d <;> simp
  rcases hcase with n | ⟨p, n | n⟩
  all_goals
    have HN := Lib.hid n
    try have HP := Lib.hid p
    go_enter Try.func21, Try.ntmps21
    go_wp2_with fail
    go_ret
    refine ⟨ret_eq (?_ : _ = Value.bool (a == c && b == d)), ((Below.refl _ _).alloc (Nat.le_refl _) _).alloc (by simp) _⟩
    first
      | (rw [HP.out, HN.out]; rfl)
      | (rw [HN.out]; rfl)

set_option maxHeartbeats 2000000 in
theorem sameR_any {va vb : Value} {la lb : List (Int × Int)} {w : World} (ha : RowR w va la) (hb : RowR w vb lb) :
    Calls Try.prog 20 #[va, vb, .func (.func 21) #[] #[]] w fun e w' => e = .returned (.bool (decide (la = lb))) ∧ Below w.heap.size w w' := by
  obtain ⟨ba, oa, aa, capa, rfl, hca, hma, hpa, hcella⟩ := ha.shape
  obtain ⟨bb, ob, ab, capb, rfl, hcb, hmb, hpb, hcellb⟩ := hb.shape
  have hma' : la.length ≤ maxLen := by omega
  have hmb' : lb.length ≤ maxLen := by omega
  unfold maxLen at hma' hmb'
  have PA := Lib.hid hpa
  have PB := Lib.hid hpb
  have CA := Lib.hid hcella
  have CB := Lib.hid hcellb
  clear ha hb hpa hpb hcella hcellb
  by_cases hlen : la.length = lb.length
  · have HL := Lib.hid hlen
    have hl1 : ((la.length : Int) == (lb.length : Int)) = true := by simp; omega
    have hl2 : ((la.length : Int) != (lb.length : Int)) = false := by simp; omega
    clear hlen
    go_enter Try.func20, Try.ntmps20
    go_wp2_with fail
    go_loopw [7] (fun i wr => ∃ k : Nat, k ≤ la.length ∧ i = .int .i64 k ∧ Hid (la.take k = lb.take k) ∧ Below w.heap.size w wr) (fun i _ => la.length - (intOf i).toNat)
    case atStart => exact ⟨0, Nat.zero_le _, rfl, Lib.hid rfl, Below.refl _ _⟩
    case round =>
      obtain ⟨k, hk, rfl, ht, hst⟩ := hrel
      by_cases hka : k < la.length
      · have hkb : k < lb.length := by rw [← HL.out]; exact hka
        obtain ⟨rfl, hba⟩ := PA.out (by omega)
        obtain ⟨rfl, hbb⟩ := PB.out (by omega)
        have c1 : wr.cell? ⟨ba, oa + k * 2, none⟩ = some (.int .u32 la[k].1) := (hst.cell (p := ⟨ba, oa + k * 2, none⟩) hba).trans (CA.out k hka).1
        have c2 : wr.cell? ⟨ba, oa + k * 2 + 1, none⟩ = some (.int .u32 la[k].2) := (hst.cell (p := ⟨ba, oa + k * 2 + 1, none⟩) hba).trans (CA.out k hka).2
        have c3 : wr.cell? ⟨bb, ob + k * 2, none⟩ = some (.int .u32 lb[k].1) := (hst.cell (p := ⟨bb, ob + k * 2, none⟩) hbb).trans (CB.out k hkb).1
        have c4 : wr.cell? ⟨bb, ob + k * 2 + 1, none⟩ = some (.int .u32 lb[k].2) := (hst.cell (p := ⟨bb, ob + k * 2 + 1, none⟩) hbb).trans (CB.out k hkb).2
        have hbs := hst.size
        by_cases he : la[k] = lb[k]
        · have Ht := Lib.hid ((take_same HL.out hka ht.out).2 he)
          have HE := Lib.hid (show (la[k].1 == lb[k].1 && la[k].2 == lb[k].2) = true by rw [he]; simp)
          clear he
          generalize la[k] = p at *
          generalize lb[k] = q at *
          obtain ⟨x1, x2⟩ := p
          obtain ⟨y1, y2⟩ := q
          simp only at c1 c2 c3 c4 HE
          go_wp2_with fail
          go_region_held3 (fun w' => w'.cell? ⟨ba, oa + k * 2, none⟩ = some (.int .u32 x1) ∧ w'.cell? ⟨ba, oa + k * 2 + 1, none⟩ = some (.int .u32 x2) ∧ w'.cell? ⟨bb, ob + k * 2, none⟩ = some (.int .u32 y1) ∧ w'.cell? ⟨bb, ob + k * 2 + 1, none⟩ = some (.int .u32 y2))
            (first | with_reducible exact kb | with_reducible exact ⟨c1, c2, c3, c4⟩ | go_keep)
            ((go_at_call 21; refine (eqR_any x1 x2 y1 y2 _).mono ?_; rintro e w2 ⟨rfl, hb2⟩; have HB : Hid (Below wr.heap.size wr w2) := Lib.hid ((Below.refl _ _).drew.trans hb2); have kb : w2.cell? ⟨ba, oa + k * 2, none⟩ = some (.int .u32 x1) ∧ w2.cell? ⟨ba, oa + k * 2 + 1, none⟩ = some (.int .u32 x2) ∧ w2.cell? ⟨bb, ob + k * 2, none⟩ = some (.int .u32 y1) ∧ w2.cell? ⟨bb, ob + k * 2 + 1, none⟩ = some (.int .u32 y2) := ⟨(HB.out.cell (p := ⟨ba, oa + k * 2, none⟩) (by show ba < _; omega)).trans c1, (HB.out.cell (p := ⟨ba, oa + k * 2 + 1, none⟩) (by show ba < _; omega)).trans c2, (HB.out.cell (p := ⟨bb, ob + k * 2, none⟩) (by show bb < _; omega)).trans c3, (HB.out.cell (p := ⟨bb, ob + k * 2 + 1, none⟩) (by show bb < _; omega)).trans c4⟩; clear hb2; rw [HE.out]))
          go_wp2_with fail
          go_roundw
          case rel => exact ⟨k + 1, by omega, by go_num, Ht, hst.trans (HB.out.mono hbs)⟩
          case measure => simp [intOf]; omega
        · have hne : Hid (¬ la = lb) := by
            intro h
            subst h
            exact he rfl
          have HE := Lib.hid (show (la[k].1 == lb[k].1 && la[k].2 == lb[k].2) = false by
            rw [← Bool.not_eq_true, Bool.and_eq_true, beq_iff_eq, beq_iff_eq]
            exact fun h => he (Prod.ext h.1 h.2))
          clear he
          generalize la[k] = p at *
          generalize lb[k] = q at *
          obtain ⟨x1, x2⟩ := p
          obtain ⟨y1, y2⟩ := q
          simp only at c1 c2 c3 c4 HE
          go_wp2_with fail
          go_region_held3 (fun w' => w'.cell? ⟨ba, oa + k * 2, none⟩ = some (.int .u32 x1) ∧ w'.cell? ⟨ba, oa + k * 2 + 1, none⟩ = some (.int .u32 x2) ∧ w'.cell? ⟨bb, ob + k * 2, none⟩ = some (.int .u32 y1) ∧ w'.cell? ⟨bb, ob + k * 2 + 1, none⟩ = some (.int .u32 y2))
            (first | with_reducible exact kb | with_reducible exact ⟨c1, c2, c3, c4⟩ | go_keep)
            ((go_at_call 21; refine (eqR_any x1 x2 y1 y2 _).mono ?_; rintro e w2 ⟨rfl, hb2⟩; have HB : Hid (Below wr.heap.size wr w2) := Lib.hid ((Below.refl _ _).drew.trans hb2); have kb : w2.cell? ⟨ba, oa + k * 2, none⟩ = some (.int .u32 x1) ∧ w2.cell? ⟨ba, oa + k * 2 + 1, none⟩ = some (.int .u32 x2) ∧ w2.cell? ⟨bb, ob + k * 2, none⟩ = some (.int .u32 y1) ∧ w2.cell? ⟨bb, ob + k * 2 + 1, none⟩ = some (.int .u32 y2) := ⟨(HB.out.cell (p := ⟨ba, oa + k * 2, none⟩) (by show ba < _; omega)).trans c1, (HB.out.cell (p := ⟨ba, oa + k * 2 + 1, none⟩) (by show ba < _; omega)).trans c2, (HB.out.cell (p := ⟨bb, ob + k * 2, none⟩) (by show bb < _; omega)).trans c3, (HB.out.cell (p := ⟨bb, ob + k * 2 + 1, none⟩) (by show bb < _; omega)).trans c4⟩; clear hb2; rw [HE.out]))
          go_wp2_with fail
          go_ret
          exact ⟨ret_eq (show Value.bool false = _ by simp [hne.out]), hst.trans (HB.out.mono hbs)⟩
      · obtain rfl : k = la.length := by omega
        have heq : Hid (la = lb) := by
          have := ht.out
          rwa [List.take_of_length_le (Nat.le_refl _), List.take_of_length_le (by rw [HL.out]; exact Nat.le_refl _)] at this
        go_wp2_with fail
        go_ret
        exact ⟨ret_eq (show Value.bool true = _ by simp [heq.out]), hst⟩
  · have hne : ¬ la = lb := by
      intro h
      subst h
      omega
    have Hne := Lib.hid hne
    clear hne
    have hd : ((la.length : Int) == (lb.length : Int)) = false := by simp; omega
    have hd2 : ((la.length : Int) != (lb.length : Int)) = true := by simp; omega
    go_enter Try.func20, Try.ntmps20
    go_wp2_with fail
    go_ret
    exact ⟨ret_eq (show Value.bool false = _ by simp [Hne.out]), Below.refl _ _⟩

theorem plainR_any {va vb : Value} {la lb : List (Int × Int)} {w : World} (ha : RowR w va la) (hb : RowR w vb lb) :
    Calls Try.prog 13 #[va, vb] w fun e w' => e = .returned (.bool (decide (la = lb))) ∧ Below w.heap.size w w' := by
  go_enter Try.func13, Try.ntmps13
  go_wp2_with fail
  refine (sameR_any ha hb).mono ?_
  rintro e w1 ⟨rfl, hst⟩
  go_wp2_with fail
  go_ret
  exact ⟨rfl, hst⟩
end Go.Proofs.Ytfcdannlfifbgaa
