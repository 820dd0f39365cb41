/-
  The walk of StampParses: both sides' answers to any text.
-/
import Derived.Test.YthcgdbmcpnmeeaaRMid
import Derived.Test.YthcgdbmcpnmeeaaPMath
import Derived.Test.YthcgdbmcpnmeeaaParseNoEnd
import Derived.Test.YthcgdbmcpnmeeaaSignedNo
import Derived.Test.YthcgdbmcpnmeeaaAwake
namespace Go.Proofs.Ythcgdbmcpnmeeaa
set_option linter.unusedVariables false
open Go.RowKit

theorem rg_total (A B H M c : Int) (z : Bool) (hz : z = true → c = 45) : RBad A B H M c z ∨ ∃ zone, RGood A B H M c z zone := by
  by_cases a : A < 0
  · exact .inl (.inl a)
  by_cases b : B < 0
  · exact .inl (.inr (.inl ⟨by omega, b⟩))
  by_cases h : H < 0
  · exact .inl (.inr (.inr (.inl ⟨by omega, by omega, h⟩)))
  by_cases m : M < 0
  · exact .inl (.inr (.inr (.inr (.inl ⟨by omega, by omega, by omega, m⟩))))
  by_cases m2 : 59 < M
  · exact .inl (.inr (.inr (.inr (.inr (.inl ⟨by omega, by omega, by omega, by omega, m2⟩)))))
  by_cases c1 : c = 43
  · subst c1
    refine .inr ⟨60 * H + M, by omega, by omega, by omega, by omega, by omega, ?_, .inl ⟨by decide, by decide, rfl⟩⟩
    cases z with
    | false => rfl
    | true => have := hz rfl; omega
  · have c1' : (c != 43) = true := bne_iff_ne.2 c1
    by_cases c2 : c = 45
    · have c2' : (c != 45) = false := by simp [c2]
      cases z with
      | false => exact .inr ⟨-(60 * H + M), by omega, by omega, by omega, by omega, by omega, rfl, .inr ⟨c1', c2', by simp [c2], rfl⟩⟩
      | true => exact .inl (.inr (.inr (.inr (.inr (.inr (.inr ⟨by omega, by omega, by omega, by omega, by omega, c1', c2', rfl⟩))))))
    · exact .inl (.inr (.inr (.inr (.inr (.inr (.inl ⟨by omega, by omega, by omega, by omega, by omega, c1', bne_iff_ne.2 c2⟩))))))

theorem sep_false (s : ByteArray) (k c : Nat) (h : k < s.size) (hm : maskN k = c) (hc : c ≠ 46) (hn : ((s[k].toNat : Int) != (c : Int)) = true) : sepAt s k = false := by
  subst hm
  rcases sep_ways s k h with ⟨_, h2 | ⟨_, h2⟩⟩ | ⟨h1, _⟩
  · exfalso; apply hc; have := h2; simp at this; omega
  · rw [hn] at h2; cases h2
  · exact h1
theorem sep_true (s : ByteArray) (k c : Nat) (h : k < s.size) (hm : maskN k = c) (hn : ((s[k].toNat : Int) != (c : Int)) = false) : sepAt s k = true := by
  subst hm
  rcases sep_ways s k h with ⟨h1, _⟩ | ⟨_, _, h2⟩
  · exact h1
  · rw [hn] at h2; cases h2
theorem mask_six : ∀ q : Fin 26, maskN q.val ≠ 46 → q.val = 2 ∨ q.val = 6 ∨ q.val = 11 ∨ q.val = 14 ∨ q.val = 17 ∨ q.val = 20 := by decide +kernel

/-- both sides have no stamp, or the same one -/
def Both (s : ByteArray) : Prop := ∃ y mo d h mi sc z er : Int, (∀ w, Calls Try.prog 7 #[.string s] w fun e w' => PAns (St7 y mo d h mi sc z) er e ∧ Below w.heap.size w w') ∧ (∀ w, Calls Try.prog 8 #[.string s] w fun e w' => PAns (St7 y mo d h mi sc z) er e ∧ Below w.heap.size w w')
theorem both_no {s : ByteArray} (h7 : ∀ w, Calls Try.prog 7 #[.string s] w fun e w' => NoParse e ∧ Below w.heap.size w w') (h8 : ∀ w, Calls Try.prog 8 #[.string s] w fun e w' => NoParse e ∧ Below w.heap.size w w') : Both s :=
  ⟨0, 0, 0, 0, 0, 0, 0, 9, fun w => (h7 w).mono fun _ _ g => ⟨g.1, g.2⟩, fun w => (h8 w).mono fun _ _ g => ⟨g.1, g.2⟩⟩

theorem bytes_eq {a b : ByteArray} (h : a.data.toList = b.data.toList) : a = b := by
  obtain ⟨⟨a⟩⟩ := a
  obtain ⟨⟨b⟩⟩ := b
  have h' : a = b := h
  rw [h']

theorem month_prog (f : ByteArray) (w : World) : Calls Try.prog 17 #[.string f] w fun e w' => e = .returned (.int .i64 (moF f 12)) ∧ Below w.heap.size w w' := by
  by_cases h : ∃ j, j < 12 ∧ f = nameB j
  · obtain ⟨j, hj, rfl⟩ := h
    rw [moF_yes j 12 hj (by omega), if_pos hj]
    exact month_yes j w hj
  · have hn : ∀ j, j < 12 → ((nameB j).toList == f.toList) = false := by
      intro j hj
      rw [beq_eq_false_iff_ne]
      intro e
      refine h ⟨j, hj, ?_⟩
      rw [toList_data, toList_data] at e
      exact (bytes_eq e).symm
    rw [moF_no f 12 (by omega) hn]
    exact month_no f w hn

theorem right_dig (s : ByteArray) (y mo zone : Int) (hr : RightS y mo (twoI (b0 s) (bn s 1)) (twoI (bn s 12) (bn s 13)) (twoI (bn s 15) (bn s 16)) (twoI (bn s 18) (bn s 19)) zone)
    (h7 : 0 ≤ twoI (bn s 7) (bn s 8)) (h9 : 0 ≤ twoI (bn s 9) (bn s 10)) (h22 : 0 ≤ twoI (bn s 22) (bn s 23)) (h24 : 0 ≤ twoI (bn s 24) (bn s 25)) : AllDig s := by
  obtain ⟨_, _, _, _, d, _, h, _, mi, _, sc, _⟩ := hr
  have hd := (twoI_ge _ _).1 (show 0 ≤ twoI (b0 s) (bn s 1) by omega)
  have a := (twoI_ge _ _).1 h7
  have b := (twoI_ge _ _).1 h9
  exact ⟨hd.1, hd.2, ⟨a.1, a.2, b.1, b.2⟩, (twoI_ge _ _).1 h, (twoI_ge _ _).1 mi, (twoI_ge _ _).1 sc, (twoI_ge _ _).1 h22, (twoI_ge _ _).1 h24⟩

theorem flag_of (s : ByteArray) (hs : s.size = 26) (h : ((s.extract 21 26).toList == [45, 48, 48, 48, 48]) = true) : bn s 21 = 45 ∧ bn s 22 = 48 ∧ bn s 23 = 48 ∧ bn s 24 = 48 ∧ bn s 25 = 48 := by
  rw [toList_data, ext5 s 21 26 rfl (by omega), beq_iff_eq] at h
  simp only [List.cons.injEq, and_true] at h
  obtain ⟨a, b, c, d, e⟩ := h
  rw [← bn_at s 21 (by omega), ← bn_at s 22 (by omega), ← bn_at s 23 (by omega), ← bn_at s 24 (by omega), ← bn_at s 25 (by omega), a, b, c, d, e]
  decide
theorem flag_no (s : ByteArray) (hs : s.size = 26) (h : ((s.extract 21 26).toList == [45, 48, 48, 48, 48]) = false) (h21 : bn s 21 = 45) (d22 : DG (bn s 22)) (d23 : DG (bn s 23)) (d24 : DG (bn s 24)) (d25 : DG (bn s 25)) : 0 < twoI (bn s 22) (bn s 23) * 60 + twoI (bn s 24) (bn s 25) := by
  have h' := h
  rw [toList_data, ext5 s 21 26 rfl (by omega), beq_eq_false_iff_ne] at h'
  have hx : ¬ (bn s 22 = 48 ∧ bn s 23 = 48 ∧ bn s 24 = 48 ∧ bn s 25 = 48) := by
    rintro ⟨a, b, c, d⟩
    apply h'
    rw [u8_of s[21] 45 (by decide) ((bn_at s 21 (by omega)).trans h21), u8_of s[22] 48 (by decide) ((bn_at s 22 (by omega)).trans a), u8_of s[23] 48 (by decide) ((bn_at s 23 (by omega)).trans b), u8_of s[24] 48 (by decide) ((bn_at s 24 (by omega)).trans c), u8_of s[25] 48 (by decide) ((bn_at s 25 (by omega)).trans d)]
    rfl
  rw [twoI_val ⟨d22, d23⟩, twoI_val ⟨d24, d25⟩]
  unfold DG at *
  omega

theorem parse_both (s : ByteArray) (hl : s.size ≤ 140737488351232) : Both s := by
  by_cases hs : s.size = 26
  case neg =>
    have h26 : ((s.size : Int) != 26) = true := by rw [bne_iff_ne]; omega
    exact both_no (fun w => parse_size s w h26 hl) (fun w => rparse_size s w h26 hl)
  by_cases k2 : ((s[2].toNat : Int) != 45) = true
  · exact both_no (fun w => parse_sep s w hs (.inl k2)) (fun w => rparse_sep s w hs 2 (by decide) (sep_false s 2 45 (by omega) rfl (by decide) k2))
  rw [Bool.not_eq_true] at k2
  by_cases k6 : ((s[6].toNat : Int) != 45) = true
  · exact both_no (fun w => parse_sep s w hs (.inr (.inl ⟨k2, k6⟩))) (fun w => rparse_sep s w hs 6 (by decide) (sep_false s 6 45 (by omega) rfl (by decide) k6))
  rw [Bool.not_eq_true] at k6
  by_cases k11 : ((s[11].toNat : Int) != 32) = true
  · exact both_no (fun w => parse_sep s w hs (.inr (.inr (.inl ⟨k2, k6, k11⟩)))) (fun w => rparse_sep s w hs 11 (by decide) (sep_false s 11 32 (by omega) rfl (by decide) k11))
  rw [Bool.not_eq_true] at k11
  by_cases k14 : ((s[14].toNat : Int) != 58) = true
  · exact both_no (fun w => parse_sep s w hs (.inr (.inr (.inr (.inl ⟨k2, k6, k11, k14⟩))))) (fun w => rparse_sep s w hs 14 (by decide) (sep_false s 14 58 (by omega) rfl (by decide) k14))
  rw [Bool.not_eq_true] at k14
  by_cases k17 : ((s[17].toNat : Int) != 58) = true
  · exact both_no (fun w => parse_sep s w hs (.inr (.inr (.inr (.inr (.inl ⟨k2, k6, k11, k14, k17⟩)))))) (fun w => rparse_sep s w hs 17 (by decide) (sep_false s 17 58 (by omega) rfl (by decide) k17))
  rw [Bool.not_eq_true] at k17
  by_cases k20 : ((s[20].toNat : Int) != 32) = true
  · exact both_no (fun w => parse_sep s w hs (.inr (.inr (.inr (.inr (.inr ⟨k2, k6, k11, k14, k17, k20⟩)))))) (fun w => rparse_sep s w hs 20 (by decide) (sep_false s 20 32 (by omega) rfl (by decide) k20))
  rw [Bool.not_eq_true] at k20
  have hall : ∀ q, q < 26 → sepAt s q = true := by
    intro q hq
    by_cases hm : maskN q = 46
    · unfold sepAt; simp [hm]
    · rcases mask_six ⟨q, hq⟩ hm with h | h | h | h | h | h <;> simp only at h <;> subst h
      · exact sep_true s 2 45 (by omega) rfl k2
      · exact sep_true s 6 45 (by omega) rfl k6
      · exact sep_true s 11 32 (by omega) rfl k11
      · exact sep_true s 14 58 (by omega) rfl k14
      · exact sep_true s 17 58 (by omega) rfl k17
      · exact sep_true s 20 32 (by omega) rfl k20
  have hT : ∀ i j w, j = i + 2 → i ≤ 24 → Calls Try.prog 19 #[.string (s.extract i j)] w (DrewI (twoI (bn s i) (bn s (i + 1))) w) := by
    intro i j w hj hi
    have := two_at s i j hs hj (by omega) w
    rw [bn_at s i (by omega), bn_at s (i + 1) (by omega)] at this
    exact this
  have hZ : ∀ w, Calls Try.prog 19 #[.string (⟨#[48]⟩ ++ s.extract 1 2)] w (DrewI (twoI 48 (bn s 1)) w) := by
    intro w
    have := two_zero s hs w
    rw [bn_at s 1 (by omega)] at this
    exact this
  have hday : ((s[0].toNat : Int) == 32) = true ∧ twoI (b0 s) (bn s 1) = twoI 48 (bn s 1) ∨ ((s[0].toNat : Int) == 32) = false ∧ twoI (b0 s) (bn s 1) = twoI (bn s 0) (bn s (0 + 1)) := by
    rw [bn_at s 0 (by omega)]
    unfold b0
    by_cases h : bn s 0 = 32
    · left; rw [if_pos h]; exact ⟨by simp [h], rfl⟩
    · right; rw [if_neg h]; exact ⟨by simp [h], rfl⟩
  have hmid := fun V er hG w => rparse_mid s w hs hall (fun i => twoI (bn s i) (bn s (i + 1))) (twoI 48 (bn s 1)) hT hZ (fun i => twoI_bd _ _) (twoI (b0 s) (bn s 1)) _ hday rfl V er hG
  have h21 := bn_at s 21 (by omega)
  rw [h21] at hmid
  have h4 := sizes s hs
  have hnum : ¬ AllDig s → ∀ w, Calls Try.prog 7 #[.string s] w fun e w' => NoParse e ∧ Below w.heap.size w w' := fun hn w =>
    parse_nonum s w hs k2 k6 k11 k14 k17 k20 (by rw [← Bool.not_eq_true, all_dig s hs]; exact hn) h4
  have hmo := fun w => month_prog (s.extract 3 6) w
  rcases rg_total (twoI (bn s 7) (bn s 8)) (twoI (bn s 9) (bn s 10)) (twoI (bn s 22) (bn s 23)) (twoI (bn s 24) (bn s 25)) (bn s 21) ((s.extract 21 26).toList == [45, 48, 48, 48, 48]) (fun h => (flag_of s hs h).1) with hbad | ⟨zone, hgood⟩
  · refine both_no ?_ (fun w => (hmid _ _ (.inl ⟨hbad, rfl, rfl⟩) w).mono fun _ _ g => ⟨g.1, g.2⟩)
    by_cases had : AllDig s
    case neg => exact hnum had
    have hv := all_val s hs had
    have hd : ∀ f ∈ fieldsS s, digS f = true := List.all_eq_true.1 ((all_dig s hs).2 had)
    obtain ⟨q0, q1, ⟨q7, q8, q9, q10⟩, q12, q15, q18, q22, q24⟩ := had
    have b22 := twoI_bd (bn s 22) (bn s 23)
    have b24 := twoI_bd (bn s 24) (bn s 25)
    have p7 := (twoI_ge _ _).2 ⟨q7, q8⟩
    have p9 := (twoI_ge _ _).2 ⟨q9, q10⟩
    have p22 := (twoI_ge _ _).2 q22
    have p24 := (twoI_ge _ _).2 q24
    have hsn : 59 < twoI (bn s 24) (bn s 25) ∨ ((s[21].toNat : Int) ≠ 43 ∧ (s[21].toNat : Int) ≠ 45) ∨ ((s[21].toNat : Int) = 45 ∧ twoI (bn s 22) (bn s 23) * 60 + twoI (bn s 24) (bn s 25) = 0) := by
      rw [h21]
      rcases hbad with h | ⟨_, h⟩ | ⟨_, _, h⟩ | ⟨_, _, _, h⟩ | ⟨_, _, _, _, h⟩ | ⟨_, _, _, _, _, h, h'⟩ | ⟨_, _, _, _, _, _, _, h⟩
      · omega
      · omega
      · omega
      · omega
      · exact .inl h
      · exact .inr (.inl ⟨bne_iff_ne.1 h, bne_iff_ne.1 h'⟩)
      · obtain ⟨f1, f2, f3, f4, f5⟩ := flag_of s hs h
        refine .inr (.inr ⟨f1, ?_⟩)
        rw [f2, f3, f4, f5]; decide
    intro w
    refine parse_nosign s w hs _ _ _ _ _ _ _ _ _ 0 k2 k6 k11 k14 k17 k20 hd h4 hv (fun w => ?_) hmo ?_ ?_
    · exact signed_no s[21] _ _ w p22 (by omega) p24 (by omega) hsn
    · unfold DG at q0; omega
    · unfold DG at q1; omega
  · have hg' := hgood
    obtain ⟨g7, g9, g22, g24, g59, gz, gs⟩ := hg'
    by_cases had : AllDig s
    case neg =>
      refine both_no (hnum had) (fun w => (hmid _ _ (.inr ⟨zone, hgood, .inr ⟨fun hr => had (right_dig s _ _ _ hr g7 g9 g22 g24), rfl, rfl⟩⟩) w).mono fun _ _ g => ⟨g.1, g.2⟩)
    have hv := all_val s hs had
    have hd : ∀ f ∈ fieldsS s, digS f = true := List.all_eq_true.1 ((all_dig s hs).2 had)
    obtain ⟨q0, q1, ⟨q7, q8, q9, q10⟩, q12, q15, q18, q22, q24⟩ := had
    have b22 := twoI_bd (bn s 22) (bn s 23)
    have b24 := twoI_bd (bn s 24) (bn s 25)
    have ed : (b0 s - 48) * 10 + (bn s 1 - 48) = twoI (b0 s) (bn s 1) := by rw [twoI_val ⟨q0, q1⟩]; omega
    have hsg : ∀ w, Calls Try.prog 16 #[.int .u8 (s[21].toNat : Int), .int .i64 (twoI (bn s 22) (bn s 23)), .int .i64 (twoI (bn s 24) (bn s 25))] w fun e w' => e = .returned (.tuple #[.int .i64 zone, .bool true]) ∧ w = w' := by
      intro w
      rw [h21]
      rcases gs with ⟨c1, c2, rfl⟩ | ⟨c1, c2, c3, rfl⟩
      · have e43 : bn s 21 = 43 := by simpa using c1
        rw [e43, show 60 * twoI (bn s 22) (bn s 23) + twoI (bn s 24) (bn s 25) = twoI (bn s 22) (bn s 23) * 60 + twoI (bn s 24) (bn s 25) by omega]
        exact signed_plus _ _ w g22 b22.2 g24 g59
      · have e45 : bn s 21 = 45 := by simpa using c3
        rw [e45, show 60 * twoI (bn s 22) (bn s 23) + twoI (bn s 24) (bn s 25) = twoI (bn s 22) (bn s 23) * 60 + twoI (bn s 24) (bn s 25) by omega]
        exact signed_minus _ _ w g22 b22.2 g24 g59 (flag_no s hs gz e45 q22.1 q22.2 q24.1 q24.2)
    have d0 : 0 ≤ b0 s - 48 ∧ b0 s - 48 ≤ 9 := by unfold DG at q0; omega
    have d1 : 0 ≤ bn s 1 - 48 ∧ bn s 1 - 48 ≤ 9 := by unfold DG at q1; omega
    by_cases hr : RightS (100 * twoI (bn s 7) (bn s 8) + twoI (bn s 9) (bn s 10)) (moF (s.extract 3 6) 12) (twoI (b0 s) (bn s 1)) (twoI (bn s 12) (bn s 13)) (twoI (bn s 15) (bn s 16)) (twoI (bn s 18) (bn s 19)) zone
    · refine ⟨_, _, _, _, _, _, _, 0, fun w => ?_, fun w => (hmid _ _ (.inr ⟨zone, hgood, .inl ⟨hr, rfl, rfl⟩⟩) w).mono fun _ _ g => ⟨g.1, g.2⟩⟩
      refine (parse_yes s w hs _ _ _ _ _ _ _ _ _ zone k2 k6 k11 k14 k17 k20 hd h4 hv hsg hmo d0 d1 (by rw [ed]; exact hr)).mono fun _ _ g => ⟨?_, g.2⟩
      have := g.1
      rw [ed] at this
      exact this
    · refine both_no (fun w => ?_) (fun w => (hmid _ _ (.inr ⟨zone, hgood, .inr ⟨hr, rfl, rfl⟩⟩) w).mono fun _ _ g => ⟨g.1, g.2⟩)
      exact parse_noright s w hs _ _ _ _ _ _ _ _ _ zone k2 k6 k11 k14 k17 k20 hd h4 hv hsg hmo d0 d1 (by rw [ed]; exact hr)

set_option maxRecDepth 8000 in
set_option maxHeartbeats 2000000 in
theorem stampParses_any (s : ByteArray) (w : World) (hl : s.size ≤ 140737488351232) : Calls Try.prog 3 #[.string s] w fun e w' => e = .returned (.bool true) ∧ Below w.heap.size w w' := by
  obtain ⟨y, mo, d, h, mi, sc, zz, er, hp, hq⟩ := parse_both s hl
  have HP := Lib.hid hp
  have HQ := Lib.hid hq
  clear hp hq
  go_enter Try.func3, Try.ntmps3
  go_wp2_with fail
  refine (HP.out _).mono ?_
  rintro e w1 ⟨rfl, hb1⟩
  have HB1 := Lib.hid hb1
  have hs1 := hb1.size
  clear hb1
  unfold St7
  go_wp2_with fail
  refine (HQ.out _).mono ?_
  rintro e w2 ⟨rfl, hb2⟩
  have hz2 : w2.heap[w1.heap.size]? = some (.cells (St7 y mo d h mi sc zz) 23 (0, 0)) := by rw [hb2.block _ (by simp)]; exact heap_alloc_new w1 _
  have hs2 := hb2.size
  simp only [World.size_alloc] at hs2
  have HB2 := Lib.hid ((HB1.out.alloc hs1 (.cells (St7 y mo d h mi sc zz) 23)).trans (hb2.mono (by simp; omega)))
  clear hb2
  have HZ2 := Lib.hid hz2
  clear hz2
  unfold St7
  go_wp2_with fail
  refine (awake_any _).mono ?_
  rintro e w3 ⟨rfl, hb3⟩
  have hz3 : w3.heap[w1.heap.size]? = some (.cells (St7 y mo d h mi sc zz) 23 (0, 0)) := by rw [hb3.block _ (by simp; omega)]; rw [((Below.refl w2.heap.size w2).alloc (Nat.le_refl _) _).block _ (by omega)]; exact HZ2.out
  have hz4 : w3.heap[w2.heap.size]? = some (.cells (St7 y mo d h mi sc zz) 23 (0, 0)) := by rw [hb3.block _ (by simp)]; exact heap_alloc_new w2 _
  obtain ⟨c0, c1, c2, c3, c4, c5, c6⟩ := StAt.of_row hz3
  obtain ⟨d0, d1, d2, d3, d4, d5, d6⟩ := StAt.of_row hz4
  have HB3 := Lib.hid ((HB2.out.alloc (by omega) (.cells (St7 y mo d h mi sc zz) 23)).trans (hb3.mono (by simp; omega)))
  clear hb3 hz3 hz4
  go_wp2_with fail
  go_ret
  exact ⟨rfl, HB3.out⟩
end Go.Proofs.Ythcgdbmcpnmeeaa
