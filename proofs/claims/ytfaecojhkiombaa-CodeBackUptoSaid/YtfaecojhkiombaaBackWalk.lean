/-
  The walk of CodeBack.
-/
import Derived.Test.YtfaecojhkiombaaBackLaws
namespace Go.Proofs.Ytfaecojhkiombaa.codeBack
set_option linter.unusedVariables false
open Go.RowKit

theorem txt_lt {l : List Nat} (h : ∀ n ∈ l, n < 256) : ∀ n ∈ txt l, n < 256 := by
  intro n hn
  simp only [txt, esc, List.mem_append, List.mem_flatMap] at hn
  rcases hn with ⟨a, ha, hn⟩ | hn
  · have := h a ha
    split at hn
    · simp at hn; omega
    · simp at hn; omega
  · simp at hn; omega

theorem app_lt {l m : List Nat} (h : ∀ n ∈ l, n < 256) (k : ∀ n ∈ m, n < 256) : ∀ n ∈ l ++ m, n < 256 := by
  intro n hn
  rcases List.mem_append.1 hn with h' | h'
  · exact h n h'
  · exact k n h'

set_option maxHeartbeats 2000000 in
theorem walk' (w : World) (v u : Nat) (hv : v < 2 ^ 64) (hu : u < 2 ^ 64) (cut : Int) (vb : Value) (b : List Nat) (rb : RowB w vb b) (sb : b.length ≤ 1048576) (wc : (Lit.int .i64 cut).wf = true) :
    Calls Try.prog 5 #[.int .u64 v, vb, .int .u64 u, .int .i64 cut] w fun e w' => e = .returned (.bool true) ∧ Below w.heap.size w w' := by
  have hcut := bounds_i64 wc
  obtain ⟨q1, q2, q3⟩ := back_all v u b hv hu
  have S := Lib.hid (back_short v u b hv hu)
  simp only [List.append_assoc] at q1 q2 q3 S
  have Q1 := Lib.hid q1
  have Q2 := Lib.hid q2
  have Q3 := Lib.hid q3
  clear q1 q2 q3
  have hla : (numB v).length ≤ 9 := by have := digs_len v 8; simp [numB]; omega
  have hlu : (numB u).length ≤ 9 := by have := digs_len u 8; simp [numB]; omega
  have hlb : (txt b).length ≤ 2 * b.length + 2 := by have := esc_len b; simp [txt]; omega
  have hlall : (numB v ++ (txt b ++ numB u)).length ≤ 4194304 := by simp; omega
  have hpos : 0 < (numB v ++ (txt b ++ numB u)).length := by simp [numB]
  have ltall : ∀ n ∈ numB v ++ (txt b ++ numB u), n < 256 := app_lt (numB_lt v) (app_lt (txt_lt rb.lt) (numB_lt u))
  go_enter Try.func5, Try.ntmps5
  go_wp2_with fail
  refine (num_any v hv w).mono ?_
  rintro e w1 ⟨o1, rfl, ho1, hb1⟩
  have hs1 := hb1.size
  go_wp2_with fail
  refine (text_any vb b w1 (rb.below hb1) (by omega)).mono ?_
  rintro e w2 ⟨o2, rfl, ho2, hb2⟩
  have hs2 := hb2.size
  have ho12 : OwnB w2 w.heap.size o1 (numB v) := ho1.keep hb2 (fun k hk => (World.ownsRow.lt ho1 k hk).2)
  have hb02 : Below w.heap.size w w2 := hb1.trans (hb2.mono hs1)
  have r2 := ho2.row (txt_lt rb.lt)
  go_wp2_with (at_builtin; go_loud (refine appl rfl (.tmp 13) (.tmp 15) rfl ho12 hb02 (by omega) r2 rfl rfl (by omega) ?_))
  intro o3 w3 ho3 hb3
  have hs3 := hb3.size
  go_wp2_with fail
  refine (num_any u hu w3).mono ?_
  rintro e w4 ⟨o4, rfl, ho4, hb4⟩
  have hs4 := hb4.size
  have ho34 : OwnB w4 w.heap.size o3 (numB v ++ txt b) := ho3.keep hb4 (fun k hk => (World.ownsRow.lt ho3 k hk).2)
  have hb04 : Below w.heap.size w w4 := hb3.trans (hb4.mono hs3)
  have r4 := ho4.row (numB_lt u)
  go_wp2_with (at_builtin; go_loud (refine appl rfl (.tmp 16) (.tmp 18) rfl ho34 hb04 (by omega) r4 rfl rfl (by simp; omega) ?_))
  intro o5 w5 ho5 hb5
  generalize hl : numB v ++ (txt b ++ numB u) = l at *
  have Hl := Lib.hid hl
  clear hl ho1 ho2 ho12 ho3 ho4 ho34 r2 r4 hb1 hb2 hb02 hb3 hb4 hb04 hs1 hs2 hs3 hs4
  obtain ⟨g5, cap5, e5, hg5, hgs5⟩ := ho5.some hpos
  subst e5
  have r5 := ho5.row ltall
  have hs5 := hb5.size
  go_wp2_with fail
  refine (new_any _ l w5 r5 (by omega)).mono ?_
  rintro e w6 ⟨g, rfl, hm6, hb6⟩
  have hs6 := hb6.size
  have rd6 := Reader.of_made hm6
  have hg6 : w5.heap.size ≤ g := by obtain ⟨_, _, _, _, _, hg⟩ := rd6; exact hg
  go_wp2_with fail
  refine (awake_any w6).mono ?_
  rintro e w7 ⟨rfl, hb7⟩
  have hs7 := hb7.size
  have rd7 := rd6.beside (own := fun _ => False) (Below.beside hb7) (fun _ _ _ h => h)
  go_wp2_with fail
  refine (rnum_ok rd7 ltall (by omega)).mono ?_
  rintro e w8 ⟨rfl, rd8, hb8⟩
  have hs8 := hb8.size
  rw [Q1.out] at rd8 ⊢
  simp only at rd8 ⊢
  go_wp2_with fail
  refine (rtxt_ok rd8 ltall (by omega)).mono ?_
  rintro e w9 ⟨o9, rfl, ho9, rd9, hb9⟩
  have hs9 := hb9.size
  rw [Q2.out] at rd9 ho9
  simp only at rd9 ho9
  have hb09 : Below w.heap.size w w9 := by
    refine ((hb5.trans (hb6.mono hs5)).trans (hb7.mono (by omega))).trans ?_
    exact (hb8.below (own := (· = g)) (fun k hk => by subst hk; omega) (by omega)).trans (hb9.below (own := (· = g)) (fun k hk => by subst hk; omega) (by omega))
  go_wp2_with fail
  refine (bytes_any (ho9.row rb.lt) (rb.below hb09)).mono ?_
  rintro e w10 ⟨rfl, rfl⟩
  simp only [decide_true]
  go_wp2_with fail
  refine (rnum_ok rd9 ltall (by omega)).mono ?_
  rintro e w11 ⟨rfl, rd11, hb11⟩
  have hs11 := hb11.size
  rw [Q3.out] at rd11 ⊢
  simp only at rd11 ⊢
  go_wp2_with fail
  refine (end_ok rd11 (by omega)).mono ?_
  rintro e w12 ⟨rfl, hst12⟩
  rw [show endOf l.length l.length 0 = 0 from by simp [endOf]]
  have rd12 := rd11.beside (own := fun _ => False) (Below.beside (hst12.1)) (fun _ _ _ h => h)
  go_wp2_with fail
  refine (left_ok rd12 (by omega)).mono ?_
  rintro e w13 ⟨rfl, n13, rfl⟩
  rw [show (l.length : Int) - (l.length : Nat) = 0 from by omega]
  obtain ⟨k, hk, hkl⟩ : ∃ k : Nat, (IntKind.u64.wrap cut).tmod (l.length : Int) = (k : Int) ∧ k < l.length := by
    rw [IntKind.wrap_u64]
    have h0 : (0 : Int) ≤ cut % 18446744073709551616 := Int.emod_nonneg _ (by decide)
    rw [Int.tmod_eq_emod_of_nonneg h0]
    have h1 : (0 : Int) ≤ cut % 18446744073709551616 % (l.length : Int) := Int.emod_nonneg _ (by omega)
    have h2 : cut % 18446744073709551616 % (l.length : Int) < (l.length : Int) := Int.emod_lt_of_pos _ (by omega)
    exact ⟨(cut % 18446744073709551616 % (l.length : Int)).toNat, by omega, by omega⟩
  have b5 : Below w5.heap.size w5 (w12.drewN n13) :=
    ((((((hb6.trans (hb7.mono hs6)).trans (hb8.below (own := (· = g)) (fun k hk => by subst hk; omega) (by omega))).trans (hb9.below (own := (· = g)) (fun k hk => by subst hk; omega) (by omega))).trans (hb11.below (own := (· = g)) (fun k hk => by subst hk; omega) (by omega))).trans (hst12.1.mono (by omega)))).trans (below_drewN (Below.refl _ _) n13)
  have ho12 := ho5.keep b5 (by intro x hx; simp [Value.ownBlock] at hx; omega)
  have rk : RowB (w12.drewN n13) (.slice (some ⟨g5, 0, none⟩) k cap5) (l.take k) := by
    have rl := ho12.row ltall
    obtain ⟨a, len, cap, e, hl', hc, hm, hw, hn, hcell⟩ := rl
    simp only [Value.slice.injEq] at e
    obtain ⟨rfl, rfl, rfl⟩ := e
    refine ⟨_, k, _, rfl, by simp; omega, by omega, hm, fun x hx => hw x (List.mem_of_mem_take hx), by simp, ?_⟩
    intro x hx i hi
    simp at hi
    rw [hcell x hx i (by omega)]
    simp
  have hcap : k ≤ cap5 := by
    obtain ⟨a, len, cap, e, hl', hc, -⟩ := r5
    simp only [Value.slice.injEq] at e
    omega
  have B5 := Lib.hid (hb5.trans (b5.mono hs5))
  have RK := Lib.hid rk
  have hsz : w.heap.size ≤ (w12.drewN n13).heap.size := by have := (hb5.trans (b5.mono hs5)).size; exact this
  clear hcut wc b5 ho12 rk rd6 rd7 rd8 rd9 rd11 rd12 hb6 hb7 hb8 hb9 hb11 hst12 hb09 ho9 ho5 r5 hb5 hm6 Q1 Q2 Q3
  go_wp2_with fail
  refine (new_any _ (l.take k) _ RK.out (by simp; omega)).mono ?_
  rintro e x1 ⟨gx, rfl, hmx, hbx1⟩
  have rx1 := Reader.of_made hmx
  have hgx : (w12.drewN n13).heap.size ≤ gx := by obtain ⟨_, _, _, _, _, hg⟩ := rx1; exact hg
  have ltk : ∀ n ∈ l.take k, n < 256 := fun n hn => ltall n (List.mem_of_mem_take hn)
  have hlk : (l.take k).length ≤ 140737488351232 := by simp; omega
  have hsx1 := hbx1.size
  go_wp2_with fail
  refine (rnum_ok rx1 ltk hlk).mono ?_
  rintro e x2 ⟨rfl, rx2, hbx2⟩
  have hsx2 := hbx2.size
  go_wp2_with fail
  refine (rtxt_ok rx2 ltk hlk).mono ?_
  rintro e x3 ⟨ox, rfl, hox, rx3, hbx3⟩
  have hsx3 := hbx3.size
  go_wp2_with fail
  refine (rnum_ok rx3 ltk hlk).mono ?_
  rintro e x4 ⟨rfl, rx4, hbx4⟩
  have hsx4 := hbx4.size
  go_wp2_with fail
  refine (err_ok rx4).mono ?_
  rintro e x5 ⟨rfl, rfl⟩
  rw [S.out k hkl]
  go_wp2_with fail
  go_ret
  refine ⟨rfl, B5.out.trans ?_⟩
  exact (((hbx1.mono hsz).trans (hbx2.below (own := (· = gx)) (fun k hk => by subst hk; omega) (by omega))).trans (hbx3.below (own := (· = gx)) (fun k hk => by subst hk; omega) (by omega))).trans (hbx4.below (own := (· = gx)) (fun k hk => by subst hk; omega) (by omega))

theorem nat_of {x0 : Int} (h : (Lit.int .u64 x0).wf = true) : ∃ x : Nat, x0 = (x : Int) ∧ x < 2 ^ 64 := by
  have h := bounds_u64 h
  exact ⟨x0.toNat, by omega, by omega⟩

theorem walk (w : World) (x0 : Int) (wf0 : (Lit.int .u64 x0).wf = true) (v1 : Value) (l1 : List Nat) (r1 : RowB w v1 l1) (s1 : l1.length ≤ 1048576)
    (x2 : Int) (wf2 : (Lit.int .u64 x2).wf = true) (x3 : Int) (wf3 : (Lit.int .i64 x3).wf = true) :
    Calls Try.prog 5 #[.int .u64 x0, v1, .int .u64 x2, .int .i64 x3] w fun e w' => e = .returned (.bool true) ∧ Below w.heap.size w w' := by
  obtain ⟨a, rfl, ha⟩ := nat_of wf0
  obtain ⟨b, rfl, hb⟩ := nat_of wf2
  exact walk' w a b ha hb x3 v1 l1 r1 s1 wf3
end Go.Proofs.Ytfaecojhkiombaa.codeBack
