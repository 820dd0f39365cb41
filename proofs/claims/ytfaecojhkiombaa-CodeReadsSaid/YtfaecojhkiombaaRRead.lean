/-
  The contracts of the reference's reader.
-/
import Derived.Test.YtfaecojhkiombaaReader
import Derived.BigQuiet
import Derived.BigRegion
import Derived.IntWalk
namespace Go.Proofs.Ytfaecojhkiombaa
set_option linter.unusedVariables false
open Go.RowKit

/-- the reference's reader at block g -/
def RR (w : World) (g : Nat) (o : Value) (at_ err : Int) : Prop := w.heap[g]? = some (.cells #[o, .int .i64 at_, .int .i64 err] 37 (0, 0))
theorem RR.beside {w w' : World} {g : Nat} {o : Value} {a e : Int} {own : Nat → Prop} (h : RR w g o a e) (hb : Beside own w w') (hn : ¬ own g) : RR w' g o a e := by
  unfold RR at h ⊢
  rw [hb.block g (lt_of_block h) hn, h]
theorem RR.cell0 {w : World} {g : Nat} {o : Value} {a e : Int} (h : RR w g o a e) : w.cell? ⟨g, 0, none⟩ = some o := by unfold RR at h; simp [World.cell?, h]
theorem RR.cell1 {w : World} {g : Nat} {o : Value} {a e : Int} (h : RR w g o a e) : w.cell? ⟨g, 1, none⟩ = some (.int .i64 a) := by unfold RR at h; simp [World.cell?, h]
theorem RR.cell2 {w : World} {g : Nat} {o : Value} {a e : Int} (h : RR w g o a e) : w.cell? ⟨g, 2, none⟩ = some (.int .i64 e) := by unfold RR at h; simp [World.cell?, h]
theorem RR.free {w : World} {g : Nat} {o : Value} {a e : Int} (h : RR w g o a e) (j : Nat) : w.frozen? ⟨g, j, none⟩ = false := by unfold RR at h; simp [World.frozen?, h]
theorem RR.set1 {w : World} {g : Nat} {o : Value} {a e : Int} (h : RR w g o a e) (a' : Int) : RR (w.setCell ⟨g, 1, none⟩ (.int .i64 a')) g o a' e := by
  unfold RR at h ⊢
  rw [heap_setCell_same w g 1 _ 37 _ h]
  rfl
theorem RR.set2 {w : World} {g : Nat} {o : Value} {a e : Int} (h : RR w g o a e) (e' : Int) : RR (w.setCell ⟨g, 2, none⟩ (.int .i64 e')) g o a e' := by
  unfold RR at h ⊢
  rw [heap_setCell_same w g 2 _ 37 _ h]
  rfl

theorem Beside.set {g j : Nat} {a w : World} (h : Beside (· = g) a w) (u : Value) : Beside (· = g) a (w.setCell ⟨g, j, none⟩ u) := Beside.setCell (own := (· = g)) h (Or.inl rfl) u
theorem Beside.upto (g : Nat) (w : World) (n : Nat) : Beside (· = g) w (w.drewN n) := (Beside.refl _ w).drewN n

theorem rrnum_err {w : World} {g at_ err : Nat} {o : Value} (rd : RR w g o at_ err) (he : err ≠ 0) :
    Calls Try.prog 21 #[.pointer (some ⟨g, 0, none⟩)] w fun e w' => e = .returned (.int .u64 0) ∧ w = w' := by
  have c2 := rd.cell2
  have h0 : ((err : Int) == 0) = false := by simp; omega
  have h1 : ((err : Int) != 0) = true := by simp; omega
  go_enter Try.func21, Try.ntmps21
  go_wp2_with fail
  go_ret
  exact ⟨rfl, rfl⟩

theorem rrnum_nil {w : World} {g at_ cap : Nat} {ao : Option Addr} (rd : RR w g (.slice ao at_ cap) at_ 0) (hc : at_ ≤ cap) (hm : cap ≤ maxLen) (hn : ao = none → at_ = 0 ∧ cap = 0) :
    Calls Try.prog 21 #[.pointer (some ⟨g, 0, none⟩)] w fun e w' => e = .returned (.int .u64 0) ∧ RR w' g (.slice ao at_ cap) at_ 8 ∧ Beside (· = g) w w' := by
  unfold maxLen at hm
  have c0 := rd.cell0
  have c1 := rd.cell1
  have c2 := rd.cell2
  have f2 := rd.free 2
  have HR := Lib.hid rd
  clear rd
  have hi0 : (at_ : Int) ≤ (cap : Int) := by omega
  by_cases hcap : cap = at_
  · have HN := Lib.hid hn
    clear hn
    subst hcap
    go_enter Try.func21, Try.ntmps21
    go_wp2_with fail
    go_quiet (fail)
    go_wp2_with fail
    go_ret
    exact ⟨rfl, HR.out.set2 8, (Beside.upto g w nq).set _⟩
  · cases ao with
    | none => have := hn rfl; omega
    | some x =>
      clear hn
      obtain ⟨b, off, sp⟩ := x
      go_enter Try.func21, Try.ntmps21
      go_wp2_with fail
      go_quiet (fail)
      go_wp2_with fail
      go_ret
      exact ⟨rfl, HR.out.set2 8, (Beside.upto g w nq).set _⟩

/-- what is left of the reference's bytes: n of them, from at_ on -/
structure RL (w : World) (g b off at_ n cap : Nat) : Prop where
  rr : RR w g (.slice (some ⟨b, off, none⟩) (at_ + n) cap) at_ 0
  hc : at_ + n ≤ cap
  hm : cap ≤ 9223372036854775807

theorem rrnum_big {w : World} {g b off at_ n cap c : Nat} (rl : RL w g b off at_ n cap) (hn : 0 < n) (hcell : w.cell? ⟨b, off + at_, none⟩ = some (.int .u8 c)) (h8 : 8 < c) :
    Calls Try.prog 21 #[.pointer (some ⟨g, 0, none⟩)] w fun e w' => e = .returned (.int .u64 0) ∧ RR w' g (.slice (some ⟨b, off, none⟩) (at_ + n) cap) at_ 9 ∧ Beside (· = g) w w' := by
  obtain ⟨rd, hc, hm⟩ := rl
  have c0 := rd.cell0
  have c1 := rd.cell1
  have c2 := rd.cell2
  have f2 := rd.free 2
  have HR := Lib.hid rd
  clear rd
  have hi0 : (at_ : Int) ≤ (cap : Int) := by omega
  have hi1 : (at_ : Int) ≤ ((at_ + n : Nat) : Int) := by omega
  have hi2 : ¬ cap = at_ := by omega
  have hb : (8 : Int) < (c : Int) := by omega
  have hz : ¬ n = 0 := by omega
  go_enter Try.func21, Try.ntmps21
  go_wp2_with fail
  go_quiet (fail)
  go_wp2_with fail
  go_ret
  exact ⟨rfl, HR.out.set2 9, (Beside.upto g w nq).set _⟩

theorem rrnum_one {w : World} {g b off at_ cap c : Nat} (rl : RL w g b off at_ 1 cap) (hcell : w.cell? ⟨b, off + at_, none⟩ = some (.int .u8 c)) (h8 : ¬ 8 < c) (h0 : c ≠ 0) :
    Calls Try.prog 21 #[.pointer (some ⟨g, 0, none⟩)] w fun e w' => e = .returned (.int .u64 0) ∧ RR w' g (.slice (some ⟨b, off, none⟩) (at_ + 1) cap) at_ 8 ∧ Beside (· = g) w w' := by
  obtain ⟨rd, hc, hm⟩ := rl
  have c0 := rd.cell0
  have c1 := rd.cell1
  have c2 := rd.cell2
  have f2 := rd.free 2
  have HR := Lib.hid rd
  clear rd
  have hi0 : (at_ : Int) ≤ (cap : Int) := by omega
  have hi1 : (at_ : Int) ≤ ((at_ + 1 : Nat) : Int) := by omega
  have hi2 : ¬ cap = at_ := by omega
  have hb : ¬ (8 : Int) < (c : Int) := by omega
  have hk : (1 : Int) < 1 + (c : Int) := by omega
  go_enter Try.func21, Try.ntmps21
  go_wp2_with fail
  go_quiet (fail)
  go_wp2_with fail
  go_ret
  exact ⟨rfl, HR.out.set2 8, (Beside.upto g w nq).set _⟩

theorem rrnum_zero {w : World} {g b off at_ n cap c : Nat} (rl : RL w g b off at_ n cap) (hn : 1 < n) (hcell : w.cell? ⟨b, off + at_, none⟩ = some (.int .u8 c)) (hcell1 : w.cell? ⟨b, off + at_ + 1, none⟩ = some (.int .u8 0)) (h8 : ¬ 8 < c) (h0 : c ≠ 0) :
    Calls Try.prog 21 #[.pointer (some ⟨g, 0, none⟩)] w fun e w' => e = .returned (.int .u64 0) ∧ RR w' g (.slice (some ⟨b, off, none⟩) (at_ + n) cap) at_ 9 ∧ Beside (· = g) w w' := by
  obtain ⟨rd, hc, hm⟩ := rl
  have c0 := rd.cell0
  have c1 := rd.cell1
  have c2 := rd.cell2
  have f2 := rd.free 2
  have HR := Lib.hid rd
  clear rd
  have hi0 : (at_ : Int) ≤ (cap : Int) := by omega
  have hi1 : (at_ : Int) ≤ ((at_ + n : Nat) : Int) := by omega
  have hi2 : ¬ cap = at_ := by omega
  have hb : ¬ (8 : Int) < (c : Int) := by omega
  have hp : (0 : Int) < (c : Int) := by omega
  have hz : ¬ n = 0 := by omega
  have hn1 : (1 : Int) < (n : Int) := by omega
  go_enter Try.func21, Try.ntmps21
  go_wp2_with fail
  go_quiet (fail)
  go_wp2_with fail
  go_ret
  exact ⟨rfl, HR.out.set2 9, (Beside.upto g w nq).set _⟩

theorem rrnum_short {w : World} {g b off at_ n cap c d : Nat} (rl : RL w g b off at_ n cap) (hn : 1 < n) (hcell : w.cell? ⟨b, off + at_, none⟩ = some (.int .u8 c)) (hcell1 : w.cell? ⟨b, off + at_ + 1, none⟩ = some (.int .u8 d)) (hd : d ≠ 0) (h8 : ¬ 8 < c) (h0 : c ≠ 0) (hs : n < 1 + c) :
    Calls Try.prog 21 #[.pointer (some ⟨g, 0, none⟩)] w fun e w' => e = .returned (.int .u64 0) ∧ RR w' g (.slice (some ⟨b, off, none⟩) (at_ + n) cap) at_ 8 ∧ Beside (· = g) w w' := by
  obtain ⟨rd, hc, hm⟩ := rl
  have c0 := rd.cell0
  have c1 := rd.cell1
  have c2 := rd.cell2
  have f2 := rd.free 2
  have HR := Lib.hid rd
  clear rd
  have hi0 : (at_ : Int) ≤ (cap : Int) := by omega
  have hi1 : (at_ : Int) ≤ ((at_ + n : Nat) : Int) := by omega
  have hi2 : ¬ cap = at_ := by omega
  have hb : ¬ (8 : Int) < (c : Int) := by omega
  have hp : (0 : Int) < (c : Int) := by omega
  have hz : ¬ n = 0 := by omega
  have hn1 : (1 : Int) < (n : Int) := by omega
  have hd0 : ((d : Int) == 0) = false := by simp; omega
  have hk : (n : Int) < 1 + (c : Int) := by omega
  go_enter Try.func21, Try.ntmps21
  go_wp2_with fail
  go_quiet (fail)
  go_wp2_with fail
  go_ret
  exact ⟨rfl, HR.out.set2 8, (Beside.upto g w nq).set _⟩

theorem rrnum_ok0 {w : World} {g b off at_ n cap : Nat} (rl : RL w g b off at_ n cap) (hn : 0 < n) (hcell : w.cell? ⟨b, off + at_, none⟩ = some (.int .u8 0)) :
    Calls Try.prog 21 #[.pointer (some ⟨g, 0, none⟩)] w fun e w' => e = .returned (.int .u64 0) ∧ RR w' g (.slice (some ⟨b, off, none⟩) (at_ + n) cap) ((at_ + 1 : Nat) : Int) 0 ∧ Beside (· = g) w w' := by
  obtain ⟨rd, hc, hm⟩ := rl
  have c0 := rd.cell0
  have c1 := rd.cell1
  have c2 := rd.cell2
  have f1 := rd.free 1
  have HR := Lib.hid rd
  clear rd
  have hi0 : (at_ : Int) ≤ (cap : Int) := by omega
  have hi1 : (at_ : Int) ≤ ((at_ + n : Nat) : Int) := by omega
  have hi2 : ¬ cap = at_ := by omega
  have hz : ¬ n = 0 := by omega
  have hk : ¬ (n : Int) < 1 := by omega
  by_cases h1 : (1 : Int) < (n : Int)
  all_goals
    go_enter Try.func21, Try.ntmps21
    go_wp2_with fail
    go_quiet (fail)
    go_wp2_with fail
    refine wp_loop_rounds 1 ?_
    rw [rounds_succ]
    go_wp2_with fail
    have hw1 : IntKind.i64.wrap ((at_ : Int) + 1) = (at_ : Int) + 1 := IntWalk.i64_in _ (by omega)
    have B1 := Lib.hid (Beside.upto g w nq)
    have HR1 : Hid (RR (w.drewN nq) g (.slice (some ⟨b, off, none⟩) (at_ + n) cap) at_ 0) := HR
    have d1 := HR1.out.cell1
    have g1 := HR1.out.free 1
    have e0 : (w.drewN nq).cell? ⟨b, off + at_, none⟩ = some (.int .u8 0) := hcell
    generalize w.drewN nq = w1 at *
    go_region
    go_wp2_with fail
    go_ret
    exact ⟨rfl, by have := HR1.out.set1 ((at_ + 1 : Nat) : Int); exact this, by first | exact B1.out.set _ | exact (B1.out.set _).drew⟩

theorem rrnum_ok {w : World} {g b off at_ n cap c d : Nat} {t : List Nat} (rl : RL w g b off at_ n cap) (hn : n = t.length + 1) (hcell : w.cell? ⟨b, off + at_, none⟩ = some (.int .u8 c)) (hcell1 : w.cell? ⟨b, off + at_ + 1, none⟩ = some (.int .u8 d)) (ht : ∀ x ∈ t, x < 256)
    (hcells : ∀ i, (h : i < t.length) → w.cell? ⟨b, off + at_ + (i + 1), none⟩ = some (.int .u8 (t[i] : Nat))) (hd : d ≠ 0) (h8 : c ≤ 8) (h0 : 1 ≤ c) (hs : c ≤ t.length) :
    Calls Try.prog 21 #[.pointer (some ⟨g, 0, none⟩)] w fun e w' => e = .returned (.int .u64 (val (t.take c) : Nat)) ∧ RR w' g (.slice (some ⟨b, off, none⟩) (at_ + n) cap) ((at_ + (1 + c) : Nat) : Int) 0 ∧ Beside (· = g) w w' := by
  obtain ⟨rd, hc, hm⟩ := rl
  have c0 := rd.cell0
  have c1 := rd.cell1
  have c2 := rd.cell2
  have f1 := rd.free 1
  have HR := Lib.hid rd
  clear rd
  have hi0 : (at_ : Int) ≤ (cap : Int) := by omega
  have hi1 : (at_ : Int) ≤ ((at_ + n : Nat) : Int) := by omega
  have hi2 : ¬ cap = at_ := by omega
  have hb : ¬ (8 : Int) < (c : Int) := by omega
  have hp : (0 : Int) < (c : Int) := by omega
  have hz : ¬ n = 0 := by omega
  have hn1 : (1 : Int) < (n : Int) := by omega
  have hd0 : ((d : Int) == 0) = false := by simp; omega
  have hk : ¬ (n : Int) < 1 + (c : Int) := by omega
  have HT := Lib.hid ht
  have HC := Lib.hid hcells
  have HN := Lib.hid hn
  clear ht hcells hn
  go_enter Try.func21, Try.ntmps21
  go_wp2_with fail
  go_quiet (fail)
  go_wp2_with fail
  go_loop [4, 5] (fun v i => ∃ k : Nat, k ≤ c ∧ i = .int .i64 ((k : Int) + 1) ∧ v = .int .u64 (val (t.take k) : Nat)) (fun _ i => ((c : Int) + 1 - intOf i).toNat)
  case atStart => exact ⟨0, by omega, by simp, by simp [val]⟩
  case round =>
    obtain ⟨k, hkc, rfl, rfl⟩ := hrel
    by_cases hlt : k < c
    · have hv := val_small HT.out (n := k) (by omega)
      have hkt : k < t.length := by omega
      have hts := val_take_succ hkt
      have hx := HT.out t[k] (List.getElem_mem hkt)
      have hcell2 := HC.out k hkt
      have ho := or_byte (val (t.take k)) t[k] hx hv
      rw [← hts] at ho
      have HO := Lib.hid hts
      have e1 : ((k : Int) + 1).toNat = k + 1 := by omega
      have hle : (k : Int) + 1 ≤ (c : Int) := by omega
      have hlt2 : (k : Int) + 1 < (n : Int) := by have := HN.out; omega
      clear hts
      generalize t[k] = x at *
      go_wp2_with fail
      go_round
      case rel => exact ⟨k + 1, by omega, by go_num, rfl⟩
      case measure => simp [intOf]; omega
    · obtain rfl : k = c := by omega
      have hle : ¬ (k : Int) + 1 ≤ (k : Int) := by omega
      go_wp2_with fail
      have hw1 : IntKind.i64.wrap ((at_ : Int) + 1) = (at_ : Int) + 1 := IntWalk.i64_in _ (by omega)
      have hw2 : IntKind.i64.wrap ((at_ : Int) + 1 + (k : Int)) = (at_ : Int) + 1 + (k : Int) := IntWalk.i64_in _ (by omega)
      have B1 := Lib.hid (Beside.upto g w nq)
      have HR1 : Hid (RR (w.drewN nq) g (.slice (some ⟨b, off, none⟩) (at_ + n) cap) at_ 0) := HR
      have d1 := HR1.out.cell1
      have g1 := HR1.out.free 1
      have e0 : (w.drewN nq).cell? ⟨b, off + at_, none⟩ = some (.int .u8 k) := hcell
      clear hi0 hi1 hi2 hz hb hk hp h0 h8 hs hkc hd0 hd hc hm
      generalize w.drewN nq = w1 at *
      go_region
      go_wp2_with fail
      go_ret
      exact ⟨rfl, by have := HR1.out.set1 ((at_ + (1 + k) : Nat) : Int); rw [show ((at_ : Int) + 1 + (k : Int)) = ((at_ + (1 + k) : Nat) : Int) from by omega]; exact this, (B1.out.set _).drew⟩

theorem rrtxt_err {w : World} {g at_ err : Nat} {o : Value} (rd : RR w g o at_ err) (he : err ≠ 0) :
    Calls Try.prog 19 #[.pointer (some ⟨g, 0, none⟩)] w fun e w' => e = .returned (.slice none 0 0) ∧ w = w' := by
  have c2 := rd.cell2
  have h0 : ((err : Int) == 0) = false := by simp; omega
  have h1 : ((err : Int) != 0) = true := by simp; omega
  go_enter Try.func19, Try.ntmps19
  go_wp2_with fail
  go_ret
  exact ⟨rfl, rfl⟩

theorem txtP_end (acc : List Nat) (n : Nat) : txtP [] false acc n = (8, [], 0) := by simp [txtP]

/-- where the reference's reading of a text stands: at the byte p of l, acc being read -/
def TxtAt (l : List Nat) (at_ p : Nat) (acc : List Nat) : Prop := txtP (l.drop at_) false [] 0 = txtP (l.drop p) false acc (p - at_) ∧ acc.length ≤ p - at_ ∧ at_ ≤ p ∧ p ≤ l.length
theorem TxtAt.more {l : List Nat} {at_ p : Nat} {acc : List Nat} (h : TxtAt l at_ p acc) (hp : p < l.length) (h0 : l[p] ≠ 0) : TxtAt l at_ (p + 1) (acc ++ [l[p]]) := by
  obtain ⟨h1, h2, h3, h4⟩ := h
  refine ⟨?_, by simp; omega, by omega, by omega⟩
  rw [h1, List.drop_eq_getElem_cons hp]
  simp only [txtP, h0, if_false]
  rw [show p + 1 - at_ = p - at_ + 1 from by omega]
theorem TxtAt.esc {l : List Nat} {at_ p : Nat} {acc : List Nat} (h : TxtAt l at_ p acc) (hp : p + 1 < l.length) (h0 : l[p] = 0) (h1 : l[p + 1] = 255) : TxtAt l at_ (p + 2) (acc ++ [0]) := by
  obtain ⟨e1, h2, h3, h4⟩ := h
  refine ⟨?_, by simp; omega, by omega, by omega⟩
  rw [e1, List.drop_eq_getElem_cons (show p < l.length by omega), List.drop_eq_getElem_cons hp]
  simp only [txtP, h0, h1, if_true]
  rw [show p + 2 - at_ = p - at_ + 1 + 1 from by omega]
theorem TxtAt.fin {l : List Nat} {at_ p : Nat} {acc : List Nat} (h : TxtAt l at_ p acc) (hp : p + 1 < l.length) (h0 : l[p] = 0) (h1 : l[p + 1] = 1) : txtP (l.drop at_) false [] 0 = (0, acc, p + 2 - at_) := by
  obtain ⟨e1, h2, h3, h4⟩ := h
  rw [e1, List.drop_eq_getElem_cons (show p < l.length by omega), List.drop_eq_getElem_cons hp]
  simp [txtP, h0, h1]
  omega
theorem TxtAt.wrong {l : List Nat} {at_ p : Nat} {acc : List Nat} (h : TxtAt l at_ p acc) (hp : p + 1 < l.length) (h0 : l[p] = 0) (h1 : l[p + 1] ≠ 1) (h2 : l[p + 1] ≠ 255) : txtP (l.drop at_) false [] 0 = (9, [], 0) := by
  obtain ⟨e1, _, h3, h4⟩ := h
  rw [e1, List.drop_eq_getElem_cons (show p < l.length by omega), List.drop_eq_getElem_cons hp]
  simp [txtP, h0, h1, h2]
theorem TxtAt.short {l : List Nat} {at_ p : Nat} {acc : List Nat} (h : TxtAt l at_ p acc) (hp : p + 1 = l.length) (h0 : l[p] = 0) : txtP (l.drop at_) false [] 0 = (8, [], 0) := by
  obtain ⟨e1, _, h3, h4⟩ := h
  rw [e1, List.drop_eq_getElem_cons (show p < l.length by omega), List.drop_of_length_le (by omega)]
  simp [txtP, h0]
theorem TxtAt.none {l : List Nat} {at_ p : Nat} {acc : List Nat} (h : TxtAt l at_ p acc) (hp : p = l.length) : txtP (l.drop at_) false [] 0 = (8, [], 0) := by
  obtain ⟨e1, _, h3, h4⟩ := h
  rw [e1, List.drop_of_length_le (by omega)]
  simp [txtP]

/-- what the reference's reading of a text leaves -/
def RTxtEnd (g : Nat) (v : Value) (l : List Nat) (at_ : Nat) (w : World) (e : Ending) (w' : World) : Prop :=
  ∃ o, e = .returned o ∧ OwnB w' w.heap.size o (txtP (l.drop at_) false [] 0).2.1 ∧ RR w' g v ((at_ + (txtP (l.drop at_) false [] 0).2.2 : Nat) : Int) (txtP (l.drop at_) false [] 0).1 ∧ Beside (· = g) w w'

theorem rrtxt_nil {w : World} {g cap : Nat} {ao : Option Addr} (rd : RR w g (.slice ao 0 cap) 0 0) :
    Calls Try.prog 19 #[.pointer (some ⟨g, 0, none⟩)] w fun e w' => RTxtEnd g (.slice ao 0 cap) [] 0 w e w' := by
  have c0 := rd.cell0
  have c1 := rd.cell1
  have c2 := rd.cell2
  have f2 := rd.free 2
  have HR := Lib.hid rd
  clear rd
  go_enter Try.func19, Try.ntmps19
  go_wp2_with fail
  refine wp_loop_rounds 1 ?_
  rw [rounds_succ]
  go_wp2_with fail
  go_ret
  exact ⟨_, rfl, World.ownsRow_nil _ _ _ _, HR.out.set2 8, (Beside.refl _ _).set _⟩

set_option maxRecDepth 100000 in
set_option maxHeartbeats 1000000 in
theorem rrtxt_some {w : World} {g b off at_ cap : Nat} {l : List Nat} (rd : RR w g (.slice (some ⟨b, off, none⟩) l.length cap) at_ 0) (ha : at_ ≤ l.length) (hc : l.length ≤ cap) (hm : cap ≤ 9223372036854775807) (hl : l.length ≤ 140737488351232) (hlt : ∀ x ∈ l, x < 256) (hbs : b < w.heap.size)
    (hcells : ∀ i, (h : i < l.length) → w.cell? ⟨b, off + i, none⟩ = some (.int .u8 (l[i] : Nat))) :
    Calls Try.prog 19 #[.pointer (some ⟨g, 0, none⟩)] w fun e w' => RTxtEnd g (.slice (some ⟨b, off, none⟩) l.length cap) l at_ w e w' := by
  have c0 := rd.cell0
  have c1 := rd.cell1
  have c2 := rd.cell2
  have hgs := lt_of_block rd
  have HR := Lib.hid rd
  have HC := Lib.hid hcells
  have HLT := Lib.hid hlt
  clear rd hcells hlt
  go_enter Try.func19, Try.ntmps19
  go_wp2_with fail
  go_loopw [3, 4] (fun o i wr => ∃ (p : Nat) (acc : List Nat), i = .int .i64 (p : Int) ∧ TxtAt l at_ p acc ∧ OwnB wr w.heap.size o acc ∧ Beside (fun _ => False) w wr) (fun _ i _ => ((l.length : Int) - intOf i).toNat)
  case atStart => exact ⟨at_, [], rfl, ⟨by simp, by simp, by omega, by omega⟩, World.ownsRow_nil _ _ _ _, Beside.refl _ _⟩
  case round =>
    obtain ⟨p, acc, rfl, hat, hown, hbes⟩ := hrel
    obtain ⟨ao, co, rfl⟩ := hown.shape
    have R1 := Lib.hid (HR.out.beside hbes (fun h => h))
    have d0 := R1.out.cell0
    have d1 := R1.out.cell1
    have d2 := R1.out.cell2
    have x1 := R1.out.free 1
    have x2 := R1.out.free 2
    have hsz := hbes.size
    have HB := Lib.hid hbes
    have HA := Lib.hid hat
    have hla : acc.length ≤ 140737488351232 := by have := hat.2.1; have := hat.2.2.2; omega
    have hpl : p ≤ l.length := hat.2.2.2
    have hbel : Below w.heap.size w wr := hbes.below (fun _ h => h.elim) (Nat.le_refl _)
    clear hbes hat c0 c1 c2
    by_cases hp : p < l.length
    · have hcell : wr.cell? ⟨b, off + p, none⟩ = some (.int .u8 (l[p] : Nat)) := (World.cell?_of_block (HB.out.block b hbs (fun h => h))).trans (HC.out p hp)
      have hge : ¬ (l.length : Int) ≤ (p : Int) := by omega
      have hpc : p < cap := by omega
      have hpi : (p : Int) < (l.length : Int) := by omega
      by_cases h0 : l[p] = 0
      · rw [h0] at hcell
        by_cases hp1 : p + 1 < l.length
        · have hcell1 : wr.cell? ⟨b, off + (p + 1), none⟩ = some (.int .u8 (l[p + 1] : Nat)) := (World.cell?_of_block (HB.out.block b hbs (fun h => h))).trans (HC.out (p + 1) hp1)
          have hge1 : ¬ (l.length : Int) ≤ (p : Int) + 1 := by omega
          have hpi1 : (p : Int) + 1 < (l.length : Int) := by omega
          have etn : ((p : Int) + 1).toNat = p + 1 := by omega
          by_cases ha1 : l[p + 1] = 1
          · have HX := Lib.hid (HA.out.fin hp1 h0 ha1)
            rw [ha1] at hcell1
            have hp2 := HA.out.2.2.1
            clear h0 ha1
            go_wp2_with fail
            go_ret
            refine ⟨_, rfl, ?_, ?_, (HB.out.mono (fun _ _ h => h.elim)).set _⟩
            · rw [HX.out]; exact hown.beside (own := (· = g)) ((Beside.refl _ _).set _) (fun k hk e => by have := hown.ownLe k hk; omega)
            · rw [HX.out]; have := R1.out.set1 ((at_ + (p + 2 - at_) : Nat) : Int); rw [show ((at_ + (p + 2 - at_) : Nat) : Int) = (p : Int) + 2 from by omega] at this ⊢; exact this
          · by_cases ha2 : l[p + 1] = 255
            · have HX := Lib.hid (HA.out.esc hp1 h0 ha2)
              rw [ha2] at hcell1
              clear h0 ha1 ha2
              go_wp2_with (at_builtin; go_loud (refine app1 rfl (.tmp 87) (.tmp 88) rfl hown hbel hsz rfl rfl (by omega) (n := 0) (Lib.hid rfl) ?_))
              intro o2 w2 ho2 hb2
              go_wp2_with fail
              go_roundw
              case rel => exact ⟨p + 2, acc ++ [0], by go_num, HX.out, ho2, Below.beside hb2⟩
              case measure => simp [intOf]; omega
            · have HX := Lib.hid (HA.out.wrong hp1 h0 ha1 ha2)
              have n1 : ((l[p + 1] : Int) == 1) = false := by simp; omega
              have n2 : ((l[p + 1] : Int) == 255) = false := by simp; omega
              clear h0 ha1 ha2
              generalize l[p + 1] = y at *
              go_wp2_with fail
              go_ret
              refine ⟨_, rfl, ?_, ?_, (HB.out.mono (fun _ _ h => h.elim)).set _⟩
              · rw [HX.out]; exact World.ownsRow_nil _ _ _ _
              · rw [HX.out]; exact R1.out.set2 9
        · have HX := Lib.hid (HA.out.short (by omega) h0)
          have hge1 : (l.length : Int) ≤ (p : Int) + 1 := by omega
          clear h0
          go_wp2_with fail
          go_ret
          refine ⟨_, rfl, ?_, ?_, (HB.out.mono (fun _ _ h => h.elim)).set _⟩
          · rw [HX.out]; exact World.ownsRow_nil _ _ _ _
          · rw [HX.out]; exact R1.out.set2 8
      · have HX := Lib.hid (HA.out.more hp h0)
        have n0 : ((l[p] : Int) == 0) = false := by simp; omega
        have n1 : ((l[p] : Int) != 0) = true := by simp; omega
        clear h0
        generalize l[p] = y at *
        go_wp2_with (at_builtin; go_loud (refine app1 rfl (.tmp 39) (.tmp 47) rfl hown hbel hsz rfl rfl (by omega) (n := y) (Lib.hid rfl) ?_))
        intro o2 w2 ho2 hb2
        go_wp2_with fail
        go_roundw
        case rel => exact ⟨p + 1, acc ++ [y], by go_num, HX.out, ho2, Below.beside hb2⟩
        case measure => simp [intOf]; omega
    · have HX := Lib.hid (HA.out.none (by omega))
      have hge : (l.length : Int) ≤ (p : Int) := by omega
      go_wp2_with fail
      go_ret
      refine ⟨_, rfl, ?_, ?_, (HB.out.mono (fun _ _ h => h.elim)).set _⟩
      · rw [HX.out]; exact World.ownsRow_nil _ _ _ _
      · rw [HX.out]; exact R1.out.set2 8

/-- the reference's reader of the bytes l, at block g -/
def RefR (w : World) (g : Nat) (v : Value) (l : List Nat) (at_ err : Nat) : Prop := RR w g v at_ err ∧ RowB w v l ∧ at_ ≤ l.length

theorem numStep_of {l s : List Nat} {at_ : Nat} (h : l.drop at_ = s) : numStep l at_ 0 = if numE s = 0 then (numV s, at_ + numN s, 0) else (0, at_, numE s) := by subst h; simp [numStep]

theorem rrnum_any {w : World} {g : Nat} {v : Value} {l : List Nat} {at_ err : Nat} (h : RefR w g v l at_ err) (hl : l.length ≤ 140737488351232) :
    Calls Try.prog 21 #[.pointer (some ⟨g, 0, none⟩)] w fun e w' => e = .returned (.int .u64 ((numStep l at_ err).1 : Nat)) ∧ RR w' g v (numStep l at_ err).2.1 (numStep l at_ err).2.2 ∧ Beside (· = g) w w' := by
  obtain ⟨rd, hrow, ha⟩ := h
  by_cases he : err = 0
  · subst he
    have hlt := hrow.lt
    obtain ⟨ao, len, cap, rfl, hll, hc, hm, -, hn, hcell⟩ := hrow
    subst hll
    by_cases hat : at_ = l.length
    · subst hat
      have hst : numStep l l.length 0 = (0, l.length, 8) := by simp [numStep, numE]
      rw [hst]
      exact rrnum_nil rd hc hm hn
    · cases ao with
      | none => have := hn rfl; omega
      | some x =>
        have hpos : 0 < l.length := by omega
        have hsp := hcell _ rfl 0 hpos
        obtain ⟨b, off, sp⟩ := x
        have hspot : sp = none := by simpa [Addr.add] using World.cell?_spot hsp
        subst hspot
        have hcl : ∀ i, (h : i < l.length) → w.cell? ⟨b, off + i, none⟩ = some (.int .u8 (l[i] : Nat)) := fun i hi => by
          have := hcell _ rfl i hi
          rwa [Addr.add_lit] at this
        have hdrop : l.drop at_ = l[at_]'(by omega) :: l.drop (at_ + 1) := List.drop_eq_getElem_cons (by omega)
        have hlen : l.length = at_ + (l.length - at_) := by omega
        have rl : RL w g b off at_ (l.length - at_) cap := ⟨by rw [← hlen]; exact rd, by omega, hm⟩
        have hc0 := hcl at_ (by omega)
        by_cases h8 : 8 < l[at_]'(by omega)
        · have hst : numStep l at_ 0 = (0, at_, 9) := by rw [numStep_of hdrop]; simp [numE, h8]
          rw [hst]
          have := rrnum_big rl (by omega) hc0 h8
          rwa [← hlen] at this
        · by_cases h0 : l[at_]'(by omega) = 0
          · have hst : numStep l at_ 0 = (0, at_ + 1, 0) := by rw [numStep_of hdrop, h0]; simp [numE, numV, numN, val]
            rw [hst]
            rw [h0] at hc0
            have := rrnum_ok0 rl (by omega) hc0
            rwa [← hlen] at this
          · by_cases h1 : at_ + 1 = l.length
            · have hst : numStep l at_ 0 = (0, at_, 8) := by rw [numStep_of (hdrop.trans (by rw [List.drop_of_length_le (by omega)])) (s := [l[at_]'(by omega)])]; simp [numE, h8, h0]
              rw [hst]
              have rl1 : RL w g b off at_ 1 cap := ⟨by rw [h1]; exact rd, by omega, hm⟩
              have := rrnum_one rl1 hc0 h8 h0
              rwa [h1] at this
            · have hdrop2 : l.drop (at_ + 1) = l[at_ + 1]'(by omega) :: l.drop (at_ + 2) := List.drop_eq_getElem_cons (by omega)
              have hc1 := hcl (at_ + 1) (by omega)
              rw [← Nat.add_assoc] at hc1
              by_cases hd : l[at_ + 1]'(by omega) = 0
              · have hst : numStep l at_ 0 = (0, at_, 9) := by rw [numStep_of (hdrop.trans (by rw [hdrop2])), hd]; simp [numE, h8, h0]
                rw [hst]
                rw [hd] at hc1
                have := rrnum_zero rl (by omega) hc0 hc1 h8 h0
                rwa [← hlen] at this
              · by_cases hs : l.length - at_ < 1 + l[at_]'(by omega)
                · have hst : numStep l at_ 0 = (0, at_, 8) := by
                    have : l.length - (at_ + 2) + 1 < l[at_]'(by omega) := by omega
                    rw [numStep_of (hdrop.trans (by rw [hdrop2]))]; simp [numE, h8, h0, hd, this]
                  rw [hst]
                  have := rrnum_short rl (by omega) hc0 hc1 hd h8 h0 hs
                  rwa [← hlen] at this
                · have hst : numStep l at_ 0 = (val ((l.drop (at_ + 1)).take (l[at_]'(by omega))), at_ + (1 + l[at_]'(by omega)), 0) := by
                    have : ¬ l.length - (at_ + 2) + 1 < l[at_]'(by omega) := by omega
                    have hE : numE (l.drop at_) = 0 := by rw [hdrop, hdrop2]; simp [numE, h8, h0, hd, this]
                    have hV : numV (l.drop at_) = val ((l.drop (at_ + 1)).take (l[at_]'(by omega))) := by rw [hdrop]; rfl
                    have hN : numN (l.drop at_) = 1 + l[at_]'(by omega) := by rw [hdrop]; rfl
                    rw [numStep_of rfl, if_pos hE, hV, hN]
                  rw [hst]
                  have := rrnum_ok (t := l.drop (at_ + 1)) rl (by simp; omega) hc0 hc1 (fun x hx => hlt x (List.mem_of_mem_drop hx)) (fun i hi => by
                    have h2 := hcl (at_ + 1 + i) (by simp at hi; omega)
                    rw [show off + at_ + (i + 1) = off + (at_ + 1 + i) from by omega, h2]
                    simp) hd (by omega) (by omega) (by simp; omega)
                  rwa [← hlen] at this
  · have hst : numStep l at_ err = (0, at_, err) := by simp [numStep, he]
    rw [hst]
    exact (rrnum_err rd he).mono fun e w' ⟨h1, h2⟩ => ⟨h1, h2 ▸ rd, h2 ▸ Beside.refl _ _⟩

theorem rrtxt_any {w : World} {g : Nat} {v : Value} {l : List Nat} {at_ err : Nat} (h : RefR w g v l at_ err) (hl : l.length ≤ 140737488351232) :
    Calls Try.prog 19 #[.pointer (some ⟨g, 0, none⟩)] w fun e w' => ∃ o, e = .returned o ∧ OwnB w' w.heap.size o (txtStep l at_ err).1 ∧ RR w' g v (txtStep l at_ err).2.1 (txtStep l at_ err).2.2 ∧ Beside (· = g) w w' := by
  obtain ⟨rd, hrow, ha⟩ := h
  by_cases he : err = 0
  · subst he
    have hst : txtStep l at_ 0 = ((txtP (l.drop at_) false [] 0).2.1, at_ + (txtP (l.drop at_) false [] 0).2.2, (txtP (l.drop at_) false [] 0).1) := by simp [txtStep]
    rw [hst]
    have hlt := hrow.lt
    obtain ⟨ao, len, cap, rfl, hll, hc, hm, -, hn, hcell⟩ := hrow
    subst hll
    cases l with
    | nil =>
      obtain rfl : at_ = 0 := by simpa using ha
      exact rrtxt_nil rd
    | cons c t =>
      cases ao with
      | none => have := hn rfl; simp at this
      | some x =>
        have hsp := hcell _ rfl 0 (by simp)
        obtain ⟨b, off, sp⟩ := x
        have hspot : sp = none := by simpa [Addr.add] using World.cell?_spot hsp
        subst hspot
        have hbs : b < w.heap.size := World.block_lt_of_cell? w _ hsp
        exact rrtxt_some rd ha hc hm hl hlt hbs fun i hi => by
          have := hcell _ rfl i hi
          rwa [Addr.add_lit] at this
  · have hst : txtStep l at_ err = ([], at_, err) := by simp [txtStep, he]
    rw [hst]
    exact (rrtxt_err rd he).mono fun e w' ⟨h1, h2⟩ => ⟨_, h1, World.ownsRow_nil _ _ _ _, h2 ▸ rd, h2 ▸ Beside.refl _ _⟩
end Go.Proofs.Ytfaecojhkiombaa
