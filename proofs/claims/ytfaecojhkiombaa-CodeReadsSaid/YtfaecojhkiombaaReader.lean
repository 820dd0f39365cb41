/-
  The contracts of a reader's methods.
-/
import Derived.Test.YtfaecojhkiombaaRunText
import Derived.Deep.DeepFit
namespace Go.Proofs.Ytfaecojhkiombaa
set_option linter.unusedVariables false
open Go.RowKit

/-- a reader of the bytes l at block g, which stands at a place, with a fault -/
def Reader (w : World) (B g : Nat) (l : List Nat) (at_ err : Nat) : Prop :=
  ∃ ao cap, RD w g (.slice ao l.length cap) at_ err ∧ OwnB w B (.slice ao l.length cap) l ∧ at_ ≤ l.length ∧ B ≤ g

theorem OwnB.base {w : World} {B B' : Nat} {v : Value} {l : List Nat} (h : OwnB w B v l) (hb : B' ≤ B) : OwnB w B' v l := by
  refine ⟨h.1, ?_⟩
  rcases h.2 with h2 | ⟨g, cap, cur, rfl, hg, r⟩
  · exact .inl h2
  · exact .inr ⟨g, cap, cur, rfl, by omega, r⟩

theorem Reader.of_made {w : World} {B g : Nat} {l : List Nat} (h : Made w B g l 0 0) : Reader w B g l 0 0 := by
  obtain ⟨o, hh, ho, hg⟩ := h
  obtain ⟨ao, cap, e⟩ := ho.shape
  subst e
  exact ⟨ao, cap, hh, ho, Nat.zero_le _, hg⟩

theorem Reader.beside {w w' : World} {B g : Nat} {l : List Nat} {a e : Nat} {own : Nat → Prop} (h : Reader w B g l a e) (hb : Beside own w w') (hn : ∀ k, B ≤ k → k < w.heap.size → ¬ own k) : Reader w' B g l a e := by
  obtain ⟨ao, cap, rd, ho, ha, hg⟩ := h
  exact ⟨ao, cap, rd.beside hb (hn g hg (lt_of_block rd)), ho.beside hb (fun k hk => hn k (ho.ownLe k hk) (World.ownsRow.lt ho k hk).2), ha, hg⟩

theorem run_err {w : World} {g at_ err : Nat} {o v : Value} (rd : RD w g o at_ err) (he : err ≠ 0) :
    Calls Try.prog 30 #[.pointer (some ⟨g, 0, none⟩), v] w fun e w' => e = .returned (.bool false) ∧ w = w' := by
  have c2 := rd.cell2
  have h0 : ((err : Int) == 0) = false := by simp; omega
  have h1 : ((err : Int) != 0) = true := by simp; omega
  go_enter Try.func30, Try.ntmps30
  go_wp2_with fail
  go_ret
  exact ⟨rfl, rfl⟩

/-- what reading a number does -/
def numStep (l : List Nat) (at_ err : Nat) : Nat × Nat × Nat :=
  if err ≠ 0 then (0, at_, err) else if numE (l.drop at_) = 0 then (numV (l.drop at_), at_ + numN (l.drop at_), 0) else (0, at_, numE (l.drop at_))
def txtStep (l : List Nat) (at_ err : Nat) : List Nat × Nat × Nat :=
  if err ≠ 0 then ([], at_, err) else ((txtP (l.drop at_) false [] 0).2.1, at_ + (txtP (l.drop at_) false [] 0).2.2, (txtP (l.drop at_) false [] 0).1)

theorem numN_le {s : List Nat} (h : numE s = 0) : numN s ≤ s.length := by
  match s with
  | [] => simp [numE] at h
  | [c] =>
    have h' : (if 8 < c then 9 else if c = 0 then 0 else 8) = 0 := h
    by_cases h8 : 8 < c
    · rw [if_pos h8] at h'; omega
    · by_cases h0 : c = 0
      · simp [numN, h0]
      · rw [if_neg h8, if_neg h0] at h'; omega
  | c :: d :: t =>
    have h' : (if 8 < c then 9 else if c = 0 then 0 else if d = 0 then 9 else if t.length + 1 < c then 8 else 0) = 0 := h
    by_cases h8 : 8 < c
    · rw [if_pos h8] at h'; omega
    · by_cases h0 : c = 0
      · simp [numN, h0]
      · rw [if_neg h8, if_neg h0] at h'
        by_cases hd : d = 0
        · rw [if_pos hd] at h'; omega
        · rw [if_neg hd] at h'
          by_cases ht : t.length + 1 < c
          · rw [if_pos ht] at h'; omega
          · simp [numN]; omega

theorem txtP_le {s acc : List Nat} {b : Bool} {n : Nat} {r : List Nat} {m : Nat} (h : txtP s b acc n = (0, r, m)) : m ≤ n + s.length := by
  induction s generalizing b acc n with
  | nil => simp [txtP] at h
  | cons c t ih =>
    simp only [List.length_cons]
    cases b with
    | false =>
      simp only [txtP] at h
      split at h
      · have := ih h; omega
      · have := ih h; omega
    | true =>
      simp only [txtP] at h
      split at h
      · have := ih h; omega
      · split at h
        · simp at h; omega
        · simp at h

set_option maxHeartbeats 800000 in
theorem rnum_ok {w : World} {B g : Nat} {l : List Nat} {at_ err : Nat} (h : Reader w B g l at_ err) (hlt : ∀ n ∈ l, n < 256) (hl : l.length ≤ 140737488351232) :
    Calls Try.prog 20 #[.pointer (some ⟨g, 0, none⟩)] w fun e w' => e = .returned (.int .u64 ((numStep l at_ err).1 : Nat)) ∧ Reader w' B g l (numStep l at_ err).2.1 (numStep l at_ err).2.2 ∧ Beside (· = g) w w' := by
  obtain ⟨ao, cap, rd, ho, ha, hg⟩ := h
  have hgs := lt_of_block rd
  have hos := World.ownsRow.lt ho
  by_cases he : err = 0
  · subst he
    have HR := Lib.hid rd
    have HO := Lib.hid ho
    have HOs := Lib.hid hos
    clear rd ho hos
    have b0 : Beside (fun _ => False) w ((w.alloc (.cells #[.int .u64 0, .int .i64 0, .slice none 0 0] 51)).alloc (.cells #[.func (.func 31) #[.pointer (some ⟨w.heap.size, 0, none⟩)] #[], .func (.func 32) #[.pointer (some ⟨w.heap.size, 0, none⟩)] #[], .func (.func 33) #[.pointer (some ⟨w.heap.size, 0, none⟩)] #[]] 56)) := ((Beside.refl _ w).alloc _).alloc _
    have R0 := Lib.hid (HR.out.beside b0 (fun h => h))
    have O0 := Lib.hid (HO.out.beside b0 (fun _ _ h => h))
    have S0 : Hid (Scan ((w.alloc (.cells #[.int .u64 0, .int .i64 0, .slice none 0 0] 51)).alloc (.cells #[.func (.func 31) #[.pointer (some ⟨w.heap.size, 0, none⟩)] #[], .func (.func 32) #[.pointer (some ⟨w.heap.size, 0, none⟩)] #[], .func (.func 33) #[.pointer (some ⟨w.heap.size, 0, none⟩)] #[]] 56)) w.heap.size 0 0 (.slice none 0 0)) := by
      unfold Hid Scan
      rw [Below.heap_alloc _ _ _ (by simp), heap_alloc_new]
      rfl
    have N0 : Hid (NumSteps ((w.alloc (.cells #[.int .u64 0, .int .i64 0, .slice none 0 0] 51)).alloc (.cells #[.func (.func 31) #[.pointer (some ⟨w.heap.size, 0, none⟩)] #[], .func (.func 32) #[.pointer (some ⟨w.heap.size, 0, none⟩)] #[], .func (.func 33) #[.pointer (some ⟨w.heap.size, 0, none⟩)] #[]] 56)) (w.heap.size + 1) w.heap.size) := by
      unfold Hid NumSteps
      have := heap_alloc_new (w.alloc (.cells #[.int .u64 0, .int .i64 0, .slice none 0 0] 51)) (.cells #[.func (.func 31) #[.pointer (some ⟨w.heap.size, 0, none⟩)] #[], .func (.func 32) #[.pointer (some ⟨w.heap.size, 0, none⟩)] #[], .func (.func 33) #[.pointer (some ⟨w.heap.size, 0, none⟩)] #[]] 56)
      simpa using this
    have B0 := Lib.hid b0
    clear b0
    go_enter Try.func20, Try.ntmps20
    go_wp2_with fail
    go_fit (run_num R0.out O0.out hlt N0.out S0.out (by omega) (by omega) (by omega) ha (by omega))
    rintro e w1 ⟨hb, hend⟩
    rcases hend with ⟨hE, rfl, rd1, l1, sc1⟩ | ⟨hE, rfl, rd1⟩
    · have c0 := sc1.cell0
      have HE := Lib.hid hE
      have R1 := Lib.hid rd1
      have HB := Lib.hid hb
      clear hE rd1 hb sc1
      go_wp2_with fail
      go_ret
      have hst : numStep l at_ 0 = (numV (l.drop at_), at_ + numN (l.drop at_), 0) := by
        unfold numStep
        rw [if_neg (by simp), if_pos HE.out]
      rw [hst]
      have hn := numN_le HE.out
      rw [List.length_drop] at hn
      have hbw : Beside (· = g) w w1 := (B0.out.mono (own' := fun x => x = w.heap.size ∨ x = g) (fun x _ h => h.elim)).trans HB.out |>.mono (fun x hx h => by rcases h with h | h; omega; exact h)
      refine ⟨rfl, ⟨ao, cap, R1.out, HO.out.beside hbw (fun x hx e => HO.out.ne HR.out (by decide) (by rw [hx, e])), by show at_ + numN (l.drop at_) ≤ l.length; omega, hg⟩, hbw⟩
    · have HE := Lib.hid hE
      have R1 := Lib.hid rd1
      have HB := Lib.hid hb
      clear hE rd1 hb
      go_wp2_with fail
      go_ret
      have hst : numStep l at_ 0 = (0, at_, numE (l.drop at_)) := by
        unfold numStep
        rw [if_neg (by simp), if_neg HE.out]
      rw [hst]
      have hbw : Beside (· = g) w w1 := (B0.out.mono (own' := fun x => x = w.heap.size ∨ x = g) (fun x _ h => h.elim)).trans HB.out |>.mono (fun x hx h => by rcases h with h | h; omega; exact h)
      refine ⟨rfl, ⟨ao, cap, R1.out, HO.out.beside hbw (fun x hx e => HO.out.ne HR.out (by decide) (by rw [hx, e])), by omega, hg⟩, hbw⟩
  · have HR := Lib.hid rd
    have HO := Lib.hid ho
    have HOs := Lib.hid hos
    clear rd ho hos
    have h1 : ((err : Int) == 0) = false := by simp; omega
    go_enter Try.func20, Try.ntmps20
    go_wp2_with fail
    go_fit (run_err (HR.out.beside (own := fun _ => False) (((Beside.refl _ w).alloc _).alloc _) (fun h => h)) he)
    rintro e w1 ⟨rfl, rfl⟩
    go_wp2_with fail
    go_ret
    have hst : numStep l at_ err = (0, at_, err) := by
      unfold numStep
      rw [if_pos he]
    rw [hst]
    have hbw := ((Beside.refl (· = g) w).alloc (.cells #[.int .u64 0, .int .i64 0, .slice none 0 0] 51)).alloc (.cells #[.func (.func 31) #[.pointer (some ⟨w.heap.size, 0, none⟩)] #[], .func (.func 32) #[.pointer (some ⟨w.heap.size, 0, none⟩)] #[], .func (.func 33) #[.pointer (some ⟨w.heap.size, 0, none⟩)] #[]] 56)
    exact ⟨rfl, ⟨ao, cap, HR.out.beside (own := fun _ => False) (((Beside.refl _ w).alloc _).alloc _) (fun h => h), HO.out.beside (own := fun _ => False) (((Beside.refl _ w).alloc _).alloc _) (fun _ _ h => h), ha, hg⟩, hbw⟩

set_option maxHeartbeats 800000 in
theorem rtxt_ok {w : World} {B g : Nat} {l : List Nat} {at_ err : Nat} (h : Reader w B g l at_ err) (hlt : ∀ n ∈ l, n < 256) (hl : l.length ≤ 140737488351232) :
    Calls Try.prog 18 #[.pointer (some ⟨g, 0, none⟩)] w fun e w' => ∃ o, e = .returned o ∧ OwnB w' w.heap.size o (txtStep l at_ err).1 ∧ Reader w' B g l (txtStep l at_ err).2.1 (txtStep l at_ err).2.2 ∧ Beside (· = g) w w' := by
  obtain ⟨ao, cap, rd, ho, ha, hg⟩ := h
  have hgs := lt_of_block rd
  have hos := World.ownsRow.lt ho
  by_cases he : err = 0
  · subst he
    have HR := Lib.hid rd
    have HO := Lib.hid ho
    have HOs := Lib.hid hos
    clear rd ho hos
    have b0 : Beside (fun _ => False) w ((w.alloc (.cells #[.int .u64 0, .int .i64 0, .slice none 0 0] 51)).alloc (.cells #[.func (.func 28) #[.pointer (some ⟨w.heap.size, 0, none⟩)] #[], .func (.func 29) #[.pointer (some ⟨w.heap.size, 0, none⟩)] #[]] 53)) := ((Beside.refl _ w).alloc _).alloc _
    have R0 := Lib.hid (HR.out.beside b0 (fun h => h))
    have O0 := Lib.hid (HO.out.beside b0 (fun _ _ h => h))
    have S0 : Hid (Scan ((w.alloc (.cells #[.int .u64 0, .int .i64 0, .slice none 0 0] 51)).alloc (.cells #[.func (.func 28) #[.pointer (some ⟨w.heap.size, 0, none⟩)] #[], .func (.func 29) #[.pointer (some ⟨w.heap.size, 0, none⟩)] #[]] 53)) w.heap.size 0 0 (.slice none 0 0)) := by
      unfold Hid Scan
      rw [Below.heap_alloc _ _ _ (by simp), heap_alloc_new]
      rfl
    have N0 : Hid (TextSteps ((w.alloc (.cells #[.int .u64 0, .int .i64 0, .slice none 0 0] 51)).alloc (.cells #[.func (.func 28) #[.pointer (some ⟨w.heap.size, 0, none⟩)] #[], .func (.func 29) #[.pointer (some ⟨w.heap.size, 0, none⟩)] #[]] 53)) (w.heap.size + 1) w.heap.size) := by
      unfold Hid TextSteps
      have := heap_alloc_new (w.alloc (.cells #[.int .u64 0, .int .i64 0, .slice none 0 0] 51)) (.cells #[.func (.func 28) #[.pointer (some ⟨w.heap.size, 0, none⟩)] #[], .func (.func 29) #[.pointer (some ⟨w.heap.size, 0, none⟩)] #[]] 53)
      simpa using this
    have B0 := Lib.hid b0
    clear b0
    go_enter Try.func18, Try.ntmps18
    go_wp2_with fail
    go_fit (run_text (S := w.heap.size + 2) R0.out O0.out hlt N0.out S0.out (by omega) (by omega) (by omega) ha (by omega) (by simp))
    rintro e w1 ⟨hb, hS, hend⟩
    have hbw : Beside (· = g) w w1 := (B0.out.mono (own' := fun x => x = w.heap.size ∨ x = g ∨ w.heap.size + 2 ≤ x) (fun x _ h => h.elim)).trans hb |>.mono (fun x hx h => by rcases h with h | h | h; omega; exact h; omega)
    have HBW := Lib.hid hbw
    clear hbw hb
    rcases hend with ⟨acc, n, T, hE, rfl, rd1, sc1, ow1⟩ | ⟨E, hE0, hE, rfl, rd1⟩
    · obtain ⟨aT, cT, eT⟩ := ow1.shape
      subst eT
      have c2 := sc1.cell2
      have HE := Lib.hid hE
      have R1 := Lib.hid rd1
      have OW := Lib.hid ow1
      clear hE rd1 sc1 ow1
      go_wp2_with fail
      go_ret
      have hst : txtStep l at_ 0 = (acc, at_ + n, 0) := by
        unfold txtStep
        rw [if_neg (by simp), HE.out]
      rw [hst]
      have hn := txtP_le HE.out
      rw [List.length_drop] at hn
      refine ⟨_, rfl, OW.out.base (by omega), ⟨ao, cap, R1.out, HO.out.beside HBW.out (fun x hx e => HO.out.ne HR.out (by decide) (by rw [hx, e])), by show at_ + n ≤ l.length; omega, hg⟩, HBW.out⟩
    · have HE := Lib.hid hE
      have R1 := Lib.hid rd1
      clear hE rd1
      go_wp2_with fail
      go_ret
      have hst : txtStep l at_ 0 = ([], at_, E) := by
        unfold txtStep
        rw [if_neg (by simp), HE.out]
        rfl
      rw [hst]
      refine ⟨_, rfl, World.ownsRow_nil _ _ _ _, ⟨ao, cap, R1.out, HO.out.beside HBW.out (fun x hx e => HO.out.ne HR.out (by decide) (by rw [hx, e])), ha, hg⟩, HBW.out⟩
  · have HR := Lib.hid rd
    have HO := Lib.hid ho
    have HOs := Lib.hid hos
    clear rd ho hos
    have h1 : ((err : Int) == 0) = false := by simp; omega
    go_enter Try.func18, Try.ntmps18
    go_wp2_with fail
    go_fit (run_err (HR.out.beside (own := fun _ => False) (((Beside.refl _ w).alloc _).alloc _) (fun h => h)) he)
    rintro e w1 ⟨rfl, rfl⟩
    go_wp2_with fail
    go_ret
    have hst : txtStep l at_ err = ([], at_, err) := by
      unfold txtStep
      rw [if_pos he]
    rw [hst]
    have hbw := ((Beside.refl (· = g) w).alloc (.cells #[.int .u64 0, .int .i64 0, .slice none 0 0] 51)).alloc (.cells #[.func (.func 28) #[.pointer (some ⟨w.heap.size, 0, none⟩)] #[], .func (.func 29) #[.pointer (some ⟨w.heap.size, 0, none⟩)] #[]] 53)
    exact ⟨_, rfl, World.ownsRow_nil _ _ _ _, ⟨ao, cap, HR.out.beside (own := fun _ => False) (((Beside.refl _ w).alloc _).alloc _) (fun h => h), HO.out.beside (own := fun _ => False) (((Beside.refl _ w).alloc _).alloc _) (fun _ _ h => h), ha, hg⟩, hbw⟩

theorem err_ok {w : World} {B g : Nat} {l : List Nat} {at_ err : Nat} (h : Reader w B g l at_ err) :
    Calls Try.prog 23 #[.pointer (some ⟨g, 0, none⟩)] w fun e w' => e = .returned (.int .i64 err) ∧ w = w' := by
  obtain ⟨ao, cap, rd, -⟩ := h
  have c2 := rd.cell2
  go_enter Try.func23, Try.ntmps23
  go_wp2_with fail
  go_ret
  exact ⟨rfl, rfl⟩

theorem left_ok {w : World} {B g : Nat} {l : List Nat} {at_ err : Nat} (h : Reader w B g l at_ err) (hl : l.length ≤ 140737488351232) :
    Calls Try.prog 22 #[.pointer (some ⟨g, 0, none⟩)] w fun e w' => e = .returned (.int .i64 ((l.length : Int) - at_)) ∧ ∃ n, w' = w.drewN n := by
  obtain ⟨ao, cap, rd, _, ha, _⟩ := h
  have c0 := rd.cell0
  have c1 := rd.cell1
  go_enter Try.func22, Try.ntmps22
  go_wp2_with fail
  go_quiet (fail)
  go_wp2_with fail
  go_ret
  exact ⟨rfl, _, rfl⟩

/-- the first fault, of which bytes that are left are one -/
def endOf (n at_ err : Nat) : Nat := if err = 0 ∧ at_ < n then 9 else err

theorem end_ok {w : World} {B g : Nat} {l : List Nat} {at_ err : Nat} (h : Reader w B g l at_ err) (hl : l.length ≤ 140737488351232) :
    Calls Try.prog 24 #[.pointer (some ⟨g, 0, none⟩)] w fun e w' => e = .returned (.int .i64 (endOf l.length at_ err : Nat)) ∧ Still w w' := by
  have hleft := left_ok h hl
  obtain ⟨ao, cap, rd, _, ha, _⟩ := h
  have c2 := rd.cell2
  by_cases he : err = 0
  · subst he
    have HL := Lib.hid hleft
    have HR := Lib.hid rd
    clear hleft rd
    go_enter Try.func24, Try.ntmps24
    go_wp2_with fail
    refine HL.out.mono ?_
    rintro e w1 ⟨rfl, n, rfl⟩
    have cc : (w.drewN n).cell? ⟨g, 2, none⟩ = some (.int .i64 0) := c2
    have hst : Still w (w.drewN n) := (Still.refl w).drewN n
    by_cases hat : at_ < l.length
    · have h0 : (0 : Int) < (l.length : Int) - (at_ : Int) := by omega
      go_wp2_with fail
      go_ret
      exact ⟨ret_eq (by simp [endOf, hat]), hst⟩
    · have h0 : ¬ (0 : Int) < (l.length : Int) - (at_ : Int) := by omega
      go_wp2_with fail
      go_ret
      exact ⟨ret_eq (by simp [endOf, hat]), hst⟩
  · have h1 : ((err : Int) == 0) = false := by simp; omega
    clear hleft rd
    go_enter Try.func24, Try.ntmps24
    go_wp2_with fail
    go_ret
    exact ⟨ret_eq (by simp [endOf, he]), Still.refl _⟩
end Go.Proofs.Ytfaecojhkiombaa
