/-
  The contract of run over the steps of a number.
-/
import Derived.Test.YtfaecojhkiombaaScan
import Derived.Laws.EntriesVeiled
import Derived.Deep.RegionLaw
import Derived.Deep.RegionWith
import Derived.Deep.DeepCutAuto
namespace Go.Proofs.Ytfaecojhkiombaa
set_option linter.unusedVariables false
open Go.RowKit

/-- what is at fault with a number: 0 nothing, 8 too short, 9 no such form -/
def numE : List Nat → Nat
  | [] => 8
  | c :: t => if 8 < c then 9 else if c = 0 then 0 else match t with
    | [] => 8
    | d :: u => if d = 0 then 9 else if u.length + 1 < c then 8 else 0
def numV : List Nat → Nat
  | [] => 0
  | c :: t => val (t.take c)
def numN : List Nat → Nat
  | [] => 0
  | c :: _ => 1 + c

/-- a reader at block g -/
def RD (w : World) (g : Nat) (o : Value) (at_ err : Int) : Prop := w.heap[g]? = some (.cells #[o, .int .i64 at_, .int .i64 err] 49 (0, 0))
/-- the steps of a number at block s -/
def NumSteps (w : World) (s h : Nat) : Prop :=
  w.heap[s]? = some (.cells #[.func (.func 31) #[.pointer (some ⟨h, 0, none⟩)] #[], .func (.func 32) #[.pointer (some ⟨h, 0, none⟩)] #[], .func (.func 33) #[.pointer (some ⟨h, 0, none⟩)] #[]] 56 (0, 0))

theorem OwnB.ne {w : World} {B : Nat} {v : Value} {l : List Nat} (h : OwnB w B v l) {g : Nat} {cs : Array Value} {t : TypeId} {fr : Nat × Nat} (hg : w.heap[g]? = Option.some (.cells cs t fr)) (ht : t ≠ 5) : v.ownBlock ≠ Option.some g := by
  intro e
  rcases h.2 with ⟨rfl, _⟩ | ⟨g', cap, cur, rfl, _, hh, _⟩
  · cases e
  · simp [Value.ownBlock] at e
    subst e
    rw [hh] at hg
    simp at hg
    exact ht hg.2.1.symm

theorem OwnB.beside {w w' : World} {B : Nat} {v : Value} {l : List Nat} {own : Nat → Prop} (h : OwnB w B v l) (hb : Beside own w w') (hn : ∀ k, v.ownBlock = Option.some k → ¬ own k) : OwnB w' B v l := by
  refine ⟨h.1, ?_⟩
  rcases h.2 with h2 | ⟨g, cap, cur, rfl, hg, hh, r⟩
  · exact .inl h2
  · exact .inr ⟨g, cap, cur, rfl, hg, by rw [hb.block g (lt_of_block hh) (hn g rfl)]; exact hh, r⟩

theorem RD.beside {w w' : World} {g : Nat} {o : Value} {a e : Int} {own : Nat → Prop} (h : RD w g o a e) (hb : Beside own w w') (hn : ¬ own g) : RD w' g o a e := by
  unfold RD at h ⊢
  rw [hb.block g (lt_of_block h) hn, h]
theorem NumSteps.beside {w w' : World} {s h : Nat} {own : Nat → Prop} (k : NumSteps w s h) (hb : Beside own w w') (hn : ¬ own s) : NumSteps w' s h := by
  unfold NumSteps at k ⊢
  rw [hb.block s (lt_of_block k) hn, k]
theorem RD.cell0 {w : World} {g : Nat} {o : Value} {a e : Int} (h : RD w g o a e) : w.cell? ⟨g, 0, none⟩ = some o := by unfold RD at h; simp [World.cell?, h]
theorem RD.cell1 {w : World} {g : Nat} {o : Value} {a e : Int} (h : RD w g o a e) : w.cell? ⟨g, 1, none⟩ = some (.int .i64 a) := by unfold RD at h; simp [World.cell?, h]
theorem RD.cell2 {w : World} {g : Nat} {o : Value} {a e : Int} (h : RD w g o a e) : w.cell? ⟨g, 2, none⟩ = some (.int .i64 e) := by unfold RD at h; simp [World.cell?, h]
theorem RD.free {w : World} {g : Nat} {o : Value} {a e : Int} (h : RD w g o a e) (j : Nat) : w.frozen? ⟨g, j, none⟩ = false := by unfold RD at h; simp [World.frozen?, h]
theorem RD.set1 {w : World} {g : Nat} {o : Value} {a e : Int} (h : RD w g o a e) (a' : Int) : RD (w.setCell ⟨g, 1, none⟩ (.int .i64 a')) g o a' e := by
  unfold RD at h ⊢
  rw [heap_setCell_same w g 1 _ 49 _ h]
  rfl
theorem RD.set2 {w : World} {g : Nat} {o : Value} {a e : Int} (h : RD w g o a e) (e' : Int) : RD (w.setCell ⟨g, 2, none⟩ (.int .i64 e')) g o a e' := by
  unfold RD at h ⊢
  rw [heap_setCell_same w g 2 _ 49 _ h]
  rfl

/-- where the reading stands behind k bytes of s -/
def NumSt (w : World) (h : Nat) (s : List Nat) (k : Nat) (step : Int) : Prop :=
  (k = 0 ∧ step = 0 ∧ Scan w h 0 0 (.slice none 0 0)) ∨
  (∃ c t, s = c :: t ∧ 1 ≤ c ∧ c ≤ 8 ∧ k = 1 ∧ step = 1 ∧ Scan w h 0 (c : Int) (.slice none 0 0)) ∨
  (∃ c d t, s = c :: d :: t ∧ 1 ≤ c ∧ c ≤ 8 ∧ d ≠ 0 ∧ 2 ≤ k ∧ k ≤ c ∧ step = 2 ∧ Scan w h (val ((d :: t).take (k - 1))) ((c : Int) - ((k : Int) - 1)) (.slice none 0 0))

/-- what a step leaves -/
def NumOut (w : World) (h : Nat) (s : List Nat) (k : Nat) (step : Int) : Prop :=
  (step = -2 ∧ numE s = 9) ∨ (step = -1 ∧ numE s = 0 ∧ numN s = k + 1 ∧ ∃ l, Scan w h (numV s) l (.slice none 0 0)) ∨ (NumSt w h s (k + 1) step ∧ 0 ≤ step)

theorem val_take_succ {l : List Nat} {n : Nat} (h : n < l.length) : val (l.take (n + 1)) = val (l.take n) * 256 + l[n] := by
  rw [List.take_succ_eq_append_getElem h, val_snoc]

theorem val_small {l : List Nat} {n : Nat} (h : ∀ x ∈ l, x < 256) (hn : n ≤ 7) : val (l.take n) < 72057594037927936 := by
  have h1 := val_lt (l.take n) (fun x hx => h x (List.mem_of_mem_take hx))
  have h2 : 256 ^ (l.take n).length ≤ 256 ^ 7 := Nat.pow_le_pow_right (by omega) (by simp; omega)
  omega

/-- one step, at whatever place -/
theorem step0 {w : World} {h : Nat} {s : List Nat} (hs : ∀ x ∈ s, x < 256) (st : Scan w h 0 0 (.slice none 0 0)) (h0 : 0 < s.length) :
    Calls Try.prog 31 #[.pointer (some ⟨h, 0, none⟩), .int .u8 (s[0] : Nat)] w fun e w' => ∃ step, e = .returned (.int .i64 step) ∧ NumOut w' h s 0 step ∧ Beside (· = h) w w' := by
  match s, h0 with
  | c :: t, _ =>
    have hc := hs c (by simp)
    simp only [List.getElem_cons_zero]
    by_cases h8 : 8 < c
    · exact (count_big h8).mono fun e w' ⟨he, hw⟩ => ⟨-2, he, .inl ⟨rfl, by simp [numE, h8]⟩, hw ▸ Beside.refl _ _⟩
    · by_cases hz : c = 0
      · subst hz
        exact (count_zero st).mono fun e w' ⟨he, hsc, hb⟩ => ⟨-1, he, .inr (.inl ⟨rfl, by simp [numE], by simp [numN], 0, by simpa [numV, val] using hsc⟩), hb⟩
      · exact (count_some st c (by omega) (by omega)).mono fun e w' ⟨he, hsc, hb⟩ => ⟨1, he, .inr (.inr ⟨.inr (.inl ⟨c, t, rfl, by omega, by omega, rfl, rfl, hsc⟩), by omega⟩), hb⟩

theorem step1 {w : World} {h c : Nat} {t : List Nat} (hs : ∀ x ∈ t, x < 256) (h1 : 1 ≤ c) (h8 : c ≤ 8) (st : Scan w h 0 (c : Int) (.slice none 0 0)) (h0 : 0 < t.length) :
    Calls Try.prog 32 #[.pointer (some ⟨h, 0, none⟩), .int .u8 (t[0] : Nat)] w fun e w' => ∃ step, e = .returned (.int .i64 step) ∧ NumOut w' h (c :: t) 1 step ∧ Beside (· = h) w w' := by
  match t, h0 with
  | d :: u, _ =>
    have hd := hs d (by simp)
    simp only [List.getElem_cons_zero]
    by_cases hz : d = 0
    · subst hz
      exact (first_zero).mono fun e w' ⟨he, hw⟩ => ⟨-2, he, .inl ⟨rfl, by simp [numE]; omega⟩, hw ▸ Beside.refl _ _⟩
    · by_cases hc : c = 1
      · subst hc
        exact (first_last st d (by omega) hd (by omega)).mono fun e w' ⟨he, hsc, hb⟩ => ⟨-1, he, .inr (.inl ⟨rfl, by simp [numE, hz], by simp [numN], 0, by simpa [numV, val] using hsc⟩), hb⟩
      · exact (first_more st d (by omega) hd (by omega) (by omega) (by omega)).mono fun e w' ⟨he, hsc, hb⟩ => ⟨2, he, .inr (.inr ⟨.inr (.inr ⟨c, d, u, rfl, h1, h8, hz, by omega, by omega, rfl, by simpa [val] using hsc⟩), by omega⟩), hb⟩

theorem step2 {w : World} {h c d k : Nat} {t : List Nat} (hs : ∀ x ∈ d :: t, x < 256) (hd : d ≠ 0) (h1 : 2 ≤ k) (hk : k ≤ c) (h8 : c ≤ 8)
    (st : Scan w h (val ((d :: t).take (k - 1))) ((c : Int) - ((k : Int) - 1)) (.slice none 0 0)) (h0 : k - 1 < (d :: t).length) :
    Calls Try.prog 33 #[.pointer (some ⟨h, 0, none⟩), .int .u8 ((d :: t)[k - 1] : Nat)] w fun e w' => ∃ step, e = .returned (.int .i64 step) ∧ NumOut w' h (c :: d :: t) k step ∧ Beside (· = h) w w' := by
  have hx := hs (d :: t)[k - 1] (List.getElem_mem h0)
  have hv := val_take_succ h0
  have hsm := val_small hs (n := k - 1) (by omega)
  by_cases hc : c = k
  · subst hc
    rw [show (c : Int) - ((c : Int) - 1) = 1 from by omega] at st
    refine (digit_last st _ hx hsm).mono fun e w' ⟨he, hsc, hb⟩ => ⟨-1, he, .inr (.inl ⟨rfl, ?_, by simp [numN]; omega, 0, ?_⟩), hb⟩
    · simp at h0
      show (if 8 < c then 9 else if c = 0 then 0 else if d = 0 then 9 else if t.length + 1 < c then 8 else 0) = 0
      rw [if_neg (by omega), if_neg (by omega), if_neg hd, if_neg (by omega)]
    · rw [← hv] at hsc
      rw [show c - 1 + 1 = c from by omega] at hsc
      exact hsc
  · refine (digit_more st _ hx hsm (by omega) (by omega)).mono fun e w' ⟨he, hsc, hb⟩ => ⟨2, he, .inr (.inr ⟨.inr (.inr ⟨c, d, t, rfl, by omega, h8, hd, by omega, by omega, rfl, ?_⟩), by omega⟩), hb⟩
    rw [← hv] at hsc
    rw [show k - 1 + 1 = k + 1 - 1 from by omega] at hsc
    rw [show (c : Int) - (((k + 1 : Nat) : Int) - 1) = (c : Int) - ((k : Int) - 1) - 1 from by omega]
    exact hsc

theorem NumSteps.cell {w : World} {s h : Nat} (k : NumSteps w s h) :
    w.cell? ⟨s, 0, none⟩ = some (.func (.func 31) #[.pointer (some ⟨h, 0, none⟩)] #[]) ∧ w.cell? ⟨s, 1, none⟩ = some (.func (.func 32) #[.pointer (some ⟨h, 0, none⟩)] #[]) ∧ w.cell? ⟨s, 2, none⟩ = some (.func (.func 33) #[.pointer (some ⟨h, 0, none⟩)] #[]) := by
  unfold NumSteps at k
  refine ⟨?_, ?_, ?_⟩ <;> simp [World.cell?, k]

theorem NumSt.short {w : World} {h : Nat} {s : List Nat} {k : Nat} {z : Int} (n : NumSt w h s k z) (hk : s.length = k) : numE s = 8 := by
  rcases n with ⟨rfl, _, _⟩ | ⟨c, t, rfl, h1, h8, rfl, _, _⟩ | ⟨c, d, t, rfl, h1, h8, hd, h2, hkc, _, _⟩
  · obtain rfl : s = [] := List.eq_nil_of_length_eq_zero hk
    rfl
  · obtain rfl : t = [] := List.eq_nil_of_length_eq_zero (by simpa using hk)
    show (if 8 < c then 9 else if c = 0 then 0 else 8) = 8
    rw [if_neg (by omega), if_neg (by omega)]
  · simp only [List.length_cons] at hk
    show (if 8 < c then 9 else if c = 0 then 0 else if d = 0 then 9 else if t.length + 1 < c then 8 else 0) = 8
    rw [if_neg (by omega), if_neg (by omega), if_neg hd, if_pos (by omega)]

theorem NumSt.scan {w : World} {h : Nat} {s : List Nat} {k : Nat} {z : Int} (n : NumSt w h s k z) : ∃ v l t, Scan w h v l t := by
  rcases n with ⟨_, _, s⟩ | ⟨c, t, _, h1, h8, _, _, s⟩ | ⟨c, d, t, _, h1, h8, hd, h2, hkc, _, s⟩ <;> exact ⟨_, _, _, s⟩

/-- what run over a number's steps leaves -/
def NumEnd (w : World) (g h : Nat) (o : Value) (s : List Nat) (at_ : Nat) (e : Ending) (w' : World) : Prop :=
  Beside (fun k => k = h ∨ k = g) w w' ∧
  ((numE s = 0 ∧ e = .returned (.bool true) ∧ RD w' g o ((at_ + numN s : Nat) : Int) 0 ∧ ∃ l, Scan w' h (numV s) l (.slice none 0 0)) ∨
   (numE s ≠ 0 ∧ e = .returned (.bool false) ∧ RD w' g o (at_ : Int) (numE s : Nat)))

set_option maxHeartbeats 2000000 in
theorem run_num {w : World} {B g h st at_ cap : Nat} {ao : Option Addr} {l : List Nat} (hrd : RD w g (.slice ao l.length cap) at_ 0) (hown : OwnB w B (.slice ao l.length cap) l) (hlt : ∀ n ∈ l, n < 256)
    (hst : NumSteps w st h) (hsc : Scan w h 0 0 (.slice none 0 0)) (hgh : g ≠ h) (hsh : st ≠ h) (hsg : st ≠ g) (hat : at_ ≤ l.length) (hll : l.length ≤ 281474976710656) :
    Calls Try.prog 30 #[.pointer (some ⟨g, 0, none⟩), .slice (some ⟨st, 0, none⟩) 3 3] w (NumEnd w g h (.slice ao l.length cap) (l.drop at_) at_) := by
  have c0 := hrd.cell0
  have c1 := hrd.cell1
  have c2 := hrd.cell2
  go_enter Try.func30, Try.ntmps30
  go_wp2_with fail
  go_loopw [5, 6] (fun step i wr => ∃ (k : Nat) (z : Int), at_ + k ≤ l.length ∧ step = .int .i64 z ∧ i = .int .i64 ((at_ : Int) + k) ∧ RD wr g (.slice ao l.length cap) at_ 0 ∧ OwnB wr B (.slice ao l.length cap) l ∧ NumSteps wr st h ∧ Beside (· = h) w wr ∧ NumSt wr h (l.drop at_) k z) (fun _ i _ => (l.length - intOf i).toNat)
  case atStart => exact ⟨0, 0, by omega, rfl, by simp, hrd, hown, hst, Beside.refl _ _, .inl ⟨rfl, rfl, hsc⟩⟩
  case round =>
    obtain ⟨k, z, hk, rfl, rfl, rd, own, sts, bes, nst⟩ := hrel
    have HO := Lib.hid own
    have HN := Lib.hid nst
    have HS := Lib.hid sts
    have HR := Lib.hid rd
    have HB := Lib.hid bes
    have c0 := rd.cell0
    clear own nst sts rd bes hrd hown hst hsc
    by_cases hlt' : at_ + k < l.length
    · obtain ⟨gb, cap', e, hBg, hgb⟩ := HO.out.some (by omega)
      simp only [Value.slice.injEq] at e
      obtain ⟨rfl, -, rfl⟩ := e
      obtain ⟨c, hc⟩ : ∃ c, c = l[at_ + k] := ⟨_, rfl⟩
      have cb : wr.cell? ⟨gb, at_ + k, none⟩ = some (.int .u8 c) := by rw [hc]; exact HO.out.cell rfl (at_ + k) hlt'
      have htn : ((at_ : Int) + k).toNat = at_ + k := by omega
      have HC := Lib.hid hc
      clear hc
      obtain ⟨s0, s1, s2⟩ := HS.out.cell
      have hsl : (l.drop at_).length = l.length - at_ := by simp
      have hslt : ∀ x ∈ l.drop at_, x < 256 := fun x hx => hlt x (List.mem_of_mem_drop hx)
      have hget : ∀ hh : k < (l.drop at_).length, (l.drop at_)[k] = c := by intro hh; rw [HC.out]; simp
      generalize hs : l.drop at_ = s at *
      have HSl := Lib.hid hsl
      have HSlt := Lib.hid hslt
      have HG := Lib.hid hget
      have Hs := Lib.hid hs
      clear hsl hslt hget hs hlt
      go_upto_region 7 with fail
      go_cut [5] (fun stp wx => ∃ z' : Int, stp = .int .i64 z' ∧ NumOut wx h s k z' ∧ Beside (· = h) wr wx)
      case first =>
        rcases HN.out with ⟨rfl, rfl, sc⟩ | ⟨c', t, rfl, h1, h8, rfl, rfl, sc⟩ | ⟨c', d, t, rfl, h1, h8, hd, h2, hkc, rfl, sc⟩
        · have hl0 : 0 < s.length := by have := HSl.out; omega
          have C : Hid (∀ W : World, Scan W h 0 0 (.slice none 0 0) → Calls Try.prog 31 #[.pointer (some ⟨h, 0, none⟩), .int .u8 c] W fun e w' => ∃ step, e = .returned (.int .i64 step) ∧ NumOut w' h s 0 step ∧ Beside (· = h) W w') := by
            intro W hW
            have := step0 HSlt.out hW hl0
            rwa [HG.out hl0] at this
          have SC := Lib.hid sc
          have hlt0 : at_ < l.length := hlt'
          have cb0 : wr.cell? ⟨gb, at_, none⟩ = some (.int .u8 c) := cb
          clear sc s1 s2 cb htn
          go_region_law (go_simp; go_at_call 31; refine (C.out wr.drew SC.out).mono ?_; rintro e w1 ⟨z', rfl, ho, hb⟩)
          all_goals
            go_wp2_with fail
            go_meet
            exact ⟨z', rfl, ho, (Beside.refl _ _).drew.trans hb⟩
        · have hl0 : 0 < t.length := by have := HSl.out; simp at this; omega
          have C : Hid (∀ W : World, Scan W h 0 (c' : Int) (.slice none 0 0) → Calls Try.prog 32 #[.pointer (some ⟨h, 0, none⟩), .int .u8 c] W fun e w' => ∃ step, e = .returned (.int .i64 step) ∧ NumOut w' h (c' :: t) 1 step ∧ Beside (· = h) W w') := by
            intro W hW
            have := step1 (c := c') (fun x hx => HSlt.out x (by simp [hx])) h1 h8 hW hl0
            have e := HG.out (by simp; omega)
            simp only [List.getElem_cons_succ] at e
            rwa [e] at this
          have SC := Lib.hid sc
          have i0 : (0 : Int) ≤ (at_ : Int) + 1 := by omega
          have i1 : (at_ : Int) + 1 < (l.length : Int) := by omega
          clear sc s0 s2
          go_region_law (go_simp; go_at_call 32; refine (C.out wr.drew SC.out).mono ?_; rintro e w1 ⟨z', rfl, ho, hb⟩)
          all_goals
            go_wp2_with fail
            go_meet
            exact ⟨z', rfl, ho, (Beside.refl _ _).drew.trans hb⟩
        · have hl0 : k - 1 < (d :: t).length := by have := HSl.out; simp at this ⊢; omega
          have C : Hid (∀ W : World, Scan W h (val ((d :: t).take (k - 1))) ((c' : Int) - ((k : Int) - 1)) (.slice none 0 0) → Calls Try.prog 33 #[.pointer (some ⟨h, 0, none⟩), .int .u8 c] W fun e w' => ∃ step, e = .returned (.int .i64 step) ∧ NumOut w' h (c' :: d :: t) k step ∧ Beside (· = h) W w') := by
            intro W hW
            have := step2 (c := c') (fun x hx => HSlt.out x (by simp at hx ⊢; right; exact hx)) hd h2 hkc h8 hW hl0
            have e := HG.out (by simp at hl0 ⊢; omega)
            rw [List.getElem_cons] at e
            rw [dif_neg (by omega)] at e
            rwa [e] at this
          have SC := Lib.hid sc
          have i0 : (0 : Int) ≤ (at_ : Int) + (k : Int) := by omega
          have i1 : (at_ : Int) + (k : Int) < (l.length : Int) := by omega
          clear sc s0 s1
          go_region_law (go_simp; go_at_call 33; refine (C.out wr.drew SC.out).mono ?_; rintro e w1 ⟨z', rfl, ho, hb⟩)
          all_goals
            go_wp2_with fail
            go_meet
            exact ⟨z', rfl, ho, (Beside.refl _ _).drew.trans hb⟩
      case rest =>
        obtain ⟨z', rfl, ho, hb⟩ := hcut
        have rdc := HR.out.beside hb hgh
        have hcc0 := rdc.cell0
        have hcc1 := rdc.cell1
        have hcc2 := rdc.cell2
        have f1 := rdc.free 1
        have f2 := rdc.free 2
        have bw : Beside (· = h) w wc := HB.out.trans hb
        rcases ho with ⟨rfl, hE⟩ | ⟨rfl, hE, hN, l', sc'⟩ | ⟨ns, hz⟩
        · have HE := Lib.hid hE
          have R2 := Lib.hid (rdc.set2 9)
          clear hE
          go_wp2_with fail
          go_ret
          refine ⟨(bw.mono (fun x _ hx => Or.inl hx)).setCell (own := fun x => x = h ∨ x = g) (Or.inl (Or.inr rfl)) _, .inr ⟨by rw [HE.out]; decide, rfl, ?_⟩⟩
          rw [HE.out]
          exact R2.out
        · have HE := Lib.hid hE
          have HNn := Lib.hid hN
          have R1 := Lib.hid (rdc.set1 ((at_ : Int) + k + 1))
          have SC := Lib.hid sc'
          clear hE hN sc'
          go_wp2_with fail
          go_ret
          refine ⟨(bw.mono (fun x _ hx => Or.inl hx)).setCell (own := fun x => x = h ∨ x = g) (Or.inl (Or.inr rfl)) _, .inl ⟨HE.out, rfl, ?_, l', ?_⟩⟩
          · rw [HNn.out]
            have := R1.out
            rwa [show ((at_ : Int) + k + 1) = ((at_ + (k + 1) : Nat) : Int) from by omega] at this
          · exact SC.out.beside (Beside.one wc g 1 (.int .i64 ((at_ : Int) + k + 1))) (fun e => hgh e.symm)
        · have NS := Lib.hid ns
          have hn1 : (z' == -1) = false := by simp; omega
          have hn2 : (z' == -2) = false := by simp; omega
          clear ns
          go_wp2_with fail
          go_roundw
          case rel => exact ⟨k + 1, z', by omega, rfl, by go_num, rdc, HO.out.beside hb (by intro x hx e; obtain ⟨_, _, _, sc⟩ := HN.out.scan; subst e; exact HO.out.ne sc (by decide) hx), HS.out.beside hb hsh, bw, NS.out⟩
          case measure => simp [intOf]; omega
    · have hkl : at_ + k = l.length := by omega
      have hE := HN.out.short (by simp; omega)
      have HE := Lib.hid hE
      have cc2 := HR.out.cell2
      have f2 := HR.out.free 2
      have hge : ¬ ((at_ : Int) + (k : Int) < (l.length : Int)) := by omega
      clear hE hkl hlt
      go_wp2_with fail
      go_ret
      refine ⟨(HB.out.mono (fun x _ hx => Or.inl hx)).setCell (own := fun x => x = h ∨ x = g) (Or.inl (Or.inr rfl)) _, .inr ⟨by rw [HE.out]; decide, rfl, ?_⟩⟩
      rw [HE.out]
      exact HR.out.set2 8
end Go.Proofs.Ytfaecojhkiombaa
