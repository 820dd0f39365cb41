/-
  The contract of run over the steps of a text.
-/
import Derived.Test.YtfaecojhkiombaaScanText
namespace Go.Proofs.Ytfaecojhkiombaa
set_option linter.unusedVariables false
open Go.RowKit

/-- the steps of a text at block s -/
def TextSteps (w : World) (s h : Nat) : Prop :=
  w.heap[s]? = some (.cells #[.func (.func 28) #[.pointer (some ⟨h, 0, none⟩)] #[], .func (.func 29) #[.pointer (some ⟨h, 0, none⟩)] #[]] 53 (0, 0))
theorem TextSteps.beside {w w' : World} {s h : Nat} {own : Nat → Prop} (k : TextSteps w s h) (hb : Beside own w w') (hn : ¬ own s) : TextSteps w' s h := by
  unfold TextSteps at k ⊢
  rw [hb.block s (lt_of_block k) hn, k]
theorem TextSteps.cell {w : World} {s h : Nat} (k : TextSteps w s h) :
    w.cell? ⟨s, 0, none⟩ = some (.func (.func 28) #[.pointer (some ⟨h, 0, none⟩)] #[]) ∧ w.cell? ⟨s, 1, none⟩ = some (.func (.func 29) #[.pointer (some ⟨h, 0, none⟩)] #[]) := by
  unfold TextSteps at k
  refine ⟨?_, ?_⟩ <;> simp [World.cell?, k]

/-- where the reading stands: z = 1 behind a zero -/
def TxtSt (w : World) (h S : Nat) (s : List Nat) (k : Nat) (z : Int) : Prop :=
  ∃ acc T, (z = 0 ∨ z = 1) ∧ txtP s false [] 0 = txtP (s.drop k) (z == 1) acc k ∧ acc.length ≤ k ∧ Scan w h 0 0 T ∧ OwnB w S T acc ∧ S ≤ w.heap.size

def TxtOut (w : World) (h S : Nat) (s : List Nat) (k : Nat) (z : Int) : Prop :=
  (z = -2 ∧ txtP s false [] 0 = (9, [], 0)) ∨ (z = -1 ∧ ∃ acc T, txtP s false [] 0 = (0, acc, k + 1) ∧ Scan w h 0 0 T ∧ OwnB w S T acc) ∨ (TxtSt w h S s (k + 1) z)

theorem txt_step {w : World} {h S k c : Nat} {z : Int} {s : List Nat} (n : TxtSt w h S s k z) (hk : k < s.length) (hc : c = s[k]) (hS : h < S) (hl : s.length ≤ 140737488351232) (f : Nat) (hf : (z = 0 ∧ f = 28) ∨ (z = 1 ∧ f = 29)) :
    Calls Try.prog f #[.pointer (some ⟨h, 0, none⟩), .int .u8 c] w fun e w' => ∃ z', e = .returned (.int .i64 z') ∧ TxtOut w' h S s k z' ∧ Beside (fun j => j = h ∨ S ≤ j) w w' ∧ S ≤ w'.heap.size := by
  obtain ⟨acc, T, hz, hp, ha, sc, ho, hSw⟩ := n
  rw [List.drop_eq_getElem_cons hk, ← hc] at hp
  rcases hf with ⟨rfl, rfl⟩ | ⟨rfl, rfl⟩
  · simp only [show ((0 : Int) == 1) = false from rfl, txtP] at hp
    by_cases h0 : c = 0
    · rw [if_pos h0] at hp
      rw [h0]
      exact plain_zero.mono fun e w' ⟨he, hw⟩ => ⟨1, he, .inr (.inr ⟨acc, T, .inr rfl, hp, by omega, hw ▸ sc, hw ▸ ho, hw ▸ hSw⟩), hw ▸ Beside.refl _ _, hw ▸ hSw⟩
    · rw [if_neg h0] at hp
      exact (plain_more sc ho hSw hS (by omega) c (by omega)).mono fun e w' ⟨he, ⟨T', s', o'⟩, hb, hs'⟩ => ⟨0, he, .inr (.inr ⟨acc ++ [c], T', .inl rfl, hp, by simp; omega, s', o', hs'⟩), hb, hs'⟩
  · simp only [show ((1 : Int) == 1) = true from rfl, txtP] at hp
    by_cases h255 : c = 255
    · rw [if_pos h255] at hp
      rw [h255]
      exact (esc_more sc ho hSw hS (by omega)).mono fun e w' ⟨he, ⟨T', s', o'⟩, hb, hs'⟩ => ⟨0, he, .inr (.inr ⟨acc ++ [0], T', .inl rfl, hp, by simp; omega, s', o', hs'⟩), hb, hs'⟩
    · rw [if_neg h255] at hp
      by_cases h1 : c = 1
      · rw [if_pos h1] at hp
        rw [h1]
        exact esc_one.mono fun e w' ⟨he, hw⟩ => ⟨-1, he, .inr (.inl ⟨rfl, acc, T, hp, hw ▸ sc, hw ▸ ho⟩), hw ▸ Beside.refl _ _, hw ▸ hSw⟩
      · rw [if_neg h1] at hp
        exact (esc_wrong h1 h255).mono fun e w' ⟨he, hw⟩ => ⟨-2, he, .inl ⟨rfl, hp⟩, hw ▸ Beside.refl _ _, hw ▸ hSw⟩

/-- what run over a text's steps leaves -/
def TxtEnd (w : World) (g h S : Nat) (o : Value) (s : List Nat) (at_ : Nat) (e : Ending) (w' : World) : Prop :=
  Beside (fun k => k = h ∨ k = g ∨ S ≤ k) w w' ∧ S ≤ w'.heap.size ∧
  ((∃ acc n T, txtP s false [] 0 = (0, acc, n) ∧ e = .returned (.bool true) ∧ RD w' g o ((at_ + n : Nat) : Int) 0 ∧ Scan w' h 0 0 T ∧ OwnB w' S T acc) ∨
   (∃ E : Nat, E ≠ 0 ∧ txtP s false [] 0 = (E, [], 0) ∧ e = .returned (.bool false) ∧ RD w' g o (at_ : Int) (E : Nat)))

set_option maxHeartbeats 2000000 in
theorem run_text {w : World} {B g h st at_ cap S : Nat} {ao : Option Addr} {l : List Nat} (hrd : RD w g (.slice ao l.length cap) at_ 0) (hown : OwnB w B (.slice ao l.length cap) l) (hlt : ∀ n ∈ l, n < 256)
    (hst : TextSteps w st h) (hsc : Scan w h 0 0 (.slice none 0 0)) (hgh : g ≠ h) (hsh : st ≠ h) (hsg : st ≠ g) (hat : at_ ≤ l.length) (hll : l.length ≤ 140737488351232) (hSe : S = w.heap.size) :
    Calls Try.prog 30 #[.pointer (some ⟨g, 0, none⟩), .slice (some ⟨st, 0, none⟩) 2 2] w (TxtEnd w g h S (.slice ao l.length cap) (l.drop at_) at_) := by
  have c0 := hrd.cell0
  have c1 := hrd.cell1
  have c2 := hrd.cell2
  have hgS : g < S := by rw [hSe]; exact lt_of_block hrd
  have hhS : h < S := by rw [hSe]; exact lt_of_block hsc
  have hsS : st < S := by rw [hSe]; exact lt_of_block hst
  have hoS : ∀ x, (Value.slice ao l.length cap).ownBlock = some x → x < S := by rw [hSe]; exact fun x hx => (World.ownsRow.lt hown x hx).2
  have HoS := Lib.hid hoS
  have HSe := Lib.hid hSe
  clear hoS hSe
  go_enter Try.func30, Try.ntmps30
  go_wp2_with fail
  go_loopw [5, 6] (fun step i wr => ∃ (k : Nat) (z : Int), at_ + k ≤ l.length ∧ step = .int .i64 z ∧ i = .int .i64 ((at_ : Int) + k) ∧ RD wr g (.slice ao l.length cap) at_ 0 ∧ OwnB wr B (.slice ao l.length cap) l ∧ TextSteps wr st h ∧ Beside (fun j => j = h ∨ S ≤ j) w wr ∧ TxtSt wr h S (l.drop at_) k z) (fun _ i _ => (l.length - intOf i).toNat)
  case atStart => exact ⟨0, 0, by omega, rfl, by simp, hrd, hown, hst, Beside.refl _ _, ⟨[], .slice none 0 0, .inl rfl, rfl, Nat.le_refl _, hsc, World.ownsRow_nil _ _ _ _, Nat.le_of_eq HSe.out⟩⟩
  case round =>
    obtain ⟨k, z, hk, rfl, rfl, rd, own, sts, bes, nst⟩ := hrel
    have HO := Lib.hid own
    have HN := Lib.hid nst
    have HS := Lib.hid sts
    have HR := Lib.hid rd
    have HB := Lib.hid bes
    have c0 := rd.cell0
    have hz01 : z = 0 ∨ z = 1 := by obtain ⟨_, _, hz, _⟩ := nst; exact hz
    clear own nst sts rd bes hrd hown hst hsc
    by_cases hlt' : at_ + k < l.length
    · obtain ⟨gb, cap', e, hBg, hgb⟩ := HO.out.some (by omega)
      simp only [Value.slice.injEq] at e
      obtain ⟨rfl, -, rfl⟩ := e
      obtain ⟨c, hc⟩ : ∃ c, c = l[at_ + k] := ⟨_, rfl⟩
      have cb : wr.cell? ⟨gb, at_ + k, none⟩ = some (.int .u8 c) := by rw [hc]; exact HO.out.cell rfl (at_ + k) hlt'
      have htn : ((at_ : Int) + k).toNat = at_ + k := by omega
      have hgbS : gb < S := HoS.out gb rfl
      obtain ⟨s0, s1⟩ := HS.out.cell
      have hkl : k < (l.drop at_).length := by simp; omega
      have hget : c = (l.drop at_)[k] := by rw [hc]; simp
      have hsl : (l.drop at_).length ≤ 140737488351232 := by simp; omega
      have C : ∀ W : World, TxtSt W h S (l.drop at_) k z → ∀ f, ((z = 0 ∧ f = 28) ∨ (z = 1 ∧ f = 29)) → Calls Try.prog f #[.pointer (some ⟨h, 0, none⟩), .int .u8 c] W fun e w' => ∃ z', e = .returned (.int .i64 z') ∧ TxtOut w' h S (l.drop at_) k z' ∧ Beside (fun j => j = h ∨ S ≤ j) W w' ∧ S ≤ w'.heap.size :=
        fun W hW f hf => txt_step hW hkl hget hhS hsl f hf
      generalize hs : l.drop at_ = s at *
      have HC := Lib.hid C
      have Hs := Lib.hid hs
      have i0 : (0 : Int) ≤ (at_ : Int) + (k : Int) := by omega
      have i1 : (at_ : Int) + (k : Int) < (l.length : Int) := by omega
      clear hkl hget hsl C hs hc hlt
      go_upto_region 7 with fail
      go_cut [5] (fun stp wx => ∃ z' : Int, stp = .int .i64 z' ∧ TxtOut wx h S s k z' ∧ Beside (fun j => j = h ∨ S ≤ j) wr wx ∧ S ≤ wx.heap.size)
      case first =>
        rcases hz01 with rfl | rfl
        · have C1 : Hid (∀ W : World, TxtSt W h S s k 0 → Calls Try.prog 28 #[.pointer (some ⟨h, 0, none⟩), .int .u8 c] W fun e w' => ∃ z', e = .returned (.int .i64 z') ∧ TxtOut w' h S s k z' ∧ Beside (fun j => j = h ∨ S ≤ j) W w' ∧ S ≤ w'.heap.size) := fun W hW => HC.out W hW 28 (.inl ⟨rfl, rfl⟩)
          clear s1
          go_region_law (go_simp; go_at_call 28; refine (C1.out wr.drew HN.out).mono ?_; rintro e w1 ⟨z', rfl, ho, hb, hS1⟩)
          all_goals
            go_wp2_with fail
            go_meet
            exact ⟨z', rfl, ho, (Beside.refl _ _).drew.trans hb, hS1⟩
        · have C1 : Hid (∀ W : World, TxtSt W h S s k 1 → Calls Try.prog 29 #[.pointer (some ⟨h, 0, none⟩), .int .u8 c] W fun e w' => ∃ z', e = .returned (.int .i64 z') ∧ TxtOut w' h S s k z' ∧ Beside (fun j => j = h ∨ S ≤ j) W w' ∧ S ≤ w'.heap.size) := fun W hW => HC.out W hW 29 (.inr ⟨rfl, rfl⟩)
          clear s0
          go_region_law (go_simp; go_at_call 29; refine (C1.out wr.drew HN.out).mono ?_; rintro e w1 ⟨z', rfl, ho, hb, hS1⟩)
          all_goals
            go_wp2_with fail
            go_meet
            exact ⟨z', rfl, ho, (Beside.refl _ _).drew.trans hb, hS1⟩
      case rest =>
        obtain ⟨z', rfl, ho, hb, hS1⟩ := hcut
        have rdc := HR.out.beside hb (by rintro (h' | h'); exact hgh h'; omega)
        have hcc0 := rdc.cell0
        have hcc1 := rdc.cell1
        have hcc2 := rdc.cell2
        have f1 := rdc.free 1
        have f2 := rdc.free 2
        have bw : Beside (fun j => j = h ∨ S ≤ j) w wc := HB.out.trans hb
        have bw' : Beside (fun j => j = h ∨ j = g ∨ S ≤ j) w wc := bw.mono (fun x _ hx => by rcases hx with hx | hx; exact .inl hx; exact .inr (.inr hx))
        have hOc : OwnB wc B (.slice (some ⟨gb, 0, none⟩) l.length cap) l := by
          refine HO.out.beside hb (fun x hx e => ?_)
          rcases e with e | e
          · obtain ⟨_, _, _, _, _, sc, _⟩ := HN.out
            subst e
            exact HO.out.ne sc (by decide) hx
          · have := HoS.out x hx
            omega
        have HOc := Lib.hid hOc
        clear hOc
        have HBW := Lib.hid bw
        have HBW' := Lib.hid bw'
        clear bw bw'
        rcases ho with ⟨rfl, hE⟩ | ⟨rfl, acc, T, hE, sc', own'⟩ | ns
        · have HE := Lib.hid hE
          have R2 := Lib.hid (rdc.set2 9)
          clear hE
          go_wp2_with fail
          go_ret
          exact ⟨HBW'.out.setCell (own := fun j => j = h ∨ j = g ∨ S ≤ j) (Or.inl (Or.inr (Or.inl rfl))) _, by simpa using hS1, .inr ⟨9, by decide, HE.out, rfl, R2.out⟩⟩
        · have HE := Lib.hid hE
          have R1 := Lib.hid (rdc.set1 ((at_ : Int) + k + 1))
          have SC := Lib.hid sc'
          have OW := Lib.hid own'
          clear hE sc' own'
          go_wp2_with fail
          go_ret
          refine ⟨HBW'.out.setCell (own := fun j => j = h ∨ j = g ∨ S ≤ j) (Or.inl (Or.inr (Or.inl rfl))) _, by simpa using hS1, .inl ⟨acc, k + 1, T, HE.out, rfl, ?_, SC.out.beside (Beside.one wc g 1 (.int .i64 ((at_ : Int) + k + 1))) (fun e => hgh e.symm), OW.out.beside (Beside.one wc g 1 (.int .i64 ((at_ : Int) + k + 1))) (fun x hx e => by have := OW.out.ownLe x hx; omega)⟩⟩
          have := R1.out
          rwa [show ((at_ : Int) + k + 1) = ((at_ + (k + 1) : Nat) : Int) from by omega] at this
        · have NS := Lib.hid ns
          have hz' : z' = 0 ∨ z' = 1 := by obtain ⟨_, _, hz, _⟩ := ns; exact hz
          have hn1 : (z' == -1) = false := by simp; omega
          have hn2 : (z' == -2) = false := by simp; omega
          clear ns hz' hz01
          go_wp2_with fail
          go_roundw
          case rel => exact ⟨k + 1, z', by omega, rfl, by go_num, rdc, HOc.out, HS.out.beside hb (by rintro (h' | h'); exact hsh h'; omega), HBW.out, NS.out⟩
          case measure => simp [intOf]; omega
    · have hkl : at_ + k = l.length := by omega
      have hE : txtP (l.drop at_) false [] 0 = (8, [], 0) := by
        obtain ⟨acc, T, _, hp, _⟩ := HN.out
        rw [List.drop_of_length_le (show (l.drop at_).length ≤ k by simp; omega)] at hp
        rw [hp]
        simp [txtP]
      have hSr : S ≤ wr.heap.size := by obtain ⟨_, _, _, _, _, _, _, h9⟩ := HN.out; exact h9
      have HE := Lib.hid hE
      have cc2 := HR.out.cell2
      have f2 := HR.out.free 2
      have hge : ¬ ((at_ : Int) + (k : Int) < (l.length : Int)) := by omega
      clear hE hkl hlt hz01
      go_wp2_with fail
      go_ret
      exact ⟨(HB.out.mono (fun x _ hx => by rcases hx with hx | hx; exact .inl hx; exact .inr (.inr hx))).setCell (own := fun j => j = h ∨ j = g ∨ S ≤ j) (Or.inl (Or.inr (Or.inl rfl))) _, by simpa using hSr, .inr ⟨8, by decide, HE.out, rfl, HR.out.set2 8⟩⟩
end Go.Proofs.Ytfaecojhkiombaa
