/-
  The walk of CodeReads.
-/
import Derived.Test.YtfaecojhkiombaaReader2
import Derived.Test.YtfaecojhkiombaaAwake
namespace Go.Proofs.Ytfaecojhkiombaa.codeReads
set_option linter.unusedVariables false
open Go.RowKit

theorem Made.rdv {w : World} {B g : Nat} {l : List Nat} (h : Made w B g l 0 0) : ∃ ao cap, RdV w B g ao cap l 0 0 ∧ (∀ x, ao = some x → B ≤ x.block ∧ x.block < w.heap.size) ∧ B ≤ g ∧ g < w.heap.size := by
  obtain ⟨o, hh, ho, hg⟩ := h
  obtain ⟨ao, cap, e⟩ := ho.shape
  subst e
  refine ⟨ao, cap, ⟨hh, ho, Nat.zero_le _, hg⟩, fun x hx => ?_, hg, lt_of_block hh⟩
  subst hx
  exact ⟨ho.ownLe _ rfl, (World.ownsRow.lt ho _ rfl).2⟩

theorem txtP_len (s : List Nat) (b : Bool) (acc : List Nat) (n : Nat) : (txtP s b acc n).2.1.length ≤ acc.length + s.length := by
  induction s generalizing b acc n with
  | nil => simp [txtP]
  | cons c t ih =>
    cases b with
    | false =>
      simp only [txtP]
      split
      · have := ih true acc (n + 1); simp; omega
      · have := ih false (acc ++ [c]) (n + 1); simp at this ⊢; omega
    | true =>
      simp only [txtP]
      split
      · have := ih false (acc ++ [0]) (n + 1); simp at this ⊢; omega
      · split <;> simp
theorem txtStep_len (l : List Nat) (at_ err : Nat) : (txtStep l at_ err).1.length ≤ l.length := by
  unfold txtStep
  split
  · simp
  · have := txtP_len (l.drop at_) false [] 0
    simp at this ⊢
    omega

/-- where the reading stands -/
structure St (W w : World) (B g q : Nat) (ao : Option Addr) (cap : Nat) (v : Value) (l : List Nat) (at_ err : Nat) : Prop where
  rd : RdV w B g ao cap l at_ err
  rr : RR w q v at_ err
  bel : Below W.heap.size W w
  gq : g ≠ q
  wg : W.heap.size ≤ g
  wq : W.heap.size ≤ q
  aq : ∀ x, ao = some x → x.block ≠ q ∧ x.block < w.heap.size
  gs : g < w.heap.size
  qs : q < w.heap.size

theorem St.at_le {W w : World} {B g q : Nat} {ao : Option Addr} {cap : Nat} {v : Value} {l : List Nat} {at_ err : Nat} (s : St W w B g q ao cap v l at_ err) : at_ ≤ l.length := s.rd.2.2.1

/-- a step of both -/
theorem St.step {W w w1 w2 : World} {B g q : Nat} {ao : Option Addr} {cap : Nat} {v : Value} {l : List Nat} {at_ err a' e' : Nat} (s : St W w B g q ao cap v l at_ err)
    (h1 : RdV w1 B g ao cap l a' e') (b1 : Beside (· = g) w w1) (h2 : RR w2 q v a' e') (b2 : Beside (· = q) w1 w2) (hWw : W.heap.size ≤ w.heap.size) : St W w2 B g q ao cap v l a' e' := by
  have z1 := b1.size
  have z2 := b2.size
  refine ⟨h1.beside b2 s.gq (fun x hx => (s.aq x hx).1), h2, ?_, s.gq, s.wg, s.wq, fun x hx => ⟨(s.aq x hx).1, by have := (s.aq x hx).2; omega⟩, by have := s.gs; omega, by have := s.qs; omega⟩
  exact s.bel.trans ((b1.below (own := (· = g)) (fun k hk => by subst hk; exact s.wg) hWw).trans (b2.below (own := (· = q)) (fun k hk => by subst hk; exact s.wq) (by omega)))

/-- something else is spoilt -/
theorem St.spoilt {W w w2 : World} {B g q : Nat} {ao : Option Addr} {cap : Nat} {v x : Value} {l : List Nat} {at_ err : Nat} (s : St W w B g q ao cap v l at_ err) (b : Beside (fun k => x.ownBlock = some k) w w2)
    (hx : ∀ k, x.ownBlock = some k → k ≠ g ∧ k ≠ q ∧ (∀ y, ao = some y → y.block ≠ k) ∧ W.heap.size ≤ k) (hWw : W.heap.size ≤ w.heap.size) : St W w2 B g q ao cap v l at_ err := by
  have z := b.size
  refine ⟨s.rd.beside b (fun h => (hx _ h).1 rfl) (fun y hy h => (hx _ h).2.2.1 y hy rfl), s.rr.beside b (fun h => (hx _ h).2.1 rfl), ?_, s.gq, s.wg, s.wq, fun y hy => ⟨(s.aq y hy).1, by have := (s.aq y hy).2; omega⟩, by have := s.gs; omega, by have := s.qs; omega⟩
  exact s.bel.trans (b.below (fun k hk => (hx k hk).2.2.2) hWw)

theorem St.on {W w w2 : World} {B g q : Nat} {ao : Option Addr} {cap : Nat} {v : Value} {l : List Nat} {at_ err : Nat} (s : St W w B g q ao cap v l at_ err) (b : Below w.heap.size w w2) (hWw : W.heap.size ≤ w.heap.size) : St W w2 B g q ao cap v l at_ err := by
  have z := b.size
  have bb : Beside (fun _ => False) w w2 := Below.beside b
  exact ⟨s.rd.beside bb (fun h => h) (fun _ _ h => h), s.rr.beside bb (fun h => h), s.bel.trans (b.mono hWw), s.gq, s.wg, s.wq, fun y hy => ⟨(s.aq y hy).1, by have := (s.aq y hy).2; omega⟩, by have := s.gs; omega, by have := s.qs; omega⟩
theorem St.drawn {W w : World} {B g q : Nat} {ao : Option Addr} {cap : Nat} {v : Value} {l : List Nat} {at_ err : Nat} (s : St W w B g q ao cap v l at_ err) (n : Nat) : St W (w.drewN n) B g q ao cap v l at_ err :=
  ⟨s.rd, s.rr, below_drewN s.bel n, s.gq, s.wg, s.wq, s.aq, s.gs, s.qs⟩

set_option maxRecDepth 100000 in
set_option maxHeartbeats 2000000 in
theorem walk (w : World) (v0 : Value) (l0 : List Nat) (r0 : RowB w v0 l0) (s0 : l0.length ≤ 140737488351232) (v1 : Value) (l1 : List Bool) (r1 : RowBo w v1 l1) :
    Calls Try.prog 4 #[v0, v1] w fun e w' => e = .returned (.bool true) ∧ Below w.heap.size w w' := by
  have lt0 := r0.lt
  obtain ⟨a0, len0, cap0, rfl, hl0, hc0, hm0, -⟩ := id r0
  subst hl0
  obtain ⟨a1, cap1, rfl, hc1, hm1, hn1, hb1'⟩ := id r1
  have R0 := Lib.hid r0
  have R1 := Lib.hid r1
  have L0 := Lib.hid lt0
  have N1 := Lib.hid hn1
  clear r0 r1 lt0 hn1 hb1'
  go_enter Try.func4, Try.ntmps4
  go_wp2_with fail
  refine (own_any _ l0 w 71 R0.out s0).mono ?_
  rintro e w1 ⟨o, rfl, hof, hb1⟩
  have hs1 := hb1.size
  go_wp2_with fail
  refine (new_any o l0 w1 (hof.row L0.out) s0).mono ?_
  rintro e w2 ⟨g, rfl, hm2, hb2⟩
  have hs2 := hb2.size
  obtain ⟨ao, cap, hrd2, hao, hg1, hg2⟩ := Made.rdv hm2
  have HO := Lib.hid hof
  have HB2 := Lib.hid (hb1.trans (hb2.mono hs1))
  have HB12 := Lib.hid hb2
  have HRD := Lib.hid hrd2
  have HAO := Lib.hid hao
  clear hm2 hrd2 hao hof hb1 hb2
  go_wp2_with fail
  refine (awake_any _).mono ?_
  rintro e w3 ⟨rfl, hb3⟩
  have hs3 := hb3.size
  simp only [World.size_alloc] at hs3
  have ST : St w w3 w1.heap.size g w2.heap.size ao cap (.slice a0 l0.length cap0) l0 0 0 := by
    have ba : Below w2.heap.size w2 (w2.alloc (Obj.cells #[Value.slice a0 l0.length cap0, Value.int IntKind.i64 0, Value.int IntKind.i64 0] 37)) := (Below.refl _ _).alloc (Nat.le_refl _) _
    have b23 : Below w2.heap.size w2 w3 := ba.trans (hb3.mono (by simp))
    have bb : Beside (fun _ => False) w2 w3 := Below.beside b23
    refine ⟨HRD.out.beside bb (fun h => h) (fun _ _ h => h), ?_, HB2.out.trans (b23.mono (by omega)), by omega, by omega, by omega, fun x hx => ⟨by have := (HAO.out x hx).2; omega, by have := (HAO.out x hx).2; omega⟩, by omega, by omega⟩
    unfold RR
    rw [hb3.block w2.heap.size (by simp), heap_alloc_new]
    rfl
  have HO3 := Lib.hid (HO.out.below (HB12.out.trans (((Below.refl w2.heap.size w2).alloc (Nat.le_refl _) (Obj.cells #[Value.slice a0 l0.length cap0, Value.int IntKind.i64 0, Value.int IntKind.i64 0] 37) |>.trans (hb3.mono (by simp))).mono hs2)))
  have R3 := Lib.hid (R0.out.below ST.bel)
  have HST := Lib.hid ST
  clear hb3 ST HRD HB2 HB12
  go_wp2_with fail
  refine (kept_any HO3.out R3.out s0).mono ?_
  rintro e w4 ⟨rfl, hst4⟩
  have hs4 := hst4.1.size
  have HO4 := Lib.hid (HO3.out.below hst4.1)
  have HST4 := Lib.hid (HST.out.on hst4.1 (by omega))
  clear hst4 HST HO3 R3
  go_wp2_with fail
  refine (spoil_full HO4.out (by simp; omega)).mono ?_
  rintro e w5 ⟨rfl, hb5⟩
  have hs5 := hb5.size
  have HST5 : Hid (St w w5 w1.heap.size g w2.heap.size ao cap (.slice a0 l0.length cap0) l0 0 0) := Lib.hid (HST4.out.spoilt hb5 (fun k hk => by
    obtain ⟨go, rfl, _, hgo, _, _⟩ := HO4.out
    obtain ⟨go2, e2, _, hgo2, hgs2, _⟩ := HO.out
    simp only [Value.slice.injEq, Option.some.injEq, Addr.mk.injEq, and_true] at e2
    simp [Value.ownBlock] at hk
    refine ⟨by omega, by omega, fun y hy => by have := (HAO.out y hy).1; omega, by omega⟩) (by omega))
  clear hb5 HST4 HO4 HO
  go_wp2_with fail
  go_loopw [8] (fun i wr => ∃ (k at_ err : Nat), k ≤ l1.length ∧ i = .int .i64 (k : Int) ∧ St w wr w1.heap.size g w2.heap.size ao cap (.slice a0 l0.length cap0) l0 at_ err ∧ w5.heap.size ≤ wr.heap.size) (fun i _ => ((l1.length : Int) - intOf i).toNat)
  case atStart => exact ⟨0, 0, 0, by omega, rfl, HST5.out, Nat.le_refl _⟩
  case round =>
    obtain ⟨k, at_, err, hk, rfl, hst, hsz⟩ := hrel
    have R1r := Lib.hid (R1.out.below hst.bel)
    have R0r := Lib.hid (R0.out.below hst.bel)
    have HSR := Lib.hid hst
    clear hst
    by_cases hlt : k < l1.length
    · by_cases h100 : k < 100
      · obtain ⟨x1, hx1⟩ : ∃ x, a1 = some x := by cases a1 with
          | none => have := N1.out rfl; omega
          | some x => exact ⟨x, rfl⟩
        subst hx1
        have hcell : wr.cell? (x1.add k) = some (.bool l1[k]) := by
          obtain ⟨_, _, e, _, _, _, h⟩ := R1r.out
          simp only [Value.slice.injEq] at e
          exact h x1 e.1.symm k hlt
        have hki : (k : Int) < (l1.length : Int) := by omega
        have hk100 : (k : Int) < 100 := by omega
        have hkc : k < cap1 := by omega
        cases hb : l1[k]
        · rw [hb] at hcell
          clear hb
          go_wp2_with fail
          refine (rnum_v HSR.out.rd L0.out s0).mono ?_
          rintro e w6 ⟨rfl, hrd6, hb6⟩
          have hs6 := hb6.size
          have hrr6 : RR w6 w2.heap.size (.slice a0 l0.length cap0) at_ err := HSR.out.rr.beside hb6 (fun h => HSR.out.gq h.symm)
          have r06 : RowB w6 (.slice a0 l0.length cap0) l0 := R0.out.below (HSR.out.bel.trans (hb6.below (own := (· = g)) (fun k hk => by subst hk; exact HSR.out.wg) (by omega)))
          go_wp2_with fail
          refine (rrnum_any ⟨hrr6, r06, HSR.out.at_le⟩ s0).mono ?_
          rintro e w7 ⟨rfl, hrr7, hb7⟩
          have hs7 := hb7.size
          have HS7 := Lib.hid (HSR.out.step hrd6 hb6 hrr7 hb7 (by omega))
          clear hrd6 hb6 hrr6 r06 hrr7 hb7 HSR
          generalize (numStep l0 at_ err).1 = xv at *
          generalize (numStep l0 at_ err).2.1 = at2 at *
          generalize (numStep l0 at_ err).2.2 = er2 at *
          have hwz : w5.heap.size ≤ w7.heap.size := by omega
          go_wp2_with fail
          obtain ⟨wz, rfl⟩ : ∃ wz : World, wz = w7 := ⟨_, rfl⟩
          have HSZ := Lib.hid HS7.out
          clear HS7
          have hat2 := HSZ.out.at_le
          have hlen : IntKind.i64.wrap ((l0.length : Int) - (at2 : Int)) = (l0.length : Int) - (at2 : Int) := IntWalk.i64_in _ (by omega)
          have d1 := HSZ.out.rr.cell1
          have d2 := HSZ.out.rr.cell2
          go_quiet ((first
            | (go_at_call 22; exact Calls.quiet_of (left_ok ((HSZ.out.drawn _).rd.reader) s0))
            | (go_at_call 23; exact Calls.quiet_of_same ((err_ok ((HSZ.out.drawn _).rd.reader)).mono fun _ _ h => ⟨h.1, h.2.symm⟩))
            | (go_at_call 24; exact Calls.quiet_of (end_q ((HSZ.out.drawn _).rd.reader) s0))
            | (go_at_call 25; exact Calls.quiet_of (rend_q (HSZ.out.drawn _).rr))))
          go_wp2_with fail
          go_roundw
          case rel => exact ⟨k + 1, at2, er2, by omega, by go_num, HSZ.out.drawn _, hwz⟩
          case measure => simp [intOf]; omega
        · rw [hb] at hcell
          clear hb
          go_wp2_with fail
          refine (rtxt_v HSR.out.rd L0.out s0).mono ?_
          rintro e w6 ⟨x, rfl, hx6, hrd6, hb6⟩
          have hs6 := hb6.size
          have hrr6 : RR w6 w2.heap.size (.slice a0 l0.length cap0) at_ err := HSR.out.rr.beside hb6 (fun h => HSR.out.gq h.symm)
          have r06 : RowB w6 (.slice a0 l0.length cap0) l0 := R0.out.below (HSR.out.bel.trans (hb6.below (own := (· = g)) (fun k hk => by subst hk; exact HSR.out.wg) (by omega)))
          go_wp2_with fail
          refine (rrtxt_any ⟨hrr6, r06, HSR.out.at_le⟩ s0).mono ?_
          rintro e w7 ⟨y, rfl, hy7, hrr7, hb7⟩
          have hs7 := hb7.size
          have hlx := txtStep_lt L0.out at_ err
          have hlen7 : (txtStep l0 at_ err).1.length ≤ 9223372036854775807 := by have := txtStep_len l0 at_ err; omega
          have HS7 := Lib.hid (HSR.out.step hrd6 hb6 hrr7 hb7 (by omega))
          have hxl := hx6.ownLe
          have hx7 : OwnB w7 wr.heap.size x (txtStep l0 at_ err).1 := hx6.beside hb7 (fun k hk e => by have := hxl k hk; have := HSR.out.qs; omega)
          have HQ := Lib.hid (And.intro HSR.out.gs (And.intro HSR.out.qs HSR.out.aq))
          clear hrd6 hb6 hrr6 r06 hrr7 hb7 HSR hx6
          generalize (txtStep l0 at_ err).1 = xv at *
          generalize (txtStep l0 at_ err).2.1 = at2 at *
          generalize (txtStep l0 at_ err).2.2 = er2 at *
          go_wp2_with fail
          refine (bytes_any (hx7.row hlx) (hy7.row hlx)).mono ?_
          rintro e w8 ⟨rfl, rfl⟩
          simp only [decide_true]
          have HX7 := Lib.hid hx7
          have HXL := Lib.hid hxl
          clear hx7 hy7 hlx hxl
          go_wp2_with fail
          refine (spoil_own HX7.out hlen7).mono ?_
          rintro e wz ⟨rfl, hbz⟩
          have hsz9 := hbz.size
          have hwz : w5.heap.size ≤ wz.heap.size := by omega
          have HSZ : Hid (St w wz w1.heap.size g w2.heap.size ao cap (.slice a0 l0.length cap0) l0 at2 er2) := Lib.hid (HS7.out.spoilt hbz (fun k hk => by
            have h1 := HXL.out k hk
            obtain ⟨q1, q2, q3⟩ := HQ.out
            exact ⟨by omega, by omega, fun y hy => by have := (q3 y hy).2; omega, by omega⟩) (by omega))
          clear hbz HS7 HXL HQ HX7
          go_wp2_with fail
          have hat2 := HSZ.out.at_le
          have hlen : IntKind.i64.wrap ((l0.length : Int) - (at2 : Int)) = (l0.length : Int) - (at2 : Int) := IntWalk.i64_in _ (by omega)
          have d1 := HSZ.out.rr.cell1
          have d2 := HSZ.out.rr.cell2
          go_quiet ((first
            | (go_at_call 22; exact Calls.quiet_of (left_ok ((HSZ.out.drawn _).rd.reader) s0))
            | (go_at_call 23; exact Calls.quiet_of_same ((err_ok ((HSZ.out.drawn _).rd.reader)).mono fun _ _ h => ⟨h.1, h.2.symm⟩))
            | (go_at_call 24; exact Calls.quiet_of (end_q ((HSZ.out.drawn _).rd.reader) s0))
            | (go_at_call 25; exact Calls.quiet_of (rend_q (HSZ.out.drawn _).rr))))
          go_wp2_with fail
          go_roundw
          case rel => exact ⟨k + 1, at2, er2, by omega, by go_num, HSZ.out.drawn _, hwz⟩
          case measure => simp [intOf]; omega
      · have hk100 : ¬ (k : Int) < 100 := by omega
        have hki : (k : Int) < (l1.length : Int) := by omega
        go_wp2_with fail
        go_ret
        exact ⟨rfl, HSR.out.bel⟩
    · have hki : ¬ (k : Int) < (l1.length : Int) := by omega
      go_wp2_with fail
      go_ret
      exact ⟨rfl, HSR.out.bel⟩
end Go.Proofs.Ytfaecojhkiombaa.codeReads
