/-
  Several texts of one proof, each in a section of its own: SecA, SecB.
-/
import Derived.Test.YtnncldnpkfjhbaaGreatDoorPtWMg
import Derived.Deep.LoopGhost
namespace Go.Proofs.YtnncldnpkfjhbaaGreatDoor
section
set_option linter.unusedVariables false
open Go.RowKit Go.Lib Go.Shelf Go.Joins

def zeroP : PT := .mk [] [] 0 0 0 0 []
/-- a part, as it is handed -/
def PartA (X : Nat → Prop) (w : World) (p : PT) (v : Value) : Prop := ∃ k cs, v = .agg cs.toArray ∧ PtV k X w p cs
theorem PtV.below {k : Nat} {X : Nat → Prop} {w W : World} {p : PT} {cs : List Value} (h : PtV k X w p cs) (hb : Below w.heap.size w W) : PtV k X W p cs :=
  h.lt.keep (fun _ hg => hg.1) (fun g hg C fz _ => hb.block g hg.2)
theorem PartA.below {X : Nat → Prop} {w W : World} {p : PT} {v : Value} (h : PartA X w p v) (hb : Below w.heap.size w W) : PartA X W p v := by
  obtain ⟨k, cs, e, hp⟩ := h
  exact ⟨k, cs, e, hp.below hb⟩
theorem PartA.open {X : Nat → Prop} {w : World} {p : PT} {v : Value} (h : PartA X w p v) : ∃ (k : Nat) (K0 S0 : ByteArray) (h0 f0 t0 n0 : Nat) (a : Option Addr) (kn c : Nat), v = .agg #[.string K0, .string S0, .int .i64 (h0 : Nat), .int .i64 (f0 : Nat), .int .i64 (t0 : Nat), .int .i64 (n0 : Nat), .slice a kn c] ∧
    PtV k X w p [.string K0, .string S0, .int .i64 (h0 : Nat), .int .i64 (f0 : Nat), .int .i64 (t0 : Nat), .int .i64 (n0 : Nat), .slice a kn c] ∧ (strL p.ty = K0 ∧ strL p.sub = S0 ∧ p.head = h0 ∧ p.frm = f0 ∧ p.to = t0 ∧ p.kids.length = kn) := by
  obtain ⟨k, cs, e, hp⟩ := h
  obtain ⟨a, c, rfl⟩ := hp.shape
  exact ⟨k, _, _, _, _, _, _, _, _, _, e, hp, rfl, rfl, rfl, rfl, rfl, rfl⟩
theorem PartA.of {w : World} {k : Nat} {X : Nat → Prop} {p : PT} {cs : List Value} (h : PtV k X w p cs) : PartA X w p (.agg cs.toArray) := ⟨k, cs, rfl, h⟩
theorem PartA.lt {X : Nat → Prop} {w : World} {p : PT} {v : Value} (h : PartA X w p v) : PartA (fun g => X g ∧ g < w.heap.size) w p v := by
  obtain ⟨k, cs, e, hp⟩ := h
  exact ⟨k, cs, e, hp.lt⟩
theorem PartA.mono {X Y : Nat → Prop} {w : World} {p : PT} {v : Value} (h : PartA X w p v) (hY : ∀ g, X g → Y g) : PartA Y w p v := by
  obtain ⟨k, cs, e, hp⟩ := h
  exact ⟨k, cs, e, hp.keep hY (fun _ _ _ _ _ => rfl)⟩
theorem zero_part (X : Nat → Prop) (w : World) : PartA X w zeroP (.agg #[.string ⟨#[]⟩, .string ⟨#[]⟩, .int .i64 0, .int .i64 0, .int .i64 0, .int .i64 0, .slice none 0 0]) := ⟨0, _, rfl, rfl, rfl⟩
/-- one of a part's parts -/
theorem PtV.kid {k : Nat} {X : Nat → Prop} {w : World} {p : PT} {y0 y1 y2 y3 y4 y5 : Value} {a : Option Addr} {kn c : Nat} (h : PtV k X w p [y0, y1, y2, y3, y4, y5, .slice a kn c]) {i : Nat} (hi : i < p.kids.length) :
    ∃ k' g csi, k' < k ∧ a = some ⟨g, 0, none⟩ ∧ p.kids.length ≤ c ∧ g < w.heap.size ∧ PtV k' X w p.kids[i] csi ∧ ∀ j, j < 7 → w.cell? ⟨g, i * 7 + j, none⟩ = csi[j]? := by
  cases k with
  | zero => rw [h.1] at hi; simp at hi
  | succ k =>
    obtain ⟨v, xs, e, hr, hX, hk⟩ := h
    have hv : v = .slice a kn c := by
      simp only [headV, List.cons.injEq] at e
      exact e.2.2.2.2.2.2.1.symm
    subst hv
    rcases hr.2 with ⟨_, h0⟩ | ⟨g, cap, cur, hv, hB, hh, hc, hm, hs, ht⟩
    · omega
    · obtain ⟨rfl, rfl, rfl⟩ := Value.slice.inj hv
      refine ⟨k, g, _, Nat.lt_succ_self k, rfl, hc, (Array.getElem?_eq_some_iff.1 hh).1, hk i hi, fun j hj => ?_⟩
      have h1 : i * 7 + 7 ≤ p.kids.length * 7 := by omega
      rw [cell_of_row _ _ _ _ _ _ hh, List.getElem?_take, if_pos hj, List.getElem?_drop, ← ht, List.getElem?_take, if_pos (by omega)]
      simp

theorem res19 (tmps : Array Value) (W : World) (b : Nat) (x0 x1 x2 x3 x4 x5 x6 : Value) (h : tmps[2]?.getD undef = .pointer (some ⟨b, 0, none⟩)) (hc : W.heap[b]? = some (.cells #[x0, x1, x2, x3, x4, x5, x6] 37 (0, 0))) : (results Tryz.f19 tmps).run Tryz.prog W = .ok (.agg #[x0, x1, x2, x3, x4, x5, x6]) W := by
  obtain ⟨m0, m1, m2, m3, m4, m5, m6⟩ := cells7 hc
  simp [results, Tryz.results19, h, asAddr, loadVar, go_sem, m0, m1, m2, m3, m4, m5, m6]
theorem below7' {w W : World} {n m : Nat} (h : Below n w W) (hm : n ≤ m) (x0 x1 x2 x3 x4 x5 x6 : Value) : Below n w (set7 W m x0 x1 x2 x3 x4 x5 x6) :=
  ((((((h.setCell (p := ⟨m, 0, none⟩) (by simpa using hm) _).setCell (p := ⟨m, 1, none⟩) (by simpa using hm) _).setCell (p := ⟨m, 2, none⟩) (by simpa using hm) _).setCell (p := ⟨m, 3, none⟩) (by simpa using hm) _).setCell (p := ⟨m, 4, none⟩) (by simpa using hm) _).setCell (p := ⟨m, 5, none⟩) (by simpa using hm) _).setCell (p := ⟨m, 6, none⟩) (by simpa using hm) _
set_option maxRecDepth 100000 in
set_option maxHeartbeats 4000000 in
theorem parse_any (v : Value) (l : List Nat) (w : World) (hr : RowB w v l) (hl : l.length ≤ 100000) :
    Calls Tryz.prog 19 #[v] w fun e W' => ∃ u, e = .returned u ∧ PartA (fun g => w.heap.size + 3 ≤ g) W' (partS l 6 0 l.length) u ∧ Below w.heap.size w W' := by
  obtain ⟨a, cap, rfl⟩ : ∃ a c, v = .slice a l.length c := by obtain ⟨a, len, c, e, h, _⟩ := hr; exact ⟨a, c, by rw [e, h]⟩
  obtain ⟨W1, hW1⟩ : ∃ W1, (((w.alloc (.cells #[.slice a l.length cap] 22)).alloc (.cells #[.string ⟨#[]⟩, .string ⟨#[]⟩, .int .i64 0, .int .i64 0, .int .i64 0, .int .i64 0, .slice none 0 0] 37)).alloc (.cells #[.func (.func 25) #[] #[.pointer (some ⟨w.heap.size, 0, none⟩), .pointer (some ⟨w.heap.size + 1 + 1, 0, none⟩)]] 60)) = W1 := ⟨_, rfl⟩
  have hb1 : Below w.heap.size w W1 := by rw [← hW1]; exact (((Below.refl _ w).alloc (Nat.le_refl _) _).alloc (by simp) _).alloc (by simp; omega) _
  have hsz : W1.heap.size = w.heap.size + 3 := by rw [← hW1]; simp
  have B0 : Boxed W1 w.heap.size 22 (.slice a l.length cap) := by rw [← hW1]; exact ((Boxed.new w 22 _).alloc _).alloc _
  have B2 : Boxed W1 (w.heap.size + 1 + 1) 60 (.func (.func 25) #[] #[.pointer (some ⟨w.heap.size, 0, none⟩), .pointer (some ⟨w.heap.size + 1 + 1, 0, none⟩)]) := by
    rw [← hW1]; simpa using Boxed.new ((w.alloc (.cells #[.slice a l.length cap] 22)).alloc (.cells #[.string ⟨#[]⟩, .string ⟨#[]⟩, .int .i64 0, .int .i64 0, .int .i64 0, .int .i64 0, .slice none 0 0] 37)) 60 (.func (.func 25) #[] #[.pointer (some ⟨w.heap.size, 0, none⟩), .pointer (some ⟨w.heap.size + 1 + 1, 0, none⟩)])
  have hN : W1.heap[w.heap.size + 1]? = some (.cells #[.string ⟨#[]⟩, .string ⟨#[]⟩, .int .i64 0, .int .i64 0, .int .i64 0, .int .i64 0, .slice none 0 0] 37 (0, 0)) := by
    rw [← hW1, Below.heap_alloc _ _ _ (by simp)]
    simpa using heap_alloc_new (w.alloc (.cells #[.slice a l.length cap] 22)) (.cells #[.string ⟨#[]⟩, .string ⟨#[]⟩, .int .i64 0, .int .i64 0, .int .i64 0, .int .i64 0, .slice none 0 0] 37)
  have hih : Calls Tryz.prog 25 #[.int .i64 0, .int .i64 (l.length : Nat), .int .i64 1, .pointer (some ⟨w.heap.size, 0, none⟩), .pointer (some ⟨w.heap.size + 1 + 1, 0, none⟩)] W1 (PartOk 6 l 0 l.length W1.heap.size W1) := part_any l a cap w.heap.size (w.heap.size + 1 + 1) hl 6 0 l.length 1 W1 rfl (hr.below hb1) B0 B2 (Nat.zero_le _) (Nat.le_refl _)
  have HIC := Lib.hid hih
  have c0 := B0.cell
  have c2 := B2.cell
  have H1 := Lib.hid (And.intro hb1 (And.intro hsz hN))
  clear hih hb1 hsz B0 B2 hN hr
  go_enter Tryz.func19, Tryz.ntmps19
  go_wp2_with (go_at_call 25; go_loud (refine HIC.out.mono ?_; intro e w9 hw9; obtain ⟨K0, S0, h0, f0, t0, n0, ka, kn, kc, rfl, hpv, hb9⟩ := hw9.lit; obtain ⟨m0, m1, m2, m3, m4, m5, m6⟩ := cells7 ((hb9.block _ (Array.getElem?_eq_some_iff.1 H1.out.2.2).1).trans H1.out.2.2); obtain ⟨u0, u1, u2, u3, u4, u5, u6⟩ := free7 ((hb9.block _ (Array.getElem?_eq_some_iff.1 H1.out.2.2).1).trans H1.out.2.2)))
  have hN9 := (hb9.block _ (Array.getElem?_eq_some_iff.1 H1.out.2.2).1).trans H1.out.2.2
  have hs1 := H1.out.2.1
  refine bodyPost_ret (v := .agg #[.string K0, .string S0, .int .i64 (h0 : Nat), .int .i64 (f0 : Nat), .int .i64 (t0 : Nat), .int .i64 (n0 : Nat), .slice ka kn kc]) (res19 _ _ _ _ _ _ _ _ _ _ rfl (block7 hN9 _ _ _ _ _ _ _)) rfl ⟨_, rfl, ?_, ?_⟩
  · exact PartA.of (hpv.keep (fun g hg => by omega) (fun g hg C fz _ => other7 _ _ _ (by omega) _ _ _ _ _ _ _))
  · exact below7' (H1.out.1.trans (hb9.mono (by omega))) (by omega) _ _ _ _ _ _ _
end
section
set_option linter.unusedVariables false
open Go.RowKit Go.Lib Go.Shelf Go.Joins
attribute [local go_sem] Oper.semAt_some

def letterP (p : PT) : Bool := decide (p.ty = messL) && (decide (p.sub = rfcL) && decide (0 < p.kids.length))
def downP : PT → PT
  | .mk ty sub h f t n (q :: r) => if ty = messL ∧ sub = rfcL then downP q else .mk ty sub h f t n (q :: r)
  | .mk ty sub h f t n [] => .mk ty sub h f t n []
def leadP (p : PT) (n : Int) : Option PT :=
  if (downP p).ty = multiL then (if 1 ≤ n then (downP p).kids[(n - 1).toNat]? else none) else (if n = 1 then some (downP p) else none)
def findP (p : PT) : List Int → Option PT
  | [] => some p
  | n :: r => match leadP p n with
    | some q => findP q r
    | none => none
theorem down_stop {p : PT} (h : letterP p = false) : downP p = p := by
  obtain ⟨ty, sub, hd, f, t, n, kids⟩ := p
  cases kids with
  | nil => rfl
  | cons q r =>
    rw [downP, if_neg]
    intro h2
    unfold letterP at h
    simp [PT.ty, PT.sub, PT.kids, h2.1, h2.2] at h
theorem down_step {p : PT} (h : letterP p = true) (h0 : 0 < p.kids.length) : downP p = downP p.kids[0] := by
  obtain ⟨ty, sub, hd, f, t, n, kids⟩ := p
  cases kids with
  | nil => simp [PT.kids] at h0
  | cons q r =>
    unfold letterP at h
    simp only [PT.ty, PT.sub, PT.kids, Bool.and_eq_true] at h
    have h2 : ty = messL ∧ sub = rfcL := ⟨of_decide_eq_true h.1, of_decide_eq_true h.2.1⟩
    rw [downP, if_pos h2]
    rfl

set_option maxRecDepth 100000 in
set_option maxHeartbeats 2000000 in
theorem letter_any (K0 S0 : ByteArray) (h0 f0 t0 n0 : Nat) (a : Option Addr) (kn c : Nat) (w : World) :
    Calls Tryz.prog 32 #[.agg #[.string K0, .string S0, .int .i64 (h0 : Nat), .int .i64 (f0 : Nat), .int .i64 (t0 : Nat), .int .i64 (n0 : Nat), .slice a kn c]] w fun e w' =>
      e = .returned (.bool ((K0.toList == ([109, 101, 115, 115, 97, 103, 101] : List UInt8)) && ((S0.toList == ([114, 102, 99, 56, 50, 50] : List UInt8)) && decide (0 < kn)))) ∧ Below w.heap.size w w' := by
  obtain ⟨b1, h1⟩ : ∃ b, (K0.toList == ([109, 101, 115, 115, 97, 103, 101] : List UInt8)) = b := ⟨_, rfl⟩
  obtain ⟨b2, h2⟩ : ∃ b, (S0.toList == ([114, 102, 99, 56, 50, 50] : List UInt8)) = b := ⟨_, rfl⟩
  rw [h1, h2]
  go_enter Tryz.func32, Tryz.ntmps32
  cases b1
  · go_wp2
    go_ret
    exact ⟨rfl, (Below.refl _ _).alloc (Nat.le_refl _) _⟩
  · cases b2
    · go_wp2
      go_ret
      exact ⟨rfl, (Below.refl _ _).alloc (Nat.le_refl _) _⟩
    · by_cases hk : 0 < kn
      · have hk2 : decide ((0 : Int) < (kn : Int)) = true := decide_eq_true (by omega)
        go_wp2
        go_ret
        exact ⟨by simp [hk], (Below.refl _ _).alloc (Nat.le_refl _) _⟩
      · have hk2 : decide ((0 : Int) < (kn : Int)) = false := decide_eq_false (by omega)
        go_wp2
        go_ret
        exact ⟨by simp [hk], (Below.refl _ _).alloc (Nat.le_refl _) _⟩
/-- the loop of lead: a part that leads to the same -/
def LdI (X : Nat → Prop) (n : Nat) (p : PT) (w : World) (k : Nat) (wr : World) : Prop :=
  ∃ (q : PT) (K0 S0 : ByteArray) (h0 f0 t0 n0 : Nat) (a : Option Addr) (kn c : Nat), wr.heap[n]? = some (.cells #[.string K0, .string S0, .int .i64 (h0 : Nat), .int .i64 (f0 : Nat), .int .i64 (t0 : Nat), .int .i64 (n0 : Nat), .slice a kn c] 37 (0, 0)) ∧
    PtV k (fun g => X g ∧ g < n) wr q [.string K0, .string S0, .int .i64 (h0 : Nat), .int .i64 (f0 : Nat), .int .i64 (t0 : Nat), .int .i64 (n0 : Nat), .slice a kn c] ∧ downP q = downP p ∧
    wr.heap[n + 1]? = some (.cells #[.string ⟨#[]⟩, .string ⟨#[]⟩, .int .i64 0, .int .i64 0, .int .i64 0, .int .i64 0, .slice none 0 0] 37 (0, 0)) ∧ Below n w wr
theorem PtV.lit {k : Nat} {X : Nat → Prop} {w : World} {p : PT} {cs : List Value} (h : PtV k X w p cs) : ∃ (K0 S0 : ByteArray) (h0 f0 t0 n0 : Nat) (a : Option Addr) (kn c : Nat), cs = [.string K0, .string S0, .int .i64 (h0 : Nat), .int .i64 (f0 : Nat), .int .i64 (t0 : Nat), .int .i64 (n0 : Nat), .slice a kn c] ∧
    (strL p.ty = K0 ∧ strL p.sub = S0 ∧ p.head = h0 ∧ p.frm = f0 ∧ p.to = t0 ∧ p.kids.length = kn) := by
  obtain ⟨a, c, rfl⟩ := h.shape
  exact ⟨_, _, _, _, _, _, _, _, _, rfl, rfl, rfl, rfl, rfl, rfl, rfl⟩
theorem PtV.facts {k : Nat} {X : Nat → Prop} {w : World} {p : PT} {K0 S0 : ByteArray} {h0 f0 t0 n0 : Nat} {a : Option Addr} {kn c : Nat} (h : PtV k X w p [.string K0, .string S0, .int .i64 (h0 : Nat), .int .i64 (f0 : Nat), .int .i64 (t0 : Nat), .int .i64 (n0 : Nat), .slice a kn c]) :
    strL p.ty = K0 ∧ strL p.sub = S0 ∧ p.head = h0 ∧ p.frm = f0 ∧ p.to = t0 ∧ p.kids.length = kn := by
  obtain ⟨K1, S1, h1, f1, t1, n1, a1, kn1, c1, e, hf⟩ := h.lit
  simp only [List.cons.injEq, Value.string.injEq, Value.int.injEq, Value.slice.injEq, Int.natCast_inj, true_and, and_true] at e
  obtain ⟨rfl, rfl, rfl, rfl, rfl, rfl, -, rfl, -⟩ := e
  exact hf
/-- what lead tells -/
def LeadOk (X : Nat → Prop) (p : PT) (n : Int) (w : World) (e : Ending) (W' : World) : Prop :=
  ∃ u q ok, e = .returned (.tuple #[u, .bool ok]) ∧ PartA X W' q u ∧ (ok = true → leadP p n = some q) ∧ (ok = false → leadP p n = none) ∧ Below w.heap.size w W'
theorem res20 (tmps : Array Value) (W : World) (b : Nat) (ok : Bool) (x0 x1 x2 x3 x4 x5 x6 : Value) (h : tmps[4]?.getD undef = .pointer (some ⟨b, 0, none⟩)) (h5 : tmps[5]?.getD undef = .bool ok) (hc : W.heap[b]? = some (.cells #[x0, x1, x2, x3, x4, x5, x6] 37 (0, 0))) : (results Tryz.f20 tmps).run Tryz.prog W = .ok (.tuple #[.agg #[x0, x1, x2, x3, x4, x5, x6], .bool ok]) W := by
  obtain ⟨m0, m1, m2, m3, m4, m5, m6⟩ := cells7 hc
  simp [results, Tryz.results20, h, h5, asAddr, loadVar, go_sem, m0, m1, m2, m3, m4, m5, m6]
theorem fin20 {X : Nat → Prop} {p q : PT} {z : Int} {w W : World} {k : Nat} {ok : Bool} {x0 x1 x2 x3 x4 x5 x6 z0 z1 z2 z3 z4 z5 z6 : Value} {tmps : Array Value} (h : tmps[4]?.getD undef = .pointer (some ⟨w.heap.size + 1, 0, none⟩)) (h5 : tmps[5]?.getD undef = .bool ok)
    (hz : W.heap[w.heap.size + 1]? = some (.cells #[z0, z1, z2, z3, z4, z5, z6] 37 (0, 0))) (hp : PtV k (fun g => X g ∧ g < w.heap.size) W q [x0, x1, x2, x3, x4, x5, x6]) (hb : Below w.heap.size w W)
    (h1 : ok = true → leadP p z = some q) (h2 : ok = false → leadP p z = none) : bodyPost Tryz.prog Tryz.f20 (LeadOk X p z w) Exit.ret { tmps := tmps, defers := [] } (set7 W (w.heap.size + 1) x0 x1 x2 x3 x4 x5 x6) := by
  refine bodyPost_ret (res20 tmps _ _ ok _ _ _ _ _ _ _ h h5 (block7 hz _ _ _ _ _ _ _)) rfl ⟨_, q, ok, rfl, ?_, h1, h2, below7' hb (by omega) _ _ _ _ _ _ _⟩
  exact PartA.of (hp.keep (fun g hg => hg.1) (fun g hg C fz _ => other7 _ _ _ (by omega) _ _ _ _ _ _ _))
set_option maxRecDepth 100000 in
set_option maxHeartbeats 8000000 in
theorem lead_any (X : Nat → Prop) (p : PT) (v : Value) (z : Int) (w : World) (hp : PartA X w p v) (hz : -9223372036854775808 ≤ z ∧ z ≤ 9223372036854775807) : Calls Tryz.prog 20 #[v, .int .i64 z] w (LeadOk X p z w) := by
  obtain ⟨k, K0, S0, h0, f0, t0, n0, a, kn, c, rfl, hpv, hfacts⟩ := hp.open
  have HP := Lib.hid hpv.lt
  clear hpv hfacts hp
  go_enter Tryz.func20, Tryz.ntmps20
  go_upto_region 1 with fail
  go_loopg [] k (fun k wr => LdI X w.heap.size p w k wr)
  case atStart =>
    have hb : Below w.heap.size w ((w.alloc (.cells #[.string K0, .string S0, .int .i64 (h0 : Nat), .int .i64 (f0 : Nat), .int .i64 (t0 : Nat), .int .i64 (n0 : Nat), .slice a kn c] 37)).alloc (.cells #[.string ⟨#[]⟩, .string ⟨#[]⟩, .int .i64 0, .int .i64 0, .int .i64 0, .int .i64 0, .slice none 0 0] 37)) := ((Below.refl _ w).alloc (Nat.le_refl _) _).alloc (by simp) _
    refine ⟨p, K0, S0, h0, f0, t0, n0, a, kn, c, ?_, HP.out.keep (fun g hg => hg) (fun g hg C fz _ => hb.block g hg.2), rfl, ?_, hb⟩
    · rw [Below.heap_alloc _ _ _ (by simp), heap_alloc_new]
    · simpa using heap_alloc_new (w.alloc (.cells #[.string K0, .string S0, .int .i64 (h0 : Nat), .int .i64 (f0 : Nat), .int .i64 (t0 : Nat), .int .i64 (n0 : Nat), .slice a kn c] 37)) (.cells #[.string ⟨#[]⟩, .string ⟨#[]⟩, .int .i64 0, .int .i64 0, .int .i64 0, .int .i64 0, .slice none 0 0] 37)
  case round =>
    obtain ⟨q, K1, S1, h1, f1, t1, n1, a1, kn1, c1, hn, hpv, hd, hn1, hb⟩ := hrel
    obtain ⟨e0, e1, e2, e3, e4, e5⟩ := hpv.facts
    have hlet : ((K1.toList == ([109, 101, 115, 115, 97, 103, 101] : List UInt8)) && ((S1.toList == ([114, 102, 99, 56, 50, 50] : List UInt8)) && decide (0 < kn1))) = letterP q := by
      rw [← e0, ← e1, ← e5, strL_eqB, strL_eqB]
      rfl
    have hlc := fun W => letter_any K1 S1 h1 f1 t1 n1 a1 kn1 c1 W
    rw [hlet] at hlc
    obtain ⟨g0, g1, g2, g3, g4, g5, g6⟩ := cells7 hn
    by_cases hlp : letterP q = true
    · rw [hlp] at hlc
      have h0k : 0 < q.kids.length := by
        unfold letterP at hlp
        simp only [Bool.and_eq_true] at hlp
        exact of_decide_eq_true hlp.2.2
      obtain ⟨k', g, csi, hk', ha1, hc1, hg, hkid, hcs⟩ := hpv.kid h0k
      obtain ⟨K2, S2, h2, f2, t2, n2, a2, kn2, c2, rfl, -⟩ := hkid.lit
      subst ha1
      have hkz : (0 : Int) < (kn1 : Int) := by omega
      have hkc : (0 : Int) < (c1 : Int) := by omega
      have q0 : wr.cell? ⟨g, 0, none⟩ = some (.string K2) := hcs 0 (by omega)
      have q1 : wr.cell? ⟨g, 1, none⟩ = some (.string S2) := hcs 1 (by omega)
      have q2 : wr.cell? ⟨g, 2, none⟩ = some (.int .i64 (h2 : Nat)) := hcs 2 (by omega)
      have q3 : wr.cell? ⟨g, 3, none⟩ = some (.int .i64 (f2 : Nat)) := hcs 3 (by omega)
      have q4 : wr.cell? ⟨g, 4, none⟩ = some (.int .i64 (t2 : Nat)) := hcs 4 (by omega)
      have q5 : wr.cell? ⟨g, 5, none⟩ = some (.int .i64 (n2 : Nat)) := hcs 5 (by omega)
      have q6 : wr.cell? ⟨g, 6, none⟩ = some (.slice a2 kn2 c2) := hcs 6 (by omega)
      have HLC := Lib.hid hlc
      have HQ := Lib.hid (And.intro q0 (And.intro q1 (And.intro q2 (And.intro q3 (And.intro q4 (And.intro q5 q6))))))
      have HW := Lib.hid (And.intro hn (And.intro hd (And.intro hn1 (And.intro hb (And.intro hkid (And.intro hk' (And.intro (down_step hlp h0k) hg)))))))
      clear hlc hn hd hn1 hb hkid hk' hcs hpv hlp hlet e0 e1 e2 e3 e4 e5 q0 q1 q2 q3 q4 q5 q6
      go_wp2_with (go_at_call 32; refine (HLC.out wr).mono ?_; rintro e w2 ⟨rfl, hb2⟩; have hn2 := (hb2.block _ (Array.getElem?_eq_some_iff.1 HW.out.1).1).trans HW.out.1; obtain ⟨m0, m1, m2, m3, m4, m5, m6⟩ := cells7 hn2; obtain ⟨u0, u1, u2, u3, u4, u5, u6⟩ := free7 hn2; have q0 := (hb2.cell (p := ⟨g, 0, none⟩) hg).trans HQ.out.1; have q1 := (hb2.cell (p := ⟨g, 1, none⟩) hg).trans HQ.out.2.1; have q2 := (hb2.cell (p := ⟨g, 2, none⟩) hg).trans HQ.out.2.2.1; have q3 := (hb2.cell (p := ⟨g, 3, none⟩) hg).trans HQ.out.2.2.2.1; have q4 := (hb2.cell (p := ⟨g, 4, none⟩) hg).trans HQ.out.2.2.2.2.1; have q5 := (hb2.cell (p := ⟨g, 5, none⟩) hg).trans HQ.out.2.2.2.2.2.1; have q6 := (hb2.cell (p := ⟨g, 6, none⟩) hg).trans HQ.out.2.2.2.2.2.2)
      have hn2 := (hb2.block _ (Array.getElem?_eq_some_iff.1 HW.out.1).1).trans HW.out.1
      have hsw := HW.out.2.2.2.1.size
      go_roundg k'
      case measure => exact HW.out.2.2.2.2.2.1
      case rel =>
        refine ⟨q.kids[0], K2, S2, h2, f2, t2, n2, a2, kn2, c2, block7 hn2 _ _ _ _ _ _ _, HW.out.2.2.2.2.1.keep (fun _ h => h) (fun g hg C fz _ => (other7 _ _ _ (by omega) _ _ _ _ _ _ _).trans (hb2.block _ (by omega))), HW.out.2.2.2.2.2.2.1.symm.trans HW.out.2.1, ?_, below7 (HW.out.2.2.2.1.trans (hb2.mono hsw)) _ _ _ _ _ _ _⟩
        exact (other7 _ _ _ (by omega) _ _ _ _ _ _ _).trans ((hb2.block _ (Array.getElem?_eq_some_iff.1 HW.out.2.2.1).1).trans HW.out.2.2.1)
    · have hlf : letterP q = false := by simpa using hlp
      rw [hlf] at hlc
      have hq : downP p = q := by rw [← hd, down_stop hlf]
      have hty : (K1.toList == ([109, 117, 108, 116, 105, 112, 97, 114, 116] : List UInt8)) = decide (q.ty = multiL) := by rw [← e0, strL_eqB]; rfl
      have HLC := Lib.hid hlc
      have HW := Lib.hid (And.intro hn (And.intro hn1 (And.intro hb (And.intro hpv (And.intro hq e5)))))
      clear hlc hn hd hn1 hb hpv hlp hlf hlet e0 e1 e2 e3 e4 hq
      by_cases hm : q.ty = multiL
      · rw [decide_eq_true hm] at hty
        have hty2 : (K1.toList != ([109, 117, 108, 116, 105, 112, 97, 114, 116] : List UInt8)) = false := by rw [bne, hty]; rfl
        have HM := Lib.hid hm
        clear hm
        by_cases hz1 : z < 1
        · have hz1d : decide (z < 1) = true := decide_eq_true hz1
          have HZ := Lib.hid hz1
          clear hz1
          go_wp2_with (go_at_call 32; refine (HLC.out wr).mono ?_; rintro e w2 ⟨rfl, hb2⟩; have hn2 := (hb2.block _ (Array.getElem?_eq_some_iff.1 HW.out.1).1).trans HW.out.1; obtain ⟨m0, m1, m2, m3, m4, m5, m6⟩ := cells7 hn2; have hx2 := (hb2.block _ (Array.getElem?_eq_some_iff.1 HW.out.2.1).1).trans HW.out.2.1; obtain ⟨x0, x1, x2, x3, x4, x5, x6⟩ := cells7 hx2; obtain ⟨u0, u1, u2, u3, u4, u5, u6⟩ := free7 hx2)
          have hx2 := (hb2.block _ (Array.getElem?_eq_some_iff.1 HW.out.2.1).1).trans HW.out.2.1
          have hb3 := HW.out.2.2.1.trans (hb2.mono HW.out.2.2.1.size)
          exact fin20 (k := 0) (q := zeroP) rfl rfl hx2 ⟨rfl, rfl⟩ hb3 (by simp) (fun _ => by unfold leadP; rw [HW.out.2.2.2.2.1, if_pos HM.out, if_neg (by have := HZ.out; omega)])
        · have hz1d : decide (z < 1) = false := decide_eq_false hz1
          by_cases hz2 : (kn1 : Int) < z
          · have hz2d : decide ((kn1 : Int) < z) = true := decide_eq_true hz2
            have HZ := Lib.hid (And.intro hz1 hz2)
            clear hz1 hz2
            go_wp2_with (go_at_call 32; refine (HLC.out wr).mono ?_; rintro e w2 ⟨rfl, hb2⟩; have hn2 := (hb2.block _ (Array.getElem?_eq_some_iff.1 HW.out.1).1).trans HW.out.1; obtain ⟨m0, m1, m2, m3, m4, m5, m6⟩ := cells7 hn2; have hx2 := (hb2.block _ (Array.getElem?_eq_some_iff.1 HW.out.2.1).1).trans HW.out.2.1; obtain ⟨x0, x1, x2, x3, x4, x5, x6⟩ := cells7 hx2; obtain ⟨u0, u1, u2, u3, u4, u5, u6⟩ := free7 hx2)
            have hx2 := (hb2.block _ (Array.getElem?_eq_some_iff.1 HW.out.2.1).1).trans HW.out.2.1
            have hb3 := HW.out.2.2.1.trans (hb2.mono HW.out.2.2.1.size)
            exact fin20 (k := 0) (q := zeroP) rfl rfl hx2 ⟨rfl, rfl⟩ hb3 (by simp) (fun _ => by
              unfold leadP
              rw [HW.out.2.2.2.2.1, if_pos HM.out, if_pos (by have := HZ.out; omega)]
              exact List.getElem?_eq_none (by have := HZ.out; have := HW.out.2.2.2.2.2; omega))
          · have hz2d : decide ((kn1 : Int) < z) = false := decide_eq_false hz2
            obtain ⟨i, hi⟩ : ∃ i : Nat, z = (i : Int) + 1 := ⟨(z - 1).toNat, by omega⟩
            subst hi
            have hik : i < q.kids.length := by have := HW.out.2.2.2.2.2; omega
            obtain ⟨k', g, csi, hk', ha1, hc1, hg, hkid, hcs⟩ := HW.out.2.2.2.1.kid hik
            obtain ⟨K2, S2, h2, f2, t2, n2, a2, kn2, c2, rfl, -⟩ := hkid.lit
            subst ha1
            have hkz : (i : Int) < (kn1 : Int) := by have := HW.out.2.2.2.2.2; omega
            have hkc : (i : Int) < (c1 : Int) := by have := HW.out.2.2.2.2.2; omega
            have q0 : wr.cell? ⟨g, i * 7, none⟩ = some (.string K2) := hcs 0 (by omega)
            have q1 : wr.cell? ⟨g, i * 7 + 1, none⟩ = some (.string S2) := hcs 1 (by omega)
            have q2 : wr.cell? ⟨g, i * 7 + 2, none⟩ = some (.int .i64 (h2 : Nat)) := hcs 2 (by omega)
            have q3 : wr.cell? ⟨g, i * 7 + 3, none⟩ = some (.int .i64 (f2 : Nat)) := hcs 3 (by omega)
            have q4 : wr.cell? ⟨g, i * 7 + 4, none⟩ = some (.int .i64 (t2 : Nat)) := hcs 4 (by omega)
            have q5 : wr.cell? ⟨g, i * 7 + 5, none⟩ = some (.int .i64 (n2 : Nat)) := hcs 5 (by omega)
            have q6 : wr.cell? ⟨g, i * 7 + 6, none⟩ = some (.slice a2 kn2 c2) := hcs 6 (by omega)
            have HQ := Lib.hid (And.intro q0 (And.intro q1 (And.intro q2 (And.intro q3 (And.intro q4 (And.intro q5 q6))))))
            have HK := Lib.hid (And.intro hik hkid)
            clear hkid hcs q0 q1 q2 q3 q4 q5 q6 hc1 hk'
            go_wp2_with (go_at_call 32; refine (HLC.out wr).mono ?_; rintro e w2 ⟨rfl, hb2⟩; have hn2 := (hb2.block _ (Array.getElem?_eq_some_iff.1 HW.out.1).1).trans HW.out.1; obtain ⟨m0, m1, m2, m3, m4, m5, m6⟩ := cells7 hn2; have hx2 := (hb2.block _ (Array.getElem?_eq_some_iff.1 HW.out.2.1).1).trans HW.out.2.1; obtain ⟨x0, x1, x2, x3, x4, x5, x6⟩ := cells7 hx2; obtain ⟨u0, u1, u2, u3, u4, u5, u6⟩ := free7 hx2; have q0 := (hb2.cell (p := ⟨g, i * 7, none⟩) hg).trans HQ.out.1; have q1 := (hb2.cell (p := ⟨g, i * 7 + 1, none⟩) hg).trans HQ.out.2.1; have q2 := (hb2.cell (p := ⟨g, i * 7 + 2, none⟩) hg).trans HQ.out.2.2.1; have q3 := (hb2.cell (p := ⟨g, i * 7 + 3, none⟩) hg).trans HQ.out.2.2.2.1; have q4 := (hb2.cell (p := ⟨g, i * 7 + 4, none⟩) hg).trans HQ.out.2.2.2.2.1; have q5 := (hb2.cell (p := ⟨g, i * 7 + 5, none⟩) hg).trans HQ.out.2.2.2.2.2.1; have q6 := (hb2.cell (p := ⟨g, i * 7 + 6, none⟩) hg).trans HQ.out.2.2.2.2.2.2)
            have hx2 := (hb2.block _ (Array.getElem?_eq_some_iff.1 HW.out.2.1).1).trans HW.out.2.1
            have hb3 := HW.out.2.2.1.trans (hb2.mono HW.out.2.2.1.size)
            exact fin20 rfl rfl hx2 (HK.out.2.keep (fun _ h => h) (fun g hg C fz _ => hb2.block _ (by have := HW.out.2.2.1.size; omega))) hb3 (fun _ => by
              unfold leadP
              rw [HW.out.2.2.2.2.1, if_pos HM.out, if_pos (by omega), show ((i : Int) + 1 - 1).toNat = i by omega]
              exact List.getElem?_eq_getElem hik) (by simp)
      · rw [decide_eq_false hm] at hty
        have hty2 : (K1.toList != ([109, 117, 108, 116, 105, 112, 97, 114, 116] : List UInt8)) = true := by rw [bne, hty]; rfl
        have HM := Lib.hid hm
        clear hm
        go_wp2_with (go_at_call 32; refine (HLC.out wr).mono ?_; rintro e w2 ⟨rfl, hb2⟩; have hn2 := (hb2.block _ (Array.getElem?_eq_some_iff.1 HW.out.1).1).trans HW.out.1; obtain ⟨m0, m1, m2, m3, m4, m5, m6⟩ := cells7 hn2; have hx2 := (hb2.block _ (Array.getElem?_eq_some_iff.1 HW.out.2.1).1).trans HW.out.2.1; obtain ⟨x0, x1, x2, x3, x4, x5, x6⟩ := cells7 hx2; obtain ⟨u0, u1, u2, u3, u4, u5, u6⟩ := free7 hx2)
        have hx2 := (hb2.block _ (Array.getElem?_eq_some_iff.1 HW.out.2.1).1).trans HW.out.2.1
        have hb3 := HW.out.2.2.1.trans (hb2.mono HW.out.2.2.1.size)
        refine fin20 (ok := z == 1) rfl rfl hx2 (HW.out.2.2.2.1.keep (fun _ h => h) (fun g hg C fz _ => hb2.block _ (by have := HW.out.2.2.1.size; omega))) hb3 (fun h => ?_) (fun h => ?_)
        · have : z = 1 := by simpa using h
          unfold leadP
          rw [HW.out.2.2.2.2.1, if_neg HM.out, if_pos this]
        · have : ¬ z = 1 := by simpa using h
          unfold leadP
          rw [HW.out.2.2.2.2.1, if_neg HM.out, if_neg this]
end
end Go.Proofs.YtnncldnpkfjhbaaGreatDoor
