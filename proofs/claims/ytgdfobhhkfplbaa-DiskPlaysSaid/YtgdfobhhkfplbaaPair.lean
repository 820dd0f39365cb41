/-
  Both disks side by side.
-/
import Derived.Test.YtgdfobhhkfplbaaOpenOps
namespace Go.Proofs.Ytgdfobhhkfplbaa
set_option linter.unusedVariables false
open Go.RowKit

structure DSt where
  S : List (List Nat)
  W : List (Nat × List Nat)
  arm : Nat
  off : Bool

theorem apart {w : World} {O : Nat → Prop} {p q : Nat} {kv wv mv sv uv : Value} {S S2 : List (List Nat)} {W W2 : List (Nat × List Nat)} {arm arm2 : Nat} {down off2 : Bool} (h : Dk w O p kv wv mv S W arm down) (r : RDk w q sv uv S2 W2 arm2 off2) : ∀ k, Mine p kv wv mv k → ¬ RMine q sv uv k := by
  intro k hm hr
  have key : ∃ cs t fr, w.heap[k]? = some (.cells cs t fr) ∧ (t = 42 ∨ t = 65 ∨ t = 72) := by
    rcases hr with rfl | hk | hk
    · exact ⟨_, _, _, r.row, .inl rfl⟩
    · rcases r.kept.2 with ⟨e, _⟩ | ⟨g, cap, cur, e, _, hh, _⟩
      · rw [e] at hk; cases hk
      · rw [e] at hk
        simp [Value.ownBlock] at hk
        subst hk
        exact ⟨_, _, _, hh, .inr (.inl rfl)⟩
    · rcases r.waits.2 with ⟨e, _⟩ | ⟨g, cap, cur, e, _, hh, _⟩
      · rw [e] at hk; cases hk
      · rw [e] at hk
        simp [Value.ownBlock] at hk
        subst hk
        exact ⟨_, _, _, hh, .inr (.inr rfl)⟩
  obtain ⟨cs, t, fr, hh, ht⟩ := key
  have ha : Alien w (.slice (some ⟨k, 0, none⟩) 0 0) := fun k' hk' => by
    obtain rfl : k = k' := by simpa [Value.ownBlock] using hk'
    exact ⟨cs, t, fr, hh, by rcases ht with rfl | rfl | rfl <;> decide, by rcases ht with rfl | rfl | rfl <;> decide, by rcases ht with rfl | rfl | rfl <;> decide⟩
  exact ha.not_mine h k rfl hm

/-- a row of bytes or numbers is no reference's -/
theorem row_not_rmine {w : World} {q : Nat} {sv uv v : Value} {S2 : List (List Nat)} {W2 : List (Nat × List Nat)} {arm2 : Nat} {off2 : Bool} (r : RDk w q sv uv S2 W2 arm2 off2) {cs : Array Value} {t : TypeId} {fr : Nat × Nat} {k : Nat} (hh : w.heap[k]? = some (.cells cs t fr)) (h1 : t ≠ 42) (h2 : t ≠ 65) (h3 : t ≠ 72) : ¬ RMine q sv uv k := by
  rintro (rfl | hk | hk)
  · have := r.row
    unfold RV at this
    rw [this] at hh
    simp at hh
    exact h1 hh.2.1.symm
  · exact ownsRow_ne r.kept hh h2 k hk rfl
  · exact ownsRow_ne r.waits hh h3 k hk rfl

/-- both disks, each with its state -/
structure Pair (B : Nat) (w0 w : World) (p q : Nat) (P R : DSt) : Prop where
  prog : ∃ kv wv mv, Dk w (Mine p kv wv mv) p kv wv mv P.S P.W P.arm P.off ∧ Lies B w (Mine p kv wv mv)
  ref : ∃ sv uv, RDk w q sv uv R.S R.W R.arm R.off ∧ Lies B w (RMine q sv uv)
  below : Below B w0 w
  base : B ≤ w0.heap.size

theorem Pair.good {B : Nat} {w0 w : World} {p q : Nat} {P R : DSt} (h : Pair B w0 w p q P R) : Good P.S P.W := by
  obtain ⟨kv, wv, mv, hd, _⟩ := h.prog
  exact hd.good
theorem Pair.step {B : Nat} {w0 w w' : World} {p q : Nat} {P R : DSt} (h : Pair B w0 w p q P R) (hb : Below w.heap.size w w') : Pair B w0 w' p q P R := by
  obtain ⟨kv, wv, mv, hd, hl⟩ := h.prog
  obtain ⟨sv, uv, hr, hl2⟩ := h.ref
  have hs := h.below.size
  have hb0 := h.base
  have hbs : Beside (fun _ => False) w w' := ⟨hb.os, hb.tape, hb.output, hb.size, fun k hk _ => hb.block k hk⟩
  exact ⟨⟨kv, wv, mv, hd.beside hbs (fun _ _ h => h), hl.mono hb.size⟩, ⟨sv, uv, hr.beside hbs (fun _ _ h => h), hl2.mono hb.size⟩, h.below.trans (hb.mono (by omega)), hb0⟩
/-- a change of a row that is neither's -/
theorem Pair.row {B : Nat} {w0 w w' : World} {p q : Nat} {P R : DSt} {v : Value} (h : Pair B w0 w p q P R) (hb : Beside (fun k => v.ownBlock = some k) w w') (hB : ∀ k, v.ownBlock = some k → B ≤ k)
    (ht : ∀ k, v.ownBlock = some k → ∃ cs t fr, w.heap[k]? = some (.cells cs t fr) ∧ (t = 5 ∨ t = 3)) : Pair B w0 w' p q P R := by
  obtain ⟨kv, wv, mv, hd, hl⟩ := h.prog
  obtain ⟨sv, uv, hr, hl2⟩ := h.ref
  have hs := h.below.size
  have hb0 := h.base
  have ha : Alien w v := fun k hk => by
    obtain ⟨cs, t, fr, hh, h5⟩ := ht k hk
    exact ⟨cs, t, fr, hh, by rcases h5 with rfl | rfl <;> decide, by rcases h5 with rfl | rfl <;> decide, by rcases h5 with rfl | rfl <;> decide⟩
  exact ⟨⟨kv, wv, mv, hd.beside hb (fun k hk hv => ha.not_mine hd k hv hk), hl.mono hb.size⟩, ⟨sv, uv, hr.beside hb (fun k hk hv => by
    obtain ⟨cs, t, fr, hh, h5⟩ := ht k hv
    exact row_not_rmine (v := v) hr hh (by rcases h5 with rfl | rfl <;> decide) (by rcases h5 with rfl | rfl <;> decide) (by rcases h5 with rfl | rfl <;> decide) hk), hl2.mono hb.size⟩, h.below.trans (hb.below hB (by omega)), hb0⟩

/-- rows of bytes, of numbers, and a call of the script are as they were -/
def Keeps (w w' : World) : Prop := w.heap.size ≤ w'.heap.size ∧ ∀ (k : Nat) (cs : Array Value) (t : TypeId) (fr : Nat × Nat), w.heap[k]? = some (Obj.cells cs t fr) → (t = 3 ∨ t = 5 ∨ t = 33) → w'.heap[k]? = w.heap[k]?
theorem Keeps.refl (w : World) : Keeps w w := ⟨Nat.le_refl _, fun _ _ _ _ _ _ => rfl⟩
theorem Keeps.trans {a b c : World} (h : Keeps a b) (k : Keeps b c) : Keeps a c := ⟨Nat.le_trans h.1 k.1, fun i cs t fr hi ht => (k.2 i cs t fr ((h.2 i cs t fr hi ht).trans hi) ht).trans (h.2 i cs t fr hi ht)⟩
theorem keeps_prog {w w' : World} {O : Nat → Prop} {p : Nat} {kv wv mv : Value} {S : List (List Nat)} {W : List (Nat × List Nat)} {arm : Nat} {down : Bool} (h : Dk w O p kv wv mv S W arm down) (hb : Beside (Mine p kv wv mv) w w') : Keeps w w' :=
  ⟨hb.size, fun k cs t fr hk ht => hb.block k (lt_of_block hk) (fun hm => by
    have ha : Alien w (.slice (some ⟨k, 0, none⟩) 0 0) := fun k' hk' => by
      obtain rfl : k = k' := by simpa [Value.ownBlock] using hk'
      exact ⟨cs, t, fr, hk, by rcases ht with rfl | rfl | rfl <;> decide, by rcases ht with rfl | rfl | rfl <;> decide, by rcases ht with rfl | rfl | rfl <;> decide⟩
    exact ha.not_mine h k rfl hm)⟩
theorem keeps_ref {w w' : World} {q : Nat} {sv uv : Value} {S2 : List (List Nat)} {W2 : List (Nat × List Nat)} {arm2 : Nat} {off2 : Bool} (r : RDk w q sv uv S2 W2 arm2 off2) (hb : Beside (RMine q sv uv) w w') : Keeps w w' :=
  ⟨hb.size, fun k cs t fr hk ht => hb.block k (lt_of_block hk) (row_not_rmine (v := .slice none 0 0) r hk (by rcases ht with rfl | rfl | rfl <;> decide) (by rcases ht with rfl | rfl | rfl <;> decide) (by rcases ht with rfl | rfl | rfl <;> decide))⟩
theorem Keeps.below {w w' : World} (h : Below w.heap.size w w') : Keeps w w' := ⟨h.size, fun k cs t fr hk _ => h.block k (lt_of_block hk)⟩
theorem Keeps.ownB {w w' : World} (h : Keeps w w') {B : Nat} {v : Value} {l : List Nat} (ho : OwnB w B v l) : OwnB w' B v l := by
  refine ⟨ho.1, ?_⟩
  rcases ho.2 with h2 | ⟨g, cap, cur, rfl, hg, hh, r⟩
  · exact .inl h2
  · exact .inr ⟨g, cap, cur, rfl, hg, by rw [h.2 g _ _ _ hh (.inr (.inl rfl))]; exact hh, r⟩
theorem Keeps.ownI {w w' : World} (h : Keeps w w') {B : Nat} {v : Value} {l : List Int} (ho : OwnI w B v l) : OwnI w' B v l := by
  refine ⟨ho.1, ?_⟩
  rcases ho.2 with h2 | ⟨g, cap, cur, rfl, hg, hh, r⟩
  · exact .inl h2
  · exact .inr ⟨g, cap, cur, rfl, hg, by rw [h.2 g _ _ _ hh (.inl rfl)]; exact hh, r⟩
theorem Keeps.ownF {w w' : World} (h : Keeps w w') {B : Nat} {v : Value} {l m : List Nat} (ho : OwnF w B v l m) : OwnF w' B v l m := by
  obtain ⟨g, e, h1, h2, h3, h4⟩ := ho
  exact ⟨g, e, h.ownB h1, h2, Nat.lt_of_lt_of_le h3 h.1, h4⟩
theorem Keeps.ownG {w w' : World} (h : Keeps w w') {B : Nat} {v : Value} {l m : List Int} (ho : OwnG w B v l m) : OwnG w' B v l m := by
  obtain ⟨g, e, h1, h2, h3, h4⟩ := ho
  exact ⟨g, e, h.ownI h1, h2, Nat.lt_of_lt_of_le h3 h.1, h4⟩

/-- a call of the program's disk -/
theorem Pair.progCall {B : Nat} {w0 w : World} {p q : Nat} {P R P' : DSt} {v : Value} {f : Nat} {args : Array Value} (h : Pair B w0 w p q P R)
    (hc : ∀ kv wv mv, Dk w (Mine p kv wv mv) p kv wv mv P.S P.W P.arm P.off → Calls Try.prog f args w fun e w' => DkEnd w (Mine p kv wv mv) p kv P'.S P'.W P'.arm P'.off v e w') :
    Calls Try.prog f args w fun e w' => e = .returned v ∧ Pair B w0 w' p q P' R ∧ Keeps w w' := by
  obtain ⟨kv, wv, mv, hd, hl⟩ := h.prog
  obtain ⟨sv, uv, hr, hl2⟩ := h.ref
  have hs := h.below.size
  have hb0 := h.base
  refine (hc kv wv mv hd).mono ?_
  rintro e w' ⟨wv', mv', O', rfl, hd', hbs, ho⟩
  refine ⟨rfl, ⟨⟨kv, wv', mv', hd'.mine, fun k hk => ?_⟩, ⟨sv, uv, hr.beside hbs (fun k hk hm => apart hd hr k hm hk), hl2.mono hbs.size⟩, h.below.trans (hbs.below (fun k hk => (hl k hk).1) (by omega)), hb0⟩, keeps_prog hd hbs⟩
  have := hbs.size
  rcases ho k (hd'.sub k hk) with h1 | h1
  · have := hl k h1
    omega
  · omega
/-- a call of the reference's -/
theorem Pair.refCall {B : Nat} {w0 w : World} {p q : Nat} {P R R' : DSt} {v : Value} {f : Nat} {args : Array Value} (h : Pair B w0 w p q P R)
    (hc : ∀ sv uv, RDk w q sv uv R.S R.W R.arm R.off → Calls Try.prog f args w fun e w' => REnd w q sv uv R'.S R'.W R'.arm R'.off v e w') :
    Calls Try.prog f args w fun e w' => e = .returned v ∧ Pair B w0 w' p q P R' ∧ Keeps w w' := by
  obtain ⟨kv, wv, mv, hd, hl⟩ := h.prog
  obtain ⟨sv, uv, hr, hl2⟩ := h.ref
  have hs := h.below.size
  have hb0 := h.base
  refine (hc sv uv hr).mono ?_
  rintro e w' ⟨sv', uv', rfl, hd', hbs, ho⟩
  refine ⟨rfl, ⟨⟨kv, wv, mv, hd.beside hbs (fun k hk hm => apart hd hr k hk hm), hl.mono hbs.size⟩, ⟨sv', uv', hd', fun k hk => ?_⟩, h.below.trans (hbs.below (fun k hk => (hl2 k hk).1) (by omega)), hb0⟩, keeps_ref hr hbs⟩
  have := hbs.size
  rcases ho k hk with h1 | h1
  · have := hl2 k h1
    omega
  · omega

/-- what Read answers -/
def rdE (P : DSt) (a : Int) : Int := if P.off then 3 else if hasB P.S.length a then 0 else 1
def rdL (P : DSt) (a : Int) : List Nat := if P.off then [] else if hasB P.S.length a then shown P.S P.W a.toNat else []
def RdPost (P : DSt) (a : Int) (w : World) (e : Ending) (w' : World) : Prop := ∃ o, e = .returned (.tuple #[o, .int .i64 (rdE P a)]) ∧ OwnB w' w.heap.size o (rdL P a) ∧ Below w.heap.size w w'

theorem Pair.read {B : Nat} {w0 w : World} {p q : Nat} {P R : DSt} (h : Pair B w0 w p q P R) (a : Int) : Calls Try.prog 10 #[.pointer (some ⟨p, 0, none⟩), .int .i64 a] w fun e w' => RdPost P a w e w' := by
  obtain ⟨S, W, arm, off⟩ := P
  obtain ⟨kv, wv, mv, hd, hl⟩ := h.prog
  simp only at hd
  cases off with
  | true => exact (read_down hd.row a).mono fun e w' ⟨he, hw⟩ => ⟨_, he, hw ▸ World.ownsRow_nil _ _ _ _, hw ▸ Below.refl _ _⟩
  | false =>
    obtain ⟨ka, kc, rfl⟩ := own_shape hd.kept
    cases hb : hasB S.length a with
    | false =>
      refine (read_arg hd.row hd.good.sl a hb).mono fun e w' ⟨he, hw⟩ => ?_
      unfold RdPost
      simp only [rdE, rdL, hb, Bool.false_eq_true, if_false]
      exact ⟨_, he, hw ▸ World.ownsRow_nil _ _ _ _, hw ▸ Below.refl _ _⟩
    | true =>
      have h2 : 0 ≤ a ∧ a < S.length := by simpa [hasB] using hb
      obtain ⟨n, rfl⟩ := Int.eq_ofNat_of_zero_le h2.1
      refine (read_ok hd n (by omega)).mono fun e w' he => ?_
      unfold RdPost
      simp only [rdE, rdL, hb, Bool.false_eq_true, if_false, if_true]
      exact he
theorem shown_len {S : List (List Nat)} {W : List (Nat × List Nat)} (hG : Good S W) {a : Nat} (ha : a < S.length) : (shown S W a).length = 64 ∧ ∀ n ∈ shown S W a, n < 256 := by
  unfold shown
  cases hl : lastIdx W a with
  | none =>
    simp only [List.getD_eq_getElem?_getD, List.getElem?_eq_getElem ha, Option.getD_some]
    exact ⟨hG.s64 _ (List.getElem_mem ha), hG.s256 _ (List.getElem_mem ha)⟩
  | some i =>
    obtain ⟨hi, _⟩ := lastIdx_some hl
    simp only [List.getElem?_eq_getElem hi, Option.map_some, Option.getD_some]
    exact ⟨hG.w64 _ (List.getElem_mem hi), hG.w256 _ (List.getElem_mem hi)⟩
theorem rdL_lt {P : DSt} (hG : Good P.S P.W) (a : Int) : ∀ n ∈ rdL P a, n < 256 := by
  unfold rdL
  split
  · simp
  · split
    · rename_i h1 h2
      have h3 : 0 ≤ a ∧ a < P.S.length := by simpa [hasB] using h2
      exact (shown_len hG (by omega)).2
    · simp
theorem Pair.rread {B : Nat} {w0 w : World} {p q : Nat} {P R : DSt} (h : Pair B w0 w p q P R) (hG : Good R.S R.W) (a : Int) : Calls Try.prog 11 #[.pointer (some ⟨q, 0, none⟩), .int .i64 a] w fun e w' => RdPost R a w e w' := by
  obtain ⟨S, W, arm, off⟩ := R
  obtain ⟨sv, uv, hd, hl⟩ := h.ref
  simp only at hd hG
  cases off with
  | true => exact (rread_off hd.row a).mono fun e w' ⟨he, hw⟩ => ⟨_, he, hw ▸ World.ownsRow_nil _ _ _ _, hw ▸ Below.refl _ _⟩
  | false =>
    obtain ⟨ka, kc, rfl⟩ := own_shape hd.kept
    cases hb : hasB S.length a with
    | false =>
      refine (rread_arg hd.row a hb).mono fun e w' ⟨he, hw⟩ => ?_
      unfold RdPost
      simp only [rdE, rdL, hb, Bool.false_eq_true, if_false]
      exact ⟨_, he, hw ▸ World.ownsRow_nil _ _ _ _, hw ▸ Below.refl _ _⟩
    | true =>
      have h2 : 0 ≤ a ∧ a < S.length := by simpa [hasB] using hb
      obtain ⟨n, rfl⟩ := Int.eq_ofNat_of_zero_le h2.1
      refine (rread_ok hd hG n (by omega) (shown_len hG (by omega)).1).mono fun e w' he => ?_
      unfold RdPost
      simp only [rdE, rdL, hb, Bool.false_eq_true, if_false, if_true]
      exact he

/-- what Flush makes -/
def flushSt (P : DSt) : DSt := if P.off then P else if (hitOf P.arm).2 then ⟨P.S, P.W, (hitOf P.arm).1, true⟩ else ⟨flushed P.S P.W, [], (hitOf P.arm).1, false⟩
def flushE (P : DSt) : Int := if P.off then 3 else if (hitOf P.arm).2 then 3 else 0
theorem Pair.flush {B : Nat} {w0 w : World} {p q : Nat} {P R : DSt} (h : Pair B w0 w p q P R) (harm : P.arm ≤ 9223372036854775807) : Calls Try.prog 14 #[.pointer (some ⟨p, 0, none⟩)] w fun e w' => e = .returned (.int .i64 (flushE P)) ∧ Pair B w0 w' p q (flushSt P) R ∧ Keeps w w' := by
  obtain ⟨S, W, arm, off⟩ := P
  simp only at harm
  cases off with
  | true =>
    obtain ⟨kv, wv, mv, hd, hl⟩ := h.prog
    exact (flush_down hd.row).mono fun e w' ⟨he, hw⟩ => ⟨he, hw ▸ h, hw ▸ Keeps.refl _⟩
  | false =>
    obtain ⟨a2, d2, hh⟩ : ∃ a2 d2, hitOf arm = (a2, d2) := ⟨_, _, rfl⟩
    simp only [flushSt, flushE, hh, Bool.false_eq_true, if_false]
    cases d2 with
    | true => exact h.progCall fun kv wv mv hd => flush_hit hd harm hh
    | false => exact h.progCall fun kv wv mv hd => flush_ok hd harm hh
theorem Pair.rflush {B : Nat} {w0 w : World} {p q : Nat} {P R : DSt} (h : Pair B w0 w p q P R) (hG : Good R.S R.W) (harm : R.arm ≤ 9223372036854775807) : Calls Try.prog 15 #[.pointer (some ⟨q, 0, none⟩)] w fun e w' => e = .returned (.int .i64 (flushE R)) ∧ Pair B w0 w' p q P (flushSt R) ∧ Keeps w w' := by
  obtain ⟨S, W, arm, off⟩ := R
  simp only at harm hG
  cases off with
  | true =>
    obtain ⟨sv, uv, hd, hl⟩ := h.ref
    exact (rflush_off hd.row).mono fun e w' ⟨he, hw⟩ => ⟨he, hw ▸ h, hw ▸ Keeps.refl _⟩
  | false =>
    obtain ⟨a2, d2, hh⟩ : ∃ a2 d2, hitOf arm = (a2, d2) := ⟨_, _, rfl⟩
    simp only [flushSt, flushE, hh, Bool.false_eq_true, if_false]
    cases d2 with
    | true => exact h.refCall fun sv uv hd => rflush_hit hd harm hh
    | false => exact h.refCall fun sv uv hd => rflush_ok hd hG harm hh

/-- what Write makes -/
def writeSt (P : DSt) (a : Int) (b : List Nat) : DSt := if P.off then P else if hasB P.S.length a = true ∧ b.length = 64 then ⟨P.S, P.W ++ [(a.toNat, b)], (hitOf P.arm).1, (hitOf P.arm).2⟩ else P
def writeE (P : DSt) (a : Int) (b : List Nat) : Int := if P.off then 3 else if hasB P.S.length a = true ∧ b.length = 64 then (if (hitOf P.arm).2 then 3 else 0) else 1
theorem Pair.write {B : Nat} {w0 w : World} {p q : Nat} {P R : DSt} (h : Pair B w0 w p q P R) (harm : P.arm ≤ 9223372036854775807) (hwl : P.W.length < 1000000) (a : Int) (v : Value) (b : List Nat) (hb : RowB w v b) (hv : Alien w v) :
    Calls Try.prog 24 #[.pointer (some ⟨p, 0, none⟩), .int .i64 a, v] w fun e w' => e = .returned (.int .i64 (writeE P a b)) ∧ Pair B w0 w' p q (writeSt P a b) R ∧ Keeps w w' := by
  obtain ⟨S, W, arm, off⟩ := P
  simp only at harm hwl
  cases off with
  | true =>
    obtain ⟨kv, wv, mv, hd, hl⟩ := h.prog
    exact (write_down hd.row a v).mono fun e w' ⟨he, hw⟩ => ⟨he, hw ▸ h, hw ▸ Keeps.refl _⟩
  | false =>
    by_cases hc : hasB S.length a = true ∧ b.length = 64
    · have h2 : 0 ≤ a ∧ a < S.length := by simpa [hasB] using hc.1
      obtain ⟨n, rfl⟩ := Int.eq_ofNat_of_zero_le h2.1
      simp only [writeSt, writeE, Bool.false_eq_true, if_false, if_pos hc, Int.toNat_natCast]
      have hn : n < S.length := by omega
      exact h.progCall fun kv wv mv hd => write_ok hd n hn v b hb hc.2 (hv.not_mine hd) hwl harm
    · simp only [writeSt, writeE, Bool.false_eq_true, if_false, if_neg hc]
      obtain ⟨kv, wv, mv, hd, hl⟩ := h.prog
      obtain ⟨ka, kc, rfl⟩ := own_shape hd.kept
      obtain ⟨va, vn, vc, rfl, hvl, _⟩ := hb
      refine (write_arg hd.row hd.good.sl a va vn vc ?_).mono fun e w' ⟨he, hw⟩ => ⟨he, hw ▸ h, hw ▸ Keeps.refl _⟩
      cases hq : hasB S.length a with
      | false => exact .inl rfl
      | true => exact .inr fun e => hc ⟨hq, by omega⟩
theorem Pair.rwrite {B : Nat} {w0 w : World} {p q : Nat} {P R : DSt} (h : Pair B w0 w p q P R) (hS : R.S.length ≤ 65536) (harm : R.arm ≤ 9223372036854775807) (hwl : R.W.length < 1000000) (a : Int) (v : Value) (b : List Nat) (hb : RowB w v b) :
    Calls Try.prog 27 #[.pointer (some ⟨q, 0, none⟩), .int .i64 a, v] w fun e w' => e = .returned (.int .i64 (writeE R a b)) ∧ Pair B w0 w' p q P (writeSt R a b) ∧ Keeps w w' := by
  obtain ⟨S, W, arm, off⟩ := R
  simp only at harm hwl hS
  cases off with
  | true =>
    obtain ⟨sv, uv, hd, hl⟩ := h.ref
    exact (rwrite_off hd.row a v).mono fun e w' ⟨he, hw⟩ => ⟨he, hw ▸ h, hw ▸ Keeps.refl _⟩
  | false =>
    by_cases hc : hasB S.length a = true ∧ b.length = 64
    · have h2 : 0 ≤ a ∧ a < S.length := by simpa [hasB] using hc.1
      obtain ⟨n, rfl⟩ := Int.eq_ofNat_of_zero_le h2.1
      simp only [writeSt, writeE, Bool.false_eq_true, if_false, if_pos hc, Int.toNat_natCast]
      have hn : n < S.length := by omega
      exact h.refCall fun sv uv hd => rwrite_ok hd n hn hS v b hb hc.2 hwl harm
    · simp only [writeSt, writeE, Bool.false_eq_true, if_false, if_neg hc]
      obtain ⟨sv, uv, hd, hl⟩ := h.ref
      obtain ⟨ka, kc, rfl⟩ := own_shape hd.kept
      obtain ⟨va, vn, vc, rfl, hvl, _⟩ := hb
      refine (rwrite_arg hd.row a va vn vc ?_).mono fun e w' ⟨he, hw⟩ => ⟨he, hw ▸ h, hw ▸ Keeps.refl _⟩
      cases hq : hasB S.length a with
      | false => exact .inl rfl
      | true => exact .inr fun e => hc ⟨hq, by omega⟩

theorem RowI.intB {w : World} {v : Value} {K : List Int} (h : RowI w v K) : IntB w v K := by
  rcases h.shape with ⟨rfl, a, cap, rfl, _⟩ | ⟨b, of, cap, rfl, _, h1, h2, h3⟩
  · exact .inl ⟨⟨a, cap, rfl⟩, rfl⟩
  · exact .inr ⟨b, of, cap, rfl, h1, h2, h3⟩
def crashSt (P : DSt) (K : List Int) : DSt := ⟨crashed P.S P.W K, [], P.arm, true⟩
def startSt (P : DSt) : DSt := ⟨P.S, if P.off then [] else P.W, 0, false⟩
def armSt (P : DSt) (n : Int) : DSt := ⟨P.S, P.W, (max n 0).toNat, P.off⟩
theorem Pair.crash {B : Nat} {w0 w : World} {p q : Nat} {P R : DSt} (h : Pair B w0 w p q P R) (v : Value) (K : List Int) (hk : IntB w v K) (hv : Alien w v) :
    Calls Try.prog 19 #[.pointer (some ⟨p, 0, none⟩), v] w fun e w' => e = .returned (.int .i64 0) ∧ Pair B w0 w' p q (crashSt P K) R ∧ Keeps w w' :=
  h.progCall fun kv wv mv hd => crash_ok hd v K hk (hv.not_mine hd)
theorem Pair.rcrash {B : Nat} {w0 w : World} {p q : Nat} {P R : DSt} (h : Pair B w0 w p q P R) (hG : Good R.S R.W) (v : Value) (K : List Int) (hk : IntB w v K) (hv : 0 < K.length → ∀ k, v.ownBlock = some k → k < B) :
    Calls Try.prog 18 #[.pointer (some ⟨q, 0, none⟩), v] w fun e w' => e = .returned (.tuple #[]) ∧ Pair B w0 w' p q P (crashSt R K) ∧ Keeps w w' := by
  obtain ⟨sv0, uv0, _, hl0⟩ := h.ref
  obtain ⟨kv, wv, mv, hd, hl⟩ := h.prog
  obtain ⟨sv, uv, hr, hl2⟩ := h.ref
  have hs := h.below.size
  have hb0 := h.base
  refine (Proofs.Ytgdfobhhkfplbaa.rcrash hr hG v K hk (fun h0 k hk hm => by have := hv h0 k hk; have := hl2 k hm; omega)).mono ?_
  rintro e w' ⟨sv', uv', rfl, hd', hbs, ho⟩
  refine ⟨rfl, ⟨⟨kv, wv, mv, hd.beside hbs (fun k hk hm => apart hd hr k hk hm), hl.mono hbs.size⟩, ⟨sv', uv', hd', fun k hk => ?_⟩, h.below.trans (hbs.below (fun k hk => (hl2 k hk).1) (by omega)), hb0⟩, keeps_ref hr hbs⟩
  have := hbs.size
  rcases ho k hk with h1 | h1
  · have := hl2 k h1
    omega
  · omega
theorem Pair.start {B : Nat} {w0 w : World} {p q : Nat} {P R : DSt} (h : Pair B w0 w p q P R) : Calls Try.prog 22 #[.pointer (some ⟨p, 0, none⟩)] w fun e w' => e = .returned (.int .i64 0) ∧ Pair B w0 w' p q (startSt P) R ∧ Keeps w w' :=
  h.progCall fun kv wv mv hd => start_ok hd
theorem Pair.rstart {B : Nat} {w0 w : World} {p q : Nat} {P R : DSt} (h : Pair B w0 w p q P R) : Calls Try.prog 21 #[.pointer (some ⟨q, 0, none⟩)] w fun e w' => e = .returned (.tuple #[]) ∧ Pair B w0 w' p q P (startSt R) ∧ Keeps w w' :=
  h.refCall fun sv uv hd => Proofs.Ytgdfobhhkfplbaa.rstart hd
theorem Pair.arm {B : Nat} {w0 w : World} {p q : Nat} {P R : DSt} (h : Pair B w0 w p q P R) (n : Int) : Calls Try.prog 16 #[.pointer (some ⟨p, 0, none⟩), .int .i64 n] w fun e w' => e = .returned (.int .i64 0) ∧ Pair B w0 w' p q (armSt P n) R ∧ Keeps w w' :=
  h.progCall fun kv wv mv hd => arm_ok hd n
theorem Pair.rarm {B : Nat} {w0 w : World} {p q : Nat} {P R : DSt} (h : Pair B w0 w p q P R) (n : Int) : Pair B w0 (w.setCell ⟨q, 2, none⟩ (.int .i64 (max n 0))) p q P (armSt R n) := by
  obtain ⟨kv, wv, mv, hd, hl⟩ := h.prog
  obtain ⟨sv, uv, hr, hl2⟩ := h.ref
  have hb : Beside (· = q) w (w.setCell ⟨q, 2, none⟩ (.int .i64 (max n 0))) := Beside.one _ _ _ _
  have hs := h.below.size
  have hb0 := h.base
  refine ⟨⟨kv, wv, mv, hd.beside hb (fun k hk hm => apart hd hr k hk (.inl hm)), hl.mono hb.size⟩, ⟨sv, uv, hr.turned ?_ hb, hl2.mono hb.size⟩, h.below.trans (hb.below (fun k hk => hk ▸ (hl2 q (.inl rfl)).1) (by omega)), hb0⟩
  have := hr.row.set2 (max n 0)
  simp only [armSt]
  rwa [show (((max n 0).toNat : Nat) : Int) = max n 0 from by omega]
theorem Pair.qcells {B : Nat} {w0 w : World} {p q : Nat} {P R : DSt} (h : Pair B w0 w p q P R) : ∃ ua uc, w.cell? ⟨q, 1, none⟩ = some (.slice ua R.W.length uc) ∧ w.cell? ⟨q, 2, none⟩ = some (.int .i64 (R.arm : Nat)) ∧ w.cell? ⟨q, 3, none⟩ = some (.bool R.off) ∧ w.frozen? ⟨q, 2, none⟩ = false ∧ q < w.heap.size := by
  obtain ⟨sv, uv, hr, hl2⟩ := h.ref
  obtain ⟨ua, uc, rfl⟩ := own_shape hr.waits
  exact ⟨ua, uc, hr.row.cell1, hr.row.cell2, hr.row.cell3, hr.row.free 2, lt_of_block hr.row⟩
theorem Pair.down {B : Nat} {w0 w : World} {p q : Nat} {P R : DSt} (h : Pair B w0 w p q P R) : Calls Try.prog 29 #[.pointer (some ⟨p, 0, none⟩)] w fun e w' => e = .returned (.bool P.off) ∧ w' = w := by
  obtain ⟨kv, wv, mv, hd, hl⟩ := h.prog
  exact (down_ok hd).mono fun e w' ⟨h1, h2⟩ => ⟨h1, h2.symm⟩
theorem Pair.waiting {B : Nat} {w0 w : World} {p q : Nat} {P R : DSt} (h : Pair B w0 w p q P R) : Calls Try.prog 30 #[.pointer (some ⟨p, 0, none⟩)] w fun e w' => e = .returned (.int .i64 (P.W.length : Nat)) ∧ w' = w := by
  obtain ⟨kv, wv, mv, hd, hl⟩ := h.prog
  exact (waiting_ok hd).mono fun e w' ⟨h1, h2⟩ => ⟨h1, h2.symm⟩
theorem Pair.size {B : Nat} {w0 w : World} {p q : Nat} {P R : DSt} (h : Pair B w0 w p q P R) : Calls Try.prog 31 #[.pointer (some ⟨p, 0, none⟩)] w fun e w' => e = .returned (.int .i64 (P.S.length : Nat)) ∧ w' = w := by
  obtain ⟨kv, wv, mv, hd, hl⟩ := h.prog
  exact (size_ok hd).mono fun e w' ⟨h1, h2⟩ => ⟨h1, h2.symm⟩

/-- the disk, its fork, and the reference -/
def Trio (B : Nat) (w0 w : World) (p p2 q : Nat) (P0 P R : DSt) : Prop := ∃ kv wv mv kv2 wv2 mv2 sv uv, Dk w (Mine p kv wv mv) p kv wv mv P0.S P0.W P0.arm P0.off ∧ Lies B w (Mine p kv wv mv) ∧ Dk w (Mine p2 kv2 wv2 mv2) p2 kv2 wv2 mv2 P.S P.W P.arm P.off ∧ Lies B w (Mine p2 kv2 wv2 mv2) ∧
  (∀ k, Mine p kv wv mv k → ¬ Mine p2 kv2 wv2 mv2 k) ∧ RDk w q sv uv R.S R.W R.arm R.off ∧ Lies B w (RMine q sv uv) ∧ Below B w0 w ∧ B ≤ w0.heap.size
theorem Pair.fork {B : Nat} {w0 w : World} {p q : Nat} {P R : DSt} (h : Pair B w0 w p q P R) : Calls Try.prog 23 #[.pointer (some ⟨p, 0, none⟩)] w fun e w' => ∃ p2, e = .returned (.pointer (some ⟨p2, 0, none⟩)) ∧ Trio B w0 w' p p2 q P P R := by
  have hp := h
  obtain ⟨kv, wv, mv, hd, hl⟩ := h.prog
  refine (fork_ok hd).mono ?_
  rintro e w' ⟨kv2, wv2, mv2, rfl, hd2, hb, hge⟩
  have h' := hp.step hb
  obtain ⟨sv, uv, hr, hl2⟩ := h'.ref
  have hs := h.below.size
  have hs' := hb.size
  have hb0 := h.base
  have hbs : Beside (fun _ => False) w w' := ⟨hb.os, hb.tape, hb.output, hb.size, fun k hk _ => hb.block k hk⟩
  have hd' := hd.beside hbs (fun _ _ h => h)
  refine ⟨_, rfl, kv, wv, mv, kv2, wv2, mv2, sv, uv, hd', hl.mono hs', hd2, fun k hk => ⟨by have := hge k hk; omega, ?_⟩, fun k hk hk2 => by have := hge k hk2; have := hl k hk; omega, hr, hl2, h'.below, hb0⟩
  rcases hk with rfl | hk | hk | hk
  · exact lt_of_block hd2.row
  · exact own_lt hd2.kept k hk
  · exact own_lt hd2.waits k hk
  · rcases hd2.last with ⟨e, _⟩ | ⟨m, L, c, e, hm, _⟩
    · rw [hk] at e; cases e
    · rw [hk] at e
      obtain rfl : k = m := by simpa using e
      exact hm.lt
theorem Trio.step {B : Nat} {w0 w w' : World} {p p2 q : Nat} {P0 P R : DSt} (h : Trio B w0 w p p2 q P0 P R) (hb : Below w.heap.size w w') : Trio B w0 w' p p2 q P0 P R := by
  obtain ⟨kv, wv, mv, kv2, wv2, mv2, sv, uv, h1, h2, h3, h4, h5, h6, h7, h8, h9⟩ := h
  have hs := h8.size
  have hbs : Beside (fun _ => False) w w' := ⟨hb.os, hb.tape, hb.output, hb.size, fun k hk _ => hb.block k hk⟩
  exact ⟨kv, wv, mv, kv2, wv2, mv2, sv, uv, h1.beside hbs (fun _ _ h => h), h2.mono hb.size, h3.beside hbs (fun _ _ h => h), h4.mono hb.size, h5, h6.beside hbs (fun _ _ h => h), h7.mono hb.size, h8.trans (hb.mono (by omega)), h9⟩
theorem Trio.pair {B : Nat} {w0 w : World} {p p2 q : Nat} {P0 P R : DSt} (h : Trio B w0 w p p2 q P0 P R) : Pair B w0 w p2 q P R := by
  obtain ⟨kv, wv, mv, kv2, wv2, mv2, sv, uv, h1, h2, h3, h4, h5, h6, h7, h8, h9⟩ := h
  exact ⟨⟨_, _, _, h3, h4⟩, ⟨_, _, h6, h7⟩, h8, h9⟩
theorem Trio.old {B : Nat} {w0 w : World} {p p2 q : Nat} {P0 P R P' : DSt} {v : Value} {f : Nat} {args : Array Value} (h : Trio B w0 w p p2 q P0 P R)
    (hc : ∀ kv wv mv, Dk w (Mine p kv wv mv) p kv wv mv P0.S P0.W P0.arm P0.off → Calls Try.prog f args w fun e w' => DkEnd w (Mine p kv wv mv) p kv P'.S P'.W P'.arm P'.off v e w') :
    Calls Try.prog f args w fun e w' => (∃ v, e = .returned v) ∧ ∃ P0', P0'.W.length ≤ P'.W.length ∧ P0'.arm ≤ P'.arm ∧ Trio B w0 w' p p2 q P0' P R := by
  obtain ⟨kv, wv, mv, kv2, wv2, mv2, sv, uv, h1, h2, h3, h4, h5, h6, h7, h8, h9⟩ := h
  have hs := h8.size
  refine (hc kv wv mv h1).mono ?_
  rintro e w' ⟨wv', mv', O', rfl, hd', hbs, ho⟩
  refine ⟨⟨_, rfl⟩, P', Nat.le_refl _, Nat.le_refl _, kv, wv', mv', kv2, wv2, mv2, sv, uv, hd'.mine, fun k hk => ?_, h3.beside hbs (fun k hk hm => h5 k hm hk), h4.mono hbs.size, fun k hk hk2 => ?_, h6.beside hbs (fun k hk hm => apart h1 h6 k hm hk), h7.mono hbs.size, h8.trans (hbs.below (fun k hk => (h2 k hk).1) (by omega)), h9⟩
  · have := hbs.size
    rcases ho k (hd'.sub k hk) with g1 | g1
    · have := h2 k g1
      omega
    · omega
  · rcases ho k (hd'.sub k hk) with g1 | g1
    · exact h5 k g1 hk2
    · have := h4 k hk2
      omega
theorem hitOf_le (arm : Nat) : (hitOf arm).1 ≤ arm := by unfold hitOf; split <;> simp <;> omega
theorem Trio.oldWrite {B : Nat} {w0 w : World} {p p2 q : Nat} {P0 P R : DSt} (h : Trio B w0 w p p2 q P0 P R) (harm : P0.arm ≤ 9223372036854775807) (hwl : P0.W.length < 1000) (hn : 0 < P0.S.length) (v : Value) (b : List Nat) (hb : RowB w v b) (hbl : b.length = 64) (hv : Alien w v) :
    Calls Try.prog 24 #[.pointer (some ⟨p, 0, none⟩), .int .i64 0, v] w fun e w' => (∃ v, e = .returned v) ∧ ∃ P0', P0'.W.length < 1001 ∧ P0'.arm ≤ 9223372036854775807 ∧ Trio B w0 w' p p2 q P0' P R := by
  obtain ⟨S, W, arm, off⟩ := P0
  simp only at harm hwl hn
  have hh := hitOf_le arm
  have hwl2 : W.length < 1000000 := by omega
  cases off with
  | true =>
    have h' := h
    obtain ⟨kv, wv, mv, kv2, wv2, mv2, sv, uv, h1, _⟩ := h'
    exact (write_down h1.row 0 v).mono fun e w' ⟨he, hw⟩ => ⟨⟨_, he⟩, _, by simp only; omega, harm, hw ▸ h⟩
  | false =>
    refine (h.old (P' := ⟨S, W ++ [(0, b)], (hitOf arm).1, (hitOf arm).2⟩) fun kv wv mv hd => write_ok hd 0 hn v b hb hbl (hv.not_mine hd) hwl2 harm).mono ?_
    rintro e w' ⟨h1, P0', h2, h3, h4⟩
    simp at h2 h3
    exact ⟨h1, P0', by omega, by omega, h4⟩
theorem Trio.oldFlush {B : Nat} {w0 w : World} {p p2 q : Nat} {P0 P R : DSt} (h : Trio B w0 w p p2 q P0 P R) (harm : P0.arm ≤ 9223372036854775807) :
    Calls Try.prog 14 #[.pointer (some ⟨p, 0, none⟩)] w fun e w' => (∃ v, e = .returned v) ∧ ∃ P0', Trio B w0 w' p p2 q P0' P R := by
  obtain ⟨S, W, arm, off⟩ := P0
  simp only at harm
  cases off with
  | true =>
    have h' := h
    obtain ⟨kv, wv, mv, kv2, wv2, mv2, sv, uv, h1, _⟩ := h'
    exact (flush_down h1.row).mono fun e w' ⟨he, hw⟩ => ⟨⟨_, he⟩, _, hw ▸ h⟩
  | false =>
    obtain ⟨a2, d2, hh⟩ : ∃ a2 d2, hitOf arm = (a2, d2) := ⟨_, _, rfl⟩
    cases d2 with
    | true =>
      refine (h.old (P' := ⟨S, W, a2, true⟩) fun kv wv mv hd => flush_hit hd harm hh).mono ?_
      rintro e w' ⟨h1, P0', h2, h3, h4⟩
      exact ⟨h1, P0', h4⟩
    | false =>
      refine (h.old (P' := ⟨flushed S W, [], a2, false⟩) fun kv wv mv hd => flush_ok hd harm hh).mono ?_
      rintro e w' ⟨h1, P0', h2, h3, h4⟩
      exact ⟨h1, P0', h4⟩
end Go.Proofs.Ytgdfobhhkfplbaa
