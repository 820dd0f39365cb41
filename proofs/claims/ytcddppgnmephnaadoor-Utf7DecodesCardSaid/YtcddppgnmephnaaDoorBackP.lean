/-
  Plain laws: what is written is read. The reader of modified UTF-7 as a pure machine.
-/
import Derived.Test.YtcddppgnmephnaaDoorPure
namespace Go.Proofs.YtcddppgnmephnaaDoor
set_option linter.unusedVariables false
open Go.Lib

/-- which digit a sign is -/
def digVal (c : Nat) : Option Nat := (List.range 64).find? fun k => (digit k).toNat == c
theorem digVal_digit (k : Nat) (hk : k < 64) : digVal (digit k).toNat = some k := by
  have : ∀ k : Fin 64, digVal (digit k.val).toNat = some k.val := by decide +kernel
  exact this ⟨k, hk⟩
theorem digit_lt (k : Nat) (hk : k < 64) : (digit k).toNat < 128 ∧ digit k ≠ 45 := by
  have : ∀ k : Fin 64, (digit k.val).toNat < 128 ∧ digit k.val ≠ 45 := by decide +kernel
  exact this ⟨k, hk⟩

/-- a whole unit -/
def uS (x : List UInt8 × Nat) (v : Nat) : Option (List UInt8 × Nat) :=
  if x.2 ≠ 0 ∧ (v < 56320 ∨ 57344 ≤ v) then none
  else if x.2 ≠ 0 then some (x.1 ++ encodeRune (((x.2 - 55296) * 1024 + (v - 56320) + 65536 : Nat) : Int), 0)
  else if 55296 ≤ v ∧ v < 56320 then some (x.1, v)
  else if 56320 ≤ v ∧ v < 57344 then none
  else some (x.1 ++ encodeRune ((v : Nat) : Int), 0)

structure Rd where
  out : List UInt8
  first : Nat
  wait : Nat
  waiting : Nat

/-- a digit more -/
def dS (s : Rd) (d : Nat) : Option Rd :=
  if s.waiting + 6 < 16 then some { s with wait := s.wait * 64 + d, waiting := s.waiting + 6 }
  else match uS (s.out, s.first) ((s.wait * 64 + d) / 2 ^ (s.waiting + 6 - 16)) with
    | none => none
    | some x => some { out := x.1, first := x.2, wait := (s.wait * 64 + d) % 2 ^ (s.waiting + 6 - 16), waiting := s.waiting + 6 - 16 }
def feed : Rd → List Nat → Option Rd
  | s, [] => some s
  | s, d :: ds => match dS s d with
    | none => none
    | some t => feed t ds
theorem feed_append : ∀ (a b : List Nat) (s t : Rd), feed s a = some t → feed s (a ++ b) = feed t b
  | [], b, s, t, h => by cases h; rfl
  | d :: ds, b, s, t, h => by
    simp only [feed, List.cons_append] at h ⊢
    cases hd : dS s d with
    | none => rw [hd] at h; cases h
    | some x =>
      rw [hd] at h
      exact feed_append ds b x t h

/-- writer and reader side by side: o and f are what the reader has, once the unit that is under way is whole -/
def Inv (W : Wr) (s : Rd) (o : List UInt8) (f : Nat) : Prop :=
  (W.bits = 0 ∧ W.acc = 0 ∧ s.wait = 0 ∧ s.waiting = 0 ∧ s.out = o ∧ s.first = f) ∨
  (∃ u, u < 65536 ∧ W.bits = 2 ∧ W.acc = u % 4 ∧ s.wait = u / 4 ∧ s.waiting = 14 ∧ uS (s.out, s.first) u = some (o, f)) ∨
  (∃ u, u < 65536 ∧ W.bits = 4 ∧ W.acc = u % 16 ∧ s.wait = u / 16 ∧ s.waiting = 12 ∧ uS (s.out, s.first) u = some (o, f))

theorem put_read (W : Wr) (s : Rd) (o o' : List UInt8) (f f' u : Nat) (hu : u < 65536) (h : Inv W s o f) (hs : uS (o, f) u = some (o', f')) :
    ∃ ds s', (putS W u).out = W.out ++ ds.map digit ∧ (∀ d ∈ ds, d < 64) ∧ ds ≠ [] ∧ feed s ds = some s' ∧ Inv (putS W u) s' o' f' ∧ (putS W u).inn = W.inn := by
  rcases h with ⟨hb, ha, hw, hwt, ho, hf⟩ | ⟨p, hp, hb, ha, hw, hwt, hc⟩ | ⟨p, hp, hb, ha, hw, hwt, hc⟩
  · refine ⟨[u / 1024 % 64, u / 16 % 64], { s with wait := u / 16, waiting := 12 }, ?_, ?_, by simp, ?_, ?_, rfl⟩
    · simp [putS, ems, hb, ha]
    · intro d hd
      simp at hd
      omega
    · simp only [feed, dS, hw, hwt]
      simp only [show (0 : Nat) + 6 < 16 by decide, if_true, show (0 : Nat) + 6 + 6 < 16 by decide]
      congr 1
      congr 1
      omega
    · refine .inr (.inr ⟨u, hu, by simp [putS, hb], by simp [putS, hb, ha], rfl, rfl, ?_⟩)
      rw [ho, hf]
      exact hs
  · obtain ⟨v, hv⟩ : ∃ v, W.acc * 65536 + u = v := ⟨_, rfl⟩
    have hacc : W.acc < 4 := by omega
    refine ⟨[v / 4096 % 64, v / 64 % 64, v % 64], { out := o', first := f', wait := 0, waiting := 0 }, ?_, ?_, by simp, ?_, ?_, rfl⟩
    · simp [putS, ems, hb, hv]
    · intro d hd
      simp at hd
      omega
    · have e1 : (p / 4 * 64 + v / 4096 % 64) / 2 ^ (14 + 6 - 16) = p := by
        rw [show 2 ^ (14 + 6 - 16) = 16 from rfl]; omega
      have e2 : (p / 4 * 64 + v / 4096 % 64) % 2 ^ (14 + 6 - 16) = u / 4096 := by
        rw [show 2 ^ (14 + 6 - 16) = 16 from rfl]; omega
      have e3 : ((u / 4096) * 64 + v / 64 % 64) * 64 + v % 64 = u := by omega
      simp only [feed, dS, hw, hwt]
      rw [if_neg (by decide), e1, hc, e2]
      simp only
      rw [if_pos (by decide)]
      simp only
      rw [if_neg (by decide), e3]
      simp only [show 14 + 6 - 16 + 6 + 6 - 16 = 0 from rfl, Nat.pow_zero, Nat.div_one, Nat.mod_one, hs]
    · exact .inl ⟨by simp [putS, hb], by simp [putS, hb, Nat.mod_one], rfl, rfl, rfl, rfl⟩
  · obtain ⟨v, hv⟩ : ∃ v, W.acc * 65536 + u = v := ⟨_, rfl⟩
    have hacc : W.acc < 16 := by omega
    refine ⟨[v / 16384 % 64, v / 256 % 64, v / 4 % 64], { out := o, first := f, wait := u / 4, waiting := 14 }, ?_, ?_, by simp, ?_, ?_, rfl⟩
    · simp [putS, ems, hb, hv]
    · intro d hd
      simp at hd
      omega
    · have e1 : (p / 16 * 64 + v / 16384 % 64) / 2 ^ (12 + 6 - 16) = p := by
        rw [show 2 ^ (12 + 6 - 16) = 4 from rfl]; omega
      have e2 : (p / 16 * 64 + v / 16384 % 64) % 2 ^ (12 + 6 - 16) = u / 16384 := by
        rw [show 2 ^ (12 + 6 - 16) = 4 from rfl]; omega
      have e3 : ((u / 16384) * 64 + v / 256 % 64) * 64 + v / 4 % 64 = u / 4 := by omega
      simp only [feed, dS, hw, hwt]
      rw [if_neg (by decide), e1, hc, e2]
      simp only
      rw [if_pos (by decide)]
      simp only
      rw [if_pos (by decide), e3]
    · refine .inr (.inl ⟨u, hu, by simp [putS, hb], ?_, rfl, rfl, hs⟩)
      simp [putS, hb]
      omega

/-- a rune that may be -/
def okR (r : Nat) : Prop := r ≤ 1114111 ∧ (r < 55296 ∨ 57344 ≤ r)

/-- what is put of a rune within a piece -/
def unitsS (W : Wr) (r : Nat) : Wr := if r < 65536 then putS W r else putS (putS W (55296 + (r - 65536) / 1024)) (56320 + (r - 65536) % 1024)
theorem farS_in (W : Wr) (r : Nat) (hi : W.inn = true) : farS W r = unitsS W r := by
  simp [farS, unitsS, openS, hi]

theorem units_read (W : Wr) (s : Rd) (o : List UInt8) (r : Nat) (hr : okR r) (h : Inv W s o 0) :
    ∃ ds s', (unitsS W r).out = W.out ++ ds.map digit ∧ (∀ d ∈ ds, d < 64) ∧ ds ≠ [] ∧ feed s ds = some s' ∧ Inv (unitsS W r) s' (o ++ encodeRune ((r : Nat) : Int)) 0 ∧ (unitsS W r).inn = W.inn := by
  unfold unitsS
  split
  · rename_i hlt
    have hs : uS (o, 0) r = some (o ++ encodeRune ((r : Nat) : Int), 0) := by
      unfold uS
      rw [if_neg (by simp), if_neg (by simp), if_neg (by have := hr.2; omega), if_neg (by have := hr.2; omega)]
    exact put_read W s o _ 0 0 r hlt h hs
  · rename_i hge
    obtain ⟨n, hn⟩ : ∃ n, r - 65536 = n := ⟨_, rfl⟩
    have hr1 := hr.1
    rw [hn]
    have hs1 : uS (o, 0) (55296 + n / 1024) = some (o, 55296 + n / 1024) := by
      unfold uS
      rw [if_neg (by simp), if_neg (by simp), if_pos (by omega)]
    have hs2 : uS (o, 55296 + n / 1024) (56320 + n % 1024) = some (o ++ encodeRune ((r : Nat) : Int), 0) := by
      unfold uS
      rw [if_neg (by simp only; omega), if_pos (by simp only; omega)]
      have e : (55296 + n / 1024 - 55296) * 1024 + (56320 + n % 1024 - 56320) + 65536 = r := by omega
      simp only [e]
    obtain ⟨d1, s1, a1, b1, c1, f1, i1, n1⟩ := put_read W s o _ 0 _ _ (by omega) h hs1
    obtain ⟨d2, s2, a2, b2, c2, f2, i2, n2⟩ := put_read _ s1 o _ _ 0 _ (by omega) i1 hs2
    refine ⟨d1 ++ d2, s2, ?_, ?_, by simp [c1], ?_, i2, by rw [n2, n1]⟩
    · rw [a2, a1]; simp
    · intro d hd
      rcases List.mem_append.1 hd with h | h
      · exact b1 d h
      · exact b2 d h
    · rw [feed_append d1 d2 s s1 f1]; exact f2

theorem end_read (W : Wr) (s : Rd) (o : List UInt8) (hi : W.inn = true) (h : Inv W s o 0) :
    ∃ ds s', (endS W).out = W.out ++ ds.map digit ++ [45] ∧ (∀ d ∈ ds, d < 64) ∧ feed s ds = some s' ∧ s'.out = o ∧ s'.first = 0 := by
  rcases h with ⟨hb, ha, hw, hwt, ho, hf⟩ | ⟨p, hp, hb, ha, hw, hwt, hc⟩ | ⟨p, hp, hb, ha, hw, hwt, hc⟩
  · exact ⟨[], s, by simp [endS, hi, hb], by simp, rfl, ho, hf⟩
  · refine ⟨[W.acc * 16 % 64], ⟨o, 0, (p / 4 * 64 + W.acc * 16 % 64) % 16, 4⟩, by simp [endS, hi, hb], by intro d hd; simp at hd; omega, ?_, rfl, rfl⟩
    have e1 : (p / 4 * 64 + W.acc * 16 % 64) / 2 ^ (14 + 6 - 16) = p := by rw [show 2 ^ (14 + 6 - 16) = 16 from rfl]; omega
    simp only [feed, dS, hw, hwt]
    rw [if_neg (by decide), e1, hc]
  · refine ⟨[W.acc * 4 % 64], ⟨o, 0, (p / 16 * 64 + W.acc * 4 % 64) % 4, 2⟩, by simp [endS, hi, hb], by intro d hd; simp at hd; omega, ?_, rfl, rfl⟩
    have e1 : (p / 16 * 64 + W.acc * 4 % 64) / 2 ^ (12 + 6 - 16) = p := by rw [show 2 ^ (12 + 6 - 16) = 4 from rfl]; omega
    simp only [feed, dS, hw, hwt]
    rw [if_neg (by decide), e1, hc]

/-! ### the texts -/
def r0 : Rd := ⟨[], 0, 0, 0⟩
/-- the digits that signs are -/
def valsR : List Nat → Option (List Nat)
  | [] => some []
  | r :: rs => match digVal r, valsR rs with
    | some d, some ds => some (d :: ds)
    | _, _ => none
/-- base 64, as far as it makes whole units -/
def farR : Rd → List Nat → Option Rd
  | s, [] => some s
  | s, r :: rs => match digVal r with
    | none => none
    | some d => match dS s d with
      | none => none
      | some t => farR t rs
def farD (code : List UInt8) : Option (List UInt8) :=
  match farR r0 (runesD code) with
  | none => none
  | some s => if s.first = 0 then some s.out else none
def cutAt : List UInt8 → Option (List UInt8 × List UInt8)
  | [] => none
  | c :: cs => if c = 45 then some ([], cs) else match cutAt cs with
    | none => none
    | some (a, b) => some (c :: a, b)
def readF : Nat → List UInt8 → Option (List UInt8)
  | _, [] => some []
  | 0, _ :: _ => none
  | f + 1, c :: cs => if c ≠ 38 then (readF f cs).map (c :: ·) else
      match cutAt cs with
      | none => none
      | some (code, rest) => if code = [] then (readF f rest).map (38 :: ·) else
        match farD code with
        | none => none
        | some t => (readF f rest).map (t ++ ·)
def readD (l : List UInt8) : Option (List UInt8) := readF l.length l

theorem cutAt_len : ∀ (l a b : List UInt8), cutAt l = some (a, b) → b.length < l.length
  | [], a, b, h => by cases h
  | c :: cs, a, b, h => by
    unfold cutAt at h
    split at h
    · cases h; simp
    · split at h
      · cases h
      · rename_i a' b' hc
        cases h
        have := cutAt_len cs a' b hc
        simp
        omega
theorem readF_fuel : ∀ (n m : Nat) (l : List UInt8), l.length ≤ n → l.length ≤ m → readF n l = readF m l
  | n, m, [], _, _ => by cases n <;> cases m <;> rfl
  | 0, _, c :: cs, h, _ => by simp at h
  | _ + 1, 0, c :: cs, _, h => by simp at h
  | n + 1, m + 1, c :: cs, hn, hm => by
    simp only [List.length_cons] at hn hm
    unfold readF
    split
    · rw [readF_fuel n m cs (by omega) (by omega)]
    · split
      · rfl
      · rename_i a b hc
        have hl := cutAt_len cs a b hc
        rw [readF_fuel n m b (by omega) (by omega)]
theorem readD_nil : readD [] = some [] := rfl
theorem readD_plain (c : UInt8) (cs : List UInt8) (h : c ≠ 38) : readD (c :: cs) = (readD cs).map (c :: ·) := by
  show readF (cs.length + 1) (c :: cs) = _
  unfold readF
  rw [if_pos h]
  rfl
theorem readD_and (cs : List UInt8) : readD (38 :: cs) = match cutAt cs with
      | none => none
      | some (code, rest) => if code = [] then (readD rest).map (38 :: ·) else
        match farD code with
        | none => none
        | some t => (readD rest).map (t ++ ·) := by
  show readF (cs.length + 1) (38 :: cs) = _
  unfold readF
  rw [if_neg (by simp)]
  cases hc : cutAt cs with
  | none => rfl
  | some x =>
    obtain ⟨a, b⟩ := x
    have hl := cutAt_len cs a b hc
    simp only
    rw [readF_fuel cs.length b.length b (by omega) (Nat.le_refl _)]
    rfl

theorem cutAt_digits : ∀ (ds : List Nat) (rest : List UInt8), (∀ d ∈ ds, d < 64) → cutAt (ds.map digit ++ 45 :: rest) = some (ds.map digit, rest)
  | [], rest, _ => by simp [cutAt]
  | d :: ds, rest, h => by
    have hd := (digit_lt d (h d (by simp))).2
    simp only [List.map_cons, List.cons_append, cutAt]
    rw [if_neg hd, cutAt_digits ds rest (fun x hx => h x (by simp [hx]))]
theorem runes_digits : ∀ ds : List Nat, (∀ d ∈ ds, d < 64) → runesD (ds.map digit) = ds.map fun d => (digit d).toNat
  | [], _ => rfl
  | d :: ds, h => by
    have hd := (digit_lt d (h d (by simp))).1
    rw [List.map_cons, runesD_step _ (by simp), decodeL_ascii _ _ hd]
    simp only [List.drop_succ_cons, List.drop_zero, List.map_cons]
    rw [runes_digits ds (fun x hx => h x (by simp [hx]))]
theorem farR_feed : ∀ (ds : List Nat) (s : Rd), (∀ d ∈ ds, d < 64) → farR s (ds.map fun d => (digit d).toNat) = feed s ds
  | [], s, _ => rfl
  | d :: ds, s, h => by
    simp only [List.map_cons, farR, feed]
    rw [digVal_digit d (h d (by simp))]
    simp only
    cases dS s d with
    | none => rfl
    | some t => exact farR_feed ds t (fun x hx => h x (by simp [hx]))
theorem farD_digits (ds : List Nat) (s : Rd) (h : ∀ d ∈ ds, d < 64) (hf : feed r0 ds = some s) (h0 : s.first = 0) : farD (ds.map digit) = some s.out := by
  unfold farD
  rw [runes_digits ds h, farR_feed ds r0 h, hf]
  simp [h0]

/-! ### what is written is read -/
def encR (rs : List Nat) : List UInt8 := (endS (rs.foldl signS w0)).out
def bytesR (rs : List Nat) : List UInt8 := rs.flatMap fun r => encodeRune ((r : Nat) : Int)
def textR (r : Nat) : List UInt8 := if r = 38 then [r.toUInt8, 45] else [r.toUInt8]
theorem sign_plain_out (W : Wr) (hg : W.Good) (r : Nat) (hp : plainR r = true) : signS W r = addO ((endS W).out ++ textR r) w0 := by
  obtain ⟨e1, e2, e3⟩ := endS_good hg
  obtain ⟨z1, z2⟩ := e1.zero e2
  unfold signS
  rw [if_pos hp]
  generalize endS W = E at *
  obtain ⟨o, a, b, i⟩ := E
  simp only at z1 z2 e2
  subst z1 z2 e2
  simp [addO, w0, textR]
theorem encR_plain (r : Nat) (rs : List Nat) (hp : plainR r = true) : encR (r :: rs) = textR r ++ encR rs := by
  unfold encR
  rw [List.foldl_cons, sign_plain_out w0 good0 r hp, fold_add, endS_add]
  simp [addO, endS, w0]
theorem enc_plainR (r : Nat) (hp : plainR r = true) : encodeRune ((r : Nat) : Int) = [r.toUInt8] := by
  have : 32 ≤ r ∧ r ≤ 126 := by simpa [plainR] using hp
  unfold encodeRune
  rw [encodeRuneZ_one (by omega) (by omega)]
  simp

theorem read_main : ∀ (n : Nat) (rs : List Nat), rs.length ≤ n → (∀ r ∈ rs, okR r) →
    readD (encR rs) = some (bytesR rs) ∧
    (∀ W s o, W.Good → W.inn = true → Inv W s o 0 → ∃ ds rest m s2, (endS (rs.foldl signS W)).out = W.out ++ ds.map digit ++ 45 :: rest ∧ (∀ d ∈ ds, d < 64) ∧ feed s ds = some s2 ∧ s2.first = 0 ∧ readD rest = some m ∧ s2.out ++ m = o ++ bytesR rs)
  | n, [], _, _ => by
    refine ⟨rfl, fun W s o hg hi h => ?_⟩
    obtain ⟨ds, s', e, hd, hf, ho, h0⟩ := end_read W s o hi h
    exact ⟨ds, [], [], s', by rw [List.foldl_nil, e], hd, hf, h0, rfl, by simp [bytesR, ho]⟩
  | 0, r :: rs, h, _ => by simp at h
  | n + 1, r :: rs, h, hok => by
    obtain ⟨ihc, iho⟩ := read_main n rs (by simp at h; omega) (fun x hx => hok x (by simp [hx]))
    have hr := hok r (by simp)
    have hbr : bytesR (r :: rs) = encodeRune ((r : Nat) : Int) ++ bytesR rs := rfl
    have closed : readD (encR (r :: rs)) = some (bytesR (r :: rs)) := by
      cases hp : plainR r with
      | true =>
        rw [encR_plain r rs hp, hbr, enc_plainR r hp]
        have hb : 32 ≤ r ∧ r ≤ 126 := by simpa [plainR] using hp
        by_cases h38 : r = 38
        · subst h38
          show readD (38 :: 45 :: encR rs) = _
          rw [readD_and]
          simp only [cutAt, if_true]
          rw [ihc]
          rfl
        · have e : textR r = [r.toUInt8] := by simp [textR, h38]
          have h38b : r.toUInt8 ≠ 38 := by
            intro e2
            have := congrArg UInt8.toNat e2
            rw [Nat.toUInt8_eq, UInt8.toNat_ofNat'] at this
            simp at this
            omega
          rw [e]
          show readD (r.toUInt8 :: encR rs) = _
          rw [readD_plain _ _ h38b, ihc]
          rfl
      | false =>
        have hs : signS w0 r = unitsS ⟨[38], 0, 0, true⟩ r := by
          unfold signS
          rw [if_neg (by rw [hp]; decide)]
          rfl
        have hg1 : (⟨[38], 0, 0, true⟩ : Wr).Good := ⟨.inl ⟨rfl, rfl⟩, fun h => by cases h⟩
        obtain ⟨ds1, s1, a1, b1, c1, f1, i1, n1⟩ := units_read ⟨[38], 0, 0, true⟩ r0 [] r hr (.inl ⟨rfl, rfl, rfl, rfl, rfl, rfl⟩)
        have hg2 : (unitsS ⟨[38], 0, 0, true⟩ r).Good := by
          have := (farS_good hg1 r hr.1).1
          rw [farS_in _ r rfl] at this
          exact this
        obtain ⟨ds2, rest, m, s2, e2, b2, f2, z2, hm, hmm⟩ := iho _ s1 _ hg2 n1 i1
        have he : encR (r :: rs) = 38 :: ((ds1 ++ ds2).map digit ++ 45 :: rest) := by
          unfold encR
          rw [List.foldl_cons, hs, e2, a1]
          simp
        have hall : ∀ d ∈ ds1 ++ ds2, d < 64 := fun d hd => by
          rcases List.mem_append.1 hd with h | h
          · exact b1 d h
          · exact b2 d h
        rw [he, readD_and, cutAt_digits _ _ hall]
        simp only
        rw [if_neg (by simp [c1]), farD_digits (ds1 ++ ds2) s2 hall (by rw [feed_append ds1 ds2 r0 s1 f1]; exact f2) z2]
        simp only
        rw [hm, hbr]
        simp only [Option.map_some]
        rw [hmm]
        simp
    refine ⟨closed, fun W s o hg hi h => ?_⟩
    cases hp : plainR r with
    | true =>
      obtain ⟨ds, s', e, hd, hf, ho, h0⟩ := end_read W s o hi h
      refine ⟨ds, encR (r :: rs), bytesR (r :: rs), s', ?_, hd, hf, h0, closed, by rw [ho]⟩
      rw [List.foldl_cons, sign_plain_out W hg r hp, fold_add, endS_add, e, encR_plain r rs hp]
      simp [addO, encR]
    | false =>
      have hs : signS W r = unitsS W r := by
        unfold signS
        rw [if_neg (by rw [hp]; decide), farS_in W r hi]
      obtain ⟨ds1, s1, a1, b1, c1, f1, i1, n1⟩ := units_read W s o r hr h
      have hg2 : (unitsS W r).Good := by
        have := (farS_good hg r hr.1).1
        rw [farS_in _ r hi] at this
        exact this
      obtain ⟨ds2, rest, m, s2, e2, b2, f2, z2, hm, hmm⟩ := iho _ s1 _ hg2 (by rw [n1]; exact hi) i1
      refine ⟨ds1 ++ ds2, rest, m, s2, ?_, ?_, by rw [feed_append ds1 ds2 s s1 f1]; exact f2, z2, hm, ?_⟩
      · rw [List.foldl_cons, hs, e2, a1]; simp
      · intro d hd
        rcases List.mem_append.1 hd with h | h
        · exact b1 d h
        · exact b2 d h
      · rw [hmm, hbr]; simp

/-- of a right text: its runes may be, and are its bytes -/
theorem valid_runes : ∀ (n : Nat) (l : List UInt8), l.length ≤ n → validD l = true → (∀ r ∈ runesD l, okR r) ∧ bytesR (runesD l) = l
  | 0, l, h, _ => by
    obtain rfl : l = [] := List.eq_nil_of_length_eq_zero (by omega)
    exact ⟨by simp [runesD_nil], rfl⟩
  | n + 1, l, h, hv => by
    by_cases hne : l = []
    · subst hne
      exact ⟨by simp [runesD_nil], rfl⟩
    · have hw := decodeL_width l
      have hle := decodeL_le l hne
      rw [validD_step l hne] at hv
      have hbad : ¬ ((decodeL l).1 = 65533 ∧ (decodeL l).2 = 1) := fun e => by rw [if_pos e] at hv; cases hv
      rw [if_neg hbad] at hv
      obtain ⟨i1, i2⟩ := valid_runes n (l.drop (decodeL l).2) (by rw [List.length_drop]; omega) hv
      have henc := encode_decode l hne hbad
      have hok : okR (decodeL l).1 := by
        refine ⟨decodeL_rune l, ?_⟩
        rw [decodeL_N] at hbad ⊢
        have hb0 := (l.getD 0 0).toNat_lt
        rcases decodeN_shape l.length (l.getD 0 0).toNat (l.getD 1 0).toNat (l.getD 2 0).toNat (l.getD 3 0).toNat with ⟨c1, e⟩ | ⟨c1, c2, c3, cv, e⟩ | ⟨c1, c2, c3, c4, cv, cs, e⟩ | ⟨c1, c2, c3, c4, c5, cv, cw, e⟩ | e
        · rw [e]; left; show _ < 55296; omega
        · rw [e]; left; show _ < 55296; simp only; omega
        · rw [e]; exact cs
        · rw [e]; right; show 57344 ≤ _; simp only; omega
        · rw [e] at hbad; exact absurd ⟨rfl, rfl⟩ hbad
      rw [runesD_step l hne]
      refine ⟨fun r hr => ?_, ?_⟩
      · rcases List.mem_cons.1 hr with rfl | h2
        · exact hok
        · exact i1 r h2
      · show encodeRune _ ++ bytesR _ = l
        rw [henc, i2, List.take_append_drop]

/-- ████ WHAT IS ENCODED IS READ. -/
theorem read_enc (l : List UInt8) (hv : validD l = true) : readD (encS l) = some l := by
  obtain ⟨h1, h2⟩ := valid_runes l.length l (Nat.le_refl _) hv
  have := (read_main (runesD l).length (runesD l) (Nat.le_refl _) h1).1
  rw [h2] at this
  exact this
end Go.Proofs.YtcddppgnmephnaaDoor
