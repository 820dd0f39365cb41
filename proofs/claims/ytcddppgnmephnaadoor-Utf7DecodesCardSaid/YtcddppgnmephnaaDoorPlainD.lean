/-
  The program's Decode at plain texts.
-/
import Derived.Test.YtcddppgnmephnaaDoorLoc
import Derived.Test.YtcddppgnmephnaaDoorShelfB
import Derived.Test.YtcddppgnmephnaaDoorParts
namespace Go.Proofs.YtcddppgnmephnaaDoor
set_option linter.unusedVariables false
open Go.RowKit Go.Lib

theorem strL_size (l : List UInt8) : (strL l).size = l.length := by rw [Lib.size_eq]; rfl
theorem strL_tail (c : UInt8) (cs : List UInt8) : (strL (c :: cs)).extract 1 (strL (c :: cs)).size = strL cs := by
  have h := extract_list (strL (c :: cs)) 1
  rw [← strL_of ((strL (c :: cs)).extract 1 (strL (c :: cs)).size), h]
  rfl

set_option maxHeartbeats 1000000 in
set_option maxRecDepth 100000 in
theorem read_plain (l : List UInt8) (hp : ∀ c ∈ l, c.toNat ≠ 38) (hl : l.length ≤ 100000) (w : World) :
    Calls Tryd.prog 24 #[.string (strL l)] w fun e w' => e = .returned (.tuple #[.string (strL l), .bool true]) ∧ Below w.heap.size w w' := by
  obtain ⟨s0, hs0⟩ : ∃ s0, strL l = s0 := ⟨_, rfl⟩
  have HS0 := Lib.hid hs0
  rw [hs0]
  clear hs0
  go_enter Tryd.func24, Tryd.ntmps24
  go_wp2
  go_loopw [0] (fun s wr => ∃ k : Nat, k ≤ l.length ∧ s = .string (strL (l.drop k)) ∧ IsBuilderF 33 5 w.heap.size w.heap.size (byteCells (l.take k)) wr ∧ Below w.heap.size w wr ∧ w.heap.size < wr.heap.size) (fun s _ => match s with | .string x => x.size | _ => 0)
  case atStart =>
    exact ⟨0, by omega, by rw [← HS0.out]; rfl, IsBuilderF.of (Lib.fresh_isBuilder 33 5 w), (Below.refl _ _).alloc (Nat.le_refl _) _, by simp⟩
  case round =>
    obtain ⟨k, hk, rfl, hb, hbw, hsz⟩ := hrel
    by_cases hkl : k < l.length
    · have hd : l.drop k = l[k] :: l.drop (k + 1) := List.drop_eq_getElem_cons hkl
      have htk : l.take (k + 1) = l.take k ++ [l[k]] := (List.take_append_getElem hkl).symm
      have hc38 := hp l[k] (List.getElem_mem hkl)
      obtain ⟨c, hc⟩ : ∃ c, l[k] = c := ⟨_, rfl⟩
      rw [hc] at hd htk hc38
      rw [hd]
      obtain ⟨x, hx⟩ : ∃ x, c.toNat = x := ⟨_, rfl⟩
      have hwb := lwb_any w.heap.size w.heap.size (byteCells (l.take k)) (x : Int) wr hb (by rw [byteCells_length]; simp; omega)
      have hbc : byteCells (l.take (k + 1)) = byteCells (l.take k) ++ [.int .u8 (x : Int)] := by rw [htk, byteCells_append, ← hx]; rfl
      rw [← hbc] at hwb
      obtain ⟨n, hn⟩ : ∃ n, (l.drop (k + 1)).length = n := ⟨_, rfl⟩
      have hsz2 : (strL (l.drop (k + 1))).size < n + 1 := by rw [strL_size, hn]; omega
      obtain ⟨S, hS, hszn, hx0, htl, hcut⟩ : ∃ S, strL (c :: l.drop (k + 1)) = S ∧ S.size = n + 1 ∧ (∀ h : 0 < S.size, (S[0]'h).toNat = x) ∧ S.toList = c :: l.drop (k + 1) ∧ S.extract 1 (n + 1) = strL (l.drop (k + 1)) := by
        have e : (strL (c :: l.drop (k + 1))).size = n + 1 := by rw [strL_size, List.length_cons, hn]
        refine ⟨_, rfl, e, fun h => ?_, strL_toList _, ?_⟩
        · rw [str_at _ 0 h]; exact hx
        · rw [← e]; exact strL_tail c _
      rw [hS]
      have hx38 : ((x : Int) == 38) = false := by simp; omega
      have hps : 0 < S.size := by omega
      have hx1 := hx0 hps
      have hone : (1 : Int) ≤ (n : Int) + 1 := by omega
      have HSZ := Lib.hid hsz2
      have HB := Lib.hid hbw
      have HC := Lib.hid hcut
      clear hb hbw hd htk hc38 hc hx hbc hn hcut hS hx0 hsz2
      go_wp2_with (go_at_call 33; refine hwb.mono ?_; rintro e w2 ⟨rfl, h2, hb2, ho2⟩; have H2 := Lib.hid h2; have HB2 := Lib.hid hb2; have hs2 := hb2.size; clear h2 hb2 ho2)
      refine ⟨⟨k + 1, by omega, by rw [HC.out], .inr H2.out, HB.out.trans HB2.out, by omega⟩, ?_⟩
      show (S.extract 1 (n + 1)).size < S.size
      rw [HC.out, hszn]
      exact HSZ.out
    · have hd : l.drop k = [] := List.drop_eq_nil_of_le (by omega)
      have htk : l.take k = l := List.take_of_length_le (by omega)
      rw [htk] at hb
      rw [hd]
      have hst := Tryd.Builder_String_any_k w.heap.size w.heap.size l wr hb (by omega)
      have htl := strL_toList []
      obtain ⟨S, hS⟩ : ∃ S, strL [] = S := ⟨_, rfl⟩
      rw [hS] at htl ⊢
      have HB := Lib.hid hbw
      clear hb hbw hd htk hS
      go_wp2_with (go_at_call 20; refine hst.mono ?_; rintro e w2 ⟨rfl, _, hb2, _⟩; have HB2 := Lib.hid hb2; clear hb2)
      go_ret2
      exact ⟨by rw [← HS0.out]; rfl, HB.out.trans HB2.out⟩

/-- a text of plain signs -/
structure PlainL (l : List UInt8) : Prop where
  all : ∀ c ∈ l, 32 ≤ c.toNat ∧ c.toNat ≤ 126 ∧ c.toNat ≠ 38

theorem runes_plain : ∀ l : List UInt8, PlainL l → runesD l = l.map (·.toNat) ∧ validD l = true
  | [], _ => ⟨rfl, rfl⟩
  | c :: cs, h => by
    have hc : c.toNat < 128 := by have := h.all c (by simp); omega
    obtain ⟨i1, i2⟩ := runes_plain cs ⟨fun d hd => h.all d (by simp [hd])⟩
    refine ⟨?_, by rw [validD_cons c cs hc, i2]⟩
    rw [runesD_step _ (by simp), decodeL_ascii c cs hc]
    simp only [List.drop_succ_cons, List.drop_zero, List.map_cons]
    rw [i1]
theorem fold_plain : ∀ (l o : List UInt8), PlainL l → (l.map (·.toNat)).foldl signS (addO o w0) = addO (o ++ l) w0
  | [], o, _ => by simp
  | c :: cs, o, h => by
    have hc := h.all c (by simp)
    have hs : signS (addO o w0) c.toNat = addO (o ++ [c]) w0 := by
      unfold signS
      rw [if_pos (by simp [plainR]; omega)]
      simp [endS, addO, w0, hc.2.2]
    simp only [List.map_cons, List.foldl_cons]
    rw [hs, fold_plain cs (o ++ [c]) ⟨fun d hd => h.all d (by simp [hd])⟩]
    simp
theorem encS_plain (l : List UInt8) (h : PlainL l) : encS l = l := by
  unfold encS
  rw [(runes_plain l h).1]
  have := fold_plain l [] h
  rw [show addO [] w0 = w0 from rfl] at this
  rw [this]
  simp [endS, addO, w0]

set_option maxHeartbeats 1000000 in
set_option maxRecDepth 100000 in
theorem dec_plain (l : List UInt8) (hp : PlainL l) (hl : l.length ≤ 100000) (w : World) (hT : Tabs w) :
    Calls Tryd.prog 13 #[.string (strL l)] w fun e w' => e = .returned (.tuple #[.string (strL l), .int .i64 0]) ∧ Below w.heap.size w w' := by
  have hr := read_plain l (fun c hc => (hp.all c hc).2.2) hl w
  have he := fun w hT => enc_str l hl w hT
  rw [encV_yes l (runes_plain l hp).2, encS_plain l hp] at he
  have HE := Lib.hid he
  have HT := Lib.hid hT
  obtain ⟨S, hS⟩ : ∃ S, strL l = S := ⟨_, rfl⟩
  rw [hS] at hr HE ⊢
  clear he hT hS
  go_enter Tryd.func13, Tryd.ntmps13
  go_wp2_with (first
    | (go_at_call 24; refine hr.mono ?_; rintro e w1 ⟨rfl, hb1⟩; have HB1 := Lib.hid hb1; have hs1 := hb1.size; have HT1 := Lib.hid (HT.out.below hb1 HT.out.size); clear hb1)
    | (go_at_call 10; refine (HE.out _ HT1.out).mono ?_; rintro e w2 ⟨rfl, hb2⟩; have HB2 := Lib.hid (HB1.out.trans (hb2.mono hs1)); clear hb2))
  all_goals (go_ret2; exact ⟨rfl, HB2.out⟩)
end Go.Proofs.YtcddppgnmephnaaDoor
