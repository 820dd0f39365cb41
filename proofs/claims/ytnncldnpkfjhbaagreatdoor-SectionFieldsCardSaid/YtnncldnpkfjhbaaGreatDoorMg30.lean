/-
  Several texts of one proof, each in a section of its own: RefC, RefD.
-/
import Derived.Test.YtnncldnpkfjhbaaGreatDoorRefAMg
import Derived.Lib.SlTrimSet
import Derived.Test.YtnncldnpkfjhbaaGreatDoorRefBMg
import Derived.Test.YtnncldnpkfjhbaaGreatDoorMg18
namespace Go.Proofs.YtnncldnpkfjhbaaGreatDoor
section
set_option linter.unusedVariables false
open Go.RowKit Go.Lib

def wh (c : UInt8) : Bool := ([32, 9] : List UInt8).contains c
theorem wh_whiteB (c : UInt8) : whiteB c.toNat = wh c := by
  unfold whiteB wh
  have h1 : decide (c.toNat = 32) = (c == 32) := by
    rw [Bool.eq_iff_iff]
    simp
    exact ⟨fun h => UInt8.toNat_inj.1 h, fun h => by rw [h]; rfl⟩
  have h2 : decide (c.toNat = 9) = (c == 9) := by
    rw [Bool.eq_iff_iff]
    simp
    exact ⟨fun h => UInt8.toNat_inj.1 h, fun h => by rw [h]; rfl⟩
  rw [h1, h2]
  simp [List.contains, List.elem]
  cases c == 32 <;> cases c == 9 <;> rfl
theorem mem_tw {p : UInt8 → Bool} : ∀ {l : List UInt8} {c : UInt8}, c ∈ l.takeWhile p → p c = true := by
  intro l
  induction l with
  | nil => intro c h; cases h
  | cons y l ih =>
    intro c h
    rw [List.takeWhile_cons] at h
    split at h
    · rename_i hy
      rcases List.mem_cons.1 h with rfl | h
      · exact hy
      · exact ih h
    · cases h
theorem dw_nil {p : UInt8 → Bool} : ∀ {l : List UInt8}, (∀ c ∈ l, p c = true) → l.dropWhile p = [] := by
  intro l
  induction l with
  | nil => intro _; rfl
  | cons y l ih => intro h; rw [List.dropWhile_cons, if_pos (h y (List.mem_cons_self ..))]; exact ih fun c hc => h c (List.mem_cons_of_mem _ hc)
def rtrim (l : List UInt8) : List UInt8 := (l.reverse.dropWhile wh).reverse
theorem rtrim_app {x y : List UInt8} (h : rtrim y ≠ []) : rtrim (x ++ y) = x ++ rtrim y := by
  unfold rtrim at *
  rw [List.reverse_append, List.dropWhile_append]
  have h2 : ¬ (y.reverse.dropWhile wh).isEmpty = true := by
    intro e
    rw [List.isEmpty_iff] at e
    rw [e] at h
    exact h rfl
  rw [if_neg h2]
  simp
theorem rtrim_none (x : List UInt8) (c : UInt8) (h : wh c = false) : rtrim (x ++ [c]) = x ++ [c] := by
  unfold rtrim
  rw [List.reverse_append]
  simp only [List.reverse_cons, List.reverse_nil, List.nil_append, List.singleton_append]
  rw [List.dropWhile_cons, if_neg (by rw [h]; simp)]
  simp
theorem rtrim_some (x : List UInt8) (c : UInt8) (h : wh c = true) : rtrim (x ++ [c]) = rtrim x := by
  unfold rtrim
  rw [List.reverse_append]
  simp only [List.reverse_cons, List.reverse_nil, List.nil_append, List.singleton_append]
  rw [List.dropWhile_cons, if_pos h]
theorem rtrim_cons (c : UInt8) (h : wh c = false) : ∀ (n : Nat) (d : List UInt8), d.length ≤ n → ∃ s, rtrim (c :: d) = c :: s := by
  intro n
  induction n with
  | zero =>
    intro d hd
    obtain rfl : d = [] := List.eq_nil_of_length_eq_zero (by omega)
    exact ⟨[], rtrim_none [] c h⟩
  | succ n ih =>
    intro d hd
    by_cases h0 : d = []
    · subst h0; exact ⟨[], rtrim_none [] c h⟩
    · obtain ⟨y, e, rfl⟩ : ∃ y e, d = y ++ [e] := ⟨d.dropLast, d.getLast h0, (List.dropLast_concat_getLast h0).symm⟩
      rw [← List.cons_append]
      cases he : wh e
      · rw [rtrim_none _ _ he]; exact ⟨_, rfl⟩
      · rw [rtrim_some _ _ he]; exact ih y (by simp at hd; omega)
/-- both ends, whichever first -/
theorem trim_both (l : List UInt8) : trimS l [32, 9] = rtrim (l.dropWhile wh) := by
  have e : trimS l [32, 9] = (rtrim l).dropWhile wh := rfl
  rw [e]
  have h1 : l = l.takeWhile wh ++ l.dropWhile wh := List.takeWhile_append_dropWhile.symm
  cases hd : l.dropWhile wh with
  | nil =>
    have hall : ∀ c ∈ l, wh c = true := by
      rw [hd, List.append_nil] at h1
      intro c hc
      rw [h1] at hc
      exact mem_tw hc
    have : rtrim l = [] := by
      unfold rtrim
      rw [dw_nil (fun c hc => hall c (List.mem_reverse.1 hc))]
      rfl
    rw [this]
    rfl
  | cons c d =>
    have hc : wh c = false := by
      have := List.head_dropWhile_not (p := wh) (l := l) (by rw [hd]; simp)
      simp only [hd, List.head_cons] at this
      exact this
    obtain ⟨s, hs⟩ := rtrim_cons c hc d.length d (Nat.le_refl _)
    rw [hd] at h1
    conv => lhs; rw [h1]
    rw [rtrim_app (by rw [hs]; simp), hs]
    have hall : ∀ x ∈ l.takeWhile wh, wh x = true := fun x hx => mem_tw hx
    have : ∀ (t : List UInt8), (∀ x ∈ t, wh x = true) → (t ++ c :: s).dropWhile wh = c :: s := by
      intro t
      induction t with
      | nil => intro _; rw [List.nil_append, List.dropWhile_cons, if_neg (by rw [hc]; simp)]
      | cons y t ih =>
        intro ht
        rw [List.cons_append, List.dropWhile_cons, if_pos (ht y (List.mem_cons_self ..))]
        exact ih fun x hx => ht x (List.mem_cons_of_mem _ hx)
    exact this _ hall

theorem str_back (q : ByteArray) : (⟨q.data.toList.toArray⟩ : ByteArray) = q := by apply ByteArray.ext; simp
theorem ext_toList (s : ByteArray) (i j : Nat) : (s.extract i j).data.toList = (s.data.toList.take j).drop i := by
  simp [ByteArray.data_extract, List.drop_take]

set_option maxRecDepth 100000 in
set_option maxHeartbeats 2000000 in
theorem rtrim_any (s : ByteArray) (w : World) (hs : s.size ≤ 140737488351232) : Calls Tryz.prog 22 #[.string s] w fun e w' => e = .returned (.string ⟨(trimS s.data.toList [32, 9]).toArray⟩) ∧ w = w' := by
  have HT : Hid (trimS s.data.toList [32, 9] = rtrim (s.data.toList.dropWhile wh)) := Lib.hid (trim_both _)
  go_enter Tryz.func22, Tryz.ntmps22
  go_wp2_with fail
  go_loop [0] (fun v => ∃ t : ByteArray, v = .string t ∧ t.size ≤ s.size ∧ Hid (t.data.toList.dropWhile wh = s.data.toList.dropWhile wh)) (fun v => match v with | .string t => t.size | _ => 0)
  case atStart => exact ⟨s, rfl, Nat.le_refl _, Lib.hid rfl⟩
  case round =>
    obtain ⟨t, rfl, hts, hdw⟩ := hrel
    by_cases h0 : 0 < t.size
    · have h0i : (0 : Int) < (t.size : Int) := by omega
      have hcons : t.data.toList = t[0]'h0 :: t.data.toList.drop 1 := by
        have hl0 : 0 < t.data.toList.length := by simpa using h0
        have := List.drop_eq_getElem_cons hl0
        rw [List.drop_zero] at this
        exact this
      have hwa := white_any (t[0]'h0).toNat w
      rw [wh_whiteB] at hwa
      cases hw : wh (t[0]'h0)
      · rw [hw] at hwa
        have HWA := Lib.hid hwa
        have HDW : Hid (s.data.toList.dropWhile wh = t.data.toList) := Lib.hid (by rw [← hdw.out, hcons, List.dropWhile_cons, if_neg (by rw [hw]; simp)])
        clear hwa hw hcons hdw
        go_wp2_with (go_at_call 37; refine HWA.out.mono ?_; rintro e w2 ⟨rfl, rfl⟩)
        go_loop [0] (fun v => ∃ q : ByteArray, v = .string q ∧ q.size ≤ s.size ∧ Hid (rtrim q.data.toList = rtrim (s.data.toList.dropWhile wh))) (fun v => match v with | .string q => q.size | _ => 0)
        case atStart => exact ⟨t, rfl, hts, Lib.hid (by rw [HDW.out])⟩
        case round =>
          obtain ⟨q, rfl, hqs, hrt⟩ := hrel
          by_cases hq0 : 0 < q.size
          · have hq0i : (0 : Int) < (q.size : Int) := by omega
            have hlt : q.size - 1 < q.size := by omega
            have hsn : q.data.toList = q.data.toList.take (q.size - 1) ++ [q[q.size - 1]'hlt] := by
              have hl1 : q.size - 1 < q.data.toList.length := by simpa using hlt
              have h2 := List.take_succ_eq_append_getElem hl1
              rw [List.take_of_length_le (by simp; omega)] at h2
              exact h2
            have hwa := white_any (q[q.size - 1]'hlt).toNat w
            rw [wh_whiteB] at hwa
            have hwn : ((q.size : Int) - 1).toNat = q.size - 1 := by omega
            have hb1 : (0 : Int) ≤ (q.size : Int) - 1 := by omega
            have hb2 : (q.size : Int) - 1 < (q.size : Int) := by omega
            cases hw : wh (q[q.size - 1]'hlt)
            · rw [hw] at hwa
              have HWA := Lib.hid hwa
              have HF : Hid (q.data.toList = rtrim (s.data.toList.dropWhile wh)) := Lib.hid (by have h9 := hrt.out; rw [hsn, rtrim_none _ _ hw, ← hsn] at h9; exact h9)
              clear hwa hw hsn hrt
              go_wp2_with (go_at_call 37; refine HWA.out.mono ?_; rintro e w2 ⟨rfl, rfl⟩)
              go_ret
              exact ⟨ret_eq (by rw [HT.out, ← HF.out, str_back]; rfl), rfl⟩
            · rw [hw] at hwa
              have HWA := Lib.hid hwa
              have hdx : (q.extract 0 (q.size - 1)).data.toList = q.data.toList.take (q.size - 1) := by rw [ext_toList, List.drop_zero]
              have HDX : Hid (rtrim (q.extract 0 (q.size - 1)).data.toList = rtrim (s.data.toList.dropWhile wh)) := Lib.hid (by
                rw [hdx]; have h9 := hrt.out; rw [hsn, rtrim_some _ _ hw] at h9; exact h9)
              have hsz : (q.extract 0 (q.size - 1)).size = q.size - 1 := by simp
              have HSZ := Lib.hid hsz
              clear hwa hw hsn hrt hdx hsz
              go_wp2_with (go_at_call 37; refine HWA.out.mono ?_; rintro e w2 ⟨rfl, rfl⟩)
              go_round
              case rel => exact ⟨_, rfl, Nat.le_trans (Nat.le_of_eq HSZ.out) (Nat.le_trans (Nat.sub_le _ _) hqs), HDX⟩
              case measure => show (q.extract 0 (q.size - 1)).size < q.size; rw [HSZ.out]; exact Nat.sub_lt hq0 Nat.one_pos
          · have HF : Hid (q.data.toList = rtrim (s.data.toList.dropWhile wh)) := Lib.hid (by
              have e : q.data.toList = [] := List.eq_nil_of_length_eq_zero (by rw [Array.length_toList]; show q.size = 0; omega)
              rw [← hrt.out, e]
              rfl)
            clear hrt
            go_wp2_with fail
            go_ret
            exact ⟨ret_eq (by rw [HT.out, ← HF.out, str_back]; rfl), rfl⟩
      · rw [hw] at hwa
        have HWA := Lib.hid hwa
        have hdx : (t.extract 1 t.size).data.toList = t.data.toList.drop 1 := by
          rw [ext_toList, List.take_of_length_le (by simp)]
        have HDX : Hid ((t.extract 1 t.size).data.toList.dropWhile wh = s.data.toList.dropWhile wh) := Lib.hid (by
          rw [hdx, ← hdw.out]
          conv => rhs; rw [hcons, List.dropWhile_cons, if_pos hw])
        have hsz : (t.extract 1 t.size).size = t.size - 1 := by simp
        have HSZ := Lib.hid hsz
        clear hwa hw hcons hdw hdx hsz
        go_wp2_with (go_at_call 37; refine HWA.out.mono ?_; rintro e w2 ⟨rfl, rfl⟩)
        go_round
        case rel => exact ⟨_, rfl, Nat.le_trans (Nat.le_of_eq HSZ.out) (Nat.le_trans (Nat.sub_le _ _) hts), HDX⟩
        case measure => show (t.extract 1 t.size).size < t.size; rw [HSZ.out]; exact Nat.sub_lt h0 Nat.one_pos
    · have HDW : Hid (s.data.toList.dropWhile wh = t.data.toList) := Lib.hid (by
        have e : t.data.toList = [] := List.eq_nil_of_length_eq_zero (by rw [Array.length_toList]; show t.size = 0; omega)
        have := hdw.out
        rw [e] at this ⊢
        exact this.symm)
      clear hdw
      go_wp2_with fail
      go_loop [0] (fun v => ∃ q : ByteArray, v = .string q ∧ q.size ≤ s.size ∧ Hid (rtrim q.data.toList = rtrim (s.data.toList.dropWhile wh))) (fun v => match v with | .string q => q.size | _ => 0)
      case atStart => exact ⟨t, rfl, hts, Lib.hid (by rw [HDW.out])⟩
      case round =>
        obtain ⟨q, rfl, hqs, hrt⟩ := hrel
        by_cases hq0 : 0 < q.size
        · have hq0i : (0 : Int) < (q.size : Int) := by omega
          have hlt : q.size - 1 < q.size := by omega
          have hsn : q.data.toList = q.data.toList.take (q.size - 1) ++ [q[q.size - 1]'hlt] := by
            have hl1 : q.size - 1 < q.data.toList.length := by simpa using hlt
            have h2 := List.take_succ_eq_append_getElem hl1
            rw [List.take_of_length_le (by simp; omega)] at h2
            exact h2
          have hwa := white_any (q[q.size - 1]'hlt).toNat w
          rw [wh_whiteB] at hwa
          have hwn : ((q.size : Int) - 1).toNat = q.size - 1 := by omega
          have hb1 : (0 : Int) ≤ (q.size : Int) - 1 := by omega
          have hb2 : (q.size : Int) - 1 < (q.size : Int) := by omega
          cases hw : wh (q[q.size - 1]'hlt)
          · rw [hw] at hwa
            have HWA := Lib.hid hwa
            have HF : Hid (q.data.toList = rtrim (s.data.toList.dropWhile wh)) := Lib.hid (by have h9 := hrt.out; rw [hsn, rtrim_none _ _ hw, ← hsn] at h9; exact h9)
            clear hwa hw hsn hrt
            go_wp2_with (go_at_call 37; refine HWA.out.mono ?_; rintro e w2 ⟨rfl, rfl⟩)
            go_ret
            exact ⟨ret_eq (by rw [HT.out, ← HF.out, str_back]; rfl), rfl⟩
          · rw [hw] at hwa
            have HWA := Lib.hid hwa
            have hdx : (q.extract 0 (q.size - 1)).data.toList = q.data.toList.take (q.size - 1) := by rw [ext_toList, List.drop_zero]
            have HDX : Hid (rtrim (q.extract 0 (q.size - 1)).data.toList = rtrim (s.data.toList.dropWhile wh)) := Lib.hid (by
              rw [hdx]; have h9 := hrt.out; rw [hsn, rtrim_some _ _ hw] at h9; exact h9)
            have hsz : (q.extract 0 (q.size - 1)).size = q.size - 1 := by simp
            have HSZ := Lib.hid hsz
            clear hwa hw hsn hrt hdx hsz
            go_wp2_with (go_at_call 37; refine HWA.out.mono ?_; rintro e w2 ⟨rfl, rfl⟩)
            go_round
            case rel => exact ⟨_, rfl, Nat.le_trans (Nat.le_of_eq HSZ.out) (Nat.le_trans (Nat.sub_le _ _) hqs), HDX⟩
            case measure => show (q.extract 0 (q.size - 1)).size < q.size; rw [HSZ.out]; exact Nat.sub_lt hq0 Nat.one_pos
        · have HF : Hid (q.data.toList = rtrim (s.data.toList.dropWhile wh)) := Lib.hid (by
            have e : q.data.toList = [] := List.eq_nil_of_length_eq_zero (by rw [Array.length_toList]; show q.size = 0; omega)
            rw [← hrt.out, e]
            rfl)
          clear hrt
          go_wp2_with fail
          go_ret
          exact ⟨ret_eq (by rw [HT.out, ← HF.out, str_back]; rfl), rfl⟩
end
section
set_option linter.unusedVariables false
open Go.RowKit Go.Lib

theorem info63 : (Tryz.prog.info? 54).map (fun i => (i.zero, i.size, i.bytes)) = some (some (.agg #[.string ⟨#[]⟩, .string ⟨#[]⟩, .slice none 0 0]), 3, 56) := by kernel_rfl

/-- a field, and where its lines lie -/
abbrev FR := Fd × Value
def frV (x : FR) : List Value := [.string x.1.nm, .string (strT x.1.T), x.2]
def frsV (ps : List FR) : List Value := ps.flatMap frV
theorem frsV_append (a b : List FR) : frsV (a ++ b) = frsV a ++ frsV b := by simp [frsV]
theorem frsV_one (x : FR) : frsV [x] = [.string x.1.nm, .string (strT x.1.T), x.2] := by simp [frsV, frV]
theorem frsV_length (ps : List FR) : (frsV ps).length = ps.length * 3 := by
  induction ps with
  | nil => rfl
  | cons x ps ih => rw [show frsV (x :: ps) = frV x ++ frsV ps by simp [frsV], List.length_append, ih, List.length_cons]; simp [frV]; omega
theorem frsV_get (ps : List FR) : ∀ (i : Nat) (h : i < ps.length), (frsV ps)[i * 3]? = some (.string ps[i].1.nm) ∧ (frsV ps)[i * 3 + 1]? = some (.string (strT ps[i].1.T)) ∧ (frsV ps)[i * 3 + 2]? = some ps[i].2 := by
  induction ps with
  | nil => intro i h; simp at h
  | cons x ps ih =>
    intro i h
    have e : frsV (x :: ps) = [.string x.1.nm, .string (strT x.1.T), x.2] ++ frsV ps := by simp [frsV, frV]
    rw [e]
    cases i with
    | zero => exact ⟨rfl, rfl, rfl⟩
    | succ i =>
      obtain ⟨h1, h2, h3⟩ := ih i (by simpa using h)
      refine ⟨?_, ?_, ?_⟩
      · rw [List.getElem?_append_right (by simp; omega), show (i + 1) * 3 - [Value.string x.1.nm, .string (strT x.1.T), x.2].length = i * 3 by simp; omega, h1]; simp
      · rw [List.getElem?_append_right (by simp; omega), show (i + 1) * 3 + 1 - [Value.string x.1.nm, .string (strT x.1.T), x.2].length = i * 3 + 1 by simp; omega, h2]; simp
      · rw [List.getElem?_append_right (by simp; omega), show (i + 1) * 3 + 2 - [Value.string x.1.nm, .string (strT x.1.T), x.2].length = i * 3 + 2 by simp; omega, h3]; simp

/-- the reference's row of fields -/
structure OwnQ (w : World) (B : Nat) (v : Value) (ps : List FR) : Prop where
  row : w.ownsRow B 54 3 v ps.length (frsV ps)
  raws : ∀ p ∈ ps, OwnB w B p.2 p.1.R
  apart : ps.Pairwise fun p q => ∀ k, p.2.ownBlock = some k → q.2.ownBlock ≠ some k
theorem OwnQ.nil (w : World) (B : Nat) : OwnQ w B (.slice none 0 0) [] := ⟨World.ownsRow_nil _ _ _ _, by simp, List.Pairwise.nil⟩
theorem OwnQ.shape {w : World} {B : Nat} {v : Value} {ps : List FR} (h : OwnQ w B v ps) : ∃ a c, v = .slice a ps.length c := by
  rcases h.row.2 with ⟨hv, h0⟩ | ⟨g, cap, cur, hv, _⟩
  · exact ⟨none, 0, by rw [hv, h0]⟩
  · exact ⟨_, cap, hv⟩
theorem OwnQ.ownLe {w : World} {B : Nat} {v : Value} {ps : List FR} (h : OwnQ w B v ps) : ∀ k, v.ownBlock = some k → B ≤ k := fun k hk => (World.ownsRow.lt h.row k hk).1
theorem OwnQ.type {w : World} {B : Nat} {v : Value} {ps : List FR} (h : OwnQ w B v ps) : ∀ k, v.ownBlock = some k → ∃ C fz, w.heap[k]? = some (.cells C 54 fz) := by
  intro k hk
  rcases h.row.2 with ⟨rfl, _⟩ | ⟨b, cap, cur, rfl, _, hh, _⟩
  · simp [Value.ownBlock] at hk
  · simp [Value.ownBlock] at hk
    subst hk
    exact ⟨_, _, hh⟩
theorem ownBQ {w : World} {B B' : Nat} {v u : Value} {l : List Nat} {ps : List FR} (h : OwnB w B v l) (k : OwnQ w B' u ps) (j : Nat) (h1 : v.ownBlock = some j) : u.ownBlock ≠ some j := by
  intro h2
  obtain ⟨_, _, e1⟩ := ownB_type h j h1
  obtain ⟨_, _, e2⟩ := k.type j h2
  rw [e1] at e2
  simp at e2
theorem row_turn {w w' : World} {B t z n : Nat} {v : Value} {xs : List Value} (h : w.ownsRow B t z v n xs) {row : Option Nat} (hg : w.grownBy w' row) (hne : ∀ k, v.ownBlock = some k → row ≠ some k) : w'.ownsRow B t z v n xs := by
  refine ⟨h.1, ?_⟩
  rcases h.2 with h2 | ⟨b, cap, cur, rfl, hb, hh, r⟩
  · exact .inl h2
  · refine .inr ⟨b, cap, cur, rfl, hb, ?_, r⟩
    rw [hg.block b (Array.getElem?_eq_some_iff.1 hh).1 (fun e => hne b rfl e.symm)]
    exact hh
/-- nothing of it turns -/
theorem OwnQ.keep {w w' : World} {B : Nat} {v : Value} {ps : List FR} (h : OwnQ w B v ps) (hb : Below w.heap.size w w') : OwnQ w' B v ps := by
  refine ⟨?_, fun p hp => OwnB.keep (h.raws p hp) hb (ownB_lt (h.raws p hp)), h.apart⟩
  refine ⟨h.row.1, ?_⟩
  rcases h.row.2 with h2 | ⟨b, cap, cur, rfl, hB, hh, r⟩
  · exact .inl h2
  · exact .inr ⟨b, cap, cur, rfl, hB, (hb.block b (Array.getElem?_eq_some_iff.1 hh).1).trans hh, r⟩
/-- a new field at the end -/
theorem OwnQ.add {w w' : World} {B : Nat} {v v' : Value} {ps : List FR} {x : FR} (h : OwnQ w B v ps) (hx : OwnB w B x.2 x.1.R) (hn : ∀ p ∈ ps, ∀ k, p.2.ownBlock = some k → x.2.ownBlock ≠ some k)
    (hg : w.grownBy w' v.ownBlock) (ho : w'.ownsRow B 54 3 v' (ps.length + 1) (frsV ps ++ [.string x.1.nm, .string (strT x.1.T), x.2])) : OwnQ w' B v' (ps ++ [x]) := by
  refine ⟨?_, fun p hp => ?_, ?_⟩
  · rw [frsV_append, frsV_one, List.length_append]
    exact ho
  · rcases List.mem_append.1 hp with hp | hp
    · exact ownB_turn (h.raws p hp) hg (fun k h1 h2 => ownBQ (h.raws p hp) h k h1 h2)
    · obtain rfl := List.mem_singleton.1 hp
      exact ownB_turn hx hg (fun k h1 h2 => ownBQ hx h k h1 h2)
  · rw [List.pairwise_append]
    exact ⟨h.apart, List.pairwise_singleton _ _, fun p hp q hq k hk => by obtain rfl := List.mem_singleton.1 hq; exact hn p hp k hk⟩
/-- the last field's cells -/
theorem OwnQ.last {w : World} {B : Nat} {v : Value} {qs : List FR} {x : FR} (h : OwnQ w B v (qs ++ [x])) : ∃ g cap, v = .slice (some ⟨g, 0, none⟩) (qs.length + 1) cap ∧ B ≤ g ∧ g < w.heap.size ∧
    w.cell? ⟨g, qs.length * 3 + 1, none⟩ = some (.string (strT x.1.T)) ∧ w.cell? ⟨g, qs.length * 3 + 2, none⟩ = some x.2 ∧ w.frozen? ⟨g, qs.length * 3 + 1, none⟩ = false ∧ w.frozen? ⟨g, qs.length * 3 + 2, none⟩ = false ∧ qs.length + 1 ≤ cap ∧ ∃ C, w.heap[g]? = some (.cells C 54 (0, 0)) := by
  have hl : (qs ++ [x]).length = qs.length + 1 := by simp
  have h0 := h.row
  rcases h.row.2 with ⟨_, h2⟩ | ⟨g, cap, cur, rfl, hB, hh, h3, h4, h5, h6⟩
  · rw [hl] at h2; omega
  · have hget := frsV_get (qs ++ [x]) qs.length (by simp)
    simp only [List.getElem_concat_length] at hget
    have c := fun j => World.ownsRow.cellAt h0 j
    have f := fun j => World.ownsRow.frozenAt h0 j
    refine ⟨g, cap, by rw [hl], hB, (Array.getElem?_eq_some_iff.1 hh).1, ?_, ?_, f _, f _, by rw [hl] at h3; exact h3, _, hh⟩
    · rw [World.ownsRow.cellAt h0 _ (by rw [hl]; omega)]; exact hget.2.1
    · rw [World.ownsRow.cellAt h0 _ (by rw [hl]; omega)]; exact hget.2.2
/-- more text for the last field -/
theorem OwnQ.text {w : World} {B g cap n : Nat} {qs : List FR} {f : Fd} {r : Value} {T' : List Nat} (h : OwnQ w B (.slice (some ⟨g, 0, none⟩) n cap) (qs ++ [(f, r)])) (hn : n = qs.length + 1) :
    OwnQ (w.setCell ⟨g, qs.length * 3 + 1, none⟩ (.string (strT T'))) B (.slice (some ⟨g, 0, none⟩) n cap) (qs ++ [(⟨f.nm, T', f.R⟩, r)]) := by
  subst hn
  have hl : ∀ y : FR, (qs ++ [y]).length = qs.length + 1 := by simp
  have hg := grownBy_set w g (qs.length * 3 + 1) (.string (strT T'))
  have hty := h.type g rfl
  refine ⟨?_, fun p hp => ?_, ?_⟩
  · have h1 := h.row
    rw [hl] at h1 ⊢
    have h2 := (World.ownsRow.stored h1 (qs.length * 3 + 1) (.string (strT T'))).1
    rw [frsV_append, frsV_one] at h2 ⊢
    rw [List.set_append_right _ _ (by rw [frsV_length]; omega)] at h2
    rw [show qs.length * 3 + 1 - (frsV qs).length = 1 by rw [frsV_length]; omega] at h2
    exact h2
  · have hpr : ∀ (u : Value) (R : List Nat), OwnB w B u R → OwnB (w.setCell ⟨g, qs.length * 3 + 1, none⟩ (.string (strT T'))) B u R := fun u R hu => ownB_turn hu hg (fun k h1 h2 => by
      cases h2
      obtain ⟨_, _, e1⟩ := ownB_type hu g h1
      obtain ⟨_, _, e2⟩ := hty
      rw [e1] at e2
      simp at e2)
    rcases List.mem_append.1 hp with hp | hp
    · exact hpr _ _ (h.raws p (by simp [hp]))
    · obtain rfl := List.mem_singleton.1 hp
      exact hpr _ _ (h.raws (f, r) (by simp))
  · have := h.apart
    rw [List.pairwise_append] at this ⊢
    exact ⟨this.1, List.pairwise_singleton _ _, fun p hp q hq k hk => by obtain rfl := List.mem_singleton.1 hq; exact this.2.2 p hp (f, r) (by simp) k hk⟩
/-- more lines for the last field -/
theorem OwnQ.raw {w w' : World} {B g cap n : Nat} {qs : List FR} {f : Fd} {r r' : Value} {R' : List Nat} (h : OwnQ w B (.slice (some ⟨g, 0, none⟩) n cap) (qs ++ [(f, r)])) (hn : n = qs.length + 1)
    (ho : OwnB w' B r' R') (hg : w.grownBy w' r.ownBlock) (hm : Moved r r' w) :
    OwnQ (w'.setCell ⟨g, qs.length * 3 + 2, none⟩ r') B (.slice (some ⟨g, 0, none⟩) n cap) (qs ++ [(⟨f.nm, f.T, R'⟩, r')]) := by
  subst hn
  have hl : ∀ y : FR, (qs ++ [y]).length = qs.length + 1 := by simp
  have hr := h.raws (f, r) (by simp)
  have hty := h.type g rfl
  have hrow : w'.ownsRow B 54 3 (.slice (some ⟨g, 0, none⟩) (qs.length + 1) cap) (qs ++ [(f, r)]).length (frsV (qs ++ [(f, r)])) := row_turn h.row hg (fun k h1 h2 => ownBQ hr h k h2 h1)
  have hg2 := grownBy_set w' g (qs.length * 3 + 2) r'
  have hpw := h.apart
  rw [List.pairwise_append] at hpw
  have hty' : ∃ C fz, w'.heap[g]? = some (.cells C 54 fz) := by
    obtain ⟨C, fz, hh⟩ := hty
    refine ⟨C, fz, ?_⟩
    rw [hg.block g (Array.getElem?_eq_some_iff.1 hh).1 (fun e => ownBQ hr h g e.symm rfl)]
    exact hh
  refine ⟨?_, fun p hp => ?_, ?_⟩
  · have h1 := hrow
    rw [hl] at h1 ⊢
    have h2 := (World.ownsRow.stored h1 (qs.length * 3 + 2) r').1
    rw [frsV_append, frsV_one] at h2 ⊢
    rw [List.set_append_right _ _ (by rw [frsV_length]; omega)] at h2
    rw [show qs.length * 3 + 2 - (frsV qs).length = 2 by rw [frsV_length]; omega] at h2
    exact h2
  · have hpr : ∀ (u : Value) (R : List Nat), OwnB w' B u R → OwnB (w'.setCell ⟨g, qs.length * 3 + 2, none⟩ r') B u R := fun u R hu => ownB_turn hu hg2 (fun k h1 h2 => by
      cases h2
      obtain ⟨_, _, e1⟩ := ownB_type hu g h1
      obtain ⟨_, _, e2⟩ := hty'
      rw [e1] at e2
      simp at e2)
    rcases List.mem_append.1 hp with hp | hp
    · exact hpr _ _ (ownB_turn (h.raws p (by simp [hp])) hg (fun k h1 h2 => hpw.2.2 p hp (f, r) (by simp) k h1 h2))
    · obtain rfl := List.mem_singleton.1 hp
      exact hpr _ _ ho
  · rw [List.pairwise_append]
    refine ⟨hpw.1, List.pairwise_singleton _ _, fun p hp q hq k hk => ?_⟩
    obtain rfl := List.mem_singleton.1 hq
    rcases hm with hm | hm
    · simp only
      rw [hm]
      exact hpw.2.2 p hp (f, r) (by simp) k hk
    · intro h2
      have h3 := hm k h2
      have h4 := ownB_lt (h.raws p (by simp [hp])) k hk
      omega

/-! what the loop makes -/
def allF (s : List Fd × Option Fd) : List Fd := s.1 ++ s.2.toList
theorem split_full (l : List Nat) : fieldsS (l.take (splitS l)) = fieldsS l := by
  rcases Nat.lt_or_ge (splitS l) l.length with h | h
  · have := fieldsS_cut l [] h
    rwa [List.append_nil] at this
  · rw [List.take_of_length_le h]
end
end Go.Proofs.YtnncldnpkfjhbaaGreatDoor
