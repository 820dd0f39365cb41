/-
  The reference's Trim.
-/
import Derived.Test.YtlfdcocaedeneaaDoorRefA
import Derived.Lib.SlTrimSet
namespace Go.Proofs.YtlfdcocaedeneaaDoor
set_option linter.unusedVariables false
open Go.RowKit Go.Lib

def wh (c : UInt8) : Bool := ([32, 9] : List UInt8).contains c
theorem wh_whiteB (c : UInt8) : whiteB c.toNat = wh c := by
  unfold whiteB wh
  have h1 : decide (c.toNat = 32) = (c == 32) := by
    rw [Bool.eq_iff_iff]
    simp
    exact ⟨fun h => UInt8.toNat_inj.1 h, fun h => by rw [h]; rfl⟩
  have h2 : decide (c.toNat = 9) = (c == 9) := by
    rw [Bool.eq_iff_iff]
    simp
    exact ⟨fun h => UInt8.toNat_inj.1 h, fun h => by rw [h]; rfl⟩
  rw [h1, h2]
  simp [List.contains, List.elem]
  cases c == 32 <;> cases c == 9 <;> rfl
theorem mem_tw {p : UInt8 → Bool} : ∀ {l : List UInt8} {c : UInt8}, c ∈ l.takeWhile p → p c = true := by
  intro l
  induction l with
  | nil => intro c h; cases h
  | cons y l ih =>
    intro c h
    rw [List.takeWhile_cons] at h
    split at h
    · rename_i hy
      rcases List.mem_cons.1 h with rfl | h
      · exact hy
      · exact ih h
    · cases h
theorem dw_nil {p : UInt8 → Bool} : ∀ {l : List UInt8}, (∀ c ∈ l, p c = true) → l.dropWhile p = [] := by
  intro l
  induction l with
  | nil => intro _; rfl
  | cons y l ih => intro h; rw [List.dropWhile_cons, if_pos (h y (List.mem_cons_self ..))]; exact ih fun c hc => h c (List.mem_cons_of_mem _ hc)
def rtrim (l : List UInt8) : List UInt8 := (l.reverse.dropWhile wh).reverse
theorem rtrim_app {x y : List UInt8} (h : rtrim y ≠ []) : rtrim (x ++ y) = x ++ rtrim y := by
  unfold rtrim at *
  rw [List.reverse_append, List.dropWhile_append]
  have h2 : ¬ (y.reverse.dropWhile wh).isEmpty = true := by
    intro e
    rw [List.isEmpty_iff] at e
    rw [e] at h
    exact h rfl
  rw [if_neg h2]
  simp
theorem rtrim_none (x : List UInt8) (c : UInt8) (h : wh c = false) : rtrim (x ++ [c]) = x ++ [c] := by
  unfold rtrim
  rw [List.reverse_append]
  simp only [List.reverse_cons, List.reverse_nil, List.nil_append, List.singleton_append]
  rw [List.dropWhile_cons, if_neg (by rw [h]; simp)]
  simp
theorem rtrim_some (x : List UInt8) (c : UInt8) (h : wh c = true) : rtrim (x ++ [c]) = rtrim x := by
  unfold rtrim
  rw [List.reverse_append]
  simp only [List.reverse_cons, List.reverse_nil, List.nil_append, List.singleton_append]
  rw [List.dropWhile_cons, if_pos h]
theorem rtrim_cons (c : UInt8) (h : wh c = false) : ∀ (n : Nat) (d : List UInt8), d.length ≤ n → ∃ s, rtrim (c :: d) = c :: s := by
  intro n
  induction n with
  | zero =>
    intro d hd
    obtain rfl : d = [] := List.eq_nil_of_length_eq_zero (by omega)
    exact ⟨[], rtrim_none [] c h⟩
  | succ n ih =>
    intro d hd
    by_cases h0 : d = []
    · subst h0; exact ⟨[], rtrim_none [] c h⟩
    · obtain ⟨y, e, rfl⟩ : ∃ y e, d = y ++ [e] := ⟨d.dropLast, d.getLast h0, (List.dropLast_concat_getLast h0).symm⟩
      rw [← List.cons_append]
      cases he : wh e
      · rw [rtrim_none _ _ he]; exact ⟨_, rfl⟩
      · rw [rtrim_some _ _ he]; exact ih y (by simp at hd; omega)
/-- both ends, whichever first -/
theorem trim_both (l : List UInt8) : trimS l [32, 9] = rtrim (l.dropWhile wh) := by
  have e : trimS l [32, 9] = (rtrim l).dropWhile wh := rfl
  rw [e]
  have h1 : l = l.takeWhile wh ++ l.dropWhile wh := List.takeWhile_append_dropWhile.symm
  cases hd : l.dropWhile wh with
  | nil =>
    have hall : ∀ c ∈ l, wh c = true := by
      rw [hd, List.append_nil] at h1
      intro c hc
      rw [h1] at hc
      exact mem_tw hc
    have : rtrim l = [] := by
      unfold rtrim
      rw [dw_nil (fun c hc => hall c (List.mem_reverse.1 hc))]
      rfl
    rw [this]
    rfl
  | cons c d =>
    have hc : wh c = false := by
      have := List.head_dropWhile_not (p := wh) (l := l) (by rw [hd]; simp)
      simp only [hd, List.head_cons] at this
      exact this
    obtain ⟨s, hs⟩ := rtrim_cons c hc d.length d (Nat.le_refl _)
    rw [hd] at h1
    conv => lhs; rw [h1]
    rw [rtrim_app (by rw [hs]; simp), hs]
    have hall : ∀ x ∈ l.takeWhile wh, wh x = true := fun x hx => mem_tw hx
    have : ∀ (t : List UInt8), (∀ x ∈ t, wh x = true) → (t ++ c :: s).dropWhile wh = c :: s := by
      intro t
      induction t with
      | nil => intro _; rw [List.nil_append, List.dropWhile_cons, if_neg (by rw [hc]; simp)]
      | cons y t ih =>
        intro ht
        rw [List.cons_append, List.dropWhile_cons, if_pos (ht y (List.mem_cons_self ..))]
        exact ih fun x hx => ht x (List.mem_cons_of_mem _ hx)
    exact this _ hall

theorem str_back (q : ByteArray) : (⟨q.data.toList.toArray⟩ : ByteArray) = q := by apply ByteArray.ext; simp
theorem ext_toList (s : ByteArray) (i j : Nat) : (s.extract i j).data.toList = (s.data.toList.take j).drop i := by
  simp [ByteArray.data_extract, List.drop_take]

set_option maxRecDepth 100000 in
set_option maxHeartbeats 2000000 in
theorem rtrim_any (s : ByteArray) (w : World) (hs : s.size ≤ 140737488351232) : Calls Tryd.prog 35 #[.string s] w fun e w' => e = .returned (.string ⟨(trimS s.data.toList [32, 9]).toArray⟩) ∧ w = w' := by
  have HT : Hid (trimS s.data.toList [32, 9] = rtrim (s.data.toList.dropWhile wh)) := Lib.hid (trim_both _)
  go_enter Tryd.func35, Tryd.ntmps35
  go_wp2_with fail
  go_loop [0] (fun v => ∃ t : ByteArray, v = .string t ∧ t.size ≤ s.size ∧ Hid (t.data.toList.dropWhile wh = s.data.toList.dropWhile wh)) (fun v => match v with | .string t => t.size | _ => 0)
  case atStart => exact ⟨s, rfl, Nat.le_refl _, Lib.hid rfl⟩
  case round =>
    obtain ⟨t, rfl, hts, hdw⟩ := hrel
    by_cases h0 : 0 < t.size
    · have h0i : (0 : Int) < (t.size : Int) := by omega
      have hcons : t.data.toList = t[0]'h0 :: t.data.toList.drop 1 := by
        have hl0 : 0 < t.data.toList.length := by simpa using h0
        have := List.drop_eq_getElem_cons hl0
        rw [List.drop_zero] at this
        exact this
      have hwa := white_any (t[0]'h0).toNat w
      rw [wh_whiteB] at hwa
      cases hw : wh (t[0]'h0)
      · rw [hw] at hwa
        have HWA := Lib.hid hwa
        have HDW : Hid (s.data.toList.dropWhile wh = t.data.toList) := Lib.hid (by rw [← hdw.out, hcons, List.dropWhile_cons, if_neg (by rw [hw]; simp)])
        clear hwa hw hcons hdw
        go_wp2_with (go_at_call 51; refine HWA.out.mono ?_; rintro e w2 ⟨rfl, rfl⟩)
        go_loop [0] (fun v => ∃ q : ByteArray, v = .string q ∧ q.size ≤ s.size ∧ Hid (rtrim q.data.toList = rtrim (s.data.toList.dropWhile wh))) (fun v => match v with | .string q => q.size | _ => 0)
        case atStart => exact ⟨t, rfl, hts, Lib.hid (by rw [HDW.out])⟩
        case round =>
          obtain ⟨q, rfl, hqs, hrt⟩ := hrel
          by_cases hq0 : 0 < q.size
          · have hq0i : (0 : Int) < (q.size : Int) := by omega
            have hlt : q.size - 1 < q.size := by omega
            have hsn : q.data.toList = q.data.toList.take (q.size - 1) ++ [q[q.size - 1]'hlt] := by
              have hl1 : q.size - 1 < q.data.toList.length := by simpa using hlt
              have h2 := List.take_succ_eq_append_getElem hl1
              rw [List.take_of_length_le (by simp; omega)] at h2
              exact h2
            have hwa := white_any (q[q.size - 1]'hlt).toNat w
            rw [wh_whiteB] at hwa
            have hwn : ((q.size : Int) - 1).toNat = q.size - 1 := by omega
            have hb1 : (0 : Int) ≤ (q.size : Int) - 1 := by omega
            have hb2 : (q.size : Int) - 1 < (q.size : Int) := by omega
            cases hw : wh (q[q.size - 1]'hlt)
            · rw [hw] at hwa
              have HWA := Lib.hid hwa
              have HF : Hid (q.data.toList = rtrim (s.data.toList.dropWhile wh)) := Lib.hid (by have h9 := hrt.out; rw [hsn, rtrim_none _ _ hw, ← hsn] at h9; exact h9)
              clear hwa hw hsn hrt
              go_wp2_with (go_at_call 51; refine HWA.out.mono ?_; rintro e w2 ⟨rfl, rfl⟩)
              go_ret
              exact ⟨ret_eq (by rw [HT.out, ← HF.out, str_back]; rfl), rfl⟩
            · rw [hw] at hwa
              have HWA := Lib.hid hwa
              have hdx : (q.extract 0 (q.size - 1)).data.toList = q.data.toList.take (q.size - 1) := by rw [ext_toList, List.drop_zero]
              have HDX : Hid (rtrim (q.extract 0 (q.size - 1)).data.toList = rtrim (s.data.toList.dropWhile wh)) := Lib.hid (by
                rw [hdx]; have h9 := hrt.out; rw [hsn, rtrim_some _ _ hw] at h9; exact h9)
              have hsz : (q.extract 0 (q.size - 1)).size = q.size - 1 := by simp
              have HSZ := Lib.hid hsz
              clear hwa hw hsn hrt hdx hsz
              go_wp2_with (go_at_call 51; refine HWA.out.mono ?_; rintro e w2 ⟨rfl, rfl⟩)
              go_round
              case rel => exact ⟨_, rfl, Nat.le_trans (Nat.le_of_eq HSZ.out) (Nat.le_trans (Nat.sub_le _ _) hqs), HDX⟩
              case measure => show (q.extract 0 (q.size - 1)).size < q.size; rw [HSZ.out]; exact Nat.sub_lt hq0 Nat.one_pos
          · have HF : Hid (q.data.toList = rtrim (s.data.toList.dropWhile wh)) := Lib.hid (by
              have e : q.data.toList = [] := List.eq_nil_of_length_eq_zero (by rw [Array.length_toList]; show q.size = 0; omega)
              rw [← hrt.out, e]
              rfl)
            clear hrt
            go_wp2_with fail
            go_ret
            exact ⟨ret_eq (by rw [HT.out, ← HF.out, str_back]; rfl), rfl⟩
      · rw [hw] at hwa
        have HWA := Lib.hid hwa
        have hdx : (t.extract 1 t.size).data.toList = t.data.toList.drop 1 := by
          rw [ext_toList, List.take_of_length_le (by simp)]
        have HDX : Hid ((t.extract 1 t.size).data.toList.dropWhile wh = s.data.toList.dropWhile wh) := Lib.hid (by
          rw [hdx, ← hdw.out]
          conv => rhs; rw [hcons, List.dropWhile_cons, if_pos hw])
        have hsz : (t.extract 1 t.size).size = t.size - 1 := by simp
        have HSZ := Lib.hid hsz
        clear hwa hw hcons hdw hdx hsz
        go_wp2_with (go_at_call 51; refine HWA.out.mono ?_; rintro e w2 ⟨rfl, rfl⟩)
        go_round
        case rel => exact ⟨_, rfl, Nat.le_trans (Nat.le_of_eq HSZ.out) (Nat.le_trans (Nat.sub_le _ _) hts), HDX⟩
        case measure => show (t.extract 1 t.size).size < t.size; rw [HSZ.out]; exact Nat.sub_lt h0 Nat.one_pos
    · have HDW : Hid (s.data.toList.dropWhile wh = t.data.toList) := Lib.hid (by
        have e : t.data.toList = [] := List.eq_nil_of_length_eq_zero (by rw [Array.length_toList]; show t.size = 0; omega)
        have := hdw.out
        rw [e] at this ⊢
        exact this.symm)
      clear hdw
      go_wp2_with fail
      go_loop [0] (fun v => ∃ q : ByteArray, v = .string q ∧ q.size ≤ s.size ∧ Hid (rtrim q.data.toList = rtrim (s.data.toList.dropWhile wh))) (fun v => match v with | .string q => q.size | _ => 0)
      case atStart => exact ⟨t, rfl, hts, Lib.hid (by rw [HDW.out])⟩
      case round =>
        obtain ⟨q, rfl, hqs, hrt⟩ := hrel
        by_cases hq0 : 0 < q.size
        · have hq0i : (0 : Int) < (q.size : Int) := by omega
          have hlt : q.size - 1 < q.size := by omega
          have hsn : q.data.toList = q.data.toList.take (q.size - 1) ++ [q[q.size - 1]'hlt] := by
            have hl1 : q.size - 1 < q.data.toList.length := by simpa using hlt
            have h2 := List.take_succ_eq_append_getElem hl1
            rw [List.take_of_length_le (by simp; omega)] at h2
            exact h2
          have hwa := white_any (q[q.size - 1]'hlt).toNat w
          rw [wh_whiteB] at hwa
          have hwn : ((q.size : Int) - 1).toNat = q.size - 1 := by omega
          have hb1 : (0 : Int) ≤ (q.size : Int) - 1 := by omega
          have hb2 : (q.size : Int) - 1 < (q.size : Int) := by omega
          cases hw : wh (q[q.size - 1]'hlt)
          · rw [hw] at hwa
            have HWA := Lib.hid hwa
            have HF : Hid (q.data.toList = rtrim (s.data.toList.dropWhile wh)) := Lib.hid (by have h9 := hrt.out; rw [hsn, rtrim_none _ _ hw, ← hsn] at h9; exact h9)
            clear hwa hw hsn hrt
            go_wp2_with (go_at_call 51; refine HWA.out.mono ?_; rintro e w2 ⟨rfl, rfl⟩)
            go_ret
            exact ⟨ret_eq (by rw [HT.out, ← HF.out, str_back]; rfl), rfl⟩
          · rw [hw] at hwa
            have HWA := Lib.hid hwa
            have hdx : (q.extract 0 (q.size - 1)).data.toList = q.data.toList.take (q.size - 1) := by rw [ext_toList, List.drop_zero]
            have HDX : Hid (rtrim (q.extract 0 (q.size - 1)).data.toList = rtrim (s.data.toList.dropWhile wh)) := Lib.hid (by
              rw [hdx]; have h9 := hrt.out; rw [hsn, rtrim_some _ _ hw] at h9; exact h9)
            have hsz : (q.extract 0 (q.size - 1)).size = q.size - 1 := by simp
            have HSZ := Lib.hid hsz
            clear hwa hw hsn hrt hdx hsz
            go_wp2_with (go_at_call 51; refine HWA.out.mono ?_; rintro e w2 ⟨rfl, rfl⟩)
            go_round
            case rel => exact ⟨_, rfl, Nat.le_trans (Nat.le_of_eq HSZ.out) (Nat.le_trans (Nat.sub_le _ _) hqs), HDX⟩
            case measure => show (q.extract 0 (q.size - 1)).size < q.size; rw [HSZ.out]; exact Nat.sub_lt hq0 Nat.one_pos
        · have HF : Hid (q.data.toList = rtrim (s.data.toList.dropWhile wh)) := Lib.hid (by
            have e : q.data.toList = [] := List.eq_nil_of_length_eq_zero (by rw [Array.length_toList]; show q.size = 0; omega)
            rw [← hrt.out, e]
            rfl)
          clear hrt
          go_wp2_with fail
          go_ret
          exact ⟨ret_eq (by rw [HT.out, ← HF.out, str_back]; rfl), rfl⟩
end Go.Proofs.YtlfdcocaedeneaaDoor
