/-
  HeaderParts: its walk.
-/
import Derived.Test.YtlfdcocaedeneaaDoorOnlyW
import Derived.BigQuiet
import Derived.Deep.QuietTactic
namespace Go.Proofs.YtlfdcocaedeneaaDoor
set_option linter.unusedVariables false
open Go.RowKit Go.Lib

theorem pick_all (fs : List Fd) : pickF [] true fs = fs := by unfold pickF; exact List.filter_eq_self.2 fun f _ => rfl
theorem pick_none (fs : List Fd) : pickF [] false fs = [] := by unfold pickF; exact List.filter_eq_nil_iff.2 fun f _ => by simp [keepB, amongB]
theorem keep_not (S : List ByteArray) (f : Fd) : keepB S true f = !keepB S false f := by unfold keepB; cases amongB S f.nm <;> rfl
theorem pick_sum (S : List ByteArray) : ∀ fs : List Fd, (pickF S false fs).length + (pickF S true fs).length = fs.length := by
  intro fs
  induction fs with
  | nil => rfl
  | cons f fs ih =>
    unfold pickF at ih ⊢
    cases h : keepB S false f
    · rw [List.filter_cons_of_neg (by rw [h]; exact Bool.false_ne_true), List.filter_cons_of_pos (by rw [keep_not, h]; rfl)]
      simp only [List.length_cons]
      omega
    · rw [List.filter_cons_of_pos h, List.filter_cons_of_neg (by rw [keep_not, h]; exact Bool.false_ne_true)]
      simp only [List.length_cons]
      omega
theorem pick_at (S : List ByteArray) (nt : Bool) (fs : List Fd) (n : Nat) (h : n < fs.length) (hk : keepB S nt fs[n] = true) :
    pickF S nt (fs.take (n + 1)) = pickF S nt (fs.take n) ++ [fs[n]] ∧ ∃ h2 : (pickF S nt (fs.take n)).length < (pickF S nt fs).length, (pickF S nt fs)[(pickF S nt (fs.take n)).length] = fs[n] := by
  have e1 : pickF S nt (fs.take (n + 1)) = pickF S nt (fs.take n) ++ [fs[n]] := by
    unfold pickF
    rw [List.take_succ_eq_append_getElem h, List.filter_append, List.filter_cons_of_pos hk]
    rfl
  have e2 : pickF S nt fs = pickF S nt (fs.take n) ++ (fs[n] :: pickF S nt (fs.drop (n + 1))) := by
    have : fs = fs.take (n + 1) ++ fs.drop (n + 1) := (List.take_append_drop ..).symm
    conv => lhs; rw [this]
    unfold pickF at e1 ⊢
    rw [List.filter_append, e1]
    simp
  refine ⟨e1, ?_⟩
  have h2 : (pickF S nt (fs.take n)).length < (pickF S nt fs).length := by rw [e2]; simp
  refine ⟨h2, ?_⟩
  have : (pickF S nt fs)[(pickF S nt (fs.take n)).length]? = some fs[n] := by rw [e2]; simp
  rw [List.getElem?_eq_getElem h2] at this
  exact Option.some.inj this
theorem pick_skip (S : List ByteArray) (nt : Bool) (fs : List Fd) (n : Nat) (h : n < fs.length) (hk : keepB S nt fs[n] = false) : pickF S nt (fs.take (n + 1)) = pickF S nt (fs.take n) := by
  unfold pickF
  rw [List.take_succ_eq_append_getElem h, List.filter_append, List.filter_cons_of_neg (by rw [hk]; exact Bool.false_ne_true)]
  simp
theorem pick_keep (S : List ByteArray) (nt : Bool) (fs : List Fd) (i : Nat) (h : i < (pickF S nt fs).length) : keepB S nt (pickF S nt fs)[i] = true := (List.mem_filter.1 (List.getElem_mem h)).2
theorem keep_ne {S : List ByteArray} {nt : Bool} {f g : Fd} (h : keepB S nt f = true) (k : keepB S nt g = false) : (f.nm.toList == g.nm.toList) = false := by
  cases e : (f.nm.toList == g.nm.toList)
  · rfl
  · exfalso
    have e1 : f.nm.toList = g.nm.toList := by simpa using e
    have : f.nm = g.nm := by
      rw [Go.ByteArray.toList_eq, Go.ByteArray.toList_eq] at e1
      exact ByteArray.ext (Array.toList_inj.1 e1)
    unfold keepB at h k
    rw [this, k] at h
    cases h
theorem StrsIn.below {w W : World} {v : Value} {S : List ByteArray} (h : StrsIn w v S) (hb : Below w.heap.size w W) : StrsIn W v S := by
  refine ⟨h.1, h.2.1, ?_⟩
  rcases h.2.2 with h2 | ⟨b, off, c, e, h1, h2, h3⟩
  · exact .inl h2
  · exact .inr ⟨b, off, c, e, by have := hb.size; omega, h2, fun i hi => (hb.cell (p := ⟨b, off + i, none⟩) h1).trans (h3 i hi)⟩
/-- a told field's cells, in a later world -/
theorem told_cells {w W : World} {B : Nat} {a : Option Addr} {n c : Nat} {l : List Tk} (h : OwnT w B (.slice a n c) l) (hs : Still w W) (i : Nat) (hi : i < l.length) : ∃ b, a = some ⟨b, 0, none⟩ ∧ W.cell? ⟨b, i * 2, none⟩ = some (.string l[i].1) ∧ W.cell? ⟨b, i * 2 + 1, none⟩ = some (.string l[i].2) := by
  obtain ⟨g, cap, hc⟩ := h.cells
  obtain ⟨e, _, _, h2⟩ := hc (by omega)
  simp only [Value.slice.injEq] at e
  exact ⟨g, e.1, (hs.cell _).trans (h2 i hi).1, (hs.cell _).trans (h2 i hi).2⟩
theorem strsNil (w : World) : StrsIn w (.slice none 0 0) [] := ⟨by simp, by simp, .inl ⟨rfl, _, _, rfl⟩⟩

set_option maxRecDepth 100000 in
set_option maxHeartbeats 4000000 in
theorem parts_walk (v0 v1 : Value) (l : List Nat) (S : List ByteArray) (w : World) (h0 : RowB w v0 l) (h1 : StrsIn w v1 S) (hb0 : l.length ≤ 140737488351232) :
    Calls Tryd.prog 5 #[v0, v1] w fun e w' => e = .returned (.bool true) ∧ Below w.heap.size w w' := by
  have HAW := Lib.hid (fun w => awake_any w)
  obtain ⟨a0, n0, c0, rfl, hl0, -⟩ := id h0
  obtain ⟨a1, c1, rfl⟩ := h1.shape
  have H0 := Lib.hid h0
  have H1 := Lib.hid h1
  have HL0 := Lib.hid hl0
  clear h0 h1 hl0
  by_cases g0 : 20000 < (n0 : Int)
  · go_enter Tryd.func5, Tryd.ntmps5
    go_wp2_with fail
    refine (HAW.out _).mono ?_
    rintro e w1 ⟨rfl, hb⟩
    go_wp2_with fail
    go_ret
    exact ⟨rfl, hb⟩
  · by_cases g1 : 60 < S.length
    · go_enter Tryd.func5, Tryd.ntmps5
      go_wp2_with fail
      refine (HAW.out _).mono ?_
      rintro e w1 ⟨rfl, hb⟩
      go_wp2_with fail
      go_ret
      exact ⟨rfl, hb⟩
    · have hfl : (fieldsS l).length ≤ 20000 := by have := fieldsS_len l; have := HL0.out; omega
      have hol : ∀ S nt, (onlyS l S nt).length ≤ 20002 := fun S nt => by have := pick_len l S nt (fieldsS l).length; have := HL0.out; rw [List.take_length] at *; unfold onlyS; simp; omega
      have hot : ∀ S nt, ∀ c ∈ onlyS l S nt, c < 256 := fun S nt c hc => by
        unfold onlyS at hc
        rcases List.mem_append.1 hc with h | h
        · obtain ⟨f, hf, hcf⟩ := List.mem_flatMap.1 h
          exact (fieldsS_bts H0.out.lt f (List.mem_filter.1 hf).1).2 c hcf
        · simp at h; omega
      have hor : ∀ (W : World) (B : Nat) (o : Value) (S : List ByteArray) (nt : Bool), OwnB W B o (onlyS l S nt) → Calls Tryd.prog 13 #[o] W (FieldsOut W.heap.size (onlyS l S nt) W) := fun W B o S nt h => fields_any o _ W (OwnB.rowB h (hot S nt)) (by have := hol S nt; omega)
      have hon : ∀ (W : World) (vn : Value) (S : List ByteArray) (nt : Bool), Below w.heap.size w W → StrsIn W vn S → S.length ≤ 60 → Calls Tryd.prog 21 #[.slice a0 n0 c0, vn, .bool nt] W fun e w' => ∃ o, e = .returned o ∧ OwnB w' W.heap.size o (onlyS l S nt) ∧ Below W.heap.size W w' := fun W vn S nt hb hs hl => only_any _ vn l S nt W (H0.out.below hb) (by have := HL0.out; omega) hs (by omega)
      have HFL := Lib.hid hfl
      have HOR := Lib.hid hor
      have HON := Lib.hid hon
      clear hfl hol hot hor hon
      go_enter Tryd.func5, Tryd.ntmps5
      go_wp2_with fail
      refine (HON.out w _ [] true (Below.refl _ _) (strsNil w) (by simp)).mono ?_
      rintro e w1 ⟨o1, rfl, ho1, hb1⟩
      go_wp2_with fail
      refine (HOR.out w1 _ _ _ _ ho1).mono ?_
      rintro e w2 ⟨va, rfl, hva, hb2⟩
      have hs1 := hb1.size
      have hs2 := hb2.size
      have HB2 := Lib.hid (hb1.trans (hb2.mono hs1))
      rw [told_only, pick_all] at hva
      have HVA := Lib.hid hva
      clear ho1 hb1 hb2 hva
      go_wp2_with fail
      have only : ∀ (W : World), Below w.heap.size w W → ∀ nt, Calls Tryd.prog 21 #[.slice a0 n0 c0, .slice a1 S.length c1, .bool nt] W fun e w' => ∃ o, e = .returned o ∧ OwnB w' W.heap.size o (onlyS l S nt) ∧ Below W.heap.size W w' := fun W hb nt => HON.out W _ S nt hb (H1.out.below hb) (by omega)
      have ON := Lib.hid only
      clear only
      refine (ON.out w2 HB2.out false).mono ?_
      rintro e w3 ⟨o3, rfl, ho3, hb3⟩
      go_wp2_with fail
      refine (HOR.out w3 _ _ _ _ ho3).mono ?_
      rintro e w4 ⟨vx, rfl, hvx, hb4⟩
      have hs3 := hb3.size
      have hs4 := hb4.size
      have HB4 := Lib.hid ((HB2.out.trans (hb3.mono (by omega))).trans (hb4.mono (by omega)))
      rw [told_only] at hvx
      have HVX := Lib.hid hvx
      have HVA4 := Lib.hid (OwnT.below (OwnT.below HVA.out hb3 (Nat.le_refl _)) hb4 (Nat.le_refl _))
      clear ho3 hb3 hb4 hvx HVA
      go_wp2_with fail
      refine (ON.out w4 HB4.out true).mono ?_
      rintro e w5 ⟨o5, rfl, ho5, hb5⟩
      go_wp2_with fail
      refine (HOR.out w5 _ _ _ _ ho5).mono ?_
      rintro e w6 ⟨vy, rfl, hvy, hb6⟩
      have hs5 := hb5.size
      have hs6 := hb6.size
      have HB6 := Lib.hid ((HB4.out.trans (hb5.mono (by omega))).trans (hb6.mono (by omega)))
      rw [told_only] at hvy
      have HVY := Lib.hid hvy
      have HVX6 := Lib.hid (OwnT.below (OwnT.below HVX.out hb5 (Nat.le_refl _)) hb6 (Nat.le_refl _))
      have HVA6 := Lib.hid (OwnT.below (OwnT.below HVA4.out hb5 (Nat.le_refl _)) hb6 (Nat.le_refl _))
      clear ho5 hb5 hb6 hvy HVX HVA4
      go_wp2_with fail
      refine (fields_any _ l w6 (H0.out.below HB6.out) (by have := HL0.out; omega)).mono ?_
      rintro e w7 ⟨vw, rfl, hvw, hb7⟩
      have hs7 := hb7.size
      have HB7 := Lib.hid (HB6.out.trans (hb7.mono (by omega)))
      have HVW := Lib.hid hvw
      have HVX7 := Lib.hid (OwnT.below HVX6.out hb7 (Nat.le_refl _))
      have HVY7 := Lib.hid (OwnT.below HVY.out hb7 (Nat.le_refl _))
      have HVA7 := Lib.hid (OwnT.below HVA6.out hb7 (Nat.le_refl _))
      clear hb7 hvw HVX6 HVY HVA6
      go_wp2_with fail
      refine (HAW.out _).mono ?_
      rintro e w8 ⟨rfl, hb8⟩
      have hs8 := hb8.size
      have HB8 := Lib.hid (HB7.out.trans (hb8.mono (by omega)))
      have HVW8 := Lib.hid (OwnT.below HVW.out hb8 (Nat.le_refl _))
      have HVX8 := Lib.hid (OwnT.below HVX7.out hb8 (Nat.le_refl _))
      have HVY8 := Lib.hid (OwnT.below HVY7.out hb8 (Nat.le_refl _))
      have HVA8 := Lib.hid (OwnT.below HVA7.out hb8 (Nat.le_refl _))
      obtain ⟨xa, xc, ex⟩ := HVX8.out.shape
      obtain ⟨ya, yc, ey⟩ := HVY8.out.shape
      obtain ⟨wa, wc, ew⟩ := HVW8.out.shape
      have hsum := pick_sum S (fieldsS l)
      have hxl : ((pickF S false (fieldsS l)).map tkOf).length = (pickF S false (fieldsS l)).length := by simp
      have hyl : ((pickF S true (fieldsS l)).map tkOf).length = (pickF S true (fieldsS l)).length := by simp
      have hwl : (toldS l).length = (fieldsS l).length := by simp [toldS]
      rw [hxl] at ex
      rw [hyl] at ey
      rw [hwl] at ew
      have hal : ((fieldsS l).map tkOf).length ≤ 1000000 := by have := HFL.out; simp; omega
      have HAL := Lib.hid hal
      subst ex ey ew
      have hfl := HFL.out
      generalize hX : pickF S false (fieldsS l) = X at *
      generalize hY : pickF S true (fieldsS l) = Y at *
      have HX := Lib.hid hX
      have HY := Lib.hid hY
      have HS := Lib.hid hsum
      have hxb : X.length ≤ 20000 := by omega
      have hyb : Y.length ≤ 20000 := by omega
      have hxy : (X.length : Int) + (Y.length : Int) = ((fieldsS l).length : Int) := by omega
      have HXY := Lib.hid hxy
      clear hb8 HVW HVX7 HVY7 HVA7 hsum hX hY hxl hyl hwl hal hxy
      have e1 : ((X.length : Int) + (Y.length : Int) == ((fieldsS l).length : Int)) = true := by simpa using HXY.out
      have e2 : ((X.length : Int) + (Y.length : Int) != ((fieldsS l).length : Int)) = false := by simp [bne, e1]
      go_wp2_with fail
      refine (plainT_yes HVA8.out (show OwnT w8 w6.heap.size _ ((fieldsS l).map tkOf) from HVW8.out) HAL.out).mono ?_
      rintro e w9 ⟨rfl, hb9⟩
      have hs9 := hb9.size
      have HB9 := Lib.hid (HB8.out.trans (hb9.mono (by omega)))
      have HVW9 := Lib.hid (OwnT.below HVW8.out hb9 (Nat.le_refl _))
      have HVX9 := Lib.hid (OwnT.below HVX8.out hb9 (Nat.le_refl _))
      have HVY9 := Lib.hid (OwnT.below HVY8.out hb9 (Nat.le_refl _))
      clear hb9 HVA8 HVW8 HVX8 HVY8
      go_wp2_with fail
      go_loopw [9, 10, 11] (fun i k n wr => ∃ m : Nat, m ≤ (fieldsS l).length ∧ n = .int .i64 m ∧ i = .int .i64 ((pickF S false ((fieldsS l).take m)).length : Nat) ∧ k = .int .i64 ((pickF S true ((fieldsS l).take m)).length : Nat) ∧ Still w9 wr) (fun _ _ n _ => (fieldsS l).length - (RowKit.intOf n).toNat)
      case atStart => exact ⟨0, Nat.zero_le _, rfl, rfl, rfl, Still.refl _⟩
      case round =>
        obtain ⟨m, hm, rfl, rfl, rfl, hst⟩ := hrel
        by_cases hml : m < (fieldsS l).length
        · obtain ⟨wb, rfl, w1, w2⟩ := told_cells HVW9.out hst m (by simp [toldS]; exact hml)
          have wq1 : (toldS l)[m]'(by simp [toldS]; exact hml) = tkOf (fieldsS l)[m] := by simp [toldS]
          rw [wq1] at w1 w2
          simp only [tkOf] at w1 w2
          have hne := HX.out
          have hmi : (m : Int) < ((fieldsS l).length : Int) := by omega
          have himle : (pickF S false ((fieldsS l).take m)).length ≤ 20000 := by have := pick_sum S ((fieldsS l).take m); simp at this; omega
          have hkmle : (pickF S true ((fieldsS l).take m)).length ≤ 20000 := by have := pick_sum S ((fieldsS l).take m); simp at this; omega
          cases hk : keepB S false (fieldsS l)[m]
          · obtain ⟨p1, p2, p3⟩ := pick_at S true (fieldsS l) m hml (by rw [keep_not, hk]; rfl)
            have p4 := pick_skip S false (fieldsS l) m hml hk
            have hyi : (pickF S true ((fieldsS l).take m)).length < Y.length := by rw [← HY.out]; exact p2
            obtain ⟨yb, rfl, y1, y2⟩ := told_cells HVY9.out hst _ (show (pickF S true ((fieldsS l).take m)).length < (Y.map tkOf).length by simpa using hyi)
            have p5 : Y[(pickF S true ((fieldsS l).take m)).length] = (fieldsS l)[m] := by rw [← p3]; congr 1; exact HY.out.symm
            rw [List.getElem_map, p5] at y1 y2
            simp only [tkOf] at y1 y2
            have hp1 : (pickF S true ((fieldsS l).take (m + 1))).length = (pickF S true ((fieldsS l).take m)).length + 1 := by rw [p1]; simp
            have hp2 : (pickF S false ((fieldsS l).take (m + 1))).length = (pickF S false ((fieldsS l).take m)).length := by rw [p4]
            have HP1 := Lib.hid hp1
            have HP2 := Lib.hid hp2
            have HST := Lib.hid hst
            have hkk : ∀ i (h : i < X.length), keepB S false X[i] = true := fun i h => by
              have := pick_keep S false (fieldsS l) i (by rw [HX.out]; exact h)
              rw [← this]
              congr 1
              congr 1
              exact HX.out.symm
            by_cases hxi : (pickF S false ((fieldsS l).take m)).length < X.length
            · obtain ⟨xb, rfl, x1, x2⟩ := told_cells HVX9.out hst _ (show (pickF S false ((fieldsS l).take m)).length < (X.map tkOf).length by simpa using hxi)
              have hdif := keep_ne (hkk _ hxi) hk
              rw [List.getElem_map] at x1 x2
              simp only [tkOf] at x1 x2
              clear hk p1 p2 p3 p4 p5 hp1 hp2 hst hne wq1 hkk
              generalize X[(pickF S false ((fieldsS l).take m)).length] = fx at *
              generalize (pickF S false ((fieldsS l).take m)).length = i at *
              generalize (pickF S true ((fieldsS l).take m)).length = k at *
              have hxii : (i : Int) < (X.length : Int) := by omega
              have hyii : (k : Int) < (Y.length : Int) := by omega
              generalize (fieldsS l)[m] = f at *
              generalize cutT f.T = ct at *
              generalize f.nm = nm at *
              generalize cutT fx.T = cx at *
              generalize fx.nm = nx at *
              go_wp2_with fail
              go_quiet (fail)
              go_wp2_with fail
              go_quiet (fail)
              go_wp2_with fail
              go_roundw
              case rel => exact ⟨m + 1, by omega, by go_num, by rw [HP2.out], by rw [HP1.out]; go_num, HST.out.drewN _⟩
              case measure => simp [RowKit.intOf]; omega
            · clear hk p1 p2 p3 p4 p5 hp1 hp2 hst hne wq1 hkk
              generalize (pickF S false ((fieldsS l).take m)).length = i at *
              generalize (pickF S true ((fieldsS l).take m)).length = k at *
              have hxii : ¬ (i : Int) < (X.length : Int) := by omega
              have hyii : (k : Int) < (Y.length : Int) := by omega
              generalize (fieldsS l)[m] = f at *
              generalize cutT f.T = ct at *
              generalize f.nm = nm at *
              go_wp2_with fail
              go_quiet (fail)
              go_wp2_with fail
              go_quiet (fail)
              go_wp2_with fail
              go_roundw
              case rel => exact ⟨m + 1, by omega, by go_num, by rw [HP2.out], by rw [HP1.out]; go_num, HST.out.drewN _⟩
              case measure => simp [RowKit.intOf]; omega
          · obtain ⟨p1, p2, p3⟩ := pick_at S false (fieldsS l) m hml hk
            have p4 := pick_skip S true (fieldsS l) m hml (by rw [keep_not, hk]; rfl)
            have hxi : (pickF S false ((fieldsS l).take m)).length < X.length := by rw [← HX.out]; exact p2
            obtain ⟨xb, rfl, x1, x2⟩ := told_cells HVX9.out hst _ (show (pickF S false ((fieldsS l).take m)).length < (X.map tkOf).length by simpa using hxi)
            have p5 : X[(pickF S false ((fieldsS l).take m)).length] = (fieldsS l)[m] := by rw [← p3]; congr 1; exact HX.out.symm
            rw [List.getElem_map, p5] at x1 x2
            simp only [tkOf] at x1 x2
            have hp1 : (pickF S false ((fieldsS l).take (m + 1))).length = (pickF S false ((fieldsS l).take m)).length + 1 := by rw [p1]; simp
            have hp2 : (pickF S true ((fieldsS l).take (m + 1))).length = (pickF S true ((fieldsS l).take m)).length := by rw [p4]
            have HP1 := Lib.hid hp1
            have HP2 := Lib.hid hp2
            have HST := Lib.hid hst
            clear hk p1 p2 p3 p4 p5 hp1 hp2 hst hne wq1
            generalize (pickF S false ((fieldsS l).take m)).length = i at *
            generalize (pickF S true ((fieldsS l).take m)).length = k at *
            have hxii : (i : Int) < (X.length : Int) := by omega
            generalize (fieldsS l)[m] = f at *
            generalize cutT f.T = ct at *
            generalize f.nm = nm at *
            go_wp2_with fail
            go_quiet (fail)
            go_wp2_with fail
            go_roundw
            case rel => exact ⟨m + 1, by omega, by go_num, by rw [HP1.out]; go_num, by rw [HP2.out], HST.out.drewN _⟩
            case measure => simp [RowKit.intOf]; omega
        · obtain rfl : m = (fieldsS l).length := by omega
          have hbx : Below w.heap.size w wr := HB9.out.trans (hst.1.mono (by omega))
          have HBX := Lib.hid hbx
          clear hbx hst
          go_wp2_with fail
          refine (HON.out wr _ [] false HBX.out (strsNil wr) (by simp)).mono ?_
          rintro e wz ⟨oz, rfl, hoz, hbz⟩
          have hbz2 := HBX.out.trans (hbz.mono HBX.out.size)
          have he : onlyS l [] false = [13, 10] := by unfold onlyS; rw [pick_none]; rfl
          rw [he] at hoz
          obtain ⟨za, zc, rfl⟩ := hoz.shape
          have HBZ := Lib.hid hbz2
          clear hoz hbz hbz2 he
          go_wp2_with fail
          go_ret
          exact ⟨rfl, HBZ.out⟩
end Go.Proofs.YtlfdcocaedeneaaDoor
