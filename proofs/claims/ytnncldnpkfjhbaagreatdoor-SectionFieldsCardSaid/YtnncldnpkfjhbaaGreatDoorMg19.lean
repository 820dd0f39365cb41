/-
  Several texts of one proof, each in a section of its own: Typ2, Typ3.
-/
import Derived.Test.YtnncldnpkfjhbaaGreatDoorMg18
import Derived.Deep.DeepCutAuto
namespace Go.Proofs.YtnncldnpkfjhbaaGreatDoor
section
set_option linter.unusedVariables false
open Go.RowKit Go.Lib Go.Shelf

theorem dropWhile_len (p : UInt8 → Bool) : ∀ l : List UInt8, (l.dropWhile p).length ≤ l.length
  | [] => Nat.le_refl _
  | a :: r => by
    simp only [List.dropWhile]
    split
    · exact Nat.le_succ_of_le (dropWhile_len p r)
    · exact Nat.le_refl _
theorem cutL_le (l : List UInt8) : (cutL l).length ≤ l.length := by
  unfold cutL Lib.trimS Lib.trimLeftS Lib.trimRightS
  refine Nat.le_trans (dropWhile_len _ _) ?_
  rw [List.length_reverse]
  exact Nat.le_trans (dropWhile_len _ _) (by simp)
theorem foldL_len (l : List UInt8) : (foldL l).length = l.length := by simp [foldL]

/-- texts, wherever they lie -/
def TxIn (w : World) (v : Value) (S : List (List UInt8)) : Prop :=
  ∃ a c, v = .slice a S.length c ∧ S.length ≤ c ∧ (S = [] ∨ ∃ b off, a = some ⟨b, off, none⟩ ∧ b < w.heap.size ∧ ∀ i (h : i < S.length), w.cell? ⟨b, off + i, none⟩ = some (.string (strL S[i])))
theorem TxIn.below {w w' : World} {v : Value} {S : List (List UInt8)} (h : TxIn w v S) (hb : Below w.heap.size w w') : TxIn w' v S := by
  obtain ⟨a, c, e, hc, h | ⟨b, off, ha, hlt, hi⟩⟩ := h
  · exact ⟨a, c, e, hc, .inl h⟩
  · exact ⟨a, c, e, hc, .inr ⟨b, off, ha, Nat.lt_of_lt_of_le hlt hb.size, fun i h => (hb.cell (p := ⟨b, off + i, none⟩) hlt).trans (hi i h)⟩⟩
theorem OwnS.cells {w : World} {B : Nat} {v : Value} {S : List (List UInt8)} (h : OwnS w B v S) (h0 : 0 < S.length) : ∃ g cap, v = .slice (some ⟨g, 0, none⟩) S.length cap ∧ S.length ≤ cap ∧ g < w.heap.size ∧ ∀ i (hi : i < S.length), w.cell? ⟨g, i, none⟩ = some (.string (strL S[i])) := by
  rcases h.2 with ⟨_, hz⟩ | ⟨g, cap, cur, hv, hB, hh, hc, hmx, hs, ht⟩
  · omega
  · refine ⟨g, cap, hv, hc, (Array.getElem?_eq_some_iff.1 hh).1, fun i hi => ?_⟩
    rw [cell_of_row _ _ _ _ 9 (0, 0) hh]
    have h1 : (strsV S)[i]? = some (.string (strL S[i])) := by simp [strsV, hi]
    rw [← ht, List.getElem?_take_of_lt (by omega)] at h1
    simpa using h1

/-- the first boundary that is told, if it may be one -/
def boundS : List (List UInt8) → List UInt8
  | [] => []
  | p :: r => if (cutP 61 p).2.2 = true ∧ foldL (cutL (cutP 61 p).1) = [98, 111, 117, 110, 100, 97, 114, 121] then (if boundB (saysL (cutL (cutP 61 p).2.1)) = true then saysL (cutL (cutP 61 p).2.1) else []) else boundS r
theorem strL_eqB (x y : List UInt8) : ((strL x).toList == y) = decide (x = y) := by
  rw [ByteArray.toList_eq]
  show (x == y) = _
  by_cases h : x = y
  · subst h; simp
  · rw [decide_eq_false h]; simpa using h

set_option maxHeartbeats 4000000 in
set_option maxRecDepth 100000 in
theorem boundary_any (v : Value) (S : List (List UInt8)) (w : World) (hv : TxIn w v S) (hS : S.length ≤ 1000000) (hs : ∀ x ∈ S, x.length ≤ 100000) :
    Calls Tryz.prog 48 #[v] w fun e w' => e = .returned (.string (strL (boundS S))) ∧ Below w.heap.size w w' := by
  obtain ⟨a, c, rfl, hc, -⟩ := id hv
  have HV := Lib.hid hv
  have HS := Lib.hid hs
  have hcz : (S.length : Int) ≤ 1000000 := by omega
  clear hv hs
  go_enter Tryz.func48, Tryz.ntmps48
  go_wp2_with fail
  go_loopw [11] (fun i wr => ∃ k : Nat, k ≤ S.length ∧ i = .int .i64 (k : Nat) ∧ boundS (S.drop k) = boundS S ∧ Below w.heap.size w wr) (fun i _ => S.length - (RowKit.intOf i).toNat)
  case atStart => exact ⟨0, Nat.zero_le _, rfl, rfl, Below.refl _ _⟩
  case round =>
    obtain ⟨k, hk, rfl, hbs, hb⟩ := hrel
    rename World => wr
    have HB := Lib.hid hb
    have HBS := Lib.hid hbs
    clear hbs hb
    by_cases hlt : k < S.length
    · obtain ⟨a', c', e, -, h⟩ := HV.out.below HB.out
      obtain ⟨rfl, -, rfl⟩ := Value.slice.inj e
      rcases h with rfl | ⟨b, off, rfl, hbl, hcell⟩
      · simp at hlt
      have hck := hcell k hlt
      obtain ⟨p, hp⟩ : ∃ p, S[k] = p := ⟨_, rfl⟩
      have hps : p.length ≤ 100000 := by rw [← hp]; exact HS.out _ (List.getElem_mem hlt)
      rw [hp] at hck
      have hdk : S.drop k = p :: S.drop (k + 1) := by rw [List.drop_eq_getElem_cons hlt, hp]
      have h1 := HBS.out
      rw [hdk] at h1
      have hkz : (k : Int) < (S.length : Int) := by omega
      have hkc : (k : Int) < (c : Int) := by omega
      have HCUT := Lib.hid (scut_any 61 p (by omega) wr)
      have hcl := cutP_le 61 p
      obtain ⟨pa, hpa⟩ : ∃ x, (cutP 61 p).1 = x := ⟨_, rfl⟩
      obtain ⟨pb, hpb⟩ : ∃ x, (cutP 61 p).2.1 = x := ⟨_, rfl⟩
      obtain ⟨pc, hpc⟩ : ∃ x, (cutP 61 p).2.2 = x := ⟨_, rfl⟩
      rw [boundS, hpa, hpb, hpc] at h1
      rw [hpa, hpb, hpc] at HCUT
      rw [hpa, hpb] at hcl
      have hMC := fun W => mcut_any (strL pa) W (by rw [strL_size]; omega)
      rw [show (strL pa).data.toList = pa from rfl] at hMC
      have hFC := fun W => Fold_any (strL (cutL pa)) (by rw [strL_size]; have := cutL_le pa; omega) W
      rw [show (strL (cutL pa)).data.toList = cutL pa from rfl] at hFC
      have hMB := fun W => mcut_any (strL pb) W (by rw [strL_size]; omega)
      rw [show (strL pb).data.toList = pb from rfl] at hMB
      have hlb := cutL_le pb
      have hSB := fun W => says_any (strL (cutL pb)) (by rw [strL_size]; omega) W
      rw [show (strL (cutL pb)).data.toList = cutL pb from rfl] at hSB
      have hls := saysL_le (cutL pb)
      have hRB := fun W => rightb_any (strL (saysL (cutL pb))) W (by rw [strL_size]; omega)
      rw [show (strL (saysL (cutL pb))).data.toList = saysL (cutL pb) from rfl] at hRB
      have hse := strL_eqB (foldL (cutL pa)) [98, 111, 117, 110, 100, 97, 114, 121]
      have HPS := Lib.hid h1
      have HM1 := Lib.hid hMC
      have HF1 := Lib.hid hFC
      have HM2 := Lib.hid hMB
      have HS2 := Lib.hid hSB
      have HR2 := Lib.hid hRB
      clear h1 hMC hFC hMB hSB hRB hps hcl hpa hpb hpc hdk hlb hls hp hcell e
      cases pc
      · have HNX : Hid (boundS (S.drop (k + 1)) = boundS S) := Lib.hid (by
          have := HPS.out
          rwa [if_neg (by simp)] at this)
        clear hse
        go_wp2_with (go_at_call 45; refine HCUT.out.mono ?_; rintro e w1 ⟨rfl, hb1⟩; have HB1 := Lib.hid hb1; clear hb1)
        go_roundw
        case rel => exact ⟨k + 1, by omega, by go_num, HNX.out, HB.out.trans (HB1.out.mono HB.out.size)⟩
        case measure => simp [RowKit.intOf]; omega
      · by_cases hf : foldL (cutL pa) = [98, 111, 117, 110, 100, 97, 114, 121]
        · have hse2 : ((strL (foldL (cutL pa))).toList == ([98, 111, 117, 110, 100, 97, 114, 121] : List UInt8)) = true := by
            have := hse
            rw [decide_eq_true hf] at this
            exact this
          have HP2 := Lib.hid HPS.out
          rw [if_pos ⟨rfl, hf⟩] at HP2
          clear HPS hse hf
          obtain ⟨FA, hFA⟩ : ∃ x, strL (foldL (cutL pa)) = x := ⟨_, rfl⟩
          rw [hFA] at hse2 HF1
          obtain ⟨SB, hSBx⟩ : ∃ x, saysL (cutL pb) = x := ⟨_, rfl⟩
          rw [hSBx] at HP2 HS2 HR2
          cases hbb : boundB SB
          · rw [hbb] at HR2 HP2
            have HP3 : Hid ([] = boundS S) := Lib.hid (by have := HP2.out; rwa [if_neg (by simp)] at this)
            clear HP2 hbb hSBx hFA
            go_wp2_with (first
              | (go_at_call 45; refine HCUT.out.mono ?_; rintro e w1 ⟨rfl, hb1⟩; have HB1 := Lib.hid hb1; clear hb1)
              | (go_at_call 46; with_reducible refine (HM1.out _).mono ?_; rintro e w2 ⟨rfl, hb2⟩; have HB2 := Lib.hid hb2; clear hb2)
              | (go_at_call 41; with_reducible refine (HF1.out _).mono ?_; rintro e w3 ⟨rfl, hb3⟩; have HB3 := Lib.hid hb3; clear hb3)
              | (go_at_call 46; with_reducible refine (HM2.out _).mono ?_; rintro e w4 ⟨rfl, hb4⟩; have HB4 := Lib.hid hb4; clear hb4)
              | (go_at_call 76; with_reducible refine (HS2.out _).mono ?_; rintro e w5 ⟨rfl, hb5⟩; have HB5 := Lib.hid hb5; clear hb5)
              | (go_at_call 77; with_reducible refine (HR2.out _).mono ?_; rintro e w6 ⟨rfl, rfl⟩))
            refine bodyPost_ret (v := .string ⟨#[]⟩) (by simp [results, Tryz.results48, go_sem]) rfl ?_
            have h1 := HB.out.trans (HB1.out.mono HB.out.size)
            have h2 := h1.trans (HB2.out.mono h1.size)
            have h3 := h2.trans (HB3.out.mono h2.size)
            have h4 := h3.trans (HB4.out.mono h3.size)
            exact ⟨by rw [← HP3.out]; rfl, h4.trans (HB5.out.mono h4.size)⟩
          · rw [hbb] at HR2 HP2
            have HP3 : Hid (SB = boundS S) := Lib.hid (by have := HP2.out; rwa [if_pos rfl] at this)
            clear HP2 hbb hSBx hFA
            go_wp2_with (first
              | (go_at_call 45; refine HCUT.out.mono ?_; rintro e w1 ⟨rfl, hb1⟩; have HB1 := Lib.hid hb1; clear hb1)
              | (go_at_call 46; with_reducible refine (HM1.out _).mono ?_; rintro e w2 ⟨rfl, hb2⟩; have HB2 := Lib.hid hb2; clear hb2)
              | (go_at_call 41; with_reducible refine (HF1.out _).mono ?_; rintro e w3 ⟨rfl, hb3⟩; have HB3 := Lib.hid hb3; clear hb3)
              | (go_at_call 46; with_reducible refine (HM2.out _).mono ?_; rintro e w4 ⟨rfl, hb4⟩; have HB4 := Lib.hid hb4; clear hb4)
              | (go_at_call 76; with_reducible refine (HS2.out _).mono ?_; rintro e w5 ⟨rfl, hb5⟩; have HB5 := Lib.hid hb5; clear hb5)
              | (go_at_call 77; with_reducible refine (HR2.out _).mono ?_; rintro e w6 ⟨rfl, rfl⟩))
            refine bodyPost_ret (v := .string (strL SB)) (by simp [results, Tryz.results48, go_sem]) rfl ?_
            have h1 := HB.out.trans (HB1.out.mono HB.out.size)
            have h2 := h1.trans (HB2.out.mono h1.size)
            have h3 := h2.trans (HB3.out.mono h2.size)
            have h4 := h3.trans (HB4.out.mono h3.size)
            exact ⟨by rw [← HP3.out], h4.trans (HB5.out.mono h4.size)⟩
        · have hse2 : ((strL (foldL (cutL pa))).toList == ([98, 111, 117, 110, 100, 97, 114, 121] : List UInt8)) = false := by
            have := hse
            rw [decide_eq_false hf] at this
            exact this
          have HNX : Hid (boundS (S.drop (k + 1)) = boundS S) := Lib.hid (by
            have := HPS.out
            rwa [if_neg (fun h => hf h.2)] at this)
          clear HPS hse hf HM2 HS2 HR2
          obtain ⟨FA, hFA⟩ : ∃ x, strL (foldL (cutL pa)) = x := ⟨_, rfl⟩
          rw [hFA] at hse2 HF1
          clear hFA
          go_wp2_with (first
            | (go_at_call 45; refine HCUT.out.mono ?_; rintro e w1 ⟨rfl, hb1⟩; have HB1 := Lib.hid hb1; clear hb1)
            | (go_at_call 46; with_reducible refine (HM1.out _).mono ?_; rintro e w2 ⟨rfl, hb2⟩; have HB2 := Lib.hid hb2; clear hb2)
            | (go_at_call 41; with_reducible refine (HF1.out _).mono ?_; rintro e w3 ⟨rfl, hb3⟩; have HB3 := Lib.hid hb3; clear hb3))
          go_roundw
          case rel =>
            have h1 := HB.out.trans (HB1.out.mono HB.out.size)
            have h2 := h1.trans (HB2.out.mono h1.size)
            exact ⟨k + 1, by omega, by go_num, HNX.out, h2.trans (HB3.out.mono h2.size)⟩
          case measure => simp [RowKit.intOf]; omega
    · obtain rfl : k = S.length := by omega
      have HF : Hid ([] = boundS S) := Lib.hid (by
        have h1 := HBS.out
        rw [List.drop_length] at h1
        exact h1)
      clear HBS
      go_wp2_with fail
      refine bodyPost_ret (v := .string ⟨#[]⟩) (by simp [results, Tryz.results48, go_sem]) rfl ?_
      exact ⟨by rw [← HF.out]; rfl, HB.out⟩
end
section
set_option linter.unusedVariables false
open Go.RowKit Go.Lib Go.Shelf

def kindW (l : List UInt8) : List UInt8 := foldL (cutL (cutP 47 l).1)
def subW (l : List UInt8) : List UInt8 := foldL (cutL (cutP 59 (cutP 47 l).2.1).1)
def kindS (l : List UInt8) : List UInt8 := if wordB (kindW l) = true ∧ wordB (subW l) = true then kindW l else [116, 101, 120, 116]
def subS (l : List UInt8) : List UInt8 := if wordB (kindW l) = true ∧ wordB (subW l) = true then subW l else [112, 108, 97, 105, 110]
def bndS (l : List UInt8) : List UInt8 := boundS ((pcs [] l).drop 1)

theorem pcs_tail {w : World} {B : Nat} {v : Value} {l : List UInt8} (h : OwnS w B v (pcs [] l)) (hl : l.length ≤ 100000) : ∃ g cap, v = .slice (some ⟨g, 0, none⟩) (pcs [] l).length cap ∧ 1 ≤ (pcs [] l).length ∧ (pcs [] l).length ≤ cap ∧
    ∀ W, Below w.heap.size w W → Calls Tryz.prog 48 #[.slice (if cap = 1 then some ⟨g, 0, none⟩ else some ⟨g, 1, none⟩) ((pcs [] l).length - 1) (cap - 1)] W fun e w' => e = .returned (.string (strL (bndS l))) ∧ Below W.heap.size W w' := by
  obtain ⟨h1, h2, h3⟩ := pcs_len _ [] l (Nat.le_refl _)
  obtain ⟨g, cap, hv, hc, hg, hcell⟩ := h.cells (by omega)
  refine ⟨g, cap, hv, h1, hc, fun W hW => ?_⟩
  have hlen : ((pcs [] l).drop 1).length = (pcs [] l).length - 1 := by simp
  refine boundary_any _ ((pcs [] l).drop 1) W ⟨_, cap - 1, by rw [hlen], by omega, ?_⟩ (by omega) (fun x hx => by have := h3 x (List.mem_of_mem_drop hx); simp at this; omega)
  by_cases h0 : (pcs [] l).length = 1
  · left
    exact List.eq_nil_of_length_eq_zero (by omega)
  · right
    refine ⟨g, 1, ?_, Nat.lt_of_lt_of_le hg hW.size, fun i hi => ?_⟩
    · rw [if_neg (by omega)]
    · rw [(hW.cell (p := ⟨g, 1 + i, none⟩) hg).trans (hcell (1 + i) (by omega))]
      simp [Nat.add_comm]

set_option maxHeartbeats 4000000 in
set_option maxRecDepth 100000 in
theorem type_any (l : List UInt8) (w : World) (hl : l.length ≤ 100000) :
    Calls Tryz.prog 29 #[.string (strL l)] w fun e w' => e = .returned (.tuple #[.string (strL (kindS l)), .string (strL (subS l)), .string (strL (bndS l))]) ∧ Below w.heap.size w w' := by
  have hc1 := cutP_le 47 l
  have HC1 := Lib.hid fun W => scut_any 47 l (by omega) W
  have HPC := Lib.hid fun W => pieces_any (strL l) W (by rw [strL_size]; omega)
  rw [show (strL l).data.toList = l from rfl] at HPC
  obtain ⟨n, hn⟩ : ∃ n, (pcs [] l).length = n := ⟨_, rfl⟩
  have HPT : Hid (∀ (w : World) (B : Nat) (v : Value), OwnS w B v (pcs [] l) → ∃ g cap, v = .slice (some ⟨g, 0, none⟩) n cap ∧ 1 ≤ n ∧ n ≤ cap ∧
    ∀ W, Below w.heap.size w W → Calls Tryz.prog 48 #[.slice (if cap = 1 then some ⟨g, 0, none⟩ else some ⟨g, 1, none⟩) (n - 1) (cap - 1)] W fun e w' => e = .returned (.string (strL (bndS l))) ∧ Below W.heap.size W w') := Lib.hid (fun w B v h => by
    have := pcs_tail h hl
    rw [hn] at this
    exact this)
  have hn2 := (pcs_len _ [] l (Nat.le_refl _)).2.1
  rw [hn] at hn2
  obtain ⟨a, ha⟩ : ∃ a, (cutP 47 l).1 = a := ⟨_, rfl⟩
  obtain ⟨b, hb⟩ : ∃ b, (cutP 47 l).2.1 = b := ⟨_, rfl⟩
  obtain ⟨t, ht⟩ : ∃ t, (cutP 47 l).2.2 = t := ⟨_, rfl⟩
  have hK : kindW l = foldL (cutL a) := by unfold kindW; rw [ha]
  have hS : subW l = foldL (cutL (cutP 59 b).1) := by unfold subW; rw [hb]
  rw [ha, hb] at hc1
  rw [ha, hb, ht] at HC1
  have hc2 := cutP_le 59 b
  have HC2 := Lib.hid fun W => scut_any 59 b (by omega) W
  obtain ⟨c, hc⟩ : ∃ c, (cutP 59 b).1 = c := ⟨_, rfl⟩
  obtain ⟨d, hd⟩ : ∃ d, (cutP 59 b).2.1 = d := ⟨_, rfl⟩
  obtain ⟨u, hu⟩ : ∃ u, (cutP 59 b).2.2 = u := ⟨_, rfl⟩
  rw [hc] at hS hc2
  rw [hc, hd, hu] at HC2
  have hMA := fun W => mcut_any (strL a) W (by rw [strL_size]; omega)
  rw [show (strL a).data.toList = a from rfl] at hMA
  have hFA := fun W => Fold_any (strL (cutL a)) (by rw [strL_size]; have := cutL_le a; omega) W
  rw [show (strL (cutL a)).data.toList = cutL a from rfl, ← hK] at hFA
  have hMC := fun W => mcut_any (strL c) W (by rw [strL_size]; omega)
  rw [show (strL c).data.toList = c from rfl] at hMC
  have hFC := fun W => Fold_any (strL (cutL c)) (by rw [strL_size]; have := cutL_le c; omega) W
  rw [show (strL (cutL c)).data.toList = cutL c from rfl, ← hS] at hFC
  have hWK := fun W => word_any (strL (kindW l)) W (by rw [strL_size, hK, foldL_len]; have := cutL_le a; omega)
  rw [show (strL (kindW l)).data.toList = kindW l from rfl] at hWK
  have hWS := fun W => word_any (strL (subW l)) W (by rw [strL_size, hS, foldL_len]; have := cutL_le c; omega)
  rw [show (strL (subW l)).data.toList = subW l from rfl] at hWS
  have HMA := Lib.hid hMA
  have HFA := Lib.hid hFA
  have HMC := Lib.hid hMC
  have HFC := Lib.hid hFC
  have HWK := Lib.hid hWK
  have HWS := Lib.hid hWS
  have HKS : Hid (kindS l = if wordB (kindW l) = true ∧ wordB (subW l) = true then kindW l else [116, 101, 120, 116]) := Lib.hid rfl
  have HSS : Hid (subS l = if wordB (kindW l) = true ∧ wordB (subW l) = true then subW l else [112, 108, 97, 105, 110]) := Lib.hid rfl
  generalize kindS l = KS at *
  generalize subS l = SS at *
  generalize kindW l = K at *
  generalize subW l = S at *
  clear hc1 hc2 ha hb ht hc hd hu hMA hFA hMC hFC hWK hWS hK hS hl hn
  obtain ⟨bk, hbk⟩ : ∃ bk, wordB K = bk := ⟨_, rfl⟩
  rw [hbk] at HWK HKS HSS
  obtain ⟨bs, hbs⟩ : ∃ bs, wordB S = bs := ⟨_, rfl⟩
  rw [hbs] at HWS HKS HSS
  clear hbk hbs
  cases bk
  · have H1 : Hid (KS = [116, 101, 120, 116] ∧ SS = [112, 108, 97, 105, 110]) := Lib.hid ⟨by rw [HKS.out, if_neg (by simp)], by rw [HSS.out, if_neg (by simp)]⟩
    go_enter Tryz.func29, Tryz.ntmps29
    go_wp2_with (first
      | (go_at_call 45; with_reducible refine (HC1.out _).mono ?_; rintro e w1 ⟨rfl, hb1⟩; have HB1 := Lib.hid hb1; clear hb1)
      | (go_at_call 45; with_reducible refine (HC2.out _).mono ?_; rintro e w2 ⟨rfl, hb2⟩; have HB2 := Lib.hid (HB1.out.trans (hb2.mono HB1.out.size)); clear hb2)
      | (go_at_call 46; with_reducible refine (HMA.out _).mono ?_; rintro e w3 ⟨rfl, hb3⟩; have HB3 := Lib.hid (HB2.out.trans (hb3.mono HB2.out.size)); clear hb3)
      | (go_at_call 41; with_reducible refine (HFA.out _).mono ?_; rintro e w4 ⟨rfl, hb4⟩; have HB4 := Lib.hid (HB3.out.trans (hb4.mono HB3.out.size)); clear hb4)
      | (go_at_call 46; with_reducible refine (HMC.out _).mono ?_; rintro e w5 ⟨rfl, hb5⟩; have HB5 := Lib.hid (HB4.out.trans (hb5.mono HB4.out.size)); clear hb5)
      | (go_at_call 41; with_reducible refine (HFC.out _).mono ?_; rintro e w6 ⟨rfl, hb6⟩; have HB6 := Lib.hid (HB5.out.trans (hb6.mono HB5.out.size)); clear hb6)
      | (go_at_call 47; with_reducible refine (HWK.out _).mono ?_; rintro e w7 ⟨rfl, rfl⟩)
      | (go_at_call 47; with_reducible refine (HWS.out _).mono ?_; rintro e w7 ⟨rfl, rfl⟩))
    refine (HPC.out _).mono ?_
    rintro e w8 ⟨o, rfl, ho, hb8⟩
    obtain ⟨g, cap, rfl, h1, hcp, hbd⟩ := HPT.out _ _ _ ho
    have HB8 := Lib.hid (HB6.out.trans (hb8.mono HB6.out.size))
    have h1z : (1 : Int) ≤ (n : Int) := by omega
    have hcz : (1 : Int) ≤ (cap : Int) := by omega
    have hncz : (n : Int) ≤ (cap : Int) := by omega
    clear ho hb8
    have hbd := hbd w8 (Below.refl _ _)
    by_cases hc1 : cap = 1
    · rw [if_pos hc1] at hbd
      obtain rfl : n = 1 := by omega
      subst hc1
      have HBD := Lib.hid hbd
      clear hbd
      go_wp2_with (go_at_call 48; refine HBD.out.mono ?_; rintro e w9 ⟨rfl, hb9⟩; have HB9 := Lib.hid (HB8.out.trans (hb9.mono HB8.out.size)); clear hb9)
      refine bodyPost_ret (v := .tuple #[.string ⟨#[116, 101, 120, 116]⟩, .string ⟨#[112, 108, 97, 105, 110]⟩, .string (strL (bndS l))]) (by simp [results, Tryz.results29, go_sem]) rfl ?_
      exact ⟨by rw [H1.out.1, H1.out.2]; rfl, HB9.out⟩
    · rw [if_neg hc1] at hbd
      have HBD := Lib.hid hbd
      clear hbd
      go_wp2_with (go_at_call 48; refine HBD.out.mono ?_; rintro e w9 ⟨rfl, hb9⟩; have HB9 := Lib.hid (HB8.out.trans (hb9.mono HB8.out.size)); clear hb9)
      refine bodyPost_ret (v := .tuple #[.string ⟨#[116, 101, 120, 116]⟩, .string ⟨#[112, 108, 97, 105, 110]⟩, .string (strL (bndS l))]) (by simp [results, Tryz.results29, go_sem]) rfl ?_
      exact ⟨by rw [H1.out.1, H1.out.2]; rfl, HB9.out⟩
  cases bs
  · have H1 : Hid (KS = [116, 101, 120, 116] ∧ SS = [112, 108, 97, 105, 110]) := Lib.hid ⟨by rw [HKS.out, if_neg (by simp)], by rw [HSS.out, if_neg (by simp)]⟩
    go_enter Tryz.func29, Tryz.ntmps29
    go_wp2_with (first
      | (go_at_call 45; with_reducible refine (HC1.out _).mono ?_; rintro e w1 ⟨rfl, hb1⟩; have HB1 := Lib.hid hb1; clear hb1)
      | (go_at_call 45; with_reducible refine (HC2.out _).mono ?_; rintro e w2 ⟨rfl, hb2⟩; have HB2 := Lib.hid (HB1.out.trans (hb2.mono HB1.out.size)); clear hb2)
      | (go_at_call 46; with_reducible refine (HMA.out _).mono ?_; rintro e w3 ⟨rfl, hb3⟩; have HB3 := Lib.hid (HB2.out.trans (hb3.mono HB2.out.size)); clear hb3)
      | (go_at_call 41; with_reducible refine (HFA.out _).mono ?_; rintro e w4 ⟨rfl, hb4⟩; have HB4 := Lib.hid (HB3.out.trans (hb4.mono HB3.out.size)); clear hb4)
      | (go_at_call 46; with_reducible refine (HMC.out _).mono ?_; rintro e w5 ⟨rfl, hb5⟩; have HB5 := Lib.hid (HB4.out.trans (hb5.mono HB4.out.size)); clear hb5)
      | (go_at_call 41; with_reducible refine (HFC.out _).mono ?_; rintro e w6 ⟨rfl, hb6⟩; have HB6 := Lib.hid (HB5.out.trans (hb6.mono HB5.out.size)); clear hb6)
      | (go_at_call 47; with_reducible refine (HWK.out _).mono ?_; rintro e w7 ⟨rfl, rfl⟩)
      | (go_at_call 47; with_reducible refine (HWS.out _).mono ?_; rintro e w7 ⟨rfl, rfl⟩))
    refine (HPC.out _).mono ?_
    rintro e w8 ⟨o, rfl, ho, hb8⟩
    obtain ⟨g, cap, rfl, h1, hcp, hbd⟩ := HPT.out _ _ _ ho
    have HB8 := Lib.hid (HB6.out.trans (hb8.mono HB6.out.size))
    have h1z : (1 : Int) ≤ (n : Int) := by omega
    have hcz : (1 : Int) ≤ (cap : Int) := by omega
    have hncz : (n : Int) ≤ (cap : Int) := by omega
    clear ho hb8
    have hbd := hbd w8 (Below.refl _ _)
    by_cases hc1 : cap = 1
    · rw [if_pos hc1] at hbd
      obtain rfl : n = 1 := by omega
      subst hc1
      have HBD := Lib.hid hbd
      clear hbd
      go_wp2_with (go_at_call 48; refine HBD.out.mono ?_; rintro e w9 ⟨rfl, hb9⟩; have HB9 := Lib.hid (HB8.out.trans (hb9.mono HB8.out.size)); clear hb9)
      refine bodyPost_ret (v := .tuple #[.string ⟨#[116, 101, 120, 116]⟩, .string ⟨#[112, 108, 97, 105, 110]⟩, .string (strL (bndS l))]) (by simp [results, Tryz.results29, go_sem]) rfl ?_
      exact ⟨by rw [H1.out.1, H1.out.2]; rfl, HB9.out⟩
    · rw [if_neg hc1] at hbd
      have HBD := Lib.hid hbd
      clear hbd
      go_wp2_with (go_at_call 48; refine HBD.out.mono ?_; rintro e w9 ⟨rfl, hb9⟩; have HB9 := Lib.hid (HB8.out.trans (hb9.mono HB8.out.size)); clear hb9)
      refine bodyPost_ret (v := .tuple #[.string ⟨#[116, 101, 120, 116]⟩, .string ⟨#[112, 108, 97, 105, 110]⟩, .string (strL (bndS l))]) (by simp [results, Tryz.results29, go_sem]) rfl ?_
      exact ⟨by rw [H1.out.1, H1.out.2]; rfl, HB9.out⟩
  · have H1 : Hid (KS = K ∧ SS = S) := Lib.hid ⟨by rw [HKS.out, if_pos ⟨rfl, rfl⟩], by rw [HSS.out, if_pos ⟨rfl, rfl⟩]⟩
    go_enter Tryz.func29, Tryz.ntmps29
    go_wp2_with (first
      | (go_at_call 45; with_reducible refine (HC1.out _).mono ?_; rintro e w1 ⟨rfl, hb1⟩; have HB1 := Lib.hid hb1; clear hb1)
      | (go_at_call 45; with_reducible refine (HC2.out _).mono ?_; rintro e w2 ⟨rfl, hb2⟩; have HB2 := Lib.hid (HB1.out.trans (hb2.mono HB1.out.size)); clear hb2)
      | (go_at_call 46; with_reducible refine (HMA.out _).mono ?_; rintro e w3 ⟨rfl, hb3⟩; have HB3 := Lib.hid (HB2.out.trans (hb3.mono HB2.out.size)); clear hb3)
      | (go_at_call 41; with_reducible refine (HFA.out _).mono ?_; rintro e w4 ⟨rfl, hb4⟩; have HB4 := Lib.hid (HB3.out.trans (hb4.mono HB3.out.size)); clear hb4)
      | (go_at_call 46; with_reducible refine (HMC.out _).mono ?_; rintro e w5 ⟨rfl, hb5⟩; have HB5 := Lib.hid (HB4.out.trans (hb5.mono HB4.out.size)); clear hb5)
      | (go_at_call 41; with_reducible refine (HFC.out _).mono ?_; rintro e w6 ⟨rfl, hb6⟩; have HB6 := Lib.hid (HB5.out.trans (hb6.mono HB5.out.size)); clear hb6)
      | (go_at_call 47; with_reducible refine (HWK.out _).mono ?_; rintro e w7 ⟨rfl, rfl⟩)
      | (go_at_call 47; with_reducible refine (HWS.out _).mono ?_; rintro e w7 ⟨rfl, rfl⟩))
    refine (HPC.out _).mono ?_
    rintro e w8 ⟨o, rfl, ho, hb8⟩
    obtain ⟨g, cap, rfl, h1, hcp, hbd⟩ := HPT.out _ _ _ ho
    have HB8 := Lib.hid (HB6.out.trans (hb8.mono HB6.out.size))
    have h1z : (1 : Int) ≤ (n : Int) := by omega
    have hcz : (1 : Int) ≤ (cap : Int) := by omega
    have hncz : (n : Int) ≤ (cap : Int) := by omega
    clear ho hb8
    have hbd := hbd w8 (Below.refl _ _)
    by_cases hc1 : cap = 1
    · rw [if_pos hc1] at hbd
      obtain rfl : n = 1 := by omega
      subst hc1
      have HBD := Lib.hid hbd
      clear hbd
      go_wp2_with (go_at_call 48; refine HBD.out.mono ?_; rintro e w9 ⟨rfl, hb9⟩; have HB9 := Lib.hid (HB8.out.trans (hb9.mono HB8.out.size)); clear hb9)
      refine bodyPost_ret (v := .tuple #[.string (strL K), .string (strL S), .string (strL (bndS l))]) (by simp [results, Tryz.results29, go_sem]) rfl ?_
      exact ⟨by rw [H1.out.1, H1.out.2], HB9.out⟩
    · rw [if_neg hc1] at hbd
      have HBD := Lib.hid hbd
      clear hbd
      go_wp2_with (go_at_call 48; refine HBD.out.mono ?_; rintro e w9 ⟨rfl, hb9⟩; have HB9 := Lib.hid (HB8.out.trans (hb9.mono HB8.out.size)); clear hb9)
      refine bodyPost_ret (v := .tuple #[.string (strL K), .string (strL S), .string (strL (bndS l))]) (by simp [results, Tryz.results29, go_sem]) rfl ?_
      exact ⟨by rw [H1.out.1, H1.out.2], HB9.out⟩
end
end Go.Proofs.YtnncldnpkfjhbaaGreatDoor
