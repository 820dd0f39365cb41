/-
  name, goesOn: whether a line begins a field, and which; whether it goes on.
-/
import Derived.Test.YtlfdcocaedeneaaDoorLines
import Derived.Test.YtlfdcocaedeneaaDoorSmall
namespace Go.Proofs.YtlfdcocaedeneaaDoor
set_option linter.unusedVariables false
open Go.RowKit

def goesB (l : List Nat) : Bool := l.head? == some 32 || l.head? == some 9
theorem goes_any (v : Value) (l : List Nat) (w : World) (hr : RowB w v l) (h0 : l ≠ []) : Calls Tryd.prog 41 #[v] w fun e w' => e = .returned (.bool (goesB l)) ∧ w' = w := by
  have hp : 0 < l.length := List.length_pos_iff.2 h0
  rcases hr.shape with ⟨rfl, he⟩ | ⟨lb, lo, c, rfl, h1, h2, h3, hcell⟩
  · exact absurd rfl h0
  · obtain ⟨d, r, rfl⟩ : ∃ d r, l = d :: r := by
      cases l with
      | nil => exact absurd rfl h0
      | cons d r => exact ⟨d, r, rfl⟩
    have hc := hcell 0 (by simp)
    simp only [Nat.add_zero, List.getElem_cons_zero] at hc
    have HG : Hid (goesB (d :: r) = (decide (d = 32) || decide (d = 9))) := Lib.hid (by simp [goesB]; rfl)
    obtain ⟨n, hn⟩ : ∃ n, (d :: r).length = n + 1 := ⟨_, rfl⟩
    rw [hn]
    clear hcell h0 h1 h2 h3 hr hp hn
    by_cases e1 : d = 32
    · subst e1
      go_enter Tryd.func41, Tryd.ntmps41
      go_wp2_with fail
      go_ret
      exact ⟨ret_eq (by rw [HG.out]; rfl), rfl⟩
    · have g1 : ((d : Int) == 32) = false := beq_false_of_ne (by omega)
      go_enter Tryd.func41, Tryd.ntmps41
      go_wp2_with fail
      go_ret
      refine ⟨ret_eq ?_, rfl⟩
      rw [HG.out, decide_eq_false e1]
      by_cases e2 : d = 9
      · subst e2; rfl
      · rw [decide_eq_false e2]
        have g2 : ((d : Int) == 9) = false := beq_false_of_ne (by omega)
        show Value.bool ((d : Int) == 9) = _
        rw [g2]
        rfl

/-- which bytes a name has -/
def nameC (c : Nat) : Bool := decide (32 < c) && decide (c ≤ 126)
def lowN (c : Nat) : Nat := if 65 ≤ c ∧ c ≤ 90 then c + 32 else c
/-- how long the name is with which a line begins a field -/
def nameN (l : List Nat) : Option Nat := if 1 ≤ aheadN 58 l ∧ aheadN 58 l < l.length ∧ ∀ c ∈ l.take (aheadN 58 l), nameC c = true then some (aheadN 58 l) else none

theorem lowN_eq (c : Nat) (h : c < 256) : lowB (UInt8.ofNat c) = UInt8.ofNat (lowN c) := by
  unfold lowB lowN
  have e : (UInt8.ofNat c).toNat = c := by simp; omega
  rw [e]
  by_cases h1 : 65 ≤ c ∧ c ≤ 90
  · rw [if_pos h1, if_pos h1]
    apply UInt8.toNat_inj.1
    rw [UInt8.toNat_add, e]
    simp
  · rw [if_neg h1, if_neg h1]
theorem fold_str (l : List Nat) (h : ∀ n ∈ l, n < 256) : strL (foldL (strN l).data.toList) = strN (l.map lowN) := by
  have e : (strN l).data.toList = l.map UInt8.ofNat := by simp [strN]
  rw [e]
  unfold foldL strL strN
  congr 2
  rw [List.map_map, List.map_map]
  exact List.map_congr_left fun c hc => lowN_eq c (h c hc)

theorem Fold_any (s : ByteArray) (hs : s.size ≤ 100000) (w : World) :
    Calls Tryd.prog 18 #[.string s] w fun e w' => e = .returned (.string (strL (foldL s.data.toList))) ∧ Below w.heap.size w w' := by
  have HS := Lib.hid (small_any s hs w)
  go_enter Tryd.func18, Tryd.ntmps18
  go_wp2_with fail
  refine HS.out.mono ?_
  rintro e w2 ⟨rfl, hb⟩
  go_wp2_with fail
  go_ret
  exact ⟨rfl, hb⟩

/-- the name's text, folded -/
def nameT (l : List Nat) : ByteArray := match nameN l with | some n => strN ((l.take n).map lowN) | none => ⟨#[]⟩

set_option maxRecDepth 100000 in
set_option maxHeartbeats 4000000 in
theorem name_any (lb lo cap : Nat) (l : List Nat) (w : World) (hc : CellsL w lb lo l) (h0 : l ≠ []) (hlc : l.length ≤ cap) (hm : cap ≤ maxLen) (hlt : ∀ n ∈ l, n < 256) (hl : l.length ≤ 100000) :
    Calls Tryd.prog 42 #[.slice (some ⟨lb, lo, none⟩) l.length cap] w fun e w' => e = .returned (.tuple #[.string (nameT l), .bool (nameN l).isSome]) ∧ Below w.heap.size w w' := by
  have hix := index_any lb lo cap 58 l w (by decide) (hc.row hlc hm hlt)
  have hle := aheadN_le 58 l
  unfold maxLen at hm
  unfold idxI at hix
  obtain ⟨n, hn⟩ : ∃ n, aheadN 58 l = n := ⟨_, rfl⟩
  have hnm : nameN l = if 1 ≤ n ∧ n < l.length ∧ ∀ c ∈ l.take n, nameC c = true then some n else none := by unfold nameN; rw [hn]
  rw [hn] at hix hle
  have HC := Lib.hid hc
  have HLT := Lib.hid hlt
  have HNM := Lib.hid hnm
  clear hc hlt hnm hn
  by_cases h1 : n < l.length
  · rw [if_pos h1] at hix
    have HIX : Hid (Calls Tryd.prog 39 #[.slice (some ⟨lb, lo, none⟩) l.length cap, .int .u8 58] w fun e w' => e = .returned (.int .i64 (n : Int)) ∧ w' = w) := Lib.hid hix
    clear hix
    by_cases h2 : 1 ≤ n
    · have g2 : ¬ (n : Int) < 1 := by omega
      have gn : (n : Int) ≤ (cap : Int) := by omega
      have hcell : ∀ i (h : i < l.length), w.cell? ⟨lb, lo + i, none⟩ = some (.int .u8 (l[i] : Nat)) := HC.out
      have HCE := Lib.hid hcell
      clear hcell
      go_enter Tryd.func42, Tryd.ntmps42
      go_wp2_with fail
      refine HIX.out.mono ?_
      rintro e w2 ⟨rfl, rfl⟩
      go_wp2_with fail
      go_loop [15] (fun i => ∃ k : Nat, k ≤ n ∧ i = .int .i64 (k : Int) ∧ ∀ c ∈ l.take k, nameC c = true) (fun i => n - (intOf i).toNat)
      case atStart => exact ⟨0, Nat.zero_le _, rfl, by simp⟩
      case round =>
        obtain ⟨k, hk, rfl, hall⟩ := hrel
        have HALL := Lib.hid hall
        clear hall
        by_cases hkn : k < n
        · obtain ⟨d, hd⟩ : ∃ d, l[k]'(by omega) = d := ⟨_, rfl⟩
          have hcl := HCE.out k (by omega)
          rw [hd] at hcl
          have hdb : d < 256 := by rw [← hd]; exact HLT.out _ (List.getElem_mem _)
          have hsn : l.take (k + 1) = l.take k ++ [d] := by rw [List.take_succ_eq_append_getElem (by omega), hd]
          have hmem : d ∈ l.take n := by
            rw [← hd]
            exact List.mem_take_iff_getElem.2 ⟨k, by omega, by simp⟩
          have HSN := Lib.hid hsn
          have HMEM := Lib.hid hmem
          clear hsn hmem hd
          by_cases hok : nameC d = true
          · have hd1 : ¬ (d : Int) ≤ 32 := by unfold nameC at hok; simp at hok; omega
            have hd2 : ¬ (126 : Int) < (d : Int) := by unfold nameC at hok; simp at hok; omega
            have HOK := Lib.hid hok
            clear hok
            go_wp2_with fail
            go_round
            case rel => exact ⟨k + 1, by omega, by go_num, by rw [HSN.out]; intro c hc; rcases List.mem_append.1 hc with h | h; exact HALL.out c h; obtain rfl := List.mem_singleton.1 h; exact HOK.out⟩
            case measure => simp [intOf]; omega
          · have HNO : Hid (nameN l = none) := Lib.hid (by rw [HNM.out, if_neg (fun h => hok (h.2.2 d HMEM.out))])
            by_cases hd1 : d ≤ 32
            · have g1 : (d : Int) ≤ 32 := by omega
              clear hok
              go_wp2_with fail
              refine bodyPost_ret (v := .tuple #[.string ⟨#[]⟩, .bool false]) (by simp [results, Tryd.results42, go_sem]) rfl ?_
              exact ⟨ret_eq (by unfold nameT; rw [HNO.out]; rfl), Below.refl _ _⟩
            · have g1 : ¬ (d : Int) ≤ 32 := by omega
              have g3 : (126 : Int) < (d : Int) := by unfold nameC at hok; simp at hok; omega
              clear hok
              go_wp2_with fail
              refine bodyPost_ret (v := .tuple #[.string ⟨#[]⟩, .bool false]) (by simp [results, Tryd.results42, go_sem]) rfl ?_
              exact ⟨ret_eq (by unfold nameT; rw [HNO.out]; rfl), Below.refl _ _⟩
        · obtain rfl : k = n := by omega
          have hrow := ((HC.out.take k).row (cap := cap) (by simp; omega) (by unfold maxLen; omega) (fun x hx => HLT.out x (List.mem_of_mem_take hx)))
          rw [List.length_take, Nat.min_eq_left (by omega)] at hrow
          have hstr := run_str hrow
          have hsz : (strN (l.take k)).size ≤ 100000 := by simp [strN, ByteArray.size]; omega
          have hfo := Fold_any (strN (l.take k)) hsz w2
          rw [fold_str _ (fun x hx => HLT.out x (List.mem_of_mem_take hx))] at hfo
          have HYES : Hid (nameN l = some k) := Lib.hid (by rw [HNM.out, if_pos ⟨h2, h1, HALL.out⟩])
          have HFO := Lib.hid hfo
          clear hfo hrow hsz
          generalize hgs : strN (l.take k) = S at *
          go_wp2_with fail
          refine HFO.out.mono ?_
          rintro e w3 ⟨rfl, hb3⟩
          go_wp2_with fail
          refine bodyPost_ret (v := .tuple #[.string (strN (List.take k (List.map lowN l))), .bool true]) (by simp [results, Tryd.results42, go_sem]) rfl ?_
          exact ⟨ret_eq (by unfold nameT; rw [HYES.out, ← List.map_take]; rfl), hb3⟩
    · have HNO : Hid (nameN l = none) := Lib.hid (by rw [HNM.out, if_neg (fun h => h2 h.1)])
      have g2 : (n : Int) < 1 := by omega
      go_enter Tryd.func42, Tryd.ntmps42
      go_wp2_with fail
      refine HIX.out.mono ?_
      rintro e w2 ⟨rfl, rfl⟩
      go_wp2_with fail
      refine bodyPost_ret (v := .tuple #[.string ⟨#[]⟩, .bool false]) (by simp [results, Tryd.results42, go_sem]) rfl ?_
      exact ⟨ret_eq (by unfold nameT; rw [HNO.out]; rfl), Below.refl _ _⟩
  · rw [if_neg h1] at hix
    have HIX : Hid (Calls Tryd.prog 39 #[.slice (some ⟨lb, lo, none⟩) l.length cap, .int .u8 58] w fun e w' => e = .returned (.int .i64 (-1)) ∧ w' = w) := Lib.hid hix
    have HNO : Hid (nameN l = none) := Lib.hid (by rw [HNM.out, if_neg (fun h => h1 h.2.1)])
    clear hix
    go_enter Tryd.func42, Tryd.ntmps42
    go_wp2_with fail
    refine HIX.out.mono ?_
    rintro e w2 ⟨rfl, rfl⟩
    go_wp2_with fail
    refine bodyPost_ret (v := .tuple #[.string ⟨#[]⟩, .bool false]) (by simp [results, Tryd.results42, go_sem]) rfl ?_
    exact ⟨ret_eq (by unfold nameT; rw [HNO.out]; rfl), Below.refl _ _⟩
end Go.Proofs.YtlfdcocaedeneaaDoor
