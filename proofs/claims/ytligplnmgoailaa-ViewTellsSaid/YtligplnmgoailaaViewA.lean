/-
  The contracts of Index, Number, In, Uids, and of the reference's Right.
-/
import Derived.Test.YtligplnmgoailaaPick
import Derived.Test.YtligplnmgoailaaRises
namespace Go.Proofs.Ytligplnmgoailaa
set_option linter.unusedVariables false
open Go.RowKit

/-- a place of x, or -1 -/
def IdxIs (l : List Int) (x r : Int) : Prop := (r = -1 ∧ ∀ i (h : i < l.length), l[i] ≠ x) ∨ ∃ k : Nat, r = k ∧ ∃ h : k < l.length, l[k] = x
def IdxPost (l : List Int) (x d : Int) (e : Ending) : Prop := ∃ r, e = .returned (.int .i64 (r + d)) ∧ IdxIs l x r

set_option maxHeartbeats 1000000 in
theorem index_any (v : Value) (l : List Int) (x : Int) (w : World) (hr : RowN w v l) (hlen : l.length ≤ 9223372036854775807) :
    Calls Try.prog 29 #[v, .int .u32 x] w fun e w' => IdxPost l x 0 e ∧ Below w.heap.size w w' := by
  obtain ⟨b, off, a, cap, rfl, hc, hm, ha, hcell⟩ := hr.shape
  have Ha := Lib.hid ha
  have Hc := Lib.hid hcell
  clear ha hcell hr
  go_enter Try.func29, Try.ntmps29
  go_wp2_with fail
  go_loopw [8] (fun i wr => ∃ k : Nat, k ≤ l.length ∧ i = .int .i64 k ∧ Hid (∀ i (h : i < l.length), i < k → l[i] ≠ x) ∧ Below w.heap.size w wr) (fun i _ => l.length - (intOf i).toNat)
  case atStart => exact ⟨0, by omega, rfl, Lib.hid fun i h g => by omega, Below.refl _ _⟩
  case round =>
    obtain ⟨k, hk, rfl, hno, hb⟩ := hrel
    by_cases hlt : k < l.length
    · obtain ⟨rfl, hbl⟩ := Ha.out (by omega)
      have hq : wr.cell? ⟨b, off + k, none⟩ = some (.int .u32 l[k]) := (hb.cell (p := ⟨b, off + k, none⟩) hbl).trans (Hc.out k hlt)
      by_cases he : l[k] = x
      · have HR : Hid (IdxIs l x k) := Lib.hid (.inr ⟨k, rfl, hlt, he⟩)
        rw [he] at hq
        have ht : (x == x) = true := by simp
        clear he hno
        go_wp2_with fail
        go_ret
        exact ⟨⟨_, ret_eq (show Value.int .i64 (k : Int) = Value.int .i64 ((k : Int) + 0) by rw [Int.add_zero]), HR.out⟩, hb⟩
      · have HN : Hid (∀ i (h : i < l.length), i < k + 1 → l[i] ≠ x) := Lib.hid fun i h g => by
          by_cases e : i = k
          · subst e; exact he
          · exact hno.out i h (by omega)
        have ht : (x == l[k]) = false := by rw [beq_eq_false_iff_ne]; exact fun e => he e.symm
        clear he hno
        generalize l[k] = y at *
        go_wp2_with fail
        go_roundw
        case rel => exact ⟨k + 1, by omega, by go_num, HN, hb⟩
        case measure => simp [intOf]; omega
    · have HR : Hid (IdxIs l x (-1)) := Lib.hid (.inl ⟨rfl, fun i h => hno.out i h (by omega)⟩)
      clear hno
      go_wp2_with fail
      go_ret
      exact ⟨⟨-1, rfl, HR.out⟩, hb⟩

/-- a sight -/
def sightV (bx : ByteArray) (vl : Int) (rd : Bool) (u f : Value) : Array Value := #[.string bx, .int .u32 vl, .bool rd, u, f]

set_option maxHeartbeats 1000000 in
theorem number_any (bx : ByteArray) (vl : Int) (rd : Bool) (v f : Value) (l : List Int) (x : Int) (w : World) (hr : RowN w v l) (hlen : l.length ≤ 9223372036854775807) :
    Calls Try.prog 14 #[.agg (sightV bx vl rd v f), .int .u32 x] w fun e w' => IdxPost l x 1 e ∧ Below w.heap.size w w' := by
  have HR := Lib.hid hr
  clear hr
  unfold sightV
  go_enter Try.func14, Try.ntmps14
  go_wp2_with fail
  refine (index_any _ l x _ (HR.out.below ((Below.refl _ _).alloc (Nat.le_refl _) _)) hlen).mono ?_
  rintro e w1 ⟨⟨r, rfl, hi⟩, hb⟩
  have hr1 : -1 ≤ r ∧ r ≤ 9223372036854775806 := by rcases hi with ⟨h, _⟩ | ⟨k, rfl, h, _⟩ <;> omega
  have HI := Lib.hid hi
  obtain ⟨r0, r1⟩ := hr1
  have HB := Lib.hid (((Below.refl w.heap.size w).alloc (Nat.le_refl _) (.cells #[.string bx, .int .u32 vl, .bool rd, v, f] 29)).trans (hb.mono (by simp)))
  clear hi hb
  rw [Int.add_zero]
  go_wp2_with fail
  go_ret
  exact ⟨⟨r, rfl, HI.out⟩, HB.out⟩

set_option maxHeartbeats 1000000 in
theorem in_any (v : Value) (l : List Int) (x : Int) (w : World) (hr : RowN w v l) (hlen : l.length ≤ 9223372036854775807) :
    Calls Try.prog 19 #[v, .int .u32 x] w fun e w' => e = .returned (.bool (decide (x ∈ l))) ∧ Below w.heap.size w w' := by
  obtain ⟨b, off, a, cap, rfl, hc, hm, ha, hcell⟩ := hr.shape
  have Ha := Lib.hid ha
  have Hc := Lib.hid hcell
  clear ha hcell hr
  go_enter Try.func19, Try.ntmps19
  go_wp2_with fail
  go_loopw [5] (fun i wr => ∃ k : Nat, k ≤ l.length ∧ i = .int .i64 k ∧ Hid (∀ i (h : i < l.length), i < k → l[i] ≠ x) ∧ Below w.heap.size w wr) (fun i _ => l.length - (intOf i).toNat)
  case atStart => exact ⟨0, by omega, rfl, Lib.hid fun i h g => by omega, Below.refl _ _⟩
  case round =>
    obtain ⟨k, hk, rfl, hno, hb⟩ := hrel
    by_cases hlt : k < l.length
    · obtain ⟨rfl, hbl⟩ := Ha.out (by omega)
      have hq : wr.cell? ⟨b, off + k, none⟩ = some (.int .u32 l[k]) := (hb.cell (p := ⟨b, off + k, none⟩) hbl).trans (Hc.out k hlt)
      by_cases he : l[k] = x
      · have HR : Hid (x ∈ l) := Lib.hid (by rw [← he]; exact List.getElem_mem hlt)
        rw [he] at hq
        have ht : (x == x) = true := by simp
        clear he hno
        go_wp2_with fail
        go_ret
        exact ⟨ret_eq (show Value.bool true = Value.bool (decide (x ∈ l)) by rw [decide_eq_true HR.out]), hb⟩
      · have HN : Hid (∀ i (h : i < l.length), i < k + 1 → l[i] ≠ x) := Lib.hid fun i h g => by
          by_cases e : i = k
          · subst e; exact he
          · exact hno.out i h (by omega)
        have ht : (l[k] == x) = false := by rw [beq_eq_false_iff_ne]; exact he
        clear he hno
        generalize l[k] = y at *
        go_wp2_with fail
        go_roundw
        case rel => exact ⟨k + 1, by omega, by go_num, HN, hb⟩
        case measure => simp [intOf]; omega
    · have HR : Hid (¬ x ∈ l) := Lib.hid (by
        intro h
        obtain ⟨i, hi, e⟩ := List.getElem_of_mem h
        exact hno.out i hi (by omega) e)
      clear hno
      go_wp2_with fail
      go_ret
      exact ⟨ret_eq (show Value.bool false = Value.bool (decide (x ∈ l)) by rw [decide_eq_false HR.out]), hb⟩

/-- the answer of the reference's Right -/
def RightIs (l : List Int) (fn : Nat) (e : Ending) : Prop := ((Up l ∧ fn = l.length) ∧ e = .returned (.bool true)) ∨ (¬ (Up l ∧ fn = l.length) ∧ e = .returned (.bool false))

set_option maxHeartbeats 1000000 in
theorem right_any (bx : ByteArray) (vl : Int) (rd : Bool) (v : Value) (fa : Option Addr) (fn fc : Nat) (l : List Int) (w : World) (hr : RowN w v l) (hlen : l.length ≤ 9223372036854775807) :
    Calls Try.prog 12 #[.agg (sightV bx vl rd v (.slice fa fn fc))] w fun e w' => RightIs l fn e ∧ Below w.heap.size w w' := by
  have HR := Lib.hid hr
  obtain ⟨b, off, a, cap, rfl, hc, hm, ha, hcell⟩ := hr.shape
  clear ha hcell hr
  unfold sightV
  go_enter Try.func12, Try.ntmps12
  go_wp2_with fail
  refine (rises_any _ l _ (HR.out.below ((Below.refl _ _).alloc (Nat.le_refl _) _)) hlen).mono ?_
  rintro e w1 ⟨hi, hb⟩
  have hz : w1.heap[w.heap.size]? = some (.cells #[.string bx, .int .u32 vl, .bool rd, .slice a l.length cap, .slice fa fn fc] 29 (0, 0)) := by rw [hb.block _ (by simp)]; exact heap_alloc_new w _
  have d3 : w1.cell? ⟨w.heap.size, 3, none⟩ = some (.slice a l.length cap) := cell_of_row _ _ 3 _ _ _ hz
  have d4 : w1.cell? ⟨w.heap.size, 4, none⟩ = some (.slice fa fn fc) := cell_of_row _ _ 4 _ _ _ hz
  have HB := Lib.hid (((Below.refl w.heap.size w).alloc (Nat.le_refl _) (.cells #[.string bx, .int .u32 vl, .bool rd, .slice a l.length cap, .slice fa fn fc] 29)).trans (hb.mono (by simp)))
  clear hb hz
  rcases hi with ⟨hu, rfl⟩ | ⟨hu, rfl⟩
  · have HU := Lib.hid hu
    clear hu
    by_cases hf : fn = l.length
    · subst hf
      have ht : ((l.length : Int) == (l.length : Int)) = true := by simp
      go_wp2_with fail
      go_ret
      exact ⟨.inl ⟨⟨HU.out, rfl⟩, rfl⟩, HB.out⟩
    · have ht : ((fn : Int) == (l.length : Int)) = false := by rw [beq_eq_false_iff_ne]; omega
      have HF := Lib.hid hf
      clear hf
      go_wp2_with fail
      go_ret
      exact ⟨.inr ⟨fun h => HF.out h.2, rfl⟩, HB.out⟩
  · have HU := Lib.hid hu
    clear hu
    go_wp2_with fail
    go_ret
    exact ⟨.inr ⟨fun h => HU.out h.1, rfl⟩, HB.out⟩

/-- by numbers: those of the first k whose numbers a set has -/
def numK (s : List (Int × Int)) (l : List Int) : Nat → List Int
  | 0 => []
  | k + 1 => numK s l k ++ if hasB s ((k : Int) + 1) l.length = true then [l.getD k 0] else []
theorem numK_len (s : List (Int × Int)) (l : List Int) (k : Nat) : (numK s l k).length ≤ k := by
  induction k with
  | zero => simp [numK]
  | succ k ih => simp only [numK]; split <;> simp <;> omega
theorem numK_yes {s : List (Int × Int)} {l : List Int} {k : Nat} (hk : k < l.length) (h : hasB s ((k : Int) + 1) l.length = true) : numK s l (k + 1) = numK s l k ++ [l[k]] := by
  simp only [numK]; rw [if_pos h, List.getD_eq_getElem?_getD, List.getElem?_eq_getElem hk]; rfl
theorem numK_no {s : List (Int × Int)} {l : List Int} {k : Nat} (h : hasB s ((k : Int) + 1) l.length = false) : numK s l (k + 1) = numK s l k := by
  simp only [numK]; rw [if_neg (by rw [h]; decide), List.append_nil]

set_option maxHeartbeats 1000000 in
theorem uidsT_any (bx : ByteArray) (vl : Int) (rd : Bool) (vs v f : Value) (s : List (Int × Int)) (l : List Int) (w : World) (hs : RowR w vs s) (hr : RowN w v l) (hls : s.length ≤ 1000) (hlen : l.length ≤ 1000) :
    Calls Try.prog 17 #[.agg (sightV bx vl rd v f), vs, .bool true] w fun e w' => ∃ o, e = .returned o ∧ OwnN w' w.heap.size o (pickL s l) ∧ Below w.heap.size w w' := by
  have HR := Lib.hid hr
  have HS := Lib.hid hs
  clear hr hs
  unfold sightV
  go_enter Try.func17, Try.ntmps17
  go_wp2_with fail
  have hb0 := (Below.refl w.heap.size w).alloc (Nat.le_refl _) (.cells #[.string bx, .int .u32 vl, .bool rd, v, f] 29)
  refine (pick_any vs v s l _ (HS.out.below hb0) (HR.out.below hb0) hls hlen).mono ?_
  rintro e w1 ⟨o, rfl, ho, hb⟩
  have HO : Hid (OwnN w1 w.heap.size o (pickL s l)) := Lib.hid (by
    refine ⟨ho.1, ?_⟩
    rcases ho.2 with h2 | ⟨g, cap, cur, rfl, hg, hh, r⟩
    · exact .inl h2
    · exact .inr ⟨g, cap, cur, rfl, by simp at hg; omega, hh, r⟩)
  have HB := Lib.hid (hb0.trans (hb.mono (by simp)))
  clear ho hb hb0
  go_wp2_with fail
  go_ret
  exact ⟨_, rfl, HO.out, HB.out⟩

set_option maxHeartbeats 2000000 in
theorem uidsF_any (bx : ByteArray) (vl : Int) (rd : Bool) (vs v f : Value) (s : List (Int × Int)) (l : List Int) (w : World) (hs : RowR w vs s) (hr : RowN w v l) (hls : s.length ≤ 1000) (hlen : l.length ≤ 1000) :
    Calls Try.prog 17 #[.agg (sightV bx vl rd v f), vs, .bool false] w fun e w' => ∃ o, e = .returned o ∧ OwnN w' w.heap.size o (numK s l l.length) ∧ Below w.heap.size w w' := by
  have HR := Lib.hid hr
  have HS := Lib.hid hs
  obtain ⟨b, off, a, cap, rfl, hc, hm, ha, hcell⟩ := hr.shape
  have Ha := Lib.hid ha
  have Hc := Lib.hid hcell
  clear ha hcell hr hs
  unfold sightV
  go_enter Try.func17, Try.ntmps17
  go_wp2_with fail
  have HZ : Hid ((w.alloc (.cells #[.string bx, .int .u32 vl, .bool rd, .slice a l.length cap, f] 29)).heap[w.heap.size]? = some (.cells #[.string bx, .int .u32 vl, .bool rd, .slice a l.length cap, f] 29 (0, 0))) := Lib.hid (heap_alloc_new w _)
  have HB0 := Lib.hid ((Below.refl w.heap.size w).alloc (Nat.le_refl _) (.cells #[.string bx, .int .u32 vl, .bool rd, .slice a l.length cap, f] 29))
  have hw0 : (w.alloc (.cells #[.string bx, .int .u32 vl, .bool rd, .slice a l.length cap, f] 29)).heap.size = w.heap.size + 1 := by simp
  generalize w.alloc (.cells #[.string bx, .int .u32 vl, .bool rd, .slice a l.length cap, f] 29) = w0 at *
  have hwl : w.heap.size < w0.heap.size := by omega
  clear hw0
  go_loopw [7, 18] (fun o i wr => ∃ k : Nat, k ≤ l.length ∧ i = .int .i64 k ∧ OwnN wr w0.heap.size o (numK s l k) ∧ Below w0.heap.size w0 wr) (fun _ i _ => l.length - (intOf i).toNat)
  case atStart => exact ⟨0, by omega, rfl, owns_nil _ _ _ _, Below.refl _ _⟩
  case round =>
    obtain ⟨k, hk, rfl, hown, hb⟩ := hrel
    by_cases hlt : k < l.length
    · obtain ⟨rfl, hbl⟩ := Ha.out (by omega)
      have hq : wr.cell? ⟨b, off + k, none⟩ = some (.int .u32 l[k]) := ((hb.cell (p := ⟨b, off + k, none⟩) (by show b < _; omega)).trans (HB0.out.cell (p := ⟨b, off + k, none⟩) hbl)).trans (Hc.out k hlt)
      have hd3 : wr.cell? ⟨w.heap.size, 3, none⟩ = some (.slice (some ⟨b, off, none⟩) l.length cap) := (hb.cell (p := ⟨w.heap.size, 3, none⟩) hwl).trans (cell_of_row _ _ 3 _ _ _ HZ.out)
      have hS := Lib.hid (HS.out.below (HB0.out.trans (hb.mono (Nat.le_of_lt hwl))))
      have hB := hb.size
      have hL := numK_len s l k
      have e1 : IntKind.u32.wrap ((k : Int) + 1) = (k : Int) + 1 := IntWalk.u32_in _ (by omega)
      have e2 : IntKind.u32.wrap (l.length : Int) = (l.length : Int) := IntWalk.u32_in _ (by omega)
      cases hh : hasB s ((k : Int) + 1) l.length
      · have HN := Lib.hid (numK_no hh)
        have HH := Lib.hid hh
        clear hh
        generalize l[k] = x at *
        go_wp2_with fail
        refine (has_any _ s ((k : Int) + 1) l.length _ hS.out (by omega) (by omega) (by omega) (by omega) (by omega)).mono ?_
        rintro e w1 ⟨rfl, hb1⟩
        rw [HH.out]
        have hown1 := owns_keep hown hb1 (owns_lt hown)
        have HB1 := Lib.hid (hb.trans (hb1.mono hB))
        have HO := Lib.hid hown1
        clear hown hb1 hown1
        go_wp2_with fail
        go_roundw
        case rel => exact ⟨k + 1, by omega, by go_num, by rw [HN.out]; exact HO.out, HB1.out⟩
        case measure => simp [intOf]; omega
      · have HN := Lib.hid (numK_yes hlt hh)
        have HH := Lib.hid hh
        clear hh
        generalize l[k] = x at *
        go_wp2_with fail
        refine (has_any _ s ((k : Int) + 1) l.length _ hS.out (by omega) (by omega) (by omega) (by omega) (by omega)).mono ?_
        rintro e w1 ⟨rfl, hb1⟩
        rw [HH.out]
        have hown1 : OwnN w1 w0.heap.size _ (numK s l k) := owns_keep hown hb1 (owns_lt hown)
        have HB1 := Lib.hid (hb.trans (hb1.mono hB))
        have hs1 := hb1.size
        clear hb1
        go_wp2_with (at_builtin; go_loud (refine appN rfl (.tmp 32) (.tmp 34) rfl hown1 HB1.out (by omega) rfl rfl (by omega) ?_); intro o' w2 hown2 hb2)
        go_roundw
        case rel => exact ⟨k + 1, by omega, by go_num, by rw [HN.out]; exact hown2, hb2⟩
        case measure => simp [intOf]; omega
    · have hkl : k = l.length := by omega
      subst hkl
      have HO : Hid (OwnN wr w.heap.size _ (numK s l l.length)) := Lib.hid (by
        refine ⟨hown.1, ?_⟩
        rcases hown.2 with h2 | ⟨g, cap, cur, rfl, hg, hh, r⟩
        · exact .inl h2
        · exact .inr ⟨g, cap, cur, rfl, by omega, hh, r⟩)
      go_wp2_with fail
      go_ret
      exact ⟨_, rfl, HO.out, HB0.out.trans (hb.mono (by omega))⟩
end Go.Proofs.Ytligplnmgoailaa
