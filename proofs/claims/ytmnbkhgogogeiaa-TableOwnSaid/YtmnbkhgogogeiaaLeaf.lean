/-
  The small calls that the table leans on: bytes.Compare, bytes.Equal, sort.Search, cost, CopyBytes, Spoil.
-/
import Derived.Test.YtmnbkhgogogeiaaNum
import Derived.Deep.CutBlock
import Derived.Deep.CutRange
import Derived.Deep.DeepCutAuto
import Derived.Lib.BytesEntry
namespace Go.Proofs.Ytmnbkhgogogeiaa
set_option linter.unusedVariables false
open Go.RowKit

/-- the order of rows of bytes -/
def cmpL : List Nat → List Nat → Int
  | [], [] => 0
  | [], _ :: _ => -1
  | _ :: _, [] => 1
  | a :: u, b :: v => if a < b then -1 else if b < a then 1 else cmpL u v
theorem cmpL_same (l : List Nat) : cmpL l l = 0 := by
  induction l with
  | nil => rfl
  | cons a l ih => rw [cmpL, if_neg (Nat.lt_irrefl _), if_neg (Nat.lt_irrefl _), ih]
theorem cmpL_more (l m : List Nat) (h : m ≠ []) : cmpL l (l ++ m) = -1 := by
  induction l with
  | nil => cases m with
    | nil => exact absurd rfl h
    | cons b m => rfl
  | cons a l ih => rw [List.cons_append, cmpL, if_neg (Nat.lt_irrefl _), if_neg (Nat.lt_irrefl _), ih]
theorem cmpL_bytes (la lb : List Nat) (ha : ∀ n ∈ la, n < 256) (hb : ∀ n ∈ lb, n < 256) : Lib.compareBytes (la.map UInt8.ofNat) (lb.map UInt8.ofNat) = cmpL la lb := by
  induction la generalizing lb with
  | nil => cases lb <;> rfl
  | cons a la ih =>
    cases lb with
    | nil => rfl
    | cons b lb =>
      have h1 := ha a (by simp)
      have h2 := hb b (by simp)
      have e1 : (UInt8.ofNat a < UInt8.ofNat b) = (a < b) := by
        simp only [UInt8.lt_iff_toNat_lt, UInt8.toNat_ofNat']
        rw [Nat.mod_eq_of_lt h1, Nat.mod_eq_of_lt h2]
      have e2 : (UInt8.ofNat b < UInt8.ofNat a) = (b < a) := by
        simp only [UInt8.lt_iff_toNat_lt, UInt8.toNat_ofNat']
        rw [Nat.mod_eq_of_lt h1, Nat.mod_eq_of_lt h2]
      simp only [List.map_cons, Lib.compareBytes, cmpL, e1, e2]
      rw [ih lb (fun n hn => ha n (by simp [hn])) (fun n hn => hb n (by simp [hn]))]
theorem run_bytesOf {w : World} {v : Value} {l : List Nat} (h : RowB w v l) : (Extern.Bytes.bytesOf v).run Try.prog w = .ok (strN l) w := by
  obtain ⟨a, len, cap, rfl, hl, hc, hm, hw, hn, hcell⟩ := h
  cases a with
  | none =>
    obtain ⟨rfl, rfl⟩ := hn rfl
    obtain rfl : l = [] := List.eq_nil_of_length_eq_zero hl
    rfl
  | some x =>
    have := Lib.run_loadBytesX (P := Try.prog) w (l.map (fun (n : Nat) => (n : Int))) x .empty (fun j y hy => by
      have hjl : j < l.length := by have := (List.getElem?_eq_some_iff.1 hy).1; simpa using this
      rw [List.getElem?_map, List.getElem?_eq_getElem hjl] at hy
      simp at hy
      rw [← hy]
      exact hcell x rfl j hjl)
    rw [List.length_map, hl] at this
    show (Extern.Bytes.loadBytes x len .empty).run Try.prog w = _
    rw [this]
    congr 1
    apply ByteArray.ext
    simp [strN, Lib.bytesOf, ByteArray.empty, ByteArray.emptyWithCapacity]
    show [] ++ _ = _
    rw [List.nil_append]
    apply List.map_congr_left
    intro n _
    simp
theorem run_cmpB {w : World} {va vb : Value} {la lb : List Nat} (ha : RowB w va la) (hb : RowB w vb lb) :
    (Extern.BytealgCompare.compare #[va, vb]).run Try.prog w = .ok (.int .i64 (cmpL la lb)) w := by
  change Sem.run Try.prog (do pure (goInt (Extern.BytealgCompare.cmp (← Extern.Bytes.bytesOf va) (← Extern.Bytes.bytesOf vb)))) w = _
  simp only [Sem.run_bind, Sem.run_pure, run_bytesOf ha, run_bytesOf hb, Result.andThen]
  rw [Lib.cmp_eq]
  have e : ∀ l : List Nat, (strN l).data.toList = l.map UInt8.ofNat := fun l => by simp [strN]
  rw [e, e, cmpL_bytes la lb ha.lt hb.lt]
  rfl
set_option maxRecDepth 100000 in
set_option maxHeartbeats 4000000 in
theorem cmp_any {w : World} {va vb : Value} {la lb : List Nat} (ha : RowB w va la) (hb : RowB w vb lb) :
    Calls Try.prog 68 #[va, vb] w fun e w' => e = .returned (.int .i64 (cmpL la lb)) ∧ w' = w := by
  have HR := Lib.hid (run_cmpB ha hb)
  go_enter Try.func68, Try.ntmps68
  go_wp2_with fail
  rw [run_callFunc_extern Try.func93 (by kernel_rfl) (by kernel_rfl) (by kernel_rfl) (e := Extern.BytealgCompare.compare) (by kernel_rfl), HR.out]
  simp only [Result.andThen]
  rw [Oper.upon_value]
  go_wp2_with fail
  go_ret
  exact ⟨rfl, rfl⟩
theorem equal_any {va vb : Value} {la lb : List Nat} {w : World} (ha : RowB w va la) (hb : RowB w vb lb) :
    Calls Try.prog 69 #[va, vb] w fun e w' => e = .returned (.bool (decide (la = lb))) ∧ w' = w := by
  have r1 := run_str ha
  have r2 := run_str hb
  have hd : ((strN la).toList == (strN lb).toList) = decide (la = lb) := by
    rw [strN_toList, strN_toList]
    by_cases h : la = lb
    · subst h; simp
    · have : ¬ la.map UInt8.ofNat = lb.map UInt8.ofNat := fun e => h (strN_inj ha.lt hb.lt e)
      simp [h, this]
  obtain ⟨aa, na, ca, rfl, -⟩ := id ha
  obtain ⟨ab, nb, cb, rfl, -⟩ := id hb
  clear ha hb
  go_enter Try.func69, Try.ntmps69
  go_wp2_with fail
  go_ret
  exact ⟨by first | rfl | (rw [hd]), rfl⟩
set_option maxRecDepth 100000 in
set_option maxHeartbeats 4000000 in
theorem cost_any (n : Nat) (h : n ≤ 1000000) (w : World) : Calls Try.prog 30 #[.int .i64 (n : Nat)] w fun e w' => e = .returned (.int .i64 ((n + 39) / 40 + 2 : Nat)) ∧ w' = w := by
  go_enter Try.func30, Try.ntmps30
  go_wp2_with fail
  have e : ((n : Int) + 39) / 40 + 2 = ((n + 39) / 40 + 2 : Nat) := by omega
  exact bodyPost_ret (v := .int .i64 ((n + 39) / 40 + 2 : Nat)) (by simp [results, Try.results30, go_sem]) rfl ⟨rfl, rfl⟩

set_option maxRecDepth 100000 in
set_option maxHeartbeats 4000000 in
/-- sort.Search, of a question that is told no up to a place, and yes from there on -/
theorem search_any {w : World} (p q : Nat) (n c : Nat) (hn : n ≤ 1000000) (hc : c ≤ n)
    (HF : ∀ (W : World) (i : Nat), i < n → Still w W → Calls Try.prog 67 #[.int .i64 (i : Nat), .pointer (some ⟨p, 0, none⟩), .pointer (some ⟨q, 0, none⟩)] W fun e w' => e = .returned (.bool (decide (c ≤ i))) ∧ Still w w') :
    Calls Try.prog 66 #[.int .i64 (n : Nat), .func (.func 67) #[] #[.pointer (some ⟨p, 0, none⟩), .pointer (some ⟨q, 0, none⟩)]] w fun e w' => e = .returned (.int .i64 (c : Nat)) ∧ Still w w' := by
  have HFF := Lib.hid HF
  clear HF
  go_enter Try.func66, Try.ntmps66
  go_wp2_with fail
  go_loopw [5, 6] (fun i j wr => ∃ a b : Nat, i = .int .i64 (a : Nat) ∧ j = .int .i64 (b : Nat) ∧ a ≤ c ∧ c ≤ b ∧ b ≤ n ∧ Still w wr) (fun i j _ => (RowKit.intOf j).toNat - (RowKit.intOf i).toNat)
  case atStart => exact ⟨0, n, rfl, rfl, Nat.zero_le _, hc, Nat.le_refl _, Still.refl _⟩
  case round =>
    obtain ⟨a, b, rfl, rfl, ha, hb, hbn, hst⟩ := hrel
    by_cases hab : a < b
    · have habz : (a : Int) < (b : Int) := by omega
      obtain ⟨h, hh⟩ : ∃ h : Nat, (a + b) / 2 = h := ⟨_, rfl⟩
      have h1 : a ≤ h := by omega
      have h2 : h < b := by omega
      have hhn : h < n := by omega
      have HFH := Lib.hid (HFF.out wr h hhn hst)
      obtain ⟨t, ht⟩ : ∃ t, a + b = t := ⟨_, rfl⟩
      have e1 : (a : Int) + (b : Int) = (t : Int) := by omega
      have htl : t ≤ 2000000 := by omega
      have e2 : IntKind.u64.wrap (t : Int) = (t : Int) := wraps_u64 _ (by omega) (by omega)
      have e3 : (t : Int) / 2 = (h : Int) := by omega
      have e4 : IntKind.i64.wrap (h : Int) = (h : Int) := IntWalk.i64_in _ ⟨by omega, by omega⟩
      have e5 : wrap64 (h : Int) = (h : Int) := by unfold wrap64; omega
      have HST := Lib.hid hst
      have HH := Lib.hid (And.intro h1 (And.intro h2 (And.intro hab hh)))
      have e6 : (t : Int) ≤ 9223372036854775807 := by omega
      have e7 : (0 : Int) ≤ (t : Int) := by omega
      clear hst hh h1 h2 hab ht htl
      go_upto_region 4 with (fail)
      clear e1 e2 e3 e4 e5 e6 e7 hhn
      obtain ⟨d, hd⟩ : ∃ d, decide (c ≤ h) = d := ⟨_, rfl⟩
      rw [hd] at HFH
      have HD := Lib.hid hd
      clear hd
      cases d
      · have hcz : (h : Int) + 1 ≤ 1000001 := by obtain ⟨k1, k2, k3, k4⟩ := HH.out; omega
        go_wp2_with (go_at_call 67; refine HFH.out.mono ?_; rintro e w2 ⟨rfl, hs2⟩; have HS2 := Lib.hid hs2; clear hs2)
        go_roundw
        case rel =>
          obtain ⟨k1, k2, k3, k4⟩ := HH.out
          have := of_decide_eq_false HD.out
          exact ⟨h + 1, b, by go_num, rfl, by omega, hb, hbn, HS2.out⟩
        case measure =>
          obtain ⟨k1, k2, k3, k4⟩ := HH.out
          simp [intOf]
          omega
      · go_wp2_with (go_at_call 67; refine HFH.out.mono ?_; rintro e w2 ⟨rfl, hs2⟩; have HS2 := Lib.hid hs2; clear hs2)
        go_roundw
        case rel =>
          obtain ⟨k1, k2, k3, k4⟩ := HH.out
          have := of_decide_eq_true HD.out
          exact ⟨a, h, rfl, rfl, ha, this, by omega, HS2.out⟩
        case measure =>
          obtain ⟨k1, k2, k3, k4⟩ := HH.out
          simp [intOf]
          omega
    · obtain rfl : a = b := by omega
      obtain rfl : a = c := by omega
      have habz : ¬ (a : Int) < (a : Int) := by omega
      have HS := Lib.hid hst
      clear hst
      go_wp2_with fail
      go_ret
      exact ⟨rfl, HS.out⟩
end Go.Proofs.Ytmnbkhgogogeiaa
