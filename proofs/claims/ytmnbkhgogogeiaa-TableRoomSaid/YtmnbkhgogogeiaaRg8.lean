/-
  Several texts of one proof, each in a section of its own: Leaf, Place.
-/
import Derived.Test.YtmnbkhgogogeiaaRg7
import Derived.Deep.CutBlock
import Derived.Deep.CutRange
import Derived.Deep.DeepCutAuto
import Derived.Lib.BytesEntry
import Derived.Deep.RegionHeld3
import Derived.Laws.EntriesVeiled
namespace Go.Proofs.Ytmnbkhgogogeiaa
section
set_option linter.unusedVariables false
open Go.RowKit

/-- the order of rows of bytes -/
def cmpL : List Nat → List Nat → Int
  | [], [] => 0
  | [], _ :: _ => -1
  | _ :: _, [] => 1
  | a :: u, b :: v => if a < b then -1 else if b < a then 1 else cmpL u v
theorem cmpL_same (l : List Nat) : cmpL l l = 0 := by
  induction l with
  | nil => rfl
  | cons a l ih => rw [cmpL, if_neg (Nat.lt_irrefl _), if_neg (Nat.lt_irrefl _), ih]
theorem cmpL_more (l m : List Nat) (h : m ≠ []) : cmpL l (l ++ m) = -1 := by
  induction l with
  | nil => cases m with
    | nil => exact absurd rfl h
    | cons b m => rfl
  | cons a l ih => rw [List.cons_append, cmpL, if_neg (Nat.lt_irrefl _), if_neg (Nat.lt_irrefl _), ih]
theorem cmpL_bytes (la lb : List Nat) (ha : ∀ n ∈ la, n < 256) (hb : ∀ n ∈ lb, n < 256) : Lib.compareBytes (la.map UInt8.ofNat) (lb.map UInt8.ofNat) = cmpL la lb := by
  induction la generalizing lb with
  | nil => cases lb <;> rfl
  | cons a la ih =>
    cases lb with
    | nil => rfl
    | cons b lb =>
      have h1 := ha a (by simp)
      have h2 := hb b (by simp)
      have e1 : (UInt8.ofNat a < UInt8.ofNat b) = (a < b) := by
        simp only [UInt8.lt_iff_toNat_lt, UInt8.toNat_ofNat']
        rw [Nat.mod_eq_of_lt h1, Nat.mod_eq_of_lt h2]
      have e2 : (UInt8.ofNat b < UInt8.ofNat a) = (b < a) := by
        simp only [UInt8.lt_iff_toNat_lt, UInt8.toNat_ofNat']
        rw [Nat.mod_eq_of_lt h1, Nat.mod_eq_of_lt h2]
      simp only [List.map_cons, Lib.compareBytes, cmpL, e1, e2]
      rw [ih lb (fun n hn => ha n (by simp [hn])) (fun n hn => hb n (by simp [hn]))]
theorem run_bytesOf {w : World} {v : Value} {l : List Nat} (h : RowB w v l) : (Extern.Bytes.bytesOf v).run Try.prog w = .ok (strN l) w := by
  obtain ⟨a, len, cap, rfl, hl, hc, hm, hw, hn, hcell⟩ := h
  cases a with
  | none =>
    obtain ⟨rfl, rfl⟩ := hn rfl
    obtain rfl : l = [] := List.eq_nil_of_length_eq_zero hl
    rfl
  | some x =>
    have := Lib.run_loadBytesX (P := Try.prog) w (l.map (fun (n : Nat) => (n : Int))) x .empty (fun j y hy => by
      have hjl : j < l.length := by have := (List.getElem?_eq_some_iff.1 hy).1; simpa using this
      rw [List.getElem?_map, List.getElem?_eq_getElem hjl] at hy
      simp at hy
      rw [← hy]
      exact hcell x rfl j hjl)
    rw [List.length_map, hl] at this
    show (Extern.Bytes.loadBytes x len .empty).run Try.prog w = _
    rw [this]
    congr 1
    apply ByteArray.ext
    simp [strN, Lib.bytesOf, ByteArray.empty, ByteArray.emptyWithCapacity]
    show [] ++ _ = _
    rw [List.nil_append]
    apply List.map_congr_left
    intro n _
    simp
theorem run_cmpB {w : World} {va vb : Value} {la lb : List Nat} (ha : RowB w va la) (hb : RowB w vb lb) :
    (Extern.BytealgCompare.compare #[va, vb]).run Try.prog w = .ok (.int .i64 (cmpL la lb)) w := by
  change Sem.run Try.prog (do pure (goInt (Extern.BytealgCompare.cmp (← Extern.Bytes.bytesOf va) (← Extern.Bytes.bytesOf vb)))) w = _
  simp only [Sem.run_bind, Sem.run_pure, run_bytesOf ha, run_bytesOf hb, Result.andThen]
  rw [Lib.cmp_eq]
  have e : ∀ l : List Nat, (strN l).data.toList = l.map UInt8.ofNat := fun l => by simp [strN]
  rw [e, e, cmpL_bytes la lb ha.lt hb.lt]
  rfl
set_option maxRecDepth 100000 in
set_option maxHeartbeats 4000000 in
theorem cmp_any {w : World} {va vb : Value} {la lb : List Nat} (ha : RowB w va la) (hb : RowB w vb lb) :
    Calls Try.prog 68 #[va, vb] w fun e w' => e = .returned (.int .i64 (cmpL la lb)) ∧ w' = w := by
  have HR := Lib.hid (run_cmpB ha hb)
  go_enter Try.func68, Try.ntmps68
  go_wp2_with fail
  rw [run_callFunc_extern Try.func93 (by kernel_rfl) (by kernel_rfl) (by kernel_rfl) (e := Extern.BytealgCompare.compare) (by kernel_rfl), HR.out]
  simp only [Result.andThen]
  rw [Oper.upon_value]
  go_wp2_with fail
  go_ret
  exact ⟨rfl, rfl⟩
theorem equal_any {va vb : Value} {la lb : List Nat} {w : World} (ha : RowB w va la) (hb : RowB w vb lb) :
    Calls Try.prog 69 #[va, vb] w fun e w' => e = .returned (.bool (decide (la = lb))) ∧ w' = w := by
  have r1 := run_str ha
  have r2 := run_str hb
  have hd : ((strN la).toList == (strN lb).toList) = decide (la = lb) := by
    rw [strN_toList, strN_toList]
    by_cases h : la = lb
    · subst h; simp
    · have : ¬ la.map UInt8.ofNat = lb.map UInt8.ofNat := fun e => h (strN_inj ha.lt hb.lt e)
      simp [h, this]
  obtain ⟨aa, na, ca, rfl, -⟩ := id ha
  obtain ⟨ab, nb, cb, rfl, -⟩ := id hb
  clear ha hb
  go_enter Try.func69, Try.ntmps69
  go_wp2_with fail
  go_ret
  exact ⟨by first | rfl | (rw [hd]), rfl⟩
set_option maxRecDepth 100000 in
set_option maxHeartbeats 4000000 in
theorem cost_any (n : Nat) (h : n ≤ 1000000) (w : World) : Calls Try.prog 30 #[.int .i64 (n : Nat)] w fun e w' => e = .returned (.int .i64 ((n + 39) / 40 + 2 : Nat)) ∧ w' = w := by
  go_enter Try.func30, Try.ntmps30
  go_wp2_with fail
  have e : ((n : Int) + 39) / 40 + 2 = ((n + 39) / 40 + 2 : Nat) := by omega
  exact bodyPost_ret (v := .int .i64 ((n + 39) / 40 + 2 : Nat)) (by simp [results, Try.results30, go_sem]) rfl ⟨rfl, rfl⟩

set_option maxRecDepth 100000 in
set_option maxHeartbeats 4000000 in
/-- sort.Search, of a question that is told no up to a place, and yes from there on -/
theorem search_any {w : World} (p q : Nat) (n c : Nat) (hn : n ≤ 1000000) (hc : c ≤ n)
    (HF : ∀ (W : World) (i : Nat), i < n → Still w W → Calls Try.prog 67 #[.int .i64 (i : Nat), .pointer (some ⟨p, 0, none⟩), .pointer (some ⟨q, 0, none⟩)] W fun e w' => e = .returned (.bool (decide (c ≤ i))) ∧ Still w w') :
    Calls Try.prog 66 #[.int .i64 (n : Nat), .func (.func 67) #[] #[.pointer (some ⟨p, 0, none⟩), .pointer (some ⟨q, 0, none⟩)]] w fun e w' => e = .returned (.int .i64 (c : Nat)) ∧ Still w w' := by
  have HFF := Lib.hid HF
  clear HF
  go_enter Try.func66, Try.ntmps66
  go_wp2_with fail
  go_loopw [5, 6] (fun i j wr => ∃ a b : Nat, i = .int .i64 (a : Nat) ∧ j = .int .i64 (b : Nat) ∧ a ≤ c ∧ c ≤ b ∧ b ≤ n ∧ Still w wr) (fun i j _ => (RowKit.intOf j).toNat - (RowKit.intOf i).toNat)
  case atStart => exact ⟨0, n, rfl, rfl, Nat.zero_le _, hc, Nat.le_refl _, Still.refl _⟩
  case round =>
    obtain ⟨a, b, rfl, rfl, ha, hb, hbn, hst⟩ := hrel
    by_cases hab : a < b
    · have habz : (a : Int) < (b : Int) := by omega
      obtain ⟨h, hh⟩ : ∃ h : Nat, (a + b) / 2 = h := ⟨_, rfl⟩
      have h1 : a ≤ h := by omega
      have h2 : h < b := by omega
      have hhn : h < n := by omega
      have HFH := Lib.hid (HFF.out wr h hhn hst)
      obtain ⟨t, ht⟩ : ∃ t, a + b = t := ⟨_, rfl⟩
      have e1 : (a : Int) + (b : Int) = (t : Int) := by omega
      have htl : t ≤ 2000000 := by omega
      have e2 : IntKind.u64.wrap (t : Int) = (t : Int) := wraps_u64 _ (by omega) (by omega)
      have e3 : (t : Int) / 2 = (h : Int) := by omega
      have e4 : IntKind.i64.wrap (h : Int) = (h : Int) := IntWalk.i64_in _ ⟨by omega, by omega⟩
      have e5 : wrap64 (h : Int) = (h : Int) := by unfold wrap64; omega
      have HST := Lib.hid hst
      have HH := Lib.hid (And.intro h1 (And.intro h2 (And.intro hab hh)))
      have e6 : (t : Int) ≤ 9223372036854775807 := by omega
      have e7 : (0 : Int) ≤ (t : Int) := by omega
      clear hst hh h1 h2 hab ht htl
      go_upto_region 4 with (fail)
      clear e1 e2 e3 e4 e5 e6 e7 hhn
      obtain ⟨d, hd⟩ : ∃ d, decide (c ≤ h) = d := ⟨_, rfl⟩
      rw [hd] at HFH
      have HD := Lib.hid hd
      clear hd
      cases d
      · have hcz : (h : Int) + 1 ≤ 1000001 := by obtain ⟨k1, k2, k3, k4⟩ := HH.out; omega
        go_wp2_with (go_at_call 67; refine HFH.out.mono ?_; rintro e w2 ⟨rfl, hs2⟩; have HS2 := Lib.hid hs2; clear hs2)
        go_roundw
        case rel =>
          obtain ⟨k1, k2, k3, k4⟩ := HH.out
          have := of_decide_eq_false HD.out
          exact ⟨h + 1, b, by go_num, rfl, by omega, hb, hbn, HS2.out⟩
        case measure =>
          obtain ⟨k1, k2, k3, k4⟩ := HH.out
          simp [intOf]
          omega
      · go_wp2_with (go_at_call 67; refine HFH.out.mono ?_; rintro e w2 ⟨rfl, hs2⟩; have HS2 := Lib.hid hs2; clear hs2)
        go_roundw
        case rel =>
          obtain ⟨k1, k2, k3, k4⟩ := HH.out
          have := of_decide_eq_true HD.out
          exact ⟨a, h, rfl, rfl, ha, this, by omega, HS2.out⟩
        case measure =>
          obtain ⟨k1, k2, k3, k4⟩ := HH.out
          simp [intOf]
          omega
    · obtain rfl : a = b := by omega
      obtain rfl : a = c := by omega
      have habz : ¬ (a : Int) < (a : Int) := by omega
      have HS := Lib.hid hst
      clear hst
      go_wp2_with fail
      go_ret
      exact ⟨rfl, HS.out⟩
end
section
set_option linter.unusedVariables false
open Go.RowKit

/-- pairs of rows of bytes, in a row -/
def PairV (w : World) (pv : Value) (P : List (List Nat × List Nat)) : Prop :=
  ∃ a cap, pv = .slice a P.length cap ∧ P.length ≤ cap ∧ cap ≤ maxLen ∧ (P = [] ∨ ∃ g, a = some ⟨g, 0, none⟩ ∧ ∀ i (h : i < P.length), ∃ ka kl kc va vl vc,
    w.cell? ⟨g, i * 2, none⟩ = some (.slice ka kl kc) ∧ w.cell? ⟨g, i * 2 + 1, none⟩ = some (.slice va vl vc) ∧ RowB w (.slice ka kl kc) P[i].1 ∧ RowB w (.slice va vl vc) P[i].2)
theorem PairV.below {w w' : World} {pv : Value} {P : List (List Nat × List Nat)} (h : PairV w pv P) (hb : Below w.heap.size w w') : PairV w' pv P := by
  obtain ⟨a, cap, e, h1, h2, h3⟩ := h
  refine ⟨a, cap, e, h1, h2, h3.imp id fun ⟨g, e, hc⟩ => ⟨g, e, fun i hi => ?_⟩⟩
  obtain ⟨ka, kl, kc, va, vl, vc, k1, k2, k3, k4⟩ := hc i hi
  exact ⟨ka, kl, kc, va, vl, vc, by rw [hb.cell (World.block_lt_of_cell? w _ k1)]; exact k1, by rw [hb.cell (World.block_lt_of_cell? w _ k2)]; exact k2, k3.below hb, k4.below hb⟩
/-- the table's own block -/
def TbV (w : World) (pt : Nat) (lv : Value) (sec cost : Nat) (pv : Value) : Prop :=
  w.heap[pt]? = some (.cells #[lv, .int .i64 (sec : Nat), .int .i64 (cost : Nat), pv] 68 (0, 0))
theorem TbV.cells {w : World} {pt : Nat} {lv : Value} {sec cost : Nat} {pv : Value} (h : TbV w pt lv sec cost pv) :
    w.cell? ⟨pt, 0, none⟩ = some lv ∧ w.cell? ⟨pt, 1, none⟩ = some (.int .i64 (sec : Nat)) ∧ w.cell? ⟨pt, 2, none⟩ = some (.int .i64 (cost : Nat)) ∧ w.cell? ⟨pt, 3, none⟩ = some pv := by
  have fl := fun j => cell_of_row w pt j _ _ _ h
  exact ⟨fl 0, fl 1, fl 2, fl 3⟩
theorem TbV.free {w : World} {pt : Nat} {lv : Value} {sec cost : Nat} {pv : Value} (h : TbV w pt lv sec cost pv) (j : Nat) : w.frozen? ⟨pt, j, none⟩ = false := by
  unfold TbV at h
  simp [World.frozen?, h]
theorem TbV.below {w w' : World} {pt : Nat} {lv : Value} {sec cost : Nat} {pv : Value} (h : TbV w pt lv sec cost pv) (hb : Below w.heap.size w w') : TbV w' pt lv sec cost pv :=
  (hb.block pt (lt_of_block h)).trans h
theorem Still.bel {w w' : World} (h : Still w w') : Below w.heap.size w w' := h.1

set_option maxRecDepth 100000 in
set_option maxHeartbeats 4000000 in
theorem ask_any {w : World} {pt p q : Nat} {lv : Value} {sec cost : Nat} {pv vk : Value} {P : List (List Nat × List Nat)} {key : List Nat} (ht : TbV w pt lv sec cost pv) (hv : PairV w pv P) (hk : RowB w vk key)
    (hp : w.cell? ⟨p, 0, none⟩ = some (.pointer (some ⟨pt, 0, none⟩))) (hq : w.cell? ⟨q, 0, none⟩ = some vk) (i : Nat) (hi : i < P.length) :
    Calls Try.prog 67 #[.int .i64 (i : Nat), .pointer (some ⟨p, 0, none⟩), .pointer (some ⟨q, 0, none⟩)] w fun e w' => e = .returned (.bool (decide (0 ≤ cmpL P[i].1 key))) ∧ Still w w' := by
  obtain ⟨a, cap, rfl, h1, h2, h3⟩ := hv
  obtain ⟨g, rfl, hc⟩ : ∃ g, a = some ⟨g, 0, none⟩ ∧ ∀ i (h : i < P.length), ∃ ka kl kc va vl vc,
      w.cell? ⟨g, i * 2, none⟩ = some (.slice ka kl kc) ∧ w.cell? ⟨g, i * 2 + 1, none⟩ = some (.slice va vl vc) ∧ RowB w (.slice ka kl kc) P[i].1 ∧ RowB w (.slice va vl vc) P[i].2 := by
    rcases h3 with h3 | h3
    · rw [h3] at hi; simp at hi
    · exact h3
  obtain ⟨ka, kl, kc, va, vl, vc, c1, c2, r1, r2⟩ := hc i hi
  obtain ⟨sa, sl, sc, rfl, -⟩ := id hk
  obtain ⟨-, -, -, t3⟩ := ht.cells
  have hiz : (i : Int) < (P.length : Int) := by omega
  obtain ⟨r, hr⟩ : ∃ r, cmpL P[i].1 key = r := ⟨_, rfl⟩
  have HC : Hid (∀ n, Calls Try.prog 68 #[.slice ka kl kc, .slice sa sl sc] (w.drewN n) fun e w' => e = .returned (.int .i64 r) ∧ w' = w.drewN n) := Lib.hid fun n => by
    have := cmp_any (w := w.drewN n) (r1.below ((Still.refl _).drewN n).1) (hk.below ((Still.refl _).drewN n).1)
    rwa [hr] at this
  rw [hr]
  clear hr h3 hc r1 r2 c2 hk h1 h2 ht
  generalize P.length = n at *
  go_enter Try.func67, Try.ntmps67
  go_wp2_with fail
  go_quiet ((go_at_call 68; exact Calls.quiet_of_same (HC.out _)))
  go_wp2_with fail
  go_ret
  exact ⟨rfl, (Still.refl _).drewN _⟩

set_option maxRecDepth 100000 in
set_option maxHeartbeats 4000000 in
theorem place_any {w : World} {pt : Nat} {lv : Value} {sec cost : Nat} {pv vk : Value} {P : List (List Nat × List Nat)} {key : List Nat} (ht : TbV w pt lv sec cost pv) (hv : PairV w pv P) (hk : RowB w vk key) (hn : P.length ≤ 1000000)
    (c : Nat) (hc : c ≤ P.length) (hm : ∀ i (h : i < P.length), decide (0 ≤ cmpL P[i].1 key) = decide (c ≤ i)) :
    Calls Try.prog 36 #[.pointer (some ⟨pt, 0, none⟩), vk] w fun e w' => e = .returned (.tuple #[.int .i64 (c : Nat), .bool (decide (P[c]?.map (·.1) = some key))]) ∧ Below w.heap.size w w' := by
  obtain ⟨sa, sl, sc, rfl, -⟩ := id hk
  obtain ⟨a, cap, rfl, h1, h2, h3⟩ := id hv
  obtain ⟨W, hW, hp, hq, hbW⟩ : ∃ W, W = (w.alloc (.cells #[.pointer (some ⟨pt, 0, none⟩)] 28)).alloc (.cells #[.slice sa sl sc] 23) ∧ W.heap[w.heap.size]? = some (.cells #[.pointer (some ⟨pt, 0, none⟩)] 28 (0, 0)) ∧ W.heap[w.heap.size + 1]? = some (.cells #[.slice sa sl sc] 23 (0, 0)) ∧ Below w.heap.size w W := by
    have e2 := heap_alloc_new (w.alloc (.cells #[.pointer (some ⟨pt, 0, none⟩)] 28)) (.cells #[.slice sa sl sc] 23)
    rw [World.size_alloc] at e2
    exact ⟨_, rfl, (Below.heap_alloc _ _ _ (by simp)).trans (heap_alloc_new w _), e2, ((Below.refl _ _).alloc (Nat.le_refl _) _).alloc (by simp) _⟩
  have HTW := Lib.hid (ht.below hbW)
  have HVW := Lib.hid (hv.below hbW)
  have HKW := Lib.hid (hk.below hbW)
  have HPW := Lib.hid hp
  have HQW := Lib.hid hq
  have HBW := Lib.hid hbW
  have HM := Lib.hid hm
  have hne : w.heap.size ≠ w.heap.size + 1 := by omega
  have HNE := Lib.hid hne
  have y1 : W.cell? ⟨w.heap.size, 0, none⟩ = some (.pointer (some ⟨pt, 0, none⟩)) := cell_of_row W w.heap.size 0 _ _ _ hp
  have y2 : W.cell? ⟨w.heap.size + 1, 0, none⟩ = some (.slice sa sl sc) := cell_of_row W (w.heap.size + 1) 0 _ _ _ hq
  obtain ⟨-, -, -, t3⟩ := HTW.out.cells
  have HSE : Hid (Calls Try.prog 66 #[.int .i64 (P.length : Nat), .func (.func 67) #[] #[.pointer (some ⟨w.heap.size, 0, none⟩), .pointer (some ⟨w.heap.size + 1, 0, none⟩)]] W fun e w' => e = .returned (.int .i64 (c : Nat)) ∧ Still W w') := Lib.hid (by
    refine search_any w.heap.size (w.heap.size + 1) P.length c hn hc (fun W2 i hi hs => ?_)
    have hb := hs.bel
    rw [← hm i hi]
    refine (ask_any (HTW.out.below hb) (HVW.out.below hb) (HKW.out.below hb) ?_ ?_ i hi).mono fun e w' h => ⟨h.1, hs.1.trans (h.2.1.mono hs.1.size), h.2.2.trans hs.2⟩
    · rw [hb.cell (p := ⟨w.heap.size, 0, none⟩) (lt_of_block hp)]; exact y1
    · rw [hb.cell (p := ⟨w.heap.size + 1, 0, none⟩) (lt_of_block hq)]; exact y2)
  clear ht hv hk hp hq hbW hm hne h3 h1 h2
  obtain ⟨n, hnn⟩ : ∃ n, P.length = n := ⟨_, rfl⟩
  rw [hnn] at HSE t3 hn hc
  have HN := Lib.hid hnn
  clear hnn
  go_enter Try.func36, Try.ntmps36
  go_upto_region 1 with (fail)
  rw [← hW]
  clear hW
  generalize w.heap.size + 1 = q at *
  go_upto_region 2 with (first | (go_at_call 66; refine HSE.out.mono ?_; rintro e w2 ⟨rfl, hs2⟩; have HS2 := Lib.hid hs2; clear hs2))
  have hb2 := HS2.out.bel
  obtain ⟨-, -, -, z3⟩ := (HTW.out.below hb2).cells
  rw [HN.out] at z3
  have z1 : w2.cell? ⟨w.heap.size, 0, none⟩ = some (.pointer (some ⟨pt, 0, none⟩)) := by rw [hb2.cell (p := ⟨w.heap.size, 0, none⟩) (lt_of_block HPW.out)]; exact y1
  have z2 : w2.cell? ⟨q, 0, none⟩ = some (.slice sa sl sc) := by rw [hb2.cell (p := ⟨q, 0, none⟩) (lt_of_block HQW.out)]; exact y2
  have HBF := Lib.hid (HBW.out.trans (hb2.mono HBW.out.size))
  by_cases hcn : c < n
  · have hcz : (c : Int) < (n : Int) := by omega
    have hcd : decide (c < n) = true := decide_eq_true hcn
    have hcd2 : decide ((c : Int) < (n : Int)) = true := decide_eq_true hcz
    obtain ⟨a2, cap2, e, -, -, h3⟩ := HVW.out.below hb2
    obtain ⟨rfl, -, rfl⟩ := Value.slice.inj e
    obtain ⟨g, rfl, hcell⟩ : ∃ g, a = some ⟨g, 0, none⟩ ∧ ∀ i (h : i < P.length), ∃ ka kl kc va vl vc,
        w2.cell? ⟨g, i * 2, none⟩ = some (.slice ka kl kc) ∧ w2.cell? ⟨g, i * 2 + 1, none⟩ = some (.slice va vl vc) ∧ RowB w2 (.slice ka kl kc) P[i].1 ∧ RowB w2 (.slice va vl vc) P[i].2 := by
      rcases h3 with h3 | h3
      · rw [h3] at HN; have := HN.out; simp at this; omega
      · exact h3
    obtain ⟨ka, kl, kc, va, vl, vc, c1, -, r1, -⟩ := hcell c (by rw [HN.out]; exact hcn)
    have HEQ : Hid (∀ m, Calls Try.prog 69 #[.slice ka kl kc, .slice sa sl sc] (w2.drewN m) fun e w' => e = .returned (.bool (decide (P[c]?.map (·.1) = some key))) ∧ w' = w2.drewN m) := Lib.hid fun m => by
      have h := equal_any (w := w2.drewN m) (r1.below ((Still.refl _).drewN m).1) ((HKW.out.below hb2).below ((Still.refl _).drewN m).1)
      have hcl : c < P.length := by rw [HN.out]; exact hcn
      have e3 : decide (P[c]?.map (·.1) = some key) = decide (P[c].1 = key) := by
        rw [List.getElem?_eq_getElem hcl]
        simp
      rw [e3]
      exact h
    obtain ⟨d, hd⟩ : ∃ d, decide (P[c]?.map (·.1) = some key) = d := ⟨_, rfl⟩
    rw [hd] at HEQ
    have HD := Lib.hid hd
    clear h3 hcell e r1 hb2 hcn hd
    go_quiet ((go_at_call 69; exact Calls.quiet_of_same (HEQ.out _)))
    go_wp2_with fail
    exact bodyPost_ret (v := .tuple #[.int .i64 (c : Nat), .bool d]) (by simp [results, Try.results36, go_sem]) rfl ⟨by rw [HD.out], below_drewN HBF.out _⟩
  · have hcz : ¬ (c : Int) < (n : Int) := by omega
    have hcd : decide (c < n) = false := decide_eq_false hcn
    have hcd2 : decide ((c : Int) < (n : Int)) = false := decide_eq_false hcz
    have hd : decide (P[c]?.map (·.1) = some key) = false := by
      rw [List.getElem?_eq_none (by rw [HN.out]; omega)]
      rfl
    have HD := Lib.hid hd
    clear hb2 hd
    go_quiet (fail)
    go_wp2_with fail
    exact bodyPost_ret (v := .tuple #[.int .i64 (c : Nat), .bool false]) (by simp [results, Try.results36, go_sem]) rfl ⟨by rw [HD.out], below_drewN HBF.out _⟩
end
end Go.Proofs.Ytmnbkhgogogeiaa
