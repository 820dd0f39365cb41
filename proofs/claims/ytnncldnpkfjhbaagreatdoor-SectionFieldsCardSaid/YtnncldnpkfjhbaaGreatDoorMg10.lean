/-
  Several texts of one proof, each in a section of its own: TrB, Round, FldsP.
-/
import Derived.Test.YtnncldnpkfjhbaaGreatDoorWrdMg
import Derived.Lib.AsciiSet
import Derived.Laws.ResultCell
import Derived.Deep.WholeRow
import Derived.Deep.MidRow
import Derived.Test.YtnncldnpkfjhbaaGreatDoorMg6
import Derived.OrdersIn
import Derived.Test.YtnncldnpkfjhbaaGreatDoorMg4
namespace Go.Proofs.YtnncldnpkfjhbaaGreatDoor
section
set_option linter.unusedVariables false
open Go.RowKit Go.Lib Go.Shelf

abbrev bl2 : List UInt8 := [32, 9]
theorem info123 : (Tryz.prog.info? 123).map (·.size) = some 256 := by kernel_rfl
/-- a set is loaded out of the block that was made last -/
theorem set_load {w : World} {ops : Array Oper} {rest : List Oper} {op : Oper} {a : Act} {Q : Exit → Act → World → Prop} (hgd : op.guard = none) (x : Operand) (ho : op.op = .load 123 x) (l : List UInt8)
    (hx : a.eval x = .pointer (some ⟨w.heap.size, 0, none⟩)) (h : wpList Tryz.prog ops Q rest (a.put op.dst (.agg (setCells l))) (w.alloc (.cells (setCells l) 123))) : wpList Tryz.prog ops Q (op :: rest) a (w.alloc (.cells (setCells l) 123)) := by
  have hl : (setCells l).toList.length = 256 := by rw [Array.length_toList]; exact setCells_size l
  have := wpList_load_mid (P := Tryz.prog) (w := w.alloc (.cells (setCells l) 123)) (Q := Q) (ops := ops) (rest := rest) hgd 123 x ho w.heap.size 0 hx (setCells l).toList _ (fun j v hj => by
    rw [Nat.zero_add, cell_of_row _ _ j _ 123 (0, 0) (heap_alloc_new w _)]
    simpa using hj) Tryz.underlying123 rfl (by rw [info123, hl])
  simp only [Array.toArray_toList] at this
  exact this h
/-- a set is stored into the block that was made last -/
theorem set_store {w : World} {ops : Array Oper} {rest : List Oper} {op : Oper} {a : Act} {Q : Exit → Act → World → Prop} (hgd : op.guard = none) (x y : Operand) (ho : op.op = .store 123 x y) (l : List UInt8) {Z : Array Value} (hZ : Z.size = 256)
    (hx : a.eval x = .pointer (some ⟨w.heap.size, 0, none⟩)) (hy : a.eval y = .agg (setCells l)) (h : wpList Tryz.prog ops Q rest (a.put op.dst undef) (w.alloc (.cells (setCells l) 123))) : wpList Tryz.prog ops Q (op :: rest) a (w.alloc (.cells Z 123)) := by
  have hl : (setCells l).size = 256 := setCells_size l
  refine wpList_store_row hgd 123 x y ho w.heap.size _ hx hy 123 Z (heap_alloc_new w _) (by rw [info123, hl]) (by rw [hl, hZ]) (setCells_one l) ?_
  rw [World.setRow_alloc_new]
  exact h
theorem zero123 (w : World) : (zeroValue 123).run Tryz.prog w = .ok (.agg (Array.replicate 256 (.bool false))) w := by kernel_rfl
/-- a set's variable is made -/
theorem set_alloc {w : World} {ops : Array Oper} {rest : List Oper} {op : Oper} {a : Act} {Q : Exit → Act → World → Prop} (hgd : op.guard = none) (ho : op.op = .alloc 123)
    (h : wpList Tryz.prog ops Q rest (a.put op.dst (.pointer (some ⟨w.heap.size, 0, none⟩))) (w.alloc (.cells (Array.replicate 256 (.bool false)) 123))) : wpList Tryz.prog ops Q (op :: rest) a w := by
  refine wpList_plain hgd fun K hK => ?_
  have hz := zero123 w
  obtain ⟨Z, hZ⟩ : ∃ Z, Array.replicate 256 (Value.bool false) = Z := ⟨_, rfl⟩
  rw [hZ] at hz h
  unfold Oper.wp
  simp [execOp, ho, hz, Sem.run_bind, Result.andThen, go_sem]
  exact hK _ _ h
theorem C0_eq : Array.replicate 256 (Value.bool false) = setCells [] := rfl

set_option maxHeartbeats 4000000 in
set_option maxRecDepth 1000000 in
theorem mkset_any (w : World) :
    Calls Tryz.prog 87 #[.string ⟨#[32, 9]⟩] w fun e w' => e = .returned (.tuple #[.agg (setCells bl2), .bool true]) ∧ w' = w.alloc (.cells (setCells bl2) 123) := by
  go_enter Tryz.func87, Tryz.ntmps87
  go_wp2
  go_loopw [4] (fun v wx => ∃ k : Nat, k ≤ 2 ∧ v = .int .i64 (k : Nat) ∧ wx = w.alloc (.cells (setCells (bl2.take k)) 123)) (fun v _ => 2 - (RowKit.intOf v).toNat)
  case atStart => exact ⟨0, by decide, rfl, rfl⟩
  case round =>
    obtain ⟨k, hk, rfl, rfl⟩ := hrel
    have h3 : k = 0 ∨ k = 1 ∨ k = 2 := by omega
    rcases h3 with rfl | rfl | rfl
    · have hcell : (setCells (bl2.take 0))[32]? = some (.bool false) := by rw [show (32 : Nat) = (32 : UInt8).toNat from rfl, setCells_at]; rfl
      go_wp2
      go_roundw
      case rel => exact ⟨1, by decide, rfl, by rw [show (bl2.take 1) = [] ++ [(32 : UInt8)] from rfl, setCells_snoc]; rfl⟩
      case measure => decide
    · have hcell : (setCells (bl2.take 1))[9]? = some (.bool false) := by rw [show (9 : Nat) = (9 : UInt8).toNat from rfl, setCells_at]; rfl
      go_wp2
      go_roundw
      case rel => exact ⟨2, by decide, rfl, by rw [show (bl2.take 2) = bl2.take 1 ++ [(9 : UInt8)] from rfl, setCells_snoc]; rfl⟩
      case measure => decide
    · rw [show bl2.take 2 = bl2 from rfl]
      have hld := run_loadVar_new (P := Tryz.prog) w 123 (setCells bl2) 256 4 Tryz.underlying123 (by rw [setCells_size]; exact info123)
      have hsz := setCells_size bl2
      go_upto_region 8 with fail
      go_wp2_with (first | (refine set_load rfl (.tmp 2) rfl bl2 rfl ?_) | (refine set_store rfl (.tmp 2) (.tmp 20) rfl bl2 hsz rfl rfl ?_))
      refine bodyPost_ret (v := .tuple #[.agg (setCells bl2), .bool true]) ?_ rfl ⟨rfl, rfl⟩
      rw [results_cell_tmp rfl]
      simp [asAddr, Result.andThen, hld]

/-- a blank or a tab -/
def isBl (c : Nat) : Bool := decide (c = 32) || decide (c = 9)
theorem isBl_eq (c : Nat) (h : c < 256) : bl2.contains (UInt8.ofNat c) = isBl c := by
  unfold isBl
  have h1 : ∀ n : Nat, n < 256 → ((UInt8.ofNat c == UInt8.ofNat n) = decide (c = n)) := fun n hn => by
    by_cases e : c = n
    · subst e; simp
    · rw [decide_eq_false e]
      refine beq_false_of_ne fun e2 => e ?_
      have := congrArg UInt8.toNat e2
      simp [UInt8.toNat_ofNat', Nat.mod_eq_of_lt h, Nat.mod_eq_of_lt hn] at this
      exact this
  have h2 := h1 32 (by decide)
  have h3 := h1 9 (by decide)
  show (List.contains [32, 9] (UInt8.ofNat c)) = _
  simp only [List.contains_cons, List.contains_nil, Bool.or_false]
  rw [← h2, ← h3]
  rfl
/-- the set of blanks lies in block b -/
def SetAt (w : World) (b : Nat) : Prop := w.heap[b]? = some (.cells (setCells bl2) 123 (0, 0))
theorem SetAt.cell {w : World} {b : Nat} (h : SetAt w b) (c : Nat) (hc : c < 256) : w.cell? ⟨b, c, none⟩ = some (.bool (isBl c)) := by
  rw [cell_of_row _ _ _ _ 123 (0, 0) h, ← isBl_eq c hc]
  have := setCells_at bl2 (UInt8.ofNat c)
  rwa [show (UInt8.ofNat c).toNat = c by simp [Nat.mod_eq_of_lt hc]] at this

set_option maxHeartbeats 1000000 in
set_option maxRecDepth 1000000 in
theorem hasb_any (w : World) (b c : Nat) (h : SetAt w b) (hc : c < 256) : Calls Tryz.prog 103 #[.pointer (some ⟨b, 0, none⟩), .int .u8 (c : Nat)] w fun e w' => e = .returned (.bool (isBl c)) ∧ w = w' := by
  have hcl := h.cell c hc
  have hcz : (c : Int) < 256 := by omega
  clear h
  go_enter Tryz.func103, Tryz.ntmps103
  go_wp2
  go_ret
  exact ⟨rfl, rfl⟩

set_option maxHeartbeats 2000000 in
set_option maxRecDepth 1000000 in
/-- blanks at the end -/
theorem trimr_any (w : World) (b lb lo cap : Nat) (l : List Nat) (h : SetAt w b) (hc : CellsL w lb lo l) (hl : l.length ≤ cap) (hcm : cap ≤ maxLen) (hlt : ∀ n ∈ l, n < 256) (hll : l.length ≤ 1000000) :
    Calls Tryz.prog 89 #[.slice (some ⟨lb, lo, none⟩) l.length cap, .pointer (some ⟨b, 0, none⟩)] w fun e w' => (∃ k, k ≤ l.length ∧ e = .returned (.slice (some ⟨lb, lo, none⟩) k cap) ∧ (∀ x ∈ l.drop k, isBl x = true)) ∧ w = w' := by
  have HS := Lib.hid h
  have HC := Lib.hid hc
  have HL := Lib.hid hlt
  unfold maxLen at hcm
  clear h hc hlt
  go_enter Tryz.func89, Tryz.ntmps89
  go_wp2_with fail
  go_loop [0] (fun v => ∃ k : Nat, k ≤ l.length ∧ v = .slice (some ⟨lb, lo, none⟩) k cap ∧ ∀ x ∈ l.drop k, isBl x = true) (fun v => match v with | .slice _ n _ => n | _ => 0)
  case atStart => exact ⟨l.length, Nat.le_refl _, rfl, by simp⟩
  case round =>
    obtain ⟨k, hk, rfl, hbl⟩ := hrel
    have HB := Lib.hid hbl
    clear hbl
    by_cases h0 : k = 0
    · subst h0
      go_wp2_with fail
      refine bodyPost_ret (results_tmp rfl _ _ _) rfl ?_
      exact ⟨⟨0, Nat.zero_le _, rfl, HB.out⟩, rfl⟩
    · obtain ⟨m, rfl⟩ : ∃ m, k = m + 1 := ⟨k - 1, by omega⟩
      have hm : m < l.length := by omega
      have hcm2 := HC.out m hm
      have hx := HL.out _ (List.getElem_mem hm)
      obtain ⟨x, hxx⟩ : ∃ x, l[m] = x := ⟨_, rfl⟩
      rw [hxx] at hcm2 hx
      have HXX := Lib.hid hxx
      have HHB := Lib.hid (hasb_any w b x HS.out hx)
      have hwz : IntKind.i64.wrap ((m : Int) + 1 - 1) = (m : Int) := by rw [show (m : Int) + 1 - 1 = (m : Int) by omega]; exact IntWalk.i64_in _ (by omega)
      have hm1 : (m : Int) < (m : Int) + 1 := by omega
      have hmn : ((m : Int) + 1 - 1) = (m : Int) := by omega
      obtain ⟨z, hz⟩ : ∃ z, isBl x = z := ⟨_, rfl⟩
      rw [hz] at HHB
      have HZ := Lib.hid hz
      clear hxx hx hz h0
      cases z
      · go_wp2_with (go_at_call 103; refine HHB.out.mono ?_; rintro e w' ⟨rfl, rfl⟩)
        refine bodyPost_ret (results_tmp rfl _ _ _) rfl ?_
        exact ⟨⟨m + 1, by omega, rfl, HB.out⟩, rfl⟩
      · go_wp2_with (go_at_call 103; refine HHB.out.mono ?_; rintro e w' ⟨rfl, rfl⟩)
        go_round
        case rel => exact ⟨m, by omega, by go_num, fun y hy => by
          rw [List.drop_eq_getElem_cons hm] at hy
          rcases List.mem_cons.1 hy with rfl | hy
          · rw [HXX.out]; exact HZ.out
          · exact HB.out y hy⟩
        case measure => simp

/-- what is left of a row when blanks are taken off: it is empty just where all are blanks -/
def TrimE (l : List Nat) (e : Ending) : Prop := ∃ a n c, e = .returned (.slice a n c) ∧ n ≤ l.length ∧ (decide (0 < n) = !l.all isBl)
set_option maxHeartbeats 2000000 in
set_option maxRecDepth 1000000 in
/-- blanks at the beginning: what is left is empty just where all are blanks -/
theorem triml_any (w : World) (b lb lo cap : Nat) (l : List Nat) (h : SetAt w b) (hc : CellsL w lb lo l) (hl : l.length ≤ cap) (hcm : cap ≤ maxLen) (hlt : ∀ n ∈ l, n < 256) (hll : l.length ≤ 1000000) :
    Calls Tryz.prog 88 #[.slice (some ⟨lb, lo, none⟩) l.length cap, .pointer (some ⟨b, 0, none⟩)] w fun e w' => TrimE l e ∧ w = w' := by
  have HS := Lib.hid h
  have HC := Lib.hid hc
  have HL := Lib.hid hlt
  unfold maxLen at hcm
  clear h hc hlt
  go_enter Tryz.func88, Tryz.ntmps88
  go_wp2_with fail
  go_loop [0] (fun v => ∃ (k : Nat) (a : Option Addr), k ≤ l.length ∧ v = .slice a (l.length - k) (cap - k) ∧ (k < l.length → a = some ⟨lb, lo + k, none⟩) ∧ (l.take k).all isBl = true) (fun v => match v with | .slice _ n _ => n | _ => 0)
  case atStart => exact ⟨0, _, Nat.zero_le _, rfl, fun _ => rfl, rfl⟩
  case round =>
    obtain ⟨k, a, hk, rfl, ha, hbl⟩ := hrel
    have HB := Lib.hid hbl
    clear hbl
    by_cases h0 : k = l.length
    · subst h0
      have hnn : l.length - l.length = 0 := by omega
      rw [hnn]
      have HA : Hid (l.all isBl = true) := Lib.hid (by have := HB.out; rwa [List.take_length] at this)
      go_wp2_with fail
      refine bodyPost_ret (results_tmp rfl _ _ _) rfl ?_
      exact ⟨⟨none, 0, 0, rfl, Nat.zero_le _, by rw [HA.out]; rfl⟩, rfl⟩
    · have hk2 : k < l.length := by omega
      obtain rfl := ha hk2
      have hcm2 := HC.out k hk2
      have hx := HL.out _ (List.getElem_mem hk2)
      obtain ⟨x, hxx⟩ : ∃ x, l[k] = x := ⟨_, rfl⟩
      rw [hxx] at hcm2 hx
      have HXX := Lib.hid hxx
      have HHB := Lib.hid (hasb_any w b x HS.out hx)
      obtain ⟨z, hz⟩ : ∃ z, isBl x = z := ⟨_, rfl⟩
      rw [hz] at HHB
      have HZ := Lib.hid hz
      obtain ⟨n, hn⟩ : ∃ n, l.length - k = n + 1 := ⟨l.length - k - 1, by omega⟩
      obtain ⟨c, hcc⟩ : ∃ c, cap - k = c + 1 := ⟨cap - k - 1, by omega⟩
      rw [hn, hcc]
      have HN : Hid (l.length - (k + 1) = n ∧ cap - (k + 1) = c ∧ l.length - k = n + 1 ∧ cap - k = c + 1 ∧ k < l.length ∧ l.length ≤ cap) := Lib.hid ⟨by omega, by omega, hn, hcc, hk2, hl⟩
      have hn0 : (0 : Int) < (n : Int) + 1 := by omega
      have hc1 : (1 : Int) ≤ (c : Int) + 1 := by omega
      have hn1 : (1 : Int) ≤ (n : Int) + 1 := by omega
      have hnc : (n : Int) ≤ (c : Int) := by omega
      clear hxx hx hz h0 ha
      cases z
      · have HA : Hid (l.all isBl = false) := Lib.hid (by
          rw [List.all_eq_false]
          exact ⟨x, by rw [← HXX.out]; exact List.getElem_mem _, by rw [HZ.out]; simp⟩)
        have hne : ((n : Int) + 1 == 0) = false := beq_false_of_ne (by omega)
        have hnz : ¬ (n : Int) + 1 = 0 := by omega
        clear hn hcc
        go_wp2_with (go_at_call 103; refine HHB.out.mono ?_; rintro e w' ⟨rfl, rfl⟩)
        refine bodyPost_ret (results_tmp rfl _ _ _) rfl ?_
        exact ⟨⟨_, n + 1, c + 1, rfl, by have := HN.out; omega, by rw [HA.out]; simp⟩, rfl⟩
      · have HT : Hid ((l.take (k + 1)).all isBl = true) := Lib.hid (by
          rw [List.take_succ_eq_append_getElem hk2, List.all_append, HB.out, HXX.out]
          simp [HZ.out])
        clear hn hcc
        by_cases hcz : c = 0
        · subst hcz
          go_wp2_with (go_at_call 103; refine HHB.out.mono ?_; rintro e w' ⟨rfl, rfl⟩)
          go_round
          case rel => exact ⟨k + 1, _, by have := HN.out; omega, by rw [HN.out.1, HN.out.2.1], fun h => by have := HN.out; omega, HT.out⟩
          case measure => simp
        · have hcz2 : ¬ c + 1 = 1 := by omega
          go_wp2_with (go_at_call 103; refine HHB.out.mono ?_; rintro e w' ⟨rfl, rfl⟩)
          go_round
          case rel => exact ⟨k + 1, _, by have := HN.out; omega, by rw [HN.out.1, HN.out.2.1], fun h => by rw [Nat.add_assoc], HT.out⟩
          case measure => simp

theorem all_take {l : List Nat} {k : Nat} (h : ∀ x ∈ l.drop k, isBl x = true) : (l.take k).all isBl = l.all isBl := by
  conv => rhs; rw [← List.take_append_drop k l, List.all_append, List.all_eq_true.2 h, Bool.and_true]
set_option maxHeartbeats 2000000 in
set_option maxRecDepth 1000000 in
/-- bytes.Trim -/
theorem btrim_any (w : World) (lb lo cap : Nat) (l : List Nat) (hc : CellsL w lb lo l) (hlb : lb < w.heap.size) (hl : l.length ≤ cap) (hcm : cap ≤ maxLen) (hlt : ∀ n ∈ l, n < 256) (hll : l.length ≤ 1000000) :
    Calls Tryz.prog 58 #[.slice (some ⟨lb, lo, none⟩) l.length cap, .string ⟨#[32, 9]⟩] w fun e w' => TrimE l e ∧ Below w.heap.size w w' := by
  have HC := Lib.hid hc
  have HL := Lib.hid (And.intro hlb (And.intro hl (And.intro hcm (And.intro hlt hll))))
  unfold maxLen at hcm
  by_cases h0 : l = []
  · subst h0
    clear hc hlt
    simp only [List.length_nil]
    go_enter Tryz.func58, Tryz.ntmps58
    go_wp2_with fail
    refine bodyPost_ret (results_tmp rfl _ _ _) rfl ?_
    exact ⟨⟨none, 0, 0, rfl, Nat.le_refl _, rfl⟩, Below.refl _ _⟩
  · have hpos : 0 < l.length := List.length_pos_iff.2 h0
    obtain ⟨n, hn⟩ : ∃ n, l.length = n := ⟨_, rfl⟩
    have HN := Lib.hid hn
    rw [hn] at hpos
    have hnz : ((n : Int) == 0) = false := beq_false_of_ne (by omega)
    have hnz2 : ¬ (n : Int) = 0 := by omega
    rw [hn]
    clear hc hlt h0 hn hll hl
    have HM := Lib.hid (mkset_any w)
    obtain ⟨w1, hw1⟩ : ∃ x, (w.alloc (.cells (setCells bl2) 123)) = x := ⟨_, rfl⟩
    rw [hw1] at HM
    have HW1 := Lib.hid hw1
    clear hw1
    go_enter Tryz.func58, Tryz.ntmps58
    have hb1 : Below w.heap.size w w1 := by rw [← HW1.out]; exact (Below.refl _ _).alloc (Nat.le_refl _) _
    have hS2 : SetAt (w1.alloc (.cells (setCells bl2) 123)) w1.heap.size := heap_alloc_new w1 _
    have hb2 : Below w.heap.size w (w1.alloc (.cells (setCells bl2) 123)) := hb1.alloc hb1.size _
    have hc2 : CellsL (w1.alloc (.cells (setCells bl2) 123)) lb lo l := HC.out.kept hb2 fun _ => HL.out.1
    have hR := trimr_any _ _ lb lo cap l hS2 hc2 HL.out.2.1 HL.out.2.2.1 HL.out.2.2.2.1 HL.out.2.2.2.2
    rw [HN.out] at hR
    have HR := Lib.hid hR
    have H2 := Lib.hid (And.intro hS2 (And.intro hb2 hc2))
    have hrep : (Array.replicate 256 (Value.bool false)).size = 256 := Array.size_replicate
    clear hb1 hS2 hb2 hc2 hR
    go_wp2_with (first
      | (go_at_call 87; refine HM.out.mono ?_; rintro e w' ⟨rfl, rfl⟩)
      | (refine set_alloc rfl rfl ?_)
      | (refine set_store rfl (.tmp 5) (.tmp 31) rfl bl2 hrep rfl rfl ?_)
      | (go_at_call 89; refine HR.out.mono ?_; rintro e w' ⟨⟨k, hk, rfl, hk2⟩, rfl⟩
         have htl : (l.take k).length = k := by rw [List.length_take, HN.out]; omega
         have hT := triml_any _ _ lb lo cap (l.take k) H2.out.1 (H2.out.2.2.take k) (by have := HL.out.2.1; have := HN.out; omega) HL.out.2.2.1 (fun n hn => HL.out.2.2.2.1 n (List.mem_of_mem_take hn)) (by have := HL.out.2.2.2.2; have := HN.out; omega)
         rw [htl] at hT
         have HT := Lib.hid hT
         have HK := Lib.hid (And.intro hk2 htl)
         clear hT hk2 htl)
      | (go_at_call 88; refine HT.out.mono ?_; rintro e w' ⟨⟨a, m, c, rfl, hm, hd⟩, rfl⟩))
    refine bodyPost_ret (results_tmp rfl _ _ _) rfl ?_
    refine ⟨⟨a, m, c, rfl, by have := HN.out; have := HK.out.2; omega, ?_⟩, H2.out.2.1⟩
    rw [hd, all_take HK.out.1]
end
section
set_option linter.unusedVariables false
open Go Go.RowKit

theorem rows_round {n l : Nat} {P : Program} {row : String} {args : Array Value} {w : World} {R : Value → World → Prop} (h : Rows P row args w R) : RowsIn (Fence.wide.inRound l) n P row args w R :=
  fun c cs _ => let ⟨v, w', r, s⟩ := h c cs; ⟨v, w', r, stepsIn_wide.2 s⟩

theorem oper_round {n l : Nat} {P : Program} {o : Oper} {a : Act} {w : World} {K K' : Act → World → Prop} {Q : Exit → Act → World → Prop} (hQ : ¬ LetsOut Q) (hd : ∀ c, o.op ≠ .defer c) (hK : ∀ a w, K a w → K' a w)
    (h : o.wp P a w K Q ∨ (o.asks P a w ∧ LetsOut Q)) : o.wpIn (Fence.wide.inRound l) n P a w K' Q := by
  rcases h with h | h
  · refine ⟨fun _ _ => trivial, ?_⟩
    have e : o.semAt (Fence.wide.inRound l).round a.eval = execOp a.eval o := Oper.semAt_some l _ _ hd
    rw [e]
    unfold Oper.wp at h
    generalize (execOp a.eval o).run P w = r at *
    have hdep : (Fence.wide.inRound l).depth.isSome = true → 1 ≤ n := fun h => by cases h
    cases r with
    | ok x w' =>
      cases x with
      | value v => exact hK _ _ h
      | skip => exact hK _ _ h
      | defer d => exact hK _ _ h
      | enter f args =>
        refine ⟨hdep, CallsIn.inRound l (callsIn_wide.2 (Calls.mono h ?_))⟩
        intro e w'' he
        cases e with
        | returned v => exact hK _ _ he
        | panicked c => exact he
        | outgrown => exact he
      | row r args => exact ⟨hdep, rows_round (Rows.mono h fun v w'' he => hK _ _ he)⟩
      | _ => exact h.elim
    | halt x w' =>
      cases x <;> first | exact h | exact h.elim
  · exact absurd h.2 hQ

theorem any_round {n l : Nat} {P : Program} {md : Region.Mode} {ops : Array Oper} {Q : Exit → Act → World → Prop} (hQ : ¬ LetsOut Q) (hd : ∀ (i : Nat) (o : Oper), ops[i]? = some o → ∀ c, o.op ≠ .defer c) :
    ∀ (fuel : Nat) (listed : Array Bool) (a : Act) (w : World), wpAny P md ops Q fuel listed a w → wpAnyIn (Fence.wide.inRound l) n P md ops Q fuel listed a w
  | 0, listed, a, w, h => h
  | fuel + 1, listed, a, w, h => by
    refine ⟨h.1, fun i hi => ?_⟩
    have h2 := h.2 i hi
    unfold wpOp at h2
    unfold wpOpIn
    cases ho : ops[i]? with
    | none =>
      rw [ho] at h2
      exact any_round hQ hd fuel _ a w h2
    | some o =>
      rw [ho] at h2
      simp only at h2 ⊢
      split
      · rename_i hw
        rw [if_pos hw] at h2
        exact oper_round hQ (hd i o ho) (fun a w hh => any_round hQ hd fuel _ a w hh) h2
      · rename_i hw
        rw [if_neg hw] at h2
        exact ⟨fun _ _ => trivial, any_round hQ hd fuel _ _ w h2⟩

theorem region_round {n l id : Nat} {P : Program} {ops : Array Oper} {Q : Exit → Act → World → Prop} {a : Act} {w : World} (hm : P.follows .mixedOrders = true) (hQ : ¬ LetsOut Q)
    (hd : ∀ (i : Nat) (o : Oper), ops[i]? = some o → ∀ c, o.op ≠ .defer c) (h : wpAny P .any ops Q ops.size (Array.replicate ops.size false) a w.drew) : (Code.region id ops true).wpIn (Fence.wide.inRound l) n P Q a w :=
  wpIn_region_any hm (any_round hQ hd _ _ _ _ h)
end
section
set_option linter.unusedVariables false
open Go.RowKit Go.Lib

structure Fd where
  nm : ByteArray
  T : List Nat
  R : List Nat
/-- a line: the fields that are over, and the one that a line may go on with -/
def stepF (s : List Fd × Option Fd) (wh tx : List Nat) : List Fd × Option Fd :=
  if goesB tx then (s.1, s.2.map fun f => ⟨f.nm, f.T ++ tx, f.R ++ wh⟩)
  else (s.1 ++ s.2.toList, (nameN tx).map fun n => ⟨nameT tx, tx.drop (n + 1), wh⟩)
def lineW (l : List Nat) (x : Nat × Nat × Nat) : List Nat := (l.drop x.1).take x.2.1
def lineT (l : List Nat) (x : Nat × Nat × Nat) : List Nat := (l.drop x.1).take x.2.2
def runF (l : List Nat) (s : List Fd × Option Fd) (xs : List (Nat × Nat × Nat)) : List Fd × Option Fd := xs.foldl (fun s x => stepF s (lineW l x) (lineT l x)) s
theorem runF_snoc (l : List Nat) (s : List Fd × Option Fd) (xs : List (Nat × Nat × Nat)) (x : Nat × Nat × Nat) : runF l s (xs ++ [x]) = stepF (runF l s xs) (lineW l x) (lineT l x) := by simp [runF]
def headF (xs : List (Nat × Nat × Nat)) : List (Nat × Nat × Nat) := xs.takeWhile fun x => x.2.2 != 0
/-- the fields of a text's header -/
def fieldsS (l : List Nat) : List Fd := (runF l ([], none) (headF (linesP 0 l))).1 ++ (runF l ([], none) (headF (linesP 0 l))).2.toList

/-- cells lie as they lay, but for the blocks X -/
def KeepX (X : Nat → Prop) (W W' : World) : Prop := (∀ k C t fz, W.heap[k]? = some (.cells C t fz) → ¬ X k → W'.heap[k]? = W.heap[k]?) ∧ W.heap.size ≤ W'.heap.size

theorem ownB_keep {X : Nat → Prop} {W W' : World} {B : Nat} {v : Value} {l : List Nat} (h : OwnB W B v l) (hk : KeepX X W W') (hX : ∀ k, v.ownBlock = some k → ¬ X k) : OwnB W' B v l := by
  refine ⟨h.1, ?_⟩
  rcases h.2 with h2 | ⟨b, cap, cur, rfl, hb, hh, r⟩
  · exact .inl h2
  · exact .inr ⟨b, cap, cur, rfl, hb, (hk.1 b _ _ _ hh (hX b rfl)).trans hh, r⟩
theorem FldC.keep {X : Nat → Prop} {a v r : Value} {W W' : World} {g B : Nat} {nm : ByteArray} {T R : List Nat} (k : FldC a v r W g B nm T R) (hk : KeepX X W W') (h1 : ¬ X g) (h2 : ∀ j, v.ownBlock = some j → ¬ X j) (h3 : ∀ j, r.ownBlock = some j → ¬ X j) : FldC a v r W' g B nm T R :=
  ⟨(hk.1 g _ _ _ k.row h1).trans k.row, ownB_keep k.own hk h2, ownB_keep k.raw hk h3, k.ne, k.base⟩

/-- a field that is over: all of it below E -/
def Fin (W : World) (b E : Nat) (f : Fd) (g : Nat) : Prop := ∃ a v r, (a = .pointer none ∨ a = .pointer (some ⟨g, 1, none⟩)) ∧ FldC a v r W g b f.nm f.T f.R ∧ g < E ∧ (∀ k, v.ownBlock = some k → k < E) ∧ ∀ k, r.ownBlock = some k → k < E
theorem Fin.keep {X : Nat → Prop} {W W' : World} {b E g : Nat} {f : Fd} (h : Fin W b E f g) (hk : KeepX X W W') (hX : ∀ k, X k → k < b ∨ E ≤ k) : Fin W' b E f g := by
  obtain ⟨a, v, r, ha, hc, h1, h2, h3⟩ := h
  refine ⟨a, v, r, ha, hc.keep hk (fun hx => by rcases hX _ hx with h | h <;> have := hc.base <;> omega) (fun j hj hx => by rcases hX _ hx with h | h; have := hc.own.ownLe j hj; omega; have := h2 j hj; omega) (fun j hj hx => by rcases hX _ hx with h | h; have := hc.raw.ownLe j hj; omega; have := h3 j hj; omega), h1, h2, h3⟩
theorem Fin.mono {W : World} {b E E' g : Nat} {f : Fd} (h : Fin W b E f g) (hE : E ≤ E') : Fin W b E' f g := by
  obtain ⟨a, v, r, ha, hc, h1, h2, h3⟩ := h
  exact ⟨a, v, r, ha, hc, by omega, fun k hk => by have := h2 k hk; omega, fun k hk => by have := h3 k hk; omega⟩
theorem Fin.all {W : World} {b E g : Nat} {f : Fd} (h : Fin W b E f g) : Fin W b W.heap.size f g := by
  obtain ⟨a, v, r, ha, hc, h1, h2, h3⟩ := h
  exact ⟨a, v, r, ha, hc, hc.lt, ownB_lt hc.own, ownB_lt hc.raw⟩
theorem ownB_base {W : World} {B B' : Nat} {v : Value} {l : List Nat} (h : OwnB W B v l) (hB : B' ≤ B) : OwnB W B' v l := by
  refine ⟨h.1, ?_⟩
  rcases h.2 with h2 | ⟨b, cap, cur, rfl, hb, r⟩
  · exact .inl h2
  · exact .inr ⟨b, cap, cur, rfl, by omega, r⟩
theorem Fin.of {W : World} {b B g : Nat} {f : Fd} (h : FldAt W g B f.nm f.T f.R) (hb : b ≤ B) : Fin W b W.heap.size f g := by
  obtain ⟨a, v, r, ha, hc⟩ := h
  exact ⟨a, v, r, ha, ⟨hc.row, ownB_base hc.own hb, ownB_base hc.raw hb, hc.ne, by have := hc.base; omega⟩, hc.lt, ownB_lt hc.own, ownB_lt hc.raw⟩

/-- the fields' pointers -/
def ptrs (gs : List Nat) : List Value := gs.map fun g => .pointer (some ⟨g, 0, none⟩)
def fin2 (W : World) (b E : Nat) : List Fd → List Nat → Prop
  | [], [] => True
  | f :: fs, g :: gs => Fin W b E f g ∧ fin2 W b E fs gs
  | _, _ => False
theorem fin2_map {W W' : World} {b E b' E' : Nat} (h : ∀ f g, Fin W b E f g → Fin W' b' E' f g) : ∀ (fs : List Fd) (gs : List Nat), fin2 W b E fs gs → fin2 W' b' E' fs gs
  | [], [], _ => trivial
  | f :: fs, g :: gs, k => ⟨h f g k.1, fin2_map h fs gs k.2⟩
  | [], _ :: _, k => k.elim
  | _ :: _, [], k => k.elim
theorem fin2_snoc {W : World} {b E : Nat} {f : Fd} {g : Nat} (hf : Fin W b E f g) : ∀ (fs : List Fd) (gs : List Nat), fin2 W b E fs gs → fin2 W b E (fs ++ [f]) (gs ++ [g])
  | [], [], _ => ⟨hf, trivial⟩
  | f :: fs, g :: gs, k => ⟨k.1, fin2_snoc hf fs gs k.2⟩
  | [], _ :: _, k => k.elim
  | _ :: _, [], k => k.elim
theorem ownsRow_keepX {X : Nat → Prop} {W W' : World} {B t n : Nat} {v : Value} {xs : List Value} (h : W.ownsRow B t 1 v n xs) (hk : KeepX X W W') (hX : ∀ k, X k → k < B) : W'.ownsRow B t 1 v n xs := by
  refine ⟨h.1, ?_⟩
  rcases h.2 with h2 | ⟨b, cap, cur, rfl, hb, hh, r⟩
  · exact .inl h2
  · exact .inr ⟨b, cap, cur, rfl, hb, (hk.1 b _ _ _ hh (fun hx => by have := hX b hx; omega)).trans hh, r⟩
theorem boxed_keepX {X : Nat → Prop} {W W' : World} {B t : Nat} {v : Value} (h : Boxed W B t v) (hk : KeepX X W W') (hX : ¬ X B) : Boxed W' B t v := (hk.1 B _ _ _ h hX).trans h
/-- the open field, and its pointer -/
def Open (n : Nat) (W : World) (E : Nat) : Option Fd → List Nat → Prop
  | none, go => go = [] ∧ Boxed W (n + 1) 79 (.pointer none)
  | some f, go => ∃ g Bo, go = [g] ∧ Boxed W (n + 1) 79 (.pointer (some ⟨g, 0, none⟩)) ∧ FldAt W g Bo f.nm f.T f.R ∧ E ≤ Bo ∧ n + 3 ≤ Bo
/-- how fields' variables lie: out's box in block n, open's in n + 1, the lines' place in n + 2, all else behind -/
def FInv (n : Nat) (W : World) (s : List Fd × Option Fd) : Prop :=
  ∃ (vo : Value) (gf go : List Nat) (E : Nat), Boxed W n 77 vo ∧ W.ownsRow (n + 3) 79 1 vo (gf ++ go).length (ptrs (gf ++ go)) ∧ fin2 W (n + 3) E s.1 gf ∧ Open n W E s.2 go ∧ E ≤ W.heap.size

theorem Open.keep {X : Nat → Prop} {n E : Nat} {W W' : World} {op : Option Fd} {go : List Nat} (h : Open n W E op go) (hk : KeepX X W W') (hX : ∀ k, X k → k = n + 2) : Open n W' E op go := by
  cases op with
  | none => exact ⟨h.1, boxed_keepX h.2 hk (fun hx => by have := hX _ hx; omega)⟩
  | some f =>
    obtain ⟨g, Bo, rfl, hb, ⟨a, v, r, ha, hc⟩, h1, h2⟩ := h
    refine ⟨g, Bo, rfl, boxed_keepX hb hk (fun hx => by have := hX _ hx; omega), ⟨a, v, r, ha, hc.keep hk (fun hx => by have := hX _ hx; have := hc.base; omega) (fun j hj hx => by have := hX _ hx; have := hc.own.ownLe j hj; omega) (fun j hj hx => by have := hX _ hx; have := hc.raw.ownLe j hj; omega)⟩, h1, h2⟩
/-- whatever turns no cells but the lines' place -/
theorem FInv.keep {X : Nat → Prop} {n : Nat} {W W' : World} {s : List Fd × Option Fd} (h : FInv n W s) (hk : KeepX X W W') (hX : ∀ k, X k → k = n + 2) : FInv n W' s := by
  obtain ⟨vo, gf, go, E, h1, h2, h3, h4, h5⟩ := h
  exact ⟨vo, gf, go, E, boxed_keepX h1 hk (fun hx => by have := hX _ hx; omega), ownsRow_keepX h2 hk (fun k hx => by have := hX _ hx; omega), fin2_map (fun f g hf => hf.keep hk (fun k hx => .inl (by have := hX _ hx; omega))) _ _ h3, h4.keep hk hX, Nat.le_trans h5 hk.2⟩
theorem keepX_below {W W' : World} (hb : Below W.heap.size W W') : KeepX (fun _ => False) W W' := ⟨fun k C t fz hk _ => hb.block k (Array.getElem?_eq_some_iff.1 hk).1, hb.size⟩
theorem keepX_set (W : World) (b j : Nat) (u : Value) : KeepX (fun k => k = b) W (W.setCell ⟨b, j, none⟩ u) := ⟨fun k C t fz hk hx => Below.heap_setCell W _ u k hx, by simp [World.setCell]⟩
theorem keepX_alloc (W : World) (o : Obj) : KeepX (fun _ => False) W (W.alloc o) := keepX_below ((Below.refl _ W).alloc (Nat.le_refl _) o)
/-- 'open = nil' -/
theorem FInv.close {n : Nat} {W : World} {s : List Fd × Option Fd} (h : FInv n W s) : FInv n (W.setCell ⟨n + 1, 0, none⟩ (.pointer none)) (s.1 ++ s.2.toList, none) := by
  obtain ⟨vo, gf, go, E, h1, h2, h3, h4, h5⟩ := h
  have hk := keepX_set W (n + 1) 0 (.pointer none)
  have hf : ∀ f g, Fin W (n + 3) E f g → Fin (W.setCell ⟨n + 1, 0, none⟩ (.pointer none)) (n + 3) W.heap.size f g := fun f g hf => (hf.mono h5).keep hk (fun k hx => .inl (by omega))
  refine ⟨vo, gf ++ go, [], W.heap.size, boxed_keepX h1 hk (by omega), ?_, ?_, ?_, by simp [World.setCell]⟩
  · rw [List.append_nil]
    exact ownsRow_keepX h2 hk (fun k hx => by omega)
  · cases hs : s.2 with
    | none =>
      rw [hs] at h4
      obtain ⟨rfl, _⟩ := h4
      rw [List.append_nil]
      simp only [Option.toList, List.append_nil]
      exact fin2_map hf _ _ h3
    | some f =>
      rw [hs] at h4
      obtain ⟨g, Bo, rfl, hb, ha, e1, e2⟩ := h4
      exact fin2_snoc ((Fin.of ha e2).keep hk (fun k hx => .inl (by omega))) _ _ (fin2_map hf _ _ h3)
  · refine ⟨rfl, ?_⟩
    cases hs : s.2 with
    | none => rw [hs] at h4; exact h4.2.set _
    | some f => rw [hs] at h4; obtain ⟨g, Bo, _, hb, _⟩ := h4; exact hb.set _
end
end Go.Proofs.YtnncldnpkfjhbaaGreatDoor
