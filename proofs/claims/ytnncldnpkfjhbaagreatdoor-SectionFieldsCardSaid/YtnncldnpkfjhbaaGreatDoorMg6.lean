/-
  Several texts of one proof, each in a section of its own: Name, Fld.
-/
import Derived.Test.YtnncldnpkfjhbaaGreatDoorMg4
import Derived.Test.YtnncldnpkfjhbaaGreatDoorMg5
import Derived.Laws.EntriesVeiled
import Derived.Lib.Builder
import Derived.Lib.OthersKept
import Derived.Lib.FrozenHead2
import Derived.Maps.AppendAt
namespace Go.Proofs.YtnncldnpkfjhbaaGreatDoor
section
set_option linter.unusedVariables false
open Go.RowKit

def goesB (l : List Nat) : Bool := l.head? == some 32 || l.head? == some 9
theorem goes_any (v : Value) (l : List Nat) (w : World) (hr : RowB w v l) (h0 : l ≠ []) : Calls Tryz.prog 60 #[v] w fun e w' => e = .returned (.bool (goesB l)) ∧ w' = w := by
  have hp : 0 < l.length := List.length_pos_iff.2 h0
  rcases hr.shape with ⟨rfl, he⟩ | ⟨lb, lo, c, rfl, h1, h2, h3, hcell⟩
  · exact absurd rfl h0
  · obtain ⟨d, r, rfl⟩ : ∃ d r, l = d :: r := by
      cases l with
      | nil => exact absurd rfl h0
      | cons d r => exact ⟨d, r, rfl⟩
    have hc := hcell 0 (by simp)
    simp only [Nat.add_zero, List.getElem_cons_zero] at hc
    have HG : Hid (goesB (d :: r) = (decide (d = 32) || decide (d = 9))) := Lib.hid (by simp [goesB]; rfl)
    obtain ⟨n, hn⟩ : ∃ n, (d :: r).length = n + 1 := ⟨_, rfl⟩
    rw [hn]
    clear hcell h0 h1 h2 h3 hr hp hn
    by_cases e1 : d = 32
    · subst e1
      go_enter Tryz.func60, Tryz.ntmps60
      go_wp2_with fail
      go_ret
      exact ⟨ret_eq (by rw [HG.out]; rfl), rfl⟩
    · have g1 : ((d : Int) == 32) = false := beq_false_of_ne (by omega)
      go_enter Tryz.func60, Tryz.ntmps60
      go_wp2_with fail
      go_ret
      refine ⟨ret_eq ?_, rfl⟩
      rw [HG.out, decide_eq_false e1]
      by_cases e2 : d = 9
      · subst e2; rfl
      · rw [decide_eq_false e2]
        have g2 : ((d : Int) == 9) = false := beq_false_of_ne (by omega)
        show Value.bool ((d : Int) == 9) = _
        rw [g2]
        rfl

/-- which bytes a name has -/
def nameC (c : Nat) : Bool := decide (32 < c) && decide (c ≤ 126)
def lowN (c : Nat) : Nat := if 65 ≤ c ∧ c ≤ 90 then c + 32 else c
/-- how long the name is with which a line begins a field -/
def nameN (l : List Nat) : Option Nat := if 1 ≤ aheadN 58 l ∧ aheadN 58 l < l.length ∧ ∀ c ∈ l.take (aheadN 58 l), nameC c = true then some (aheadN 58 l) else none

theorem lowN_eq (c : Nat) (h : c < 256) : lowB (UInt8.ofNat c) = UInt8.ofNat (lowN c) := by
  unfold lowB lowN
  have e : (UInt8.ofNat c).toNat = c := by simp; omega
  rw [e]
  by_cases h1 : 65 ≤ c ∧ c ≤ 90
  · rw [if_pos h1, if_pos h1]
    apply UInt8.toNat_inj.1
    rw [UInt8.toNat_add, e]
    simp
  · rw [if_neg h1, if_neg h1]
theorem fold_str (l : List Nat) (h : ∀ n ∈ l, n < 256) : strL (foldL (strN l).data.toList) = strN (l.map lowN) := by
  have e : (strN l).data.toList = l.map UInt8.ofNat := by simp [strN]
  rw [e]
  unfold foldL strL strN
  congr 2
  rw [List.map_map, List.map_map]
  exact List.map_congr_left fun c hc => lowN_eq c (h c hc)

theorem Fold_any (s : ByteArray) (hs : s.size ≤ 100000) (w : World) :
    Calls Tryz.prog 41 #[.string s] w fun e w' => e = .returned (.string (strL (foldL s.data.toList))) ∧ Below w.heap.size w w' := by
  have HS := Lib.hid (small_any s hs w)
  go_enter Tryz.func41, Tryz.ntmps41
  go_wp2_with fail
  refine HS.out.mono ?_
  rintro e w2 ⟨rfl, hb⟩
  go_wp2_with fail
  go_ret
  exact ⟨rfl, hb⟩

/-- the name's text, folded -/
def nameT (l : List Nat) : ByteArray := match nameN l with | some n => strN ((l.take n).map lowN) | none => ⟨#[]⟩

set_option maxRecDepth 100000 in
set_option maxHeartbeats 4000000 in
theorem name_any (lb lo cap : Nat) (l : List Nat) (w : World) (hc : CellsL w lb lo l) (h0 : l ≠ []) (hlc : l.length ≤ cap) (hm : cap ≤ maxLen) (hlt : ∀ n ∈ l, n < 256) (hl : l.length ≤ 100000) :
    Calls Tryz.prog 61 #[.slice (some ⟨lb, lo, none⟩) l.length cap] w fun e w' => e = .returned (.tuple #[.string (nameT l), .bool (nameN l).isSome]) ∧ Below w.heap.size w w' := by
  have hix := index_any lb lo cap 58 l w (by decide) (hc.row hlc hm hlt)
  have hle := aheadN_le 58 l
  unfold maxLen at hm
  unfold idxI at hix
  obtain ⟨n, hn⟩ : ∃ n, aheadN 58 l = n := ⟨_, rfl⟩
  have hnm : nameN l = if 1 ≤ n ∧ n < l.length ∧ ∀ c ∈ l.take n, nameC c = true then some n else none := by unfold nameN; rw [hn]
  rw [hn] at hix hle
  have HC := Lib.hid hc
  have HLT := Lib.hid hlt
  have HNM := Lib.hid hnm
  clear hc hlt hnm hn
  by_cases h1 : n < l.length
  · rw [if_pos h1] at hix
    have HIX : Hid (Calls Tryz.prog 65 #[.slice (some ⟨lb, lo, none⟩) l.length cap, .int .u8 58] w fun e w' => e = .returned (.int .i64 (n : Int)) ∧ w' = w) := Lib.hid hix
    clear hix
    by_cases h2 : 1 ≤ n
    · have g2 : ¬ (n : Int) < 1 := by omega
      have gn : (n : Int) ≤ (cap : Int) := by omega
      have hcell : ∀ i (h : i < l.length), w.cell? ⟨lb, lo + i, none⟩ = some (.int .u8 (l[i] : Nat)) := HC.out
      have HCE := Lib.hid hcell
      clear hcell
      go_enter Tryz.func61, Tryz.ntmps61
      go_wp2_with fail
      refine HIX.out.mono ?_
      rintro e w2 ⟨rfl, rfl⟩
      go_wp2_with fail
      go_loop [15] (fun i => ∃ k : Nat, k ≤ n ∧ i = .int .i64 (k : Int) ∧ ∀ c ∈ l.take k, nameC c = true) (fun i => n - (intOf i).toNat)
      case atStart => exact ⟨0, Nat.zero_le _, rfl, by simp⟩
      case round =>
        obtain ⟨k, hk, rfl, hall⟩ := hrel
        have HALL := Lib.hid hall
        clear hall
        by_cases hkn : k < n
        · obtain ⟨d, hd⟩ : ∃ d, l[k]'(by omega) = d := ⟨_, rfl⟩
          have hcl := HCE.out k (by omega)
          rw [hd] at hcl
          have hdb : d < 256 := by rw [← hd]; exact HLT.out _ (List.getElem_mem _)
          have hsn : l.take (k + 1) = l.take k ++ [d] := by rw [List.take_succ_eq_append_getElem (by omega), hd]
          have hmem : d ∈ l.take n := by
            rw [← hd]
            exact List.mem_take_iff_getElem.2 ⟨k, by omega, by simp⟩
          have HSN := Lib.hid hsn
          have HMEM := Lib.hid hmem
          clear hsn hmem hd
          by_cases hok : nameC d = true
          · have hd1 : ¬ (d : Int) ≤ 32 := by unfold nameC at hok; simp at hok; omega
            have hd2 : ¬ (126 : Int) < (d : Int) := by unfold nameC at hok; simp at hok; omega
            have HOK := Lib.hid hok
            clear hok
            go_wp2_with fail
            go_round
            case rel => exact ⟨k + 1, by omega, by go_num, by rw [HSN.out]; intro c hc; rcases List.mem_append.1 hc with h | h; exact HALL.out c h; obtain rfl := List.mem_singleton.1 h; exact HOK.out⟩
            case measure => simp [intOf]; omega
          · have HNO : Hid (nameN l = none) := Lib.hid (by rw [HNM.out, if_neg (fun h => hok (h.2.2 d HMEM.out))])
            by_cases hd1 : d ≤ 32
            · have g1 : (d : Int) ≤ 32 := by omega
              clear hok
              go_wp2_with fail
              refine bodyPost_ret (v := .tuple #[.string ⟨#[]⟩, .bool false]) (by simp [results, Tryz.results61, go_sem]) rfl ?_
              exact ⟨ret_eq (by unfold nameT; rw [HNO.out]; rfl), Below.refl _ _⟩
            · have g1 : ¬ (d : Int) ≤ 32 := by omega
              have g3 : (126 : Int) < (d : Int) := by unfold nameC at hok; simp at hok; omega
              clear hok
              go_wp2_with fail
              refine bodyPost_ret (v := .tuple #[.string ⟨#[]⟩, .bool false]) (by simp [results, Tryz.results61, go_sem]) rfl ?_
              exact ⟨ret_eq (by unfold nameT; rw [HNO.out]; rfl), Below.refl _ _⟩
        · obtain rfl : k = n := by omega
          have hrow := ((HC.out.take k).row (cap := cap) (by simp; omega) (by unfold maxLen; omega) (fun x hx => HLT.out x (List.mem_of_mem_take hx)))
          rw [List.length_take, Nat.min_eq_left (by omega)] at hrow
          have hstr := run_str hrow
          have hsz : (strN (l.take k)).size ≤ 100000 := by simp [strN, ByteArray.size]; omega
          have hfo := Fold_any (strN (l.take k)) hsz w2
          rw [fold_str _ (fun x hx => HLT.out x (List.mem_of_mem_take hx))] at hfo
          have HYES : Hid (nameN l = some k) := Lib.hid (by rw [HNM.out, if_pos ⟨h2, h1, HALL.out⟩])
          have HFO := Lib.hid hfo
          clear hfo hrow hsz
          generalize hgs : strN (l.take k) = S at *
          go_wp2_with fail
          refine HFO.out.mono ?_
          rintro e w3 ⟨rfl, hb3⟩
          go_wp2_with fail
          refine bodyPost_ret (v := .tuple #[.string (strN (List.take k (List.map lowN l))), .bool true]) (by simp [results, Tryz.results61, go_sem]) rfl ?_
          exact ⟨ret_eq (by unfold nameT; rw [HYES.out, ← List.map_take]; rfl), hb3⟩
    · have HNO : Hid (nameN l = none) := Lib.hid (by rw [HNM.out, if_neg (fun h => h2 h.1)])
      have g2 : (n : Int) < 1 := by omega
      go_enter Tryz.func61, Tryz.ntmps61
      go_wp2_with fail
      refine HIX.out.mono ?_
      rintro e w2 ⟨rfl, rfl⟩
      go_wp2_with fail
      refine bodyPost_ret (v := .tuple #[.string ⟨#[]⟩, .bool false]) (by simp [results, Tryz.results61, go_sem]) rfl ?_
      exact ⟨ret_eq (by unfold nameT; rw [HNO.out]; rfl), Below.refl _ _⟩
  · rw [if_neg h1] at hix
    have HIX : Hid (Calls Tryz.prog 65 #[.slice (some ⟨lb, lo, none⟩) l.length cap, .int .u8 58] w fun e w' => e = .returned (.int .i64 (-1)) ∧ w' = w) := Lib.hid hix
    have HNO : Hid (nameN l = none) := Lib.hid (by rw [HNM.out, if_neg (fun h => h1 h.2.1)])
    clear hix
    go_enter Tryz.func61, Tryz.ntmps61
    go_wp2_with fail
    refine HIX.out.mono ?_
    rintro e w2 ⟨rfl, rfl⟩
    go_wp2_with fail
    refine bodyPost_ret (v := .tuple #[.string ⟨#[]⟩, .bool false]) (by simp [results, Tryz.results61, go_sem]) rfl ?_
    exact ⟨ret_eq (by unfold nameT; rw [HNO.out]; rfl), Below.refl _ _⟩
end
section
set_option linter.unusedVariables false
open Go.RowKit Go.Lib

theorem info55 : (Tryz.prog.info? 82).map (·.size) = some 2 := by kernel_rfl
theorem lies55 : liesAt Tryz.prog Tryz.prog.depth 84 (4 / Tryz.prog.cellsOf 84) 1 82 1 = true := by kernel_rfl

/-- the field in block g: a, v its builder's cells, r its lines' cell; T the text, R the lines; their rows lie at or above B -/
structure FldC (a v r : Value) (w : World) (g B : Nat) (nm : ByteArray) (T R : List Nat) : Prop where
  row : w.heap[g]? = some (.cells #[.string nm, a, v, r] 84 (0, 0))
  own : OwnB w B v T
  raw : OwnB w B r R
  ne : ∀ k, v.ownBlock = some k → r.ownBlock ≠ some k
  base : B ≤ g
def FldAt (w : World) (g B : Nat) (nm : ByteArray) (T R : List Nat) : Prop := ∃ a v r, (a = .pointer none ∨ a = .pointer (some ⟨g, 1, none⟩)) ∧ FldC a v r w g B nm T R

/-- a row of bytes lies in no field's block -/
theorem ownB_ne {w : World} {B g : Nat} {v : Value} {l : List Nat} {C : Array Value} (h : OwnB w B v l) (hg : w.heap[g]? = some (.cells C 84 (0, 0))) : v.ownBlock ≠ some g := by
  intro e
  rcases h.2 with ⟨rfl, _⟩ | ⟨b, cap, cur, rfl, _, hh, _⟩
  · simp [Value.ownBlock] at e
  · simp [Value.ownBlock] at e
    subst e
    rw [hg] at hh
    simp at hh
/-- a row of bytes in another block -/
theorem ownB_turn {w w' : World} {B : Nat} {v : Value} {l : List Nat} (h : OwnB w B v l) {row : Option Nat} (hg : w.grownBy w' row) (hne : ∀ k, v.ownBlock = some k → row ≠ some k) : OwnB w' B v l := by
  refine ⟨h.1, ?_⟩
  rcases h.2 with h2 | ⟨b, cap, cur, rfl, hb, hh, r⟩
  · exact .inl h2
  · refine .inr ⟨b, cap, cur, rfl, hb, ?_, r⟩
    rw [hg.block b (Array.getElem?_eq_some_iff.1 hh).1 (fun e => hne b rfl e.symm)]
    exact hh

theorem grownBy_set (W : World) (b j : Nat) (v : Value) : W.grownBy (W.setCell ⟨b, j, none⟩ v) (some b) := ⟨rfl, rfl, rfl, by simp [World.setCell], fun k _ hk => Below.heap_setCell W _ v k (fun e => hk (by rw [e]))⟩

theorem FldC.at {a v r : Value} {w : World} {g B : Nat} {nm : ByteArray} {T R : List Nat} (k : FldC a v r w g B nm T R) :
    w.cell? ⟨g, 0, none⟩ = some (.string nm) ∧ w.cell? ⟨g, 1, none⟩ = some a ∧ w.cell? ⟨g, 2, none⟩ = some v ∧ w.cell? ⟨g, 3, none⟩ = some r ∧
    w.frozen? ⟨g, 1, none⟩ = false ∧ w.frozen? ⟨g, 2, none⟩ = false ∧ w.frozen? ⟨g, 3, none⟩ = false ∧ w.shape? g = some (84, 4) := by
  have c : ∀ j, w.cell? ⟨g, j, none⟩ = (#[.string nm, a, v, r] : Array Value)[j]? := fun j => cell_of_row _ _ j _ 84 (0, 0) k.row
  have x : ∀ j, w.frozen? ⟨g, j, none⟩ = false := fun j => frozen_of_row _ _ _ _ _ k.row
  exact ⟨c 0, c 1, c 2, c 3, x 1, x 2, x 3, by simp [World.shape?, k.row]⟩
theorem FldC.lt {a v r : Value} {w : World} {g B : Nat} {nm : ByteArray} {T R : List Nat} (k : FldC a v r w g B nm T R) : g < w.heap.size := (Array.getElem?_eq_some_iff.1 k.row).1
theorem FldC.set1 {a v r : Value} {w : World} {g B : Nat} {nm : ByteArray} {T R : List Nat} (k : FldC a v r w g B nm T R) (u : Value) : FldC u v r (w.setCell ⟨g, 1, none⟩ u) g B nm T R :=
  ⟨heap_setCell_same w g 1 _ _ _ k.row, ownB_turn k.own (grownBy_set w g 1 u) (fun j e h => ownB_ne k.own k.row (by rw [e]; exact h.symm)), ownB_turn k.raw (grownBy_set w g 1 u) (fun j e h => ownB_ne k.raw k.row (by rw [e]; exact h.symm)), k.ne, k.base⟩

set_option maxHeartbeats 1000000 in
set_option maxRecDepth 100000 in
/-- copyCheck: behind it the builder knows where it lies -/
theorem check_any (a v r : Value) (g B : Nat) (nm : ByteArray) (T R : List Nat) (w : World) (h : FldC a v r w g B nm T R) (ha : a = .pointer none ∨ a = .pointer (some ⟨g, 1, none⟩)) :
    Calls Tryz.prog 92 #[.pointer (some ⟨g, 1, none⟩)] w fun e w' => e = .returned (.tuple #[]) ∧ FldC (.pointer (some ⟨g, 1, none⟩)) v r w' g B nm T R ∧ w.grownBy w' (some g) ∧ w'.heap.size = w.heap.size := by
  obtain ⟨j, hj, hjs⟩ := Option.map_eq_some_iff.1 info55
  obtain ⟨c0, c1, c2, c3, x1, x2, x3, hsh⟩ := h.at
  rcases ha with rfl | rfl
  · have H := Lib.hid h
    clear h
    go_enter Tryz.func92, Tryz.ntmps92
    go_wp2
    rw [Lib.run_to_unsafe w ⟨g, 1, none⟩ Tryz.underlying80 Tryz.underlying137 hj (by rw [hjs]; decide) hsh (by decide : (1 : Nat) < 4)]
    simp only [Result.andThen]
    rw [Oper.upon_value]
    go_wp2
    rw [run_callFunc_extern Tryz.func107 (by kernel_rfl) (by kernel_rfl) (by kernel_rfl) (e := Extern.AbiNoEscape.same) (by kernel_rfl)]
    rw [Lib.run_noEscape]
    simp only [Result.andThen]
    rw [Oper.upon_value]
    go_wp2
    rw [Lib.run_from_unsafe w ⟨g, 1, none⟩ Tryz.underlying137 Tryz.underlying80 hj hsh lies55]
    simp only [Result.andThen]
    rw [Oper.upon_value]
    go_wp2
    go_end0
    exact ⟨rfl, H.out.set1 _, grownBy_set w g 1 _, by simp [World.setCell]⟩
  · have H := Lib.hid h
    clear h
    go_enter Tryz.func92, Tryz.ntmps92
    go_wp2
    rw [Lib.run_neq_ptr_same w _ Tryz.underlying80 hj]
    go_wp2
    go_end0
    exact ⟨rfl, H.out, World.grownBy.refl _ _, rfl⟩

/-- where a row lies behind an append: where it lay, or in a new block -/
def Moved (h h' : Value) (w : World) : Prop := h'.ownBlock = h.ownBlock ∨ ∀ g, h'.ownBlock = some g → w.heap.size ≤ g
theorem run_app {w : World} {B : Nat} {v u : Value} {l m : List Nat} (ty : TypeId) (hown : OwnB w B v l) (hr : RowB w u m) (hB : B ≤ w.heap.size) (hlen : l.length + m.length ≤ 140737488355328) :
    ∃ v' w', (Builtin.append_ #[22, 22] ty #[v, u]).run Tryz.prog w = .ok v' w' ∧ OwnB w' B v' (l ++ m) ∧ w.grownBy w' v.ownBlock ∧ Moved v v' w := by
  obtain ⟨i0, hi, hz0, hz1, hz2⟩ := info_parts Tryz.info5
  obtain ⟨ad, len, cap, rfl, hl, hc, hm, hw, hn, hcell⟩ := hr
  cases ad with
  | none =>
    obtain ⟨rfl, rfl⟩ := hn rfl
    obtain rfl : m = [] := List.eq_nil_of_length_eq_zero hl
    exact ⟨v, w, run_append_owned_none (P := Tryz.prog) w B 22 ty 5 i0 1 Tryz.underlying22 hi v l.length (u8s l) hown, by rw [List.append_nil]; exact hown, World.grownBy.refl _ _, .inl rfl⟩
  | some x =>
    obtain ⟨v', w', h1, h2, h3, _, h5⟩ := run_append_own_at (P := Tryz.prog) w B 22 ty 5 i0 (.int .u8 0) 1 1 Tryz.underlying22 hi hz0 hz1 hz2 rfl (by decide) v l.length (u8s l) hown x len cap (u8s m) (by simp [hl])
      (fun j q hj => by
        have hjl : j < m.length := by have := (List.getElem?_eq_some_iff.1 hj).1; simpa using this
        rw [u8s_get m j hjl] at hj
        cases hj
        exact hcell x rfl j hjl)
      (fun q hq => by obtain ⟨_, _, rfl⟩ := List.mem_map.1 hq; rfl) (by simp [maxLen]; omega) (by omega) hB
    refine ⟨v', w', h1, ?_, h3, ?_⟩
    · unfold OwnB
      rw [u8s_append, List.length_append, hl]
      exact h2
    · rcases h5 with h | h
      · exact .inl h
      · exact .inr fun g hg => by rw [h] at hg; cases hg; exact Nat.le_refl _

theorem applw {ops : Array Oper} {rest : List Oper} {o : Oper} {a : Act} {Q : Exit → Act → World → Prop} (hgd : o.guard = none) (s x : Operand)
    (ho : o.op = .call { callee := .builtin .append, args := #[s, x], argTypes := #[22, 22] })
    {w : World} {B : Nat} {v u : Value} {l m : List Nat} (hown : OwnB w B v l) (hr : RowB w u m) (hB : B ≤ w.heap.size)
    (hs : a.eval s = v) (hx : a.eval x = u) (hlen : l.length + m.length ≤ 140737488355328)
    (h : ∀ o' w2, OwnB w2 B o' (l ++ m) → w.grownBy w2 v.ownBlock → Moved v o' w → wpList Tryz.prog ops Q rest (a.put o.dst o') w2) :
    wpList Tryz.prog ops Q (o :: rest) a w := by
  obtain ⟨v', w', hrun, h1, h2, h3⟩ := run_app o.type hown hr hB hlen
  refine wpList_plain hgd fun K hK => ?_
  unfold Oper.wp
  simp [execOp, ho, resolve, invoke, builtin, hs, hx, hrun, Result.andThen]
  exact hK _ _ (h _ _ h1 h2 h3)

/-- what turns while the field in block g is written: nothing below B, no block but g and rows of bytes -/
def Fr (B g : Nat) (w w' : World) : Prop := Below B w w' ∧ OthersKept 5 (some g) w w'
theorem Fr.refl (B g : Nat) (w : World) : Fr B g w w := ⟨Below.refl _ _, OthersKept.refl _ _ _⟩
theorem Fr.trans {B g : Nat} {a b c : World} (h : Fr B g a b) (k : Fr B g b c) : Fr B g a c := ⟨h.1.trans k.1, h.2.trans k.2⟩
theorem Fr.turn {B g : Nat} {a w w' : World} (h : Fr B g a w) (hB : B ≤ g) (hs : B ≤ w.heap.size) (hg : w.grownBy w' (some g)) : Fr B g a w' :=
  ⟨h.1.grown hg hs (fun k e => by cases e; exact hB), fun k o hk hb hx => by
    have h1 := h.2 k o hk hb hx
    rw [hg.block k (Array.getElem?_eq_some_iff.1 h1).1 hb]
    exact h1⟩
theorem Fr.app {B g : Nat} {a w w' : World} {v : Value} {l : List Nat} (h : Fr B g a w) (hs : B ≤ w.heap.size) (ho : OwnB w B v l) (hg : w.grownBy w' v.ownBlock) : Fr B g a w' :=
  ⟨h.1.grown hg hs ho.ownLe, h.2.grown hg (fun k hk => by
    rcases ho.2 with ⟨rfl, _⟩ | ⟨b, cap, cur, rfl, _, hh, _⟩
    · simp [Value.ownBlock] at hk
    · simp [Value.ownBlock] at hk
      subst hk
      exact ⟨cur, (0, 0), hh⟩)⟩

theorem ownB_lt {w : World} {B : Nat} {v : Value} {l : List Nat} (h : OwnB w B v l) : ∀ k, v.ownBlock = some k → k < w.heap.size := by
  intro k hk
  rcases h.2 with ⟨rfl, _⟩ | ⟨b, cap, cur, rfl, _, hh, _⟩
  · simp [Value.ownBlock] at hk
  · simp [Value.ownBlock] at hk
    subst hk
    exact (Array.getElem?_eq_some_iff.1 hh).1

/-- behind an append to the builder's row -/
theorem FldC.app {a v r v' : Value} {w w' : World} {g B : Nat} {nm : ByteArray} {T R m : List Nat} (k : FldC a v r w g B nm T R) (ho : OwnB w' B v' (T ++ m)) (hg : w.grownBy w' v.ownBlock) (hm : Moved v v' w) :
    FldC a v' r (w'.setCell ⟨g, 2, none⟩ v') g B nm (T ++ m) R := by
  have hrow : w'.heap[g]? = some (.cells #[.string nm, a, v, r] 84 (0, 0)) := (hg.block g k.lt (fun e => ownB_ne k.own k.row e.symm)).trans k.row
  have hraw : OwnB w' B r R := ownB_turn k.raw hg (fun j e h => k.ne j h e)
  refine ⟨heap_setCell_same w' g 2 _ _ _ hrow, ownB_turn ho (grownBy_set w' g 2 v') (fun j e h => ownB_ne ho hrow (by rw [e]; exact h.symm)), ownB_turn hraw (grownBy_set w' g 2 v') (fun j e h => ownB_ne hraw hrow (by rw [e]; exact h.symm)), fun j e h => ?_, k.base⟩
  rcases hm with hm | hm
  · rw [hm] at e
    exact k.ne j e h
  · have h1 := hm j e
    have h2 := ownB_lt k.raw j h
    omega
/-- behind an append to the lines' row -/
theorem FldC.apr {a v r r' : Value} {w w' : World} {g B : Nat} {nm : ByteArray} {T R m : List Nat} (k : FldC a v r w g B nm T R) (ho : OwnB w' B r' (R ++ m)) (hg : w.grownBy w' r.ownBlock) (hm : Moved r r' w) :
    FldC a v r' (w'.setCell ⟨g, 3, none⟩ r') g B nm T (R ++ m) := by
  have hrow : w'.heap[g]? = some (.cells #[.string nm, a, v, r] 84 (0, 0)) := (hg.block g k.lt (fun e => ownB_ne k.raw k.row e.symm)).trans k.row
  have hown : OwnB w' B v T := ownB_turn k.own hg (fun j e h => k.ne j e h)
  refine ⟨heap_setCell_same w' g 3 _ _ _ hrow, ownB_turn hown (grownBy_set w' g 3 r') (fun j e h => ownB_ne hown hrow (by rw [e]; exact h.symm)), ownB_turn ho (grownBy_set w' g 3 r') (fun j e h => ownB_ne ho hrow (by rw [e]; exact h.symm)), fun j e h => ?_, k.base⟩
  rcases hm with hm | hm
  · rw [hm] at h
    exact k.ne j e h
  · have h1 := hm j h
    have h2 := ownB_lt k.own j e
    omega

set_option maxHeartbeats 1000000 in
set_option maxRecDepth 100000 in
/-- the builder's Write -/
theorem write_any (g B lb lo cap : Nat) (nm : ByteArray) (T R m : List Nat) (w : World) (h : FldAt w g B nm T R) (hc : CellsL w lb lo m) (hmc : m.length ≤ cap) (hcm : cap ≤ maxLen) (hlt : ∀ n ∈ m, n < 256) (hlb : m ≠ [] → lb < B) (hl : T.length + m.length ≤ 140737488355328) :
    Calls Tryz.prog 62 #[.pointer (some ⟨g, 1, none⟩), .slice (some ⟨lb, lo, none⟩) m.length cap] w fun e w' => e = .returned (.tuple #[.int .i64 (m.length : Nat), .nilIface]) ∧ FldAt w' g B nm (T ++ m) R ∧ Fr B g w w' := by
  obtain ⟨a, v, r, ha, hf⟩ := h
  have HCK := Lib.hid (check_any a v r g B nm T R w hf ha)
  have hgl := hf.lt
  have hbase := hf.base
  have HC := Lib.hid hc
  have HLB := Lib.hid hlb
  have HLT := Lib.hid hlt
  clear ha hf hc hlb hlt
  go_enter Tryz.func62, Tryz.ntmps62
  go_wp2_with fail
  refine HCK.out.mono ?_
  rintro e w1 ⟨rfl, hf, hgr, hsz⟩
  have hrow := (HC.out.kept (n₀ := B) ((Below.refl B w).grown hgr (by omega) (fun k e => by cases e; omega)) HLB.out).row hmc hcm HLT.out
  obtain ⟨c0, c1, c2, c3, x1, x2, x3, _⟩ := hf.at
  have HF := Lib.hid hf
  have HR := Lib.hid hrow
  have HG := Lib.hid hgr
  clear hf hgr hrow
  go_wp2_with (at_builtin; go_loud (refine applw rfl (.tmp 12) (.tmp 13) rfl HF.out.own HR.out (by omega) rfl rfl hl ?_); intro o2 w2 ho2 hg2 hm2; obtain ⟨oa, oc, rfl⟩ := ho2.shape; simp only [List.length_append] at ho2 hm2; have hx2 : w2.cell? ⟨g, 1, none⟩ = some (.pointer (some ⟨g, 1, none⟩)) := (World.cell?_of_block (hg2.block g HF.out.lt (fun e => ownB_ne HF.out.own HF.out.row e.symm))).trans c1; have hx3 : w2.cell? ⟨g, 2, none⟩ = some v := (World.cell?_of_block (hg2.block g HF.out.lt (fun e => ownB_ne HF.out.own HF.out.row e.symm))).trans c2; have hx4 : w2.frozen? ⟨g, 2, none⟩ = false := (World.frozen?_of_block (hg2.block g HF.out.lt (fun e => ownB_ne HF.out.own HF.out.row e.symm))).trans x2; have HO2 := Lib.hid ho2; have HG2 := Lib.hid hg2; have HM2 := Lib.hid hm2; clear ho2 hg2 hm2)
  refine bodyPost_ret (v := .tuple #[.int .i64 (m.length : Nat), .nilIface]) (by simp [results, Tryz.results62, go_sem]) rfl ?_
  refine ⟨rfl, ⟨_, _, _, .inr rfl, HF.out.app HO2.out HG2.out HM2.out⟩, ?_⟩
  have hs2 := HG2.out.size
  exact (((Fr.refl B g w).turn hbase (by omega) HG.out).app (by omega) HF.out.own HG2.out).turn hbase (by omega) (grownBy_set w2 g 2 _)
end
end Go.Proofs.YtnncldnpkfjhbaaGreatDoor
