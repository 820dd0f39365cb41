/-
  A sector of a log: a cell, a head; how it is written.
-/
import Derived.Test.YtmnbkhgogogeiaaNum
import Derived.StillTailTactics
namespace Go.Proofs.Ytmnbkhgogogeiaa
set_option linter.unusedVariables false
open Go.RowKit

def cellL (number behind size part : Nat) (data : List Nat) : List Nat :=
  putAt (putAt (putAt (putAt (putAt (zeros 64) 1 (be 8 number)) 9 (be 8 behind)) 17 (be 4 size)) 21 (be 2 part)) 23 data
theorem cellL_length (number behind size part : Nat) (data : List Nat) (h : data.length ≤ 40) : (cellL number behind size part data).length = 64 := by
  unfold cellL
  rw [putAt_length, putAt_length, putAt_length, putAt_length, putAt_length] <;> simp [putAt, zeros] <;> omega
def headL (version first place behind : Nat) : List Nat :=
  putAt (putAt (putAt (putAt (zeros 64) 1 (be 8 version)) 9 (be 8 first)) 17 (be 8 place)) 25 (be 8 behind)
theorem headL_length (version first place behind : Nat) : (headL version first place behind).length = 64 := by
  unfold headL
  rw [putAt_length, putAt_length, putAt_length, putAt_length] <;> simp [putAt, zeros]

theorem make_row (w : World) : Row8 (w.alloc (.cells (u8s (zeros 64)).toArray 5)) w.heap.size (zeros 64) := heap_alloc_new w _

theorem row8_of_own {w : World} {B g n : Nat} {l : List Nat} (h : OwnB w B (.slice (some ⟨g, 0, none⟩) n n) l) (hl : l.length = n) : Row8 w g l := by
  subst hl
  rcases h.2 with ⟨e, _⟩ | ⟨g', cap', cur, e, hb, hg, hn, hm, hs, ht⟩
  · simp at e
  · simp only [Value.slice.injEq, Option.some.injEq, Addr.mk.injEq, and_true, true_and] at e
    obtain ⟨rfl, rfl⟩ := e
    unfold Row8
    rw [hg, ← ht, List.take_of_length_le (by simp [hs])]
/-- a copy of few bytes into a sector -/
theorem copy_piece {w : World} {ops : Array Oper} {rest : List Oper} {o : Oper} {a : Act} {Q : Exit → Act → World → Prop} (hgd : o.guard = none) (d s : Operand)
    (ho : o.op = .call { callee := .builtin .copy, args := #[d, s], argTypes := #[23, 23] }) {g off n cap : Nat} {v : Value} (hd : a.eval d = .slice (some ⟨g, off, none⟩) n cap) (hs : a.eval s = v)
    {l src : List Nat} (hg : Row8 w g l) (hoff : off + n ≤ l.length) (hr : RowB w v src) (hle : src.length ≤ n)
    (h : ∀ w', Row8 w' g (putAt l off src) → Beside (· = g) w w' → wpList Try.prog ops Q rest (a.put o.dst (goInt src.length)) w') : wpList Try.prog ops Q (o :: rest) a w := by
  obtain ⟨i0, hi, hz0, hz1, hz2⟩ := info_parts Try.info5
  have hsz : (Try.prog.info? 5).map (·.size) = some 1 := by rw [hi]; simp [hz1]
  obtain ⟨x, len, scap, rfl, hlen, hcap, hm, h256, hn, hcell⟩ := hr
  cases x with
  | none =>
    obtain ⟨rfl, rfl⟩ := hn rfl
    obtain rfl : src = [] := List.eq_nil_of_length_eq_zero hlen
    refine wpList_copy_nothing hgd d s 23 23 ho 5 Try.underlying23 hsz _ _ _ _ _ _ hd hs (Nat.zero_min _) ?_
    exact h w (by rw [putAt_nil]; exact hg) (Beside.refl _ _)
  | some x =>
    have e := wpList_copy_own (P := Try.prog) (w := w) (Q := Q) (rest := rest) (ops := ops) hgd d s 23 23 ho 5 Try.underlying23 hsz g off n cap x len scap hd hs (u8s l).toArray 5 hg (u8s src) (by
      rw [u8s_length, hlen]
      exact (Nat.min_eq_left (by omega)).symm) (fun j v hj => by
        have hjl : j < src.length := by have := (List.getElem?_eq_some_iff.1 hj).1; simpa using this
        rw [u8s_get src j hjl] at hj
        cases hj
        exact hcell x rfl j hjl) (by simp; omega) (u8s_one _)
    rw [u8s_length] at e
    refine e (h _ ?_ ((Beside.refl (· = g) w).setRow (.inl rfl) _))
    unfold Row8 at hg ⊢
    have e2 : ((u8s l).toArray.toList.take off ++ (u8s src ++ (u8s l).toArray.toList.drop (off + src.length))) = u8s (putAt l off src) := by
      unfold putAt u8s
      simp [List.map_append, List.map_take, List.map_drop]
    rw [e2]
    rw [setRow_heap _ _ _ _ _ _ hg]
/-- a struct in its box, beside the sector that is made -/
structure CB (w wk : World) (q g : Nat) (cs : Array Value) (l : List Nat) : Prop where
  row : Row8 wk g l
  box : wk.heap[q]? = some (.cells cs 128 (0, 0))
  bel : Below w.heap.size w wk
  geg : w.heap.size ≤ g
  qg : q ≠ g
theorem CB.put {w wk w' : World} {q g : Nat} {cs : Array Value} {l l' : List Nat} (h : CB w wk q g cs l) (hr : Row8 w' g l') (hb : Beside (· = g) wk w') : CB w w' q g cs l' :=
  ⟨hr, by rw [hb.block q (lt_of_block h.box) h.qg, h.box], h.bel.trans (hb.below (fun k hk => by rw [hk]; exact h.geg) h.bel.size), h.geg, h.qg⟩
theorem CB.drew {w wk : World} {q g : Nat} {cs : Array Value} {l : List Nat} (h : CB w wk q g cs l) : CB w wk.drew q g cs l := ⟨h.row, h.box, h.bel.drew, h.geg, h.qg⟩
set_option maxRecDepth 100000 in
set_option maxHeartbeats 2000000 in
theorem cell_bytes {w : World} (number behind size part : Nat) {v : Value} {data : List Nat} (hd : RowB w v data) (hdl : data.length ≤ 40)
    (h1 : number < 18446744073709551616) (h2 : behind < 18446744073709551616) (h3 : size < 18446744073709551616) (h4 : part < 18446744073709551616) :
    Calls Try.prog 92 #[.agg #[.int .u64 (number : Nat), .int .u64 (behind : Nat), .int .u64 (size : Nat), .int .u64 (part : Nat), v]] w fun e w' =>
      ∃ g, e = .returned (.slice (some ⟨g, 0, none⟩) 64 64) ∧ Row8 w' g (cellL number behind size part data) ∧ w.heap.size ≤ g ∧ Below w.heap.size w w' := by
  obtain ⟨a, len, cap, rfl, hlen, hcap, hm, h256, hn, hcell⟩ := id hd
  have HD := Lib.hid hd
  clear hd h256 hn hcell
  go_enter Try.func92, Try.ntmps92
  go_wp2_with (at_make; refine make_64 rfl _ _ rfl rfl rfl ?_)
  intro w1 hO hb1
  have hbox := (hb1.block w.heap.size (Nat.lt_succ_self _)).trans (heap_alloc_new w (.cells #[.int .u64 (number : Nat), .int .u64 (behind : Nat), .int .u64 (size : Nat), .int .u64 (part : Nat), .slice a len cap] 128))
  have hbel : Below w.heap.size w w1 := ((Below.refl _ _).alloc (Nat.le_refl _) _).trans (hb1.mono (Nat.le_succ _))
  have H1 : Hid (CB w w1 w.heap.size (w.heap.size + 1) _ (zeros 64)) := Lib.hid ⟨row8_of_own hO (by simp [zeros]), hbox, hbel, by omega, by omega⟩
  clear hO hb1 hbox hbel
  have hq := Lib.hid (show w.heap.size ≤ w.heap.size + 1 by omega)
  generalize w.heap.size + 1 = g at *
  have fl := fun (wk : World) (l : List Nat) (h : CB w wk w.heap.size g #[.int .u64 (number : Nat), .int .u64 (behind : Nat), .int .u64 (size : Nat), .int .u64 (part : Nat), .slice a len cap] l) j => cell_of_row wk w.heap.size j _ _ _ h.box
  have HF := Lib.hid fl
  clear fl
  have b0 : w1.cell? ⟨w.heap.size, 0, none⟩ = some (.int .u64 (number : Nat)) := HF.out _ _ H1.out 0
  go_wp2_with fail
  go_still_tail 4, (by kernel_rfl)
  change wpList _ _ _ _ _ (World.drew _)
  have HDK := Lib.hid H1.out.drew
  clear b0
  generalize w1.drew = wd at *
  go_wp2_with (go_at_call 96; refine (put_any HDK.out.row 1 8 63 number (by decide) (by simp [zeros]) (by simp [zeros]) (by decide) h1).mono ?_; rintro e w2 ⟨rfl, hr, hb⟩; have H2 := Lib.hid (HDK.out.put hr hb); clear hr hb)
  clear HDK
  have b0 : w2.cell? ⟨w.heap.size, 1, none⟩ = some (.int .u64 (behind : Nat)) := HF.out _ _ H2.out 1
  go_wp2_with fail
  go_still_tail 4, (by kernel_rfl)
  change wpList _ _ _ _ _ (World.drew _)
  have HDK := Lib.hid H2.out.drew
  clear b0
  generalize w2.drew = wd at *
  go_wp2_with (go_at_call 96; refine (put_any HDK.out.row 9 8 55 behind (by decide) (by simp [putAt, zeros]) (by simp [putAt, zeros]) (by decide) h2).mono ?_; rintro e w3 ⟨rfl, hr, hb⟩; have H3 := Lib.hid (HDK.out.put hr hb); clear hr hb)
  clear HDK
  have b0 : w3.cell? ⟨w.heap.size, 2, none⟩ = some (.int .u64 (size : Nat)) := HF.out _ _ H3.out 2
  go_wp2_with fail
  go_still_tail 4, (by kernel_rfl)
  change wpList _ _ _ _ _ (World.drew _)
  have HDK := Lib.hid H3.out.drew
  clear b0
  generalize w3.drew = wd at *
  go_wp2_with (go_at_call 96; refine (put_any HDK.out.row 17 4 47 size (by decide) (by simp [putAt, zeros]) (by simp [putAt, zeros]) (by decide) h3).mono ?_; rintro e w4 ⟨rfl, hr, hb⟩; have H4 := Lib.hid (HDK.out.put hr hb); clear hr hb)
  clear HDK
  have b0 : w4.cell? ⟨w.heap.size, 3, none⟩ = some (.int .u64 (part : Nat)) := HF.out _ _ H4.out 3
  go_wp2_with fail
  go_still_tail 4, (by kernel_rfl)
  change wpList _ _ _ _ _ (World.drew _)
  have HDK := Lib.hid H4.out.drew
  clear b0
  generalize w4.drew = wd at *
  go_wp2_with (go_at_call 96; refine (put_any HDK.out.row 21 2 43 part (by decide) (by simp [putAt, zeros]) (by simp [putAt, zeros]) (by decide) h4).mono ?_; rintro e w5 ⟨rfl, hr, hb⟩; have H5 := Lib.hid (HDK.out.put hr hb); clear hr hb)
  clear HDK
  have b0 : w5.cell? ⟨w.heap.size, 4, none⟩ = some (.slice a len cap) := HF.out _ _ H5.out 4
  go_wp2_with fail
  go_still_tail 4, (by kernel_rfl)
  change wpList _ _ _ _ _ (World.drew _)
  have HD5 := Lib.hid H5.out.drew
  clear b0
  generalize w5.drew = wd at *
  refine copy_piece rfl (.tmp 26) (.tmp 28) rfl rfl rfl HD5.out.row (by simp [putAt, zeros]) (HD.out.below HD5.out.bel) hdl ?_
  intro w6 hr hb
  have H6 := Lib.hid (HD5.out.put hr hb)
  clear hr hb
  go_wp2_with fail
  go_ret
  exact ⟨g, rfl, H6.out.row, H6.out.geg, H6.out.bel⟩

/-- an index into an array held by value -/
theorem run_index4 (w : World) (A : Array Value) (i : Int) (v : Value) (hi : 0 ≤ i ∧ i < 4) (hv : A[i.toNat]? = some v) :
    (Instr.index 148 (.agg A) (.int .i64 i)).run Try.prog w = .ok v w := by
  have h103 : Try.prog.underlying 148 = some (.array 4 84) := by kernel_rfl
  simp [Instr.index, run_underlying h103, asIntOf, hi, part, go_sem]
  rw [hv]
  rfl
def nth4 (x y z u : Nat) : Nat → Nat
  | 0 => x
  | 1 => y
  | 2 => z
  | _ => u
def headK (x y z u : Nat) : Nat → List Nat
  | 0 => zeros 64
  | k + 1 => putAt (headK x y z u k) (1 + k * 8) (be 8 (nth4 x y z u k))
theorem headK_length (x y z u k : Nat) (hk : k ≤ 4) : (headK x y z u k).length = 64 := by
  induction k with
  | zero => simp [headK, zeros]
  | succ k ih => rw [headK, putAt_length _ _ _ (by rw [ih (by omega)]; simp; omega)]; exact ih (by omega)
set_option maxRecDepth 100000 in
set_option maxHeartbeats 2000000 in
theorem head_bytes {w : World} (version first place behind : Nat)
    (h1 : version < 18446744073709551616) (h2 : first < 18446744073709551616) (h3 : place < 18446744073709551616) (h4 : behind < 18446744073709551616) :
    Calls Try.prog 73 #[.agg #[.int .u64 (version : Nat), .int .u64 (first : Nat), .int .u64 (place : Nat), .int .u64 (behind : Nat)]] w fun e w' =>
      ∃ g, e = .returned (.slice (some ⟨g, 0, none⟩) 64 64) ∧ Row8 w' g (headL version first place behind) ∧ w.heap.size ≤ g ∧ Below w.heap.size w w' := by
  go_enter Try.func73, Try.ntmps73
  go_wp2_with (at_make; refine make_64 rfl _ _ rfl rfl rfl ?_)
  intro w1 hO hb1
  have hbox := (hb1.block w.heap.size (Nat.lt_succ_self _)).trans (heap_alloc_new w (.cells #[.int .u64 (version : Nat), .int .u64 (first : Nat), .int .u64 (place : Nat), .int .u64 (behind : Nat)] 88))
  have hbel : Below w.heap.size w w1 := ((Below.refl _ _).alloc (Nat.le_refl _) _).trans (hb1.mono (Nat.le_succ _))
  have b0 := cell_of_row w1 w.heap.size 0 _ _ _ hbox
  have b1 := cell_of_row w1 w.heap.size 1 _ _ _ hbox
  have b2 := cell_of_row w1 w.heap.size 2 _ _ _ hbox
  have b3 := cell_of_row w1 w.heap.size 3 _ _ _ hbox
  simp only [List.getElem?_toArray, List.getElem?_cons_zero, List.getElem?_cons_succ] at b0 b1 b2 b3
  have hrow := row8_of_own hO (by simp [zeros])
  have HB := Lib.hid hbel
  have HR := Lib.hid hrow
  clear hO hb1 hbox hbel hrow
  have hq := Lib.hid (show w.heap.size ≤ w.heap.size + 1 by omega)
  generalize w.heap.size + 1 = g at *
  go_wp2_with fail
  have HC := Lib.hid (And.intro h1 (And.intro h2 (And.intro h3 h4)))
  clear b0 b1 b2 b3
  go_loopw [16] (fun i wr => ∃ k : Nat, k ≤ 4 ∧ i = .int .i64 (k : Nat) ∧ Row8 wr g (headK version first place behind k) ∧ Below w.heap.size w wr) (fun i _ => 4 - (RowKit.intOf i).toNat)
  case atStart => exact ⟨0, by decide, rfl, HR.out, HB.out⟩
  case round =>
    obtain ⟨k, hk, rfl, hrow, hbw⟩ := hrel
    have HRW := Lib.hid hrow
    have HBW := Lib.hid hbw
    have HLN := Lib.hid (headK_length version first place behind k hk)
    clear hrow hbw
    by_cases hk4 : k < 4
    · have hkz : (k : Int) < 4 := by omega
      have HX := Lib.hid (run_index4 wr #[.int .u64 (version : Nat), .int .u64 (first : Nat), .int .u64 (place : Nat), .int .u64 (behind : Nat)])
      have : k = 0 ∨ k = 1 ∨ k = 2 ∨ k = 3 := by omega
      rcases this with rfl | rfl | rfl | rfl
      · have hidx := HX.out 0 (.int .u64 (version : Nat)) (by decide) rfl
        go_wp2_with (go_at_call 96; refine (put_any HRW.out 1 8 63 version (by decide) (by rw [HLN.out]; decide) (by rw [HLN.out]; decide) (by decide) (by have := HC.out; simp only [this])).mono ?_; rintro e w2 ⟨rfl, hr, hb⟩; have HR2 := Lib.hid hr; have HB2 := Lib.hid (HBW.out.trans (hb.below (fun k hk => by rw [hk]; exact hq.out) HBW.out.size)); clear hr hb)
        go_roundw
        case rel => exact ⟨1, by decide, rfl, HR2.out, HB2.out⟩
        case measure => simp [intOf]
      · have hidx := HX.out 1 (.int .u64 (first : Nat)) (by decide) rfl
        go_wp2_with (go_at_call 96; refine (put_any HRW.out 9 8 55 first (by decide) (by rw [HLN.out]; decide) (by rw [HLN.out]; decide) (by decide) (by have := HC.out; simp only [this])).mono ?_; rintro e w2 ⟨rfl, hr, hb⟩; have HR2 := Lib.hid hr; have HB2 := Lib.hid (HBW.out.trans (hb.below (fun k hk => by rw [hk]; exact hq.out) HBW.out.size)); clear hr hb)
        go_roundw
        case rel => exact ⟨2, by decide, rfl, HR2.out, HB2.out⟩
        case measure => simp [intOf]
      · have hidx := HX.out 2 (.int .u64 (place : Nat)) (by decide) rfl
        go_wp2_with (go_at_call 96; refine (put_any HRW.out 17 8 47 place (by decide) (by rw [HLN.out]; decide) (by rw [HLN.out]; decide) (by decide) (by have := HC.out; simp only [this])).mono ?_; rintro e w2 ⟨rfl, hr, hb⟩; have HR2 := Lib.hid hr; have HB2 := Lib.hid (HBW.out.trans (hb.below (fun k hk => by rw [hk]; exact hq.out) HBW.out.size)); clear hr hb)
        go_roundw
        case rel => exact ⟨3, by decide, rfl, HR2.out, HB2.out⟩
        case measure => simp [intOf]
      · have hidx := HX.out 3 (.int .u64 (behind : Nat)) (by decide) rfl
        go_wp2_with (go_at_call 96; refine (put_any HRW.out 25 8 39 behind (by decide) (by rw [HLN.out]; decide) (by rw [HLN.out]; decide) (by decide) (by have := HC.out; simp only [this])).mono ?_; rintro e w2 ⟨rfl, hr, hb⟩; have HR2 := Lib.hid hr; have HB2 := Lib.hid (HBW.out.trans (hb.below (fun k hk => by rw [hk]; exact hq.out) HBW.out.size)); clear hr hb)
        go_roundw
        case rel => exact ⟨4, by decide, rfl, HR2.out, HB2.out⟩
        case measure => simp [intOf]
    · obtain rfl : k = 4 := by omega
      go_wp2_with fail
      go_ret
      exact ⟨g, rfl, HRW.out, hq.out, HBW.out⟩
end Go.Proofs.Ytmnbkhgogogeiaa
