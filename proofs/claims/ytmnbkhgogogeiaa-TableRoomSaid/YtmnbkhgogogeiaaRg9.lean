/-
  Several texts of one proof, each in a section of its own: Sec, Lg, LogA.
-/
import Derived.Test.YtmnbkhgogogeiaaRg7
import Derived.StillTailTactics
import Derived.Lib.MinMax
namespace Go.Proofs.Ytmnbkhgogogeiaa
section
set_option linter.unusedVariables false
open Go.RowKit

def cellL (number behind size part : Nat) (data : List Nat) : List Nat :=
  putAt (putAt (putAt (putAt (putAt (zeros 64) 1 (be 8 number)) 9 (be 8 behind)) 17 (be 4 size)) 21 (be 2 part)) 23 data
theorem cellL_length (number behind size part : Nat) (data : List Nat) (h : data.length ≤ 40) : (cellL number behind size part data).length = 64 := by
  unfold cellL
  rw [putAt_length, putAt_length, putAt_length, putAt_length, putAt_length] <;> simp [putAt, zeros] <;> omega
def headL (version first place behind : Nat) : List Nat :=
  putAt (putAt (putAt (putAt (zeros 64) 1 (be 8 version)) 9 (be 8 first)) 17 (be 8 place)) 25 (be 8 behind)
theorem headL_length (version first place behind : Nat) : (headL version first place behind).length = 64 := by
  unfold headL
  rw [putAt_length, putAt_length, putAt_length, putAt_length] <;> simp [putAt, zeros]

theorem make_row (w : World) : Row8 (w.alloc (.cells (u8s (zeros 64)).toArray 5)) w.heap.size (zeros 64) := heap_alloc_new w _

theorem row8_of_own {w : World} {B g n : Nat} {l : List Nat} (h : OwnB w B (.slice (some ⟨g, 0, none⟩) n n) l) (hl : l.length = n) : Row8 w g l := by
  subst hl
  rcases h.2 with ⟨e, _⟩ | ⟨g', cap', cur, e, hb, hg, hn, hm, hs, ht⟩
  · simp at e
  · simp only [Value.slice.injEq, Option.some.injEq, Addr.mk.injEq, and_true, true_and] at e
    obtain ⟨rfl, rfl⟩ := e
    unfold Row8
    rw [hg, ← ht, List.take_of_length_le (by simp [hs])]
/-- a copy of few bytes into a sector -/
theorem copy_piece {w : World} {ops : Array Oper} {rest : List Oper} {o : Oper} {a : Act} {Q : Exit → Act → World → Prop} (hgd : o.guard = none) (d s : Operand)
    (ho : o.op = .call { callee := .builtin .copy, args := #[d, s], argTypes := #[23, 23] }) {g off n cap : Nat} {v : Value} (hd : a.eval d = .slice (some ⟨g, off, none⟩) n cap) (hs : a.eval s = v)
    {l src : List Nat} (hg : Row8 w g l) (hoff : off + n ≤ l.length) (hr : RowB w v src) (hle : src.length ≤ n)
    (h : ∀ w', Row8 w' g (putAt l off src) → Beside (· = g) w w' → wpList Try.prog ops Q rest (a.put o.dst (goInt src.length)) w') : wpList Try.prog ops Q (o :: rest) a w := by
  obtain ⟨i0, hi, hz0, hz1, hz2⟩ := info_parts Try.info5
  have hsz : (Try.prog.info? 5).map (·.size) = some 1 := by rw [hi]; simp [hz1]
  obtain ⟨x, len, scap, rfl, hlen, hcap, hm, h256, hn, hcell⟩ := hr
  cases x with
  | none =>
    obtain ⟨rfl, rfl⟩ := hn rfl
    obtain rfl : src = [] := List.eq_nil_of_length_eq_zero hlen
    refine wpList_copy_nothing hgd d s 23 23 ho 5 Try.underlying23 hsz _ _ _ _ _ _ hd hs (Nat.zero_min _) ?_
    exact h w (by rw [putAt_nil]; exact hg) (Beside.refl _ _)
  | some x =>
    have e := wpList_copy_own (P := Try.prog) (w := w) (Q := Q) (rest := rest) (ops := ops) hgd d s 23 23 ho 5 Try.underlying23 hsz g off n cap x len scap hd hs (u8s l).toArray 5 hg (u8s src) (by
      rw [u8s_length, hlen]
      exact (Nat.min_eq_left (by omega)).symm) (fun j v hj => by
        have hjl : j < src.length := by have := (List.getElem?_eq_some_iff.1 hj).1; simpa using this
        rw [u8s_get src j hjl] at hj
        cases hj
        exact hcell x rfl j hjl) (by simp; omega) (u8s_one _)
    rw [u8s_length] at e
    refine e (h _ ?_ ((Beside.refl (· = g) w).setRow (.inl rfl) _))
    unfold Row8 at hg ⊢
    have e2 : ((u8s l).toArray.toList.take off ++ (u8s src ++ (u8s l).toArray.toList.drop (off + src.length))) = u8s (putAt l off src) := by
      unfold putAt u8s
      simp [List.map_append, List.map_take, List.map_drop]
    rw [e2]
    rw [setRow_heap _ _ _ _ _ _ hg]
/-- a struct in its box, beside the sector that is made -/
structure CB (w wk : World) (q g : Nat) (cs : Array Value) (l : List Nat) : Prop where
  row : Row8 wk g l
  box : wk.heap[q]? = some (.cells cs 128 (0, 0))
  bel : Below w.heap.size w wk
  geg : w.heap.size ≤ g
  qg : q ≠ g
theorem CB.put {w wk w' : World} {q g : Nat} {cs : Array Value} {l l' : List Nat} (h : CB w wk q g cs l) (hr : Row8 w' g l') (hb : Beside (· = g) wk w') : CB w w' q g cs l' :=
  ⟨hr, by rw [hb.block q (lt_of_block h.box) h.qg, h.box], h.bel.trans (hb.below (fun k hk => by rw [hk]; exact h.geg) h.bel.size), h.geg, h.qg⟩
theorem CB.drew {w wk : World} {q g : Nat} {cs : Array Value} {l : List Nat} (h : CB w wk q g cs l) : CB w wk.drew q g cs l := ⟨h.row, h.box, h.bel.drew, h.geg, h.qg⟩
set_option maxRecDepth 100000 in
set_option maxHeartbeats 2000000 in
theorem cell_bytes {w : World} (number behind size part : Nat) {v : Value} {data : List Nat} (hd : RowB w v data) (hdl : data.length ≤ 40)
    (h1 : number < 18446744073709551616) (h2 : behind < 18446744073709551616) (h3 : size < 18446744073709551616) (h4 : part < 18446744073709551616) :
    Calls Try.prog 92 #[.agg #[.int .u64 (number : Nat), .int .u64 (behind : Nat), .int .u64 (size : Nat), .int .u64 (part : Nat), v]] w fun e w' =>
      ∃ g, e = .returned (.slice (some ⟨g, 0, none⟩) 64 64) ∧ Row8 w' g (cellL number behind size part data) ∧ w.heap.size ≤ g ∧ Below w.heap.size w w' := by
  obtain ⟨a, len, cap, rfl, hlen, hcap, hm, h256, hn, hcell⟩ := id hd
  have HD := Lib.hid hd
  clear hd h256 hn hcell
  go_enter Try.func92, Try.ntmps92
  go_wp2_with (at_make; refine make_64 rfl _ _ rfl rfl rfl ?_)
  intro w1 hO hb1
  have hbox := (hb1.block w.heap.size (Nat.lt_succ_self _)).trans (heap_alloc_new w (.cells #[.int .u64 (number : Nat), .int .u64 (behind : Nat), .int .u64 (size : Nat), .int .u64 (part : Nat), .slice a len cap] 128))
  have hbel : Below w.heap.size w w1 := ((Below.refl _ _).alloc (Nat.le_refl _) _).trans (hb1.mono (Nat.le_succ _))
  have H1 : Hid (CB w w1 w.heap.size (w.heap.size + 1) _ (zeros 64)) := Lib.hid ⟨row8_of_own hO (by simp [zeros]), hbox, hbel, by omega, by omega⟩
  clear hO hb1 hbox hbel
  have hq := Lib.hid (show w.heap.size ≤ w.heap.size + 1 by omega)
  generalize w.heap.size + 1 = g at *
  have fl := fun (wk : World) (l : List Nat) (h : CB w wk w.heap.size g #[.int .u64 (number : Nat), .int .u64 (behind : Nat), .int .u64 (size : Nat), .int .u64 (part : Nat), .slice a len cap] l) j => cell_of_row wk w.heap.size j _ _ _ h.box
  have HF := Lib.hid fl
  clear fl
  have b0 : w1.cell? ⟨w.heap.size, 0, none⟩ = some (.int .u64 (number : Nat)) := HF.out _ _ H1.out 0
  go_wp2_with fail
  go_still_tail 4, (by kernel_rfl)
  change wpList _ _ _ _ _ (World.drew _)
  have HDK := Lib.hid H1.out.drew
  clear b0
  generalize w1.drew = wd at *
  go_wp2_with (go_at_call 96; refine (put_any HDK.out.row 1 8 63 number (by decide) (by simp [zeros]) (by simp [zeros]) (by decide) h1).mono ?_; rintro e w2 ⟨rfl, hr, hb⟩; have H2 := Lib.hid (HDK.out.put hr hb); clear hr hb)
  clear HDK
  have b0 : w2.cell? ⟨w.heap.size, 1, none⟩ = some (.int .u64 (behind : Nat)) := HF.out _ _ H2.out 1
  go_wp2_with fail
  go_still_tail 4, (by kernel_rfl)
  change wpList _ _ _ _ _ (World.drew _)
  have HDK := Lib.hid H2.out.drew
  clear b0
  generalize w2.drew = wd at *
  go_wp2_with (go_at_call 96; refine (put_any HDK.out.row 9 8 55 behind (by decide) (by simp [putAt, zeros]) (by simp [putAt, zeros]) (by decide) h2).mono ?_; rintro e w3 ⟨rfl, hr, hb⟩; have H3 := Lib.hid (HDK.out.put hr hb); clear hr hb)
  clear HDK
  have b0 : w3.cell? ⟨w.heap.size, 2, none⟩ = some (.int .u64 (size : Nat)) := HF.out _ _ H3.out 2
  go_wp2_with fail
  go_still_tail 4, (by kernel_rfl)
  change wpList _ _ _ _ _ (World.drew _)
  have HDK := Lib.hid H3.out.drew
  clear b0
  generalize w3.drew = wd at *
  go_wp2_with (go_at_call 96; refine (put_any HDK.out.row 17 4 47 size (by decide) (by simp [putAt, zeros]) (by simp [putAt, zeros]) (by decide) h3).mono ?_; rintro e w4 ⟨rfl, hr, hb⟩; have H4 := Lib.hid (HDK.out.put hr hb); clear hr hb)
  clear HDK
  have b0 : w4.cell? ⟨w.heap.size, 3, none⟩ = some (.int .u64 (part : Nat)) := HF.out _ _ H4.out 3
  go_wp2_with fail
  go_still_tail 4, (by kernel_rfl)
  change wpList _ _ _ _ _ (World.drew _)
  have HDK := Lib.hid H4.out.drew
  clear b0
  generalize w4.drew = wd at *
  go_wp2_with (go_at_call 96; refine (put_any HDK.out.row 21 2 43 part (by decide) (by simp [putAt, zeros]) (by simp [putAt, zeros]) (by decide) h4).mono ?_; rintro e w5 ⟨rfl, hr, hb⟩; have H5 := Lib.hid (HDK.out.put hr hb); clear hr hb)
  clear HDK
  have b0 : w5.cell? ⟨w.heap.size, 4, none⟩ = some (.slice a len cap) := HF.out _ _ H5.out 4
  go_wp2_with fail
  go_still_tail 4, (by kernel_rfl)
  change wpList _ _ _ _ _ (World.drew _)
  have HD5 := Lib.hid H5.out.drew
  clear b0
  generalize w5.drew = wd at *
  refine copy_piece rfl (.tmp 26) (.tmp 28) rfl rfl rfl HD5.out.row (by simp [putAt, zeros]) (HD.out.below HD5.out.bel) hdl ?_
  intro w6 hr hb
  have H6 := Lib.hid (HD5.out.put hr hb)
  clear hr hb
  go_wp2_with fail
  go_ret
  exact ⟨g, rfl, H6.out.row, H6.out.geg, H6.out.bel⟩

/-- an index into an array held by value -/
theorem run_index4 (w : World) (A : Array Value) (i : Int) (v : Value) (hi : 0 ≤ i ∧ i < 4) (hv : A[i.toNat]? = some v) :
    (Instr.index 148 (.agg A) (.int .i64 i)).run Try.prog w = .ok v w := by
  have h103 : Try.prog.underlying 148 = some (.array 4 84) := by kernel_rfl
  simp [Instr.index, run_underlying h103, asIntOf, hi, part, go_sem]
  rw [hv]
  rfl
def nth4 (x y z u : Nat) : Nat → Nat
  | 0 => x
  | 1 => y
  | 2 => z
  | _ => u
def headK (x y z u : Nat) : Nat → List Nat
  | 0 => zeros 64
  | k + 1 => putAt (headK x y z u k) (1 + k * 8) (be 8 (nth4 x y z u k))
theorem headK_length (x y z u k : Nat) (hk : k ≤ 4) : (headK x y z u k).length = 64 := by
  induction k with
  | zero => simp [headK, zeros]
  | succ k ih => rw [headK, putAt_length _ _ _ (by rw [ih (by omega)]; simp; omega)]; exact ih (by omega)
set_option maxRecDepth 100000 in
set_option maxHeartbeats 2000000 in
theorem head_bytes {w : World} (version first place behind : Nat)
    (h1 : version < 18446744073709551616) (h2 : first < 18446744073709551616) (h3 : place < 18446744073709551616) (h4 : behind < 18446744073709551616) :
    Calls Try.prog 73 #[.agg #[.int .u64 (version : Nat), .int .u64 (first : Nat), .int .u64 (place : Nat), .int .u64 (behind : Nat)]] w fun e w' =>
      ∃ g, e = .returned (.slice (some ⟨g, 0, none⟩) 64 64) ∧ Row8 w' g (headL version first place behind) ∧ w.heap.size ≤ g ∧ Below w.heap.size w w' := by
  go_enter Try.func73, Try.ntmps73
  go_wp2_with (at_make; refine make_64 rfl _ _ rfl rfl rfl ?_)
  intro w1 hO hb1
  have hbox := (hb1.block w.heap.size (Nat.lt_succ_self _)).trans (heap_alloc_new w (.cells #[.int .u64 (version : Nat), .int .u64 (first : Nat), .int .u64 (place : Nat), .int .u64 (behind : Nat)] 88))
  have hbel : Below w.heap.size w w1 := ((Below.refl _ _).alloc (Nat.le_refl _) _).trans (hb1.mono (Nat.le_succ _))
  have b0 := cell_of_row w1 w.heap.size 0 _ _ _ hbox
  have b1 := cell_of_row w1 w.heap.size 1 _ _ _ hbox
  have b2 := cell_of_row w1 w.heap.size 2 _ _ _ hbox
  have b3 := cell_of_row w1 w.heap.size 3 _ _ _ hbox
  simp only [List.getElem?_toArray, List.getElem?_cons_zero, List.getElem?_cons_succ] at b0 b1 b2 b3
  have hrow := row8_of_own hO (by simp [zeros])
  have HB := Lib.hid hbel
  have HR := Lib.hid hrow
  clear hO hb1 hbox hbel hrow
  have hq := Lib.hid (show w.heap.size ≤ w.heap.size + 1 by omega)
  generalize w.heap.size + 1 = g at *
  go_wp2_with fail
  have HC := Lib.hid (And.intro h1 (And.intro h2 (And.intro h3 h4)))
  clear b0 b1 b2 b3
  go_loopw [16] (fun i wr => ∃ k : Nat, k ≤ 4 ∧ i = .int .i64 (k : Nat) ∧ Row8 wr g (headK version first place behind k) ∧ Below w.heap.size w wr) (fun i _ => 4 - (RowKit.intOf i).toNat)
  case atStart => exact ⟨0, by decide, rfl, HR.out, HB.out⟩
  case round =>
    obtain ⟨k, hk, rfl, hrow, hbw⟩ := hrel
    have HRW := Lib.hid hrow
    have HBW := Lib.hid hbw
    have HLN := Lib.hid (headK_length version first place behind k hk)
    clear hrow hbw
    by_cases hk4 : k < 4
    · have hkz : (k : Int) < 4 := by omega
      have HX := Lib.hid (run_index4 wr #[.int .u64 (version : Nat), .int .u64 (first : Nat), .int .u64 (place : Nat), .int .u64 (behind : Nat)])
      have : k = 0 ∨ k = 1 ∨ k = 2 ∨ k = 3 := by omega
      rcases this with rfl | rfl | rfl | rfl
      · have hidx := HX.out 0 (.int .u64 (version : Nat)) (by decide) rfl
        go_wp2_with (go_at_call 96; refine (put_any HRW.out 1 8 63 version (by decide) (by rw [HLN.out]; decide) (by rw [HLN.out]; decide) (by decide) (by have := HC.out; simp only [this])).mono ?_; rintro e w2 ⟨rfl, hr, hb⟩; have HR2 := Lib.hid hr; have HB2 := Lib.hid (HBW.out.trans (hb.below (fun k hk => by rw [hk]; exact hq.out) HBW.out.size)); clear hr hb)
        go_roundw
        case rel => exact ⟨1, by decide, rfl, HR2.out, HB2.out⟩
        case measure => simp [intOf]
      · have hidx := HX.out 1 (.int .u64 (first : Nat)) (by decide) rfl
        go_wp2_with (go_at_call 96; refine (put_any HRW.out 9 8 55 first (by decide) (by rw [HLN.out]; decide) (by rw [HLN.out]; decide) (by decide) (by have := HC.out; simp only [this])).mono ?_; rintro e w2 ⟨rfl, hr, hb⟩; have HR2 := Lib.hid hr; have HB2 := Lib.hid (HBW.out.trans (hb.below (fun k hk => by rw [hk]; exact hq.out) HBW.out.size)); clear hr hb)
        go_roundw
        case rel => exact ⟨2, by decide, rfl, HR2.out, HB2.out⟩
        case measure => simp [intOf]
      · have hidx := HX.out 2 (.int .u64 (place : Nat)) (by decide) rfl
        go_wp2_with (go_at_call 96; refine (put_any HRW.out 17 8 47 place (by decide) (by rw [HLN.out]; decide) (by rw [HLN.out]; decide) (by decide) (by have := HC.out; simp only [this])).mono ?_; rintro e w2 ⟨rfl, hr, hb⟩; have HR2 := Lib.hid hr; have HB2 := Lib.hid (HBW.out.trans (hb.below (fun k hk => by rw [hk]; exact hq.out) HBW.out.size)); clear hr hb)
        go_roundw
        case rel => exact ⟨3, by decide, rfl, HR2.out, HB2.out⟩
        case measure => simp [intOf]
      · have hidx := HX.out 3 (.int .u64 (behind : Nat)) (by decide) rfl
        go_wp2_with (go_at_call 96; refine (put_any HRW.out 25 8 39 behind (by decide) (by rw [HLN.out]; decide) (by rw [HLN.out]; decide) (by decide) (by have := HC.out; simp only [this])).mono ?_; rintro e w2 ⟨rfl, hr, hb⟩; have HR2 := Lib.hid hr; have HB2 := Lib.hid (HBW.out.trans (hb.below (fun k hk => by rw [hk]; exact hq.out) HBW.out.size)); clear hr hb)
        go_roundw
        case rel => exact ⟨4, by decide, rfl, HR2.out, HB2.out⟩
        case measure => simp [intOf]
    · obtain rfl : k = 4 := by omega
      go_wp2_with fail
      go_ret
      exact ⟨g, rfl, HRW.out, hq.out, HBW.out⟩
end
section
set_option linter.unusedVariables false
open Go.RowKit

/-- below N all blocks but a disk's lie as they lay -/
structure QB (N : Nat) (w w' : World) : Prop where
  size : w.heap.size ≤ w'.heap.size
  keep : ∀ k cs t fr, k < N → w.heap[k]? = some (.cells cs t fr) → t ≠ 62 → t ≠ 143 → t ≠ 145 → w'.heap[k]? = some (.cells cs t fr)
theorem QB.refl (N : Nat) (w : World) : QB N w w := ⟨Nat.le_refl _, fun _ _ _ _ _ h _ _ _ => h⟩
theorem QB.trans {N : Nat} {a b c : World} (h : QB N a b) (k : QB N b c) : QB N a c :=
  ⟨Nat.le_trans h.size k.size, fun i cs t fr hi hh h1 h2 h3 => k.keep i cs t fr hi (h.keep i cs t fr hi hh h1 h2 h3) h1 h2 h3⟩
theorem QB.mono {N N' : Nat} {a b : World} (h : QB N a b) (hn : N' ≤ N) : QB N' a b := ⟨h.size, fun k cs t fr hk => h.keep k cs t fr (by omega)⟩
theorem Below.qb {N : Nat} {a b : World} (h : Below N a b) : QB N a b := ⟨h.size, fun k cs t fr hk hh _ _ _ => by rw [h.block k hk, hh]⟩
theorem Beside.qb {N : Nat} {own : Nat → Prop} {a b : World} (h : Beside own a b) (ho : ∀ k, own k → N ≤ k) : QB N a b :=
  ⟨h.size, fun k cs t fr hk hh _ _ _ => by rw [h.block k (lt_of_block hh) (fun hc => by have := ho k hc; omega), hh]⟩
theorem QB.own {w w' : World} {B N : Nat} {v : Value} {l : List Nat} (h : QB N w w') (hN : w.heap.size ≤ N) (ho : OwnB w B v l) : OwnB w' B v l := by
  refine ⟨ho.1, ?_⟩
  rcases ho.2 with h2 | ⟨g, cap, cur, rfl, hg, hh, r⟩
  · exact .inl h2
  · exact .inr ⟨g, cap, cur, rfl, hg, h.keep g _ _ _ (Nat.lt_of_lt_of_le (lt_of_block hh) hN) hh (by decide) (by decide) (by decide), r⟩

/-- a disk between two calls: a call of it leaves all other blocks alone -/
theorem Held.qb {w w' : World} {p : Nat} {kv wv mv v : Value} {S S' : List (List Nat)} {W W' : List (Nat × List Nat)} {arm a2 : Nat} {down d2 : Bool} {e : Ending} (hd : Dk w (Mine p kv wv mv) p kv wv mv S W arm down)
    (h : DkEnd w (Mine p kv wv mv) p kv S' W' a2 d2 v e w') (N : Nat) : QB N w w' := by
  obtain ⟨wv', mv', O', -, -, hb, -⟩ := h
  refine ⟨hb.size, fun k cs t fr hk hh h1 h2 h3 => ?_⟩
  have ha : Alien w (.slice (some ⟨k, 0, none⟩) 0 0) := fun i hi => by
    obtain rfl : k = i := by simpa [Value.ownBlock] using hi
    exact ⟨cs, t, fr, hh, h1, h2, h3⟩
  rw [hb.block k (lt_of_block hh) (ha.not_mine hd k (by simp [Value.ownBlock])), hh]

theorem write_qb {B : Nat} {w0 w : World} {p : Nat} {kv : Value} {S : List (List Nat)} {W : List (Nat × List Nat)} (h : Held B w0 w p kv S W 0 false) (a : Nat) (ha : a < S.length) (v : Value) (b : List Nat) (hb : RowB w v b) (hbl : b.length = 64) (hv : Alien w v) (hwl : W.length < 1000000) (N : Nat) :
    Calls Try.prog 95 #[.pointer (some ⟨p, 0, none⟩), .int .i64 (a : Int), v] w fun e w' => e = .returned (.int .i64 0) ∧ Held B w0 w' p kv S (W ++ [(a, b)]) 0 false ∧ QB N w w' := by
  obtain ⟨wv, mv, hd, hl⟩ := h.dk
  refine (write_ok hd a ha v b hb hbl (hv.not_mine hd) hwl (by decide)).mono fun e w' he => ?_
  have h1 := Held.ended h.below h.base hl he
  exact ⟨h1.1, h1.2, Held.qb hd he N⟩
theorem flush_qb {B : Nat} {w0 w : World} {p : Nat} {kv : Value} {S : List (List Nat)} {W : List (Nat × List Nat)} (h : Held B w0 w p kv S W 0 false) (N : Nat) :
    Calls Try.prog 61 #[.pointer (some ⟨p, 0, none⟩)] w fun e w' => e = .returned (.int .i64 0) ∧ Held B w0 w' p kv (flushed S W) [] 0 false ∧ QB N w w' := by
  obtain ⟨wv, mv, hd, hl⟩ := h.dk
  refine (flush_ok hd (by decide) (show hitOf 0 = (0, false) from rfl)).mono fun e w' he => ?_
  have h1 := Held.ended h.below h.base hl he
  exact ⟨h1.1, h1.2, Held.qb hd he N⟩

structure Ent where
  place : Nat
  behind : Nat
  cells : Nat
  data : List Nat
structure LgS where
  ring : Nat
  version : Nat
  first : Nat
  hplace : Nat
  hbehind : Nat
  ents : List Ent
  place : Nat
  used : Nat
  last : Nat
  number : Nat

def ecell (x : Ent × Value) : List Value := [.int .i64 (x.1.place : Nat), .int .u64 (x.1.behind : Nat), .int .i64 (x.1.cells : Nat), x.2]
def ecells (L : List (Ent × Value)) : List Value := L.flatMap ecell
theorem ecells_length (L : List (Ent × Value)) : (ecells L).length = L.length * 4 := by
  induction L with
  | nil => rfl
  | cons x r ih =>
    have : ecells (x :: r) = ecell x ++ ecells r := by simp [ecells]
    rw [this, List.length_append, ih]
    simp [ecell]
    omega
theorem ecells_append (L M : List (Ent × Value)) : ecells (L ++ M) = ecells L ++ ecells M := by simp [ecells]

/-- the log's own block -/
def LgV (w : World) (p : Nat) (d ev : Value) (s : LgS) (down : Bool) : Prop :=
  w.heap[p]? = some (.cells #[d, .int .i64 (s.ring : Nat), .int .u64 (s.version : Nat), .int .u64 (s.first : Nat), .int .u64 (s.hplace : Nat), .int .u64 (s.hbehind : Nat), ev, .int .i64 (s.place : Nat), .int .i64 (s.used : Nat), .int .u64 (s.last : Nat), .int .u64 (s.number : Nat), .bool down] 91 (0, 0))
theorem LgV.cells {w : World} {p : Nat} {d ev : Value} {s : LgS} {down : Bool} (h : LgV w p d ev s down) :
    w.cell? ⟨p, 0, none⟩ = some d ∧ w.cell? ⟨p, 1, none⟩ = some (.int .i64 (s.ring : Nat)) ∧ w.cell? ⟨p, 2, none⟩ = some (.int .u64 (s.version : Nat)) ∧ w.cell? ⟨p, 3, none⟩ = some (.int .u64 (s.first : Nat)) ∧
    w.cell? ⟨p, 4, none⟩ = some (.int .u64 (s.hplace : Nat)) ∧ w.cell? ⟨p, 5, none⟩ = some (.int .u64 (s.hbehind : Nat)) ∧ w.cell? ⟨p, 6, none⟩ = some ev ∧ w.cell? ⟨p, 7, none⟩ = some (.int .i64 (s.place : Nat)) ∧
    w.cell? ⟨p, 8, none⟩ = some (.int .i64 (s.used : Nat)) ∧ w.cell? ⟨p, 9, none⟩ = some (.int .u64 (s.last : Nat)) ∧ w.cell? ⟨p, 10, none⟩ = some (.int .u64 (s.number : Nat)) ∧ w.cell? ⟨p, 11, none⟩ = some (.bool down) := by
  have fl := fun j => cell_of_row w p j _ _ _ h
  exact ⟨fl 0, fl 1, fl 2, fl 3, fl 4, fl 5, fl 6, fl 7, fl 8, fl 9, fl 10, fl 11⟩
theorem LgV.free {w : World} {p : Nat} {d ev : Value} {s : LgS} {down : Bool} (h : LgV w p d ev s down) (j : Nat) : w.frozen? ⟨p, j, none⟩ = false := by
  unfold LgV at h
  simp [World.frozen?, h]
theorem LgV.qb {w w' : World} {p N : Nat} {d ev : Value} {s : LgS} {down : Bool} (h : LgV w p d ev s down) (hq : QB N w w') (hN : w.heap.size ≤ N) : LgV w' p d ev s down :=
  hq.keep p _ _ _ (Nat.lt_of_lt_of_le (lt_of_block h) hN) h (by decide) (by decide) (by decide)

/-- the entries: their row, and a row of bytes for each -/
structure EntR (w : World) (B : Nat) (ev : Value) (L : List (Ent × Value)) : Prop where
  row : w.ownsRow B 98 4 ev L.length (ecells L)
  own : ∀ x ∈ L, OwnB w B x.2 x.1.data
theorem EntR.qb {w w' : World} {B N : Nat} {ev : Value} {L : List (Ent × Value)} (h : EntR w B ev L) (hq : QB N w w') (hN : w.heap.size ≤ N) : EntR w' B ev L := by
  refine ⟨⟨h.row.1, ?_⟩, fun x hx => hq.own hN (h.own x hx)⟩
  rcases h.row.2 with h2 | ⟨g, cap, cur, e, hg, hh, r⟩
  · exact .inl h2
  · exact .inr ⟨g, cap, cur, e, hg, hq.keep g _ _ _ (Nat.lt_of_lt_of_le (lt_of_block hh) hN) hh (by decide) (by decide) (by decide), r⟩

/-- a log and its disk between two calls -/
structure Lg (B : Nat) (w0 w : World) (pl pd : Nat) (kv : Value) (s : LgS) (S : List (List Nat)) (W : List (Nat × List Nat)) : Prop where
  disk : Held B w0 w pd kv S W 0 false
  log : ∃ ev L, LgV w pl (.pointer (some ⟨pd, 0, none⟩)) ev s false ∧ EntR w B ev L ∧ L.map (·.1) = s.ents
  base : B ≤ pl

/-- a sector is sealed and written -/
theorem row8_rowB {w : World} {g : Nat} {l : List Nat} (h : Row8 w g l) (hl : l.length = 64) (h256 : ∀ n ∈ l, n < 256) : RowB w (.slice (some ⟨g, 0, none⟩) 64 64) l := by
  refine ⟨_, _, _, rfl, hl, Nat.le_refl _, by decide, h256, by simp, fun x hx i hi => ?_⟩
  obtain rfl := Option.some.inj hx
  rw [Addr.add_lit, Nat.zero_add]
  exact h.cell i hi
theorem row8_alien {w : World} {g n c : Nat} {l : List Nat} (h : Row8 w g l) : Alien w (.slice (some ⟨g, 0, none⟩) n c) := by
  intro k hk
  obtain rfl : g = k := by simpa [Value.ownBlock] using hk
  exact ⟨_, _, _, h, by decide, by decide, by decide⟩
theorem mkB_lt {o : Nat} (h : o < 256) : mkB o < 256 := by unfold mkB; split <;> omega
theorem sealL_lt {l old : List Nat} (h : ∀ n ∈ l, n < 256) (ho : ∀ n ∈ old, n < 256) : ∀ n ∈ sealL l old, n < 256 := by
  have hm : mkB (old.getD 63 0) < 256 := by
    refine mkB_lt ?_
    rw [List.getD_eq_getElem?_getD]
    cases hq : old[63]? with
    | none => simp
    | some x => simpa using ho x (List.mem_of_getElem? hq)
  intro n hn
  unfold sealL at hn
  rcases List.mem_or_eq_of_mem_set hn with hn | rfl
  · rcases List.mem_or_eq_of_mem_set hn with hn | rfl
    · exact h n hn
    · exact hm
  · exact hm
end
section
set_option linter.unusedVariables false
open Go.RowKit

theorem shown_mem {S : List (List Nat)} {W : List (Nat × List Nat)} {a : Nat} (ha : a < S.length) : shown S W a ∈ S ∨ ∃ x ∈ W, shown S W a = x.2 := by
  unfold shown
  cases h : lastIdx W a with
  | none =>
    left
    simp [List.getD, ha]
  | some i =>
    right
    obtain ⟨hi, _⟩ := lastIdx_some h
    exact ⟨W[i], List.getElem_mem hi, by simp [hi]⟩
theorem shown_64 {S : List (List Nat)} {W : List (Nat × List Nat)} (h : Good S W) {a : Nat} (ha : a < S.length) : (shown S W a).length = 64 := by
  rcases shown_mem (W := W) ha with h1 | ⟨x, hx, e⟩
  · exact h.s64 _ h1
  · rw [e]; exact h.w64 x hx
theorem shown_256 {S : List (List Nat)} {W : List (Nat × List Nat)} (h : Good S W) {a : Nat} (ha : a < S.length) : ∀ n ∈ shown S W a, n < 256 := by
  rcases shown_mem (W := W) ha with h1 | ⟨x, hx, e⟩
  · exact h.s256 _ h1
  · rw [e]; exact h.w256 x hx
set_option maxRecDepth 100000 in
theorem write_any {B : Nat} {w0 w : World} {pl pd : Nat} {kv : Value} {S : List (List Nat)} {W : List (Nat × List Nat)} (hd : Held B w0 w pd kv S W 0 false) (hc : ∃ cs, w.heap[pl]? = some (.cells cs 91 (0, 0)) ∧ cs[0]? = some (.pointer (some ⟨pd, 0, none⟩)))
    (a : Nat) (ha : a < S.length) {g : Nat} {l : List Nat} (hr : Row8 w g l) (hl : l.length = 64) (h256 : ∀ n ∈ l, n < 256) (hwl : W.length < 1000000) (hB : B ≤ g) :
    Calls Try.prog 72 #[.pointer (some ⟨pl, 0, none⟩), .int .i64 (a : Nat), .slice (some ⟨g, 0, none⟩) 64 64] w fun e w' => e = .returned (.bool true) ∧ Held B w0 w' pd kv S (W ++ [(a, sealL l (shown S W a))]) 0 false ∧ QB g w w' := by
  obtain ⟨cs, hcs, hc0⟩ := hc
  have c0 := (cell_of_row w pl 0 _ _ _ hcs).trans hc0
  have hgood : Good S W := by obtain ⟨wv, mv, hdk, _⟩ := hd.dk; exact hdk.good
  have hsl : (shown S W a).length = 64 := shown_64 hgood ha
  have hs256 : ∀ n ∈ shown S W a, n < 256 := shown_256 hgood ha
  have HH := Lib.hid hd
  have HR := Lib.hid hr
  have HRD := Lib.hid (read_held hd a ha)
  have HS := Lib.hid hsl
  have HS2 := Lib.hid hs256
  have H256 := Lib.hid h256
  have HCS := Lib.hid hcs
  clear hd hr hgood hsl hs256 h256
  go_enter Try.func72, Try.ntmps72
  go_wp2_with fail
  refine HRD.out.mono ?_
  rintro e w1 ⟨o, rfl, ho, hb1⟩
  have hrow : RowB w1 o (shown S W a) := ho.rowB HS2.out
  have hr1 : Row8 w1 g l := HR.out.beside (own := fun _ => False) ⟨hb1.os, hb1.tape, hb1.output, hb1.size, fun k hk _ => hb1.block k hk⟩ (fun h => h)
  have HE := Lib.hid (seal_any hr1 hl (Nat.le_refl _) hrow HS.out)
  obtain ⟨oa, oc, rfl⟩ := ho.shape
  have HB1 := Lib.hid hb1
  have HD1 := Lib.hid (HH.out.below' hb1)
  have HR1 := Lib.hid hr1
  clear ho hrow hb1 hr1
  go_wp2_with fail
  refine HE.out.mono ?_
  rintro e w2 ⟨rfl, hr2, hb2⟩
  have hal : Alien w1 (.slice (some ⟨g, 0, none⟩) 64 64) := row8_alien HR1.out
  have hd2 := HD1.out.beside' (v := .slice (some ⟨g, 0, none⟩) 64 64) (hb2.mono (fun k _ e => by subst e; simp [Value.ownBlock])) hal (fun k hk => by
    obtain rfl : g = k := by simpa [Value.ownBlock] using hk
    exact hB)
  have hgl := HR1.out.lt
  have hq2 : QB g w w2 := (Below.qb (HB1.out.mono (Nat.le_of_lt HR.out.lt))).trans (hb2.qb (fun k hk => by omega))
  have HQ2 := Lib.hid hq2
  have HWR := Lib.hid (write_qb hd2 a ha _ _ (row8_rowB hr2 (by rw [sealL_length]; exact hl) (sealL_lt H256.out HS2.out)) (by rw [sealL_length]; exact hl) (row8_alien hr2) hwl g)
  have hpg : pl ≠ g := fun e => by
    have h1 := HCS.out
    have h2 := HR.out
    unfold Row8 at h2
    rw [e, h2] at h1
    simp at h1
  have c1 : w2.cell? ⟨pl, 0, none⟩ = some (.pointer (some ⟨pd, 0, none⟩)) := by
    have h1 : w2.heap[pl]? = some (.cells cs 91 (0, 0)) := by
      rw [hb2.block pl (Nat.lt_of_lt_of_le (lt_of_block HCS.out) HB1.out.size) hpg, HB1.out.block pl (lt_of_block HCS.out), HCS.out]
    exact (cell_of_row w2 pl 0 _ _ _ h1).trans hc0
  clear hr2 hb2 hal hd2 hq2 hgl hpg c0
  go_wp2_with fail
  refine HWR.out.mono ?_
  rintro e w3 ⟨rfl, hd3, hq3⟩
  go_wp2_with fail
  go_ret
  exact ⟨rfl, hd3, HQ2.out.trans hq3⟩
end
end Go.Proofs.Ytmnbkhgogogeiaa
