/-
  FeedNil: for every input the law's function returns true, and each argument reads behind the call as it read before: its walk.
-/
import Derived.Test.YtgafalobbhoaoaaNext
import Derived.Lib.SmallJoins
namespace Go.Proofs.Ytgafalobbhoaoaa
set_option linter.unusedVariables false
open Go.RowKit

set_option maxRecDepth 100000 in
set_option maxHeartbeats 4000000 in
/-- a part of a line is there: one byte -/
theorem next_part (p gr c : Nat) (w : World) (hf : FeedB w p (lineV p) (.slice (some ⟨gr, 8, none⟩) 1 c) (.slice none 0 0) 0 0 0 0 0) (hc : 1 ≤ c) (h8 : w.cell? ⟨gr, 8, none⟩ = some (.int .u8 98)) :
    Calls Try.prog 14 #[.pointer (some ⟨p, 0, none⟩)] w fun e w' => ∃ h', e = .returned (.tuple #[.slice none 0 0, .int .i64 0]) ∧ FeedB w' p (lineV p) (.slice none 0 0) h' 0 1 0 0 98 ∧ OwnB w' w.heap.size h' [98] ∧ Below p w w' ∧ Kept p w.heap.size w w' := by
  obtain ⟨c0, c1, c2, c3, c4, c5, c6, c7, x0, x1, x2, x3, x4, x5, x6, x7⟩ := hf.at
  have HF := Lib.hid hf
  have hpw := hf.lt
  have hfn := run_fn p
  have HFN := Lib.hid hfn
  clear hf hfn
  unfold lineV at c0
  have hff := HFN.out w
  go_enter Try.func14, Try.ntmps14
  go_wp2_with fail
  clear hff
  refine wp_loop_rounds 2 ?_
  rw [rounds_succ]
  go_wp2_with fail
  refine (line_on p (lineV p) _ (.slice none 0 0) 0 0 [] 98 w.heap.size w HF.out (World.ownsRow_nil _ _ _ _) hpw (Nat.le_refl _) (by omega) (by simp) (by decide)).mono ?_
  rintro e w2 ⟨h2, rfl, hf2, ho2, hs2, hb2, hk2⟩
  obtain ⟨oa, oc, rfl⟩ := ho2.shape
  obtain ⟨d0, d1, d2, d3, d4, d5, d6, d7, e0, e1, e2, e3, e4, e5, e6, e7⟩ := hf2.at
  have HF2 := Lib.hid hf2
  have HO2 := Lib.hid ho2
  have HB2 := Lib.hid hb2
  have HK2 := Lib.hid hk2
  clear hf2 ho2 hb2 hk2
  go_wp2_with fail
  rw [rounds_succ]
  go_wp2_with fail
  exact bodyPost_ret (v := .tuple #[.slice none 0 0, .int .i64 0]) (by simp [results, Try.results14, go_sem]) rfl ⟨_, rfl, HF2.out.set1 _, HO2.out.other hpw, HB2.out.setCell (p := ⟨p, 1, none⟩) (Nat.le_refl _) _, HK2.out.set⟩

theorem OwnB.kept {w w' : World} {B p S : Nat} {v : Value} {l : List Nat} (h : OwnB w B v l) (hk : Kept p S w w') (hp : p < B) (hs : w.heap.size ≤ S) : OwnB w' B v l := by
  refine ⟨h.1, ?_⟩
  rcases h.2 with h2 | ⟨g, cap, cur, rfl, hg, hh, r⟩
  · exact .inl h2
  · exact .inr ⟨g, cap, cur, rfl, hg, by rw [hk g (by have := (Array.getElem?_eq_some_iff.1 hh).1; omega) (by omega)]; exact hh, r⟩

theorem held_one (p : Nat) (f : Value) (seg len lits left a : Int) (n m : Nat) (ah ar : Option Addr) (ch cr : Nat) (w : World) (hf : FeedB w p f (.slice ar m cr) (.slice ah n ch) seg len lits left a) (hn : n ≤ 1000) (hm : m ≤ 1000) :
    Calls Try.prog 11 #[.pointer (some ⟨p, 0, none⟩)] w fun e w' => e = .returned (.int .i64 ((n : Int) + m)) ∧ Below w.heap.size w w' := by
  obtain ⟨c0, c1, c2, c3, c4, c5, c6, c7, x0, x1, x2, x3, x4, x5, x6, x7⟩ := hf.at
  have hw : IntKind.i64.wrap ((n : Int) + m) = (n : Int) + m := IntWalk.i64_in _ (by omega)
  clear hf
  go_enter Try.func11, Try.ntmps11
  go_wp2_with fail
  go_quiet (fail)
  go_wp2_with fail
  go_ret
  exact ⟨ret_eq (show Value.int .i64 _ = _ by first | rfl | rw [hw]), below_drewN (Below.refl _ _) _⟩
/-- the text of a list of numbers -/
def strN (l : List Nat) : ByteArray := ⟨(l.map UInt8.ofNat).toArray⟩
theorem strN_toList (l : List Nat) : (strN l).toList = l.map UInt8.ofNat := by simp [strN]

theorem strN_inj {l m : List Nat} (hl : ∀ n ∈ l, n < 256) (hm : ∀ n ∈ m, n < 256) (h : l.map UInt8.ofNat = m.map UInt8.ofNat) : l = m := by
  induction l generalizing m with
  | nil => cases m with
    | nil => rfl
    | cons => simp at h
  | cons a l ih => cases m with
    | nil => simp at h
    | cons b m =>
      simp only [List.map_cons, List.cons.injEq] at h
      have ha := hl a (by simp)
      have hb := hm b (by simp)
      have e1 : a = b := by
        have := congrArg UInt8.toNat h.1
        simp at this
        omega
      rw [e1, ih (fun n hn => hl n (by simp [hn])) (fun n hn => hm n (by simp [hn])) h.2]

theorem ints_of (l : List Nat) : strOfNums (l.map (fun (n : Nat) => (n : Int))) = strN l := by simp [strOfNums, strN, Function.comp_def]

/-- bytes as a text -/
theorem run_str {w : World} {v : Value} {l : List Nat} (h : RowB w v l) : (convert 27 9 v).run Try.prog w = .ok (.string (strN l)) w := by
  obtain ⟨a, len, cap, rfl, hl, hc, hm, hw, hn, hcell⟩ := h
  cases a with
  | none =>
    obtain ⟨rfl, rfl⟩ := hn rfl
    obtain rfl : l = [] := List.eq_nil_of_length_eq_zero hl
    exact run_convert_bytes_nil w 27 5 Try.underlying27 Try.underlying5 0 0 9 Try.underlying9
  | some x =>
    rw [run_convert_bytes_string w 27 9 5 _ len cap Try.underlying27 Try.underlying5 Try.underlying9,
      run_bytesToString w x len cap (l.map (fun (n : Nat) => (n : Int))) ?_, foldl_push_bytes]
    · rw [← ints_of]
      simp [strOfNums, ByteArray.empty, ByteArray.emptyWithCapacity]
      rfl
    · have := run_loadCells_list (P := Try.prog) w x (u8s l) (fun j v hj => by
        have hjl : j < l.length := by have := (List.getElem?_eq_some_iff.1 hj).1; simpa using this
        rw [u8s_get l j hjl] at hj
        cases hj
        exact hcell x rfl j hjl)
      rw [u8s_length, hl] at this
      rw [this]
      simp [u8s, Function.comp_def]


def B9 : Array Value := #[.int .u8 97, .int .u8 32, .int .u8 78, .int .u8 79, .int .u8 79, .int .u8 80, .int .u8 13, .int .u8 10, .int .u8 98]
theorem row9 (w : World) : RowB (w.alloc (.cells B9 5 (9, 10))) (.slice (some ⟨w.heap.size, 0, none⟩) 9 9) T9 := by
  refine ⟨_, _, _, rfl, rfl, by decide, by decide, by decide, by simp, fun x hx i hi => ?_⟩
  obtain rfl := Option.some.inj hx
  rw [Addr.add_lit, Nat.zero_add, cell_of_row _ _ i _ 5 (9, 10) (heap_alloc_new w _)]
  have hi9 : i < 9 := hi
  have : i = 0 ∨ i = 1 ∨ i = 2 ∨ i = 3 ∨ i = 4 ∨ i = 5 ∨ i = 6 ∨ i = 7 ∨ i = 8 := by omega
  rcases this with rfl | rfl | rfl | rfl | rfl | rfl | rfl | rfl | rfl <;> rfl
theorem str6 : (strN [97, 32, 78, 79, 79, 80]).toList = [97, 32, 78, 79, 79, 80] := by rw [strN_toList]; decide

set_option maxRecDepth 100000 in
set_option maxHeartbeats 4000000 in
theorem awake_any (w : World) : Calls Try.prog 7 #[] w fun e w' => e = .returned (.bool true) ∧ Below w.heap.size w w' := by
  go_enter Try.func7, Try.ntmps7
  go_wp2_with fail
  refine (new_any w).mono ?_
  rintro e w1 ⟨rfl, hf1, hz1, hb1⟩
  have HF1 := Lib.hid hf1
  have HB1 := Lib.hid hb1
  have HZ1 := Lib.hid hz1
  have hz1' : w.heap.size < w1.heap.size := by omega
  clear hf1 hb1 hz1
  go_wp2_with fail
  have kc := Go.Joins.run_convert_bytes_const_at (P := Try.prog) w1 27 5 B9 9 9 w1.heap.size rfl Try.underlying27 Try.underlying5
  unfold B9 at kc
  rw [kc]
  clear kc
  go_wp2_with fail
  refine (put_any w.heap.size _ _ _ _ _ _ _ _ _ [] T9 w1.heap.size _ (HF1.out.keep ((Below.refl w1.heap.size w1).alloc (Nat.le_refl _) _) hz1') (World.ownsRow_nil _ _ _ _) (row9 w1) hz1' (by simp) (by decide)).mono ?_
  rintro e w2 ⟨r', rfl, hf2, ho2, hz2, hb2⟩
  obtain ⟨gr, cap, rfl, hgr, hgs⟩ := ho2.some (by decide)
  have hcap : 9 ≤ cap := by obtain ⟨_, _, _, e, h1, h2, _⟩ := ho2.row (by decide); simp only [Value.slice.injEq] at e; have h3 : ([] ++ T9).length = 9 := rfl; omega
  have HF2 := Lib.hid hf2
  have HO2 := Lib.hid ho2
  have HB2 := Lib.hid (HB1.out.trans (((Below.refl w1.heap.size w1).alloc (Nat.le_refl _) (.cells B9 5 (9, 10))).mono (show w.heap.size ≤ w1.heap.size by omega) |>.trans (hb2.mono (Nat.le_refl _))))
  clear hf2 ho2 hb2
  go_wp2_with fail
  refine (next_line w.heap.size gr cap w1.heap.size w2 HF2.out HO2.out hcap hz1' hgr hgs).mono ?_
  rintro e w3 ⟨o, rfl, ho3, hf3, hc3, hg3, hb3⟩
  have hs3 := HF2.out.lt
  obtain ⟨oa, oc, rfl⟩ := ho3.shape
  have HO3 := Lib.hid ho3
  have HF3 := Lib.hid hf3
  have HC3 := Lib.hid hc3
  have HB3 := Lib.hid (HB2.out.trans hb3)
  have hz3 := hb3.size
  clear ho3 hf3 hc3 hb3
  go_wp2_with fail
  refine (next_part w.heap.size gr (cap - 8) w3 HF3.out (by omega) HC3.out).mono ?_
  rintro e w4 ⟨h4, rfl, hf4, ho4, hb4, hk4⟩
  obtain ⟨xa, xc, rfl⟩ := ho4.shape
  have hz4 : w3.heap.size ≤ w4.heap.size := hb4.size
  have hr6 : (convert 27 9 (.slice oa 6 oc)).run Try.prog w4 = .ok (.string (strN [97, 32, 78, 79, 79, 80])) w4 := run_str (((HO3.out.kept hk4 hs3 (Nat.le_refl _)).row (by decide)))
  have h6 : strN [97, 32, 78, 79, 79, 80] = ⟨#[97, 32, 78, 79, 79, 80]⟩ := rfl
  rw [h6] at hr6
  have HF4 := Lib.hid hf4
  have HB4 := Lib.hid (HB3.out.trans hb4)
  clear hf4 ho4 hb4 hk4
  go_wp2_with fail
  refine (held_one w.heap.size _ _ _ _ _ _ 1 0 _ _ _ _ w4 HF4.out (by decide) (by decide)).mono ?_
  rintro e w5 ⟨rfl, hb5⟩
  have HB5 := Lib.hid hb5
  clear hb5 hr6
  go_wp2_with fail
  go_ret
  exact ⟨by first | rfl | decide, (HB4.out.trans (HB5.out.mono (by omega)))⟩

set_option maxRecDepth 100000 in
set_option maxHeartbeats 4000000 in
/-- FeedNil: a nil feed takes anything and answers nothing -/
theorem feedNil_any (v : Value) (w : World) : Calls Try.prog 5 #[v] w fun e w' => e = .returned (.bool true) ∧ Below w.heap.size w w' := by
  go_enter Try.func5, Try.ntmps5
  go_wp2_with fail
  refine (put_nil v _).mono ?_
  rintro e w1 ⟨rfl, rfl⟩
  go_wp2_with fail
  refine (next_nil _).mono ?_
  rintro e w1 ⟨rfl, rfl⟩
  go_wp2_with fail
  refine (awake_any _).mono ?_
  rintro e w1 ⟨rfl, hb1⟩
  have HB1 := Lib.hid hb1
  clear hb1
  go_wp2_with fail
  refine (held_nil _).mono ?_
  rintro e w2 ⟨rfl, rfl⟩
  go_wp2_with fail
  go_ret
  exact ⟨rfl, HB1.out⟩

theorem walk (w : World) (v : Value) (l : List Nat) (hr : RowB w v l) (hs : l.length ≤ 140737488351232) : Calls Try.prog 5 #[v] w fun e w' => e = .returned (.bool true) ∧ Below w.heap.size w w' := feedNil_any v w
end Go.Proofs.Ytgafalobbhoaoaa
