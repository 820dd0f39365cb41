/-
  The reference's quoted texts.
-/
import Derived.Test.YtghibofnfjnfcaaDoorRefS
import Derived.Laws.EntriesVeiled
namespace Go.Proofs.YtghibofnfjnfcaaDoor
set_option linter.unusedVariables false
open Go.RowKit

theorem ownB_ge {w : World} {B : Nat} {v : Value} {l : List Nat} (h : OwnB w B v l) : ∀ b, v.ownBlock = some b → B ≤ b := by
  intro b hb
  rcases h.2 with ⟨rfl, _⟩ | ⟨g, cap, cur, rfl, hg, _⟩
  · simp [Value.ownBlock] at hb
  · simp [Value.ownBlock] at hb; omega
theorem quoF_34 (acc : List Nat) (n : Nat) (r : List Nat) : quoF acc n (34 :: r) = (0, acc, n + 1) := by cases r <;> (unfold quoF; rw [if_pos rfl])
theorem quoF_nil (acc : List Nat) (n : Nat) : quoF acc n [92] = (8, [], 0) := rfl
theorem quoF_92 (acc : List Nat) (n d : Nat) (r : List Nat) : quoF acc n (92 :: d :: r) = if d ≠ 34 ∧ d ≠ 92 then (9, [], 0) else quoF (acc ++ [d]) (n + 2) r := by
  conv => lhs; unfold quoF
  rw [if_neg (by decide), if_pos rfl]
theorem quoF_push (acc : List Nat) (n c : Nat) (r : List Nat) (h1 : c ≠ 34) (h2 : c ≠ 92) (h3 : inQuoN c = true) : quoF acc n (c :: r) = quoF (acc ++ [c]) (n + 1) r := by
  cases r with
  | nil => conv => lhs; unfold quoF
           rw [if_neg h1, if_neg h2, if_pos h3]; rfl
  | cons d r => conv => lhs; unfold quoF
                rw [if_neg h1, if_neg h2, if_pos h3]
theorem quoF_bad (acc : List Nat) (n c : Nat) (r : List Nat) (h1 : c ≠ 34) (h2 : c ≠ 92) (h3 : inQuoN c = false) : quoF acc n (c :: r) = (9, [], 0) := by
  cases r with
  | nil => unfold quoF; rw [if_neg h1, if_neg h2, h3, if_neg (by decide)]
  | cons d r => unfold quoF; rw [if_neg h1, if_neg h2, h3, if_neg (by decide)]

/-- what a text's reader answers -/
def TextOut (w : World) (q : Nat × List Nat × Nat) (e : Ending) (w' : World) : Prop := e = .returned (.tuple #[.string (strN q.2.1), .int .i64 (q.2.2 : Nat), .int .i64 (q.1 : Nat)]) ∧ Below w.heap.size w w'
theorem row_part {w : World} {lb lo cap : Nat} {l : List Nat} (h : RowB w (.slice (some ⟨lb, lo, none⟩) l.length cap) l) (i j : Nat) (hij : i ≤ j) (hj : j ≤ l.length) : RowB w (.slice (some ⟨lb, lo + i, none⟩) (j - i) (cap - i)) ((l.drop i).take (j - i)) := by
  obtain ⟨ad, len, cp, e, hl, hc, hm, hw, hne, hcell⟩ := h
  simp only [Value.slice.injEq] at e
  obtain ⟨rfl, rfl, rfl⟩ := e
  refine ⟨_, _, _, rfl, by simp; omega, by omega, by omega, fun x hx => hw x (List.mem_of_mem_drop (List.mem_of_mem_take hx)), (fun e => nomatch e), fun x hx k hk => ?_⟩
  obtain rfl := Option.some.inj hx
  have hk2 : k < j - i := by simp at hk; omega
  have := hcell _ rfl (i + k) (by omega)
  rw [Addr.add_lit] at this ⊢
  rw [show lo + i + k = lo + (i + k) by omega, this]
  simp
theorem row_addr {w : World} {a : Option Addr} {cap : Nat} {l : List Nat} (h : RowB w (.slice a l.length cap) l) (hl : 0 < l.length) : ∃ lb lo, a = some ⟨lb, lo, none⟩ ∧ l.length ≤ cap ∧ ∀ i (hi : i < l.length), w.cell? ⟨lb, lo + i, none⟩ = some (.int .u8 (l[i] : Nat)) := by
  obtain ⟨ad, len, cp, e, hl1, hc, hm, hw, hne, hcell⟩ := h
  simp only [Value.slice.injEq] at e
  obtain ⟨rfl, rfl, rfl⟩ := e
  cases a with
  | none => have := (hne rfl).1; omega
  | some x =>
    obtain ⟨lb, lo, ls⟩ := x
    have h0 := hcell _ rfl 0 hl
    have hs : ls = none := by simpa [Addr.add] using World.cell?_spot h0
    subst hs
    refine ⟨lb, lo, rfl, hc, fun i hi => ?_⟩
    have := hcell _ rfl i hi
    rw [Addr.add_lit] at this
    exact this

set_option maxRecDepth 100000 in
set_option maxHeartbeats 8000000 in
theorem quoted_ref (v : Value) (l : List Nat) (w : World) (hr : RowB w v l) (hl : l.length ≤ 100000) : Calls Tryd.prog 17 #[v] w (TextOut w (quoF [] 0 l)) := by
  obtain ⟨a, cap, rfl⟩ : ∃ a c, v = .slice a l.length c := by obtain ⟨a, len, c, e, h, _⟩ := hr; exact ⟨a, c, by rw [e, h]⟩
  have HROW := Lib.hid hr
  clear hr
  go_enter Tryd.func17, Tryd.ntmps17
  go_wp2_with fail
  go_loopw [5, 6] (fun ov i wr => ∃ (acc : List Nat) (k : Nat), k ≤ l.length ∧ i = .int .i64 (k : Int) ∧ quoF [] 0 l = quoF acc k (l.drop k) ∧ OwnB wr w.heap.size ov acc ∧ (∀ n ∈ acc, n < 256) ∧ acc.length ≤ k ∧ Below w.heap.size w wr) (fun _ i _ => l.length - (intOf i).toNat)
  case atStart => exact ⟨[], 0, Nat.zero_le _, rfl, rfl, World.ownsRow_nil _ _ _ _, by simp, Nat.zero_le _, Below.refl _ _⟩
  case round =>
    obtain ⟨acc, k, hk, rfl, hq, ho, hac, hal, hb⟩ := hrel
    obtain ⟨oa, oc, eo⟩ := ho.shape
    subst eo
    have HQ := Lib.hid hq
    have HO := Lib.hid ho
    have HAC := Lib.hid hac
    have HB := Lib.hid hb
    have hbs := hb.size
    clear hq ho hac hb
    by_cases hlt : k < l.length
    · obtain ⟨lb, lo, ha, hcap, hcell⟩ := row_addr (HROW.out.below HB.out) (by omega)
      subst ha
      obtain ⟨c, hc⟩ : ∃ c, l[k] = c := ⟨_, rfl⟩
      have hcc := hcell k hlt
      rw [hc] at hcc
      have hcb : c < 256 := by rw [← hc]; exact HROW.out.lt _ (List.getElem_mem hlt)
      have hdr : l.drop k = c :: l.drop (k + 1) := by rw [List.drop_eq_getElem_cons hlt, hc]
      have HQ2 := Lib.hid (HQ.out.trans (by rw [hdr]) : quoF [] 0 l = quoF acc k (c :: l.drop (k + 1)))
      have HC := Lib.hid hc
      have HCELL := Lib.hid hcell
      clear hdr hcell HQ hc
      by_cases h1 : c = 34
      · subst h1
        have hstr : (convert 22 9 (.slice oa acc.length oc)).run Tryd.prog wr = .ok (.string (strN acc)) wr := run_str (HO.out.row HAC.out)
        have hq := HQ2.out
        rw [quoF_34] at hq
        have HQ3 := Lib.hid hq
        clear hq
        go_wp2_with fail
        refine bodyPost_ret (v := .tuple #[.string (strN acc), .int .i64 ((k : Int) + 1), .int .i64 0]) (by simp [results, Tryd.results17, go_sem]) rfl ?_
        rw [HQ3.out]
        exact ⟨rfl, HB.out⟩
      have g1 : ¬ (c : Int) = 34 := by omega
      have g1b : ((c : Int) == 34) = false := beq_false_of_ne g1
      by_cases h2 : c = 92
      · subst h2
        by_cases hend : k + 1 = l.length
        · have hq := HQ2.out
          rw [hend, List.drop_length, quoF_nil] at hq
          have HQ3 := Lib.hid hq
          have g2 : ((k : Int) + 1 == (l.length : Int)) = true := by simp; omega
          have g3 : (k : Int) + 1 = (l.length : Int) := by omega
          clear hq
          go_wp2_with fail
          refine bodyPost_ret (v := .tuple #[.string ⟨#[]⟩, .int .i64 0, .int .i64 8]) (by simp [results, Tryd.results17, go_sem]) rfl ?_
          rw [HQ3.out]
          exact ⟨rfl, HB.out⟩
        · have hlt2 : k + 1 < l.length := by omega
          obtain ⟨d, hd⟩ : ∃ d, l[k + 1] = d := ⟨_, rfl⟩
          have hdc := HCELL.out (k + 1) hlt2
          rw [hd, show lo + (k + 1) = lo + k + 1 by omega] at hdc
          have hdc2 : wr.cell? ⟨lb, lo + (k + 1), none⟩ = some (.int .u8 (d : Nat)) := by rw [show lo + (k + 1) = lo + k + 1 by omega]; exact hdc
          have hdb : d < 256 := by rw [← hd]; exact HROW.out.lt _ (List.getElem_mem hlt2)
          have hq := HQ2.out
          rw [List.drop_eq_getElem_cons hlt2, hd, quoF_92] at hq
          have HQ3 := Lib.hid hq
          have g2 : ((k : Int) + 1 == (l.length : Int)) = false := by simp; omega
          have g3 : ¬ (k : Int) + 1 = (l.length : Int) := by omega
          clear hq hd
          by_cases h3 : d ≠ 34 ∧ d ≠ 92
          · have hq := HQ3.out
            rw [if_pos h3] at hq
            have HQ4 := Lib.hid hq
            have g4 : ¬ (d : Int) = 34 := by omega
            have g5 : ¬ (d : Int) = 92 := by omega
            have g4b : ((d : Int) == 34) = false := beq_false_of_ne g4
            have g5b : ((d : Int) == 92) = false := beq_false_of_ne g5
            have g4n : ((d : Int) != 34) = true := by simpa using g4
            have g5n : ((d : Int) != 92) = true := by simpa using g5
            clear hq h3
            go_wp2_with fail
            refine bodyPost_ret (v := .tuple #[.string ⟨#[]⟩, .int .i64 0, .int .i64 9]) (by simp [results, Tryd.results17, go_sem]) rfl ?_
            rw [HQ4.out]
            exact ⟨rfl, HB.out⟩
          · have hq := HQ3.out
            rw [if_neg h3] at hq
            have HQ4 := Lib.hid hq
            have hdd : d = 34 ∨ d = 92 := by omega
            have HD := Lib.hid hdd
            clear hq h3 hdd HQ3 HQ2
            rcases HD.out with rfl | rfl
            all_goals
              clear HD
              have ho := HO.out
              go_wp2_with (at_builtin; go_loud (refine app1g rfl (.tmp 54) (.tmp 59) rfl ho hbs rfl rfl (by omega) (Lib.hid rfl) ?_); intro o5 w5 ho5 hg5 hm5; have HB5 : Hid (Below w.heap.size w w5) := Lib.hid ((HB.out.alloc hbs _).grown hg5 (by simp; omega) (fun x hx => ownB_ge HO.out x hx)); have HO5 := Lib.hid ho5; clear ho5 hg5 hm5)
              go_roundw
              case rel => exact ⟨acc ++ [_], k + 2, by omega, by go_num, HQ4.out, HO5.out, mem_snocN HAC.out (by decide), by simp; omega, HB5.out⟩
              case measure => simp [intOf]; omega
      have g2 : ¬ (c : Int) = 92 := by omega
      have g2b : ((c : Int) == 92) = false := beq_false_of_ne g2
      have hpart := row_part (HROW.out.below HB.out) k (k + 1) (by omega) (by omega)
      have hone : (l.drop k).take (k + 1 - k) = [c] := by
        rw [List.drop_eq_getElem_cons hlt, HC.out, show k + 1 - k = 1 by omega]
        rfl
      rw [hone, show k + 1 - k = 1 by omega] at hpart
      have hstr : (convert 22 9 (.slice (some ⟨lb, lo + k, none⟩) 1 (cap - k))).run Tryd.prog wr = .ok (.string ⟨#[UInt8.ofNat c]⟩) wr := run_str hpart
      have HQB := Lib.hid (qbl_any c hcb wr)
      have hcapk : (k : Int) + 1 ≤ (cap : Int) := by omega
      clear hpart hone
      cases h3 : inQuoN c
      · have hq := HQ2.out
        rw [quoF_bad acc k c _ h1 h2 h3] at hq
        have HQ3 := Lib.hid hq
        rw [h3] at HQB
        clear hq h1 h2 h3
        go_wp2_with fail
        refine HQB.out.mono ?_
        rintro e w2 ⟨rfl, rfl⟩
        go_wp2_with fail
        refine bodyPost_ret (v := .tuple #[.string ⟨#[]⟩, .int .i64 0, .int .i64 9]) (by simp [results, Tryd.results17, go_sem]) rfl ?_
        rw [HQ3.out]
        exact ⟨rfl, HB.out⟩
      · have hq := HQ2.out
        rw [quoF_push acc k c _ h1 h2 h3] at hq
        have HQ3 := Lib.hid hq
        rw [h3] at HQB
        clear hq h1 h2 h3
        go_wp2_with fail
        refine HQB.out.mono ?_
        rintro e w2 ⟨rfl, rfl⟩
        have ho := HO.out
        go_wp2_with (at_builtin; go_loud (refine app1g rfl (.tmp 13) (.tmp 18) rfl ho hbs rfl rfl (by omega) (Lib.hid rfl) ?_); intro o5 w5 ho5 hg5 hm5; have HB5 : Hid (Below w.heap.size w w5) := Lib.hid ((HB.out.alloc hbs _).grown hg5 (by simp; omega) (fun x hx => ownB_ge HO.out x hx)); have HO5 := Lib.hid ho5; clear ho5 hg5 hm5)
        go_roundw
        case rel => exact ⟨acc ++ [c], k + 1, by omega, by go_num, HQ3.out, HO5.out, mem_snocN HAC.out hcb, by simp; omega, HB5.out⟩
        case measure => simp [intOf]; omega
    · obtain rfl : k = l.length := by omega
      have hq := HQ.out
      rw [List.drop_length] at hq
      have HQ3 := Lib.hid hq
      clear hq hlt
      go_wp2_with fail
      refine bodyPost_ret (v := .tuple #[.string ⟨#[]⟩, .int .i64 0, .int .i64 8]) (by simp [results, Tryd.results17, go_sem]) rfl ?_
      rw [HQ3.out]
      exact ⟨rfl, HB.out⟩
end Go.Proofs.YtghibofnfjnfcaaDoor
