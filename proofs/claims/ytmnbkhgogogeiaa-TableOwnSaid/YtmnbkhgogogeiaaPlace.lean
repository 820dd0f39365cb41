/-
  place: where a key is, or would be.
-/
import Derived.Test.YtmnbkhgogogeiaaLeaf
import Derived.Deep.RegionHeld3
import Derived.Laws.EntriesVeiled
namespace Go.Proofs.Ytmnbkhgogogeiaa
set_option linter.unusedVariables false
open Go.RowKit

/-- pairs of rows of bytes, in a row -/
def PairV (w : World) (pv : Value) (P : List (List Nat × List Nat)) : Prop :=
  ∃ a cap, pv = .slice a P.length cap ∧ P.length ≤ cap ∧ cap ≤ maxLen ∧ (P = [] ∨ ∃ g, a = some ⟨g, 0, none⟩ ∧ ∀ i (h : i < P.length), ∃ ka kl kc va vl vc,
    w.cell? ⟨g, i * 2, none⟩ = some (.slice ka kl kc) ∧ w.cell? ⟨g, i * 2 + 1, none⟩ = some (.slice va vl vc) ∧ RowB w (.slice ka kl kc) P[i].1 ∧ RowB w (.slice va vl vc) P[i].2)
theorem PairV.below {w w' : World} {pv : Value} {P : List (List Nat × List Nat)} (h : PairV w pv P) (hb : Below w.heap.size w w') : PairV w' pv P := by
  obtain ⟨a, cap, e, h1, h2, h3⟩ := h
  refine ⟨a, cap, e, h1, h2, h3.imp id fun ⟨g, e, hc⟩ => ⟨g, e, fun i hi => ?_⟩⟩
  obtain ⟨ka, kl, kc, va, vl, vc, k1, k2, k3, k4⟩ := hc i hi
  exact ⟨ka, kl, kc, va, vl, vc, by rw [hb.cell (World.block_lt_of_cell? w _ k1)]; exact k1, by rw [hb.cell (World.block_lt_of_cell? w _ k2)]; exact k2, k3.below hb, k4.below hb⟩
/-- the table's own block -/
def TbV (w : World) (pt : Nat) (lv : Value) (sec cost : Nat) (pv : Value) : Prop :=
  w.heap[pt]? = some (.cells #[lv, .int .i64 (sec : Nat), .int .i64 (cost : Nat), pv] 68 (0, 0))
theorem TbV.cells {w : World} {pt : Nat} {lv : Value} {sec cost : Nat} {pv : Value} (h : TbV w pt lv sec cost pv) :
    w.cell? ⟨pt, 0, none⟩ = some lv ∧ w.cell? ⟨pt, 1, none⟩ = some (.int .i64 (sec : Nat)) ∧ w.cell? ⟨pt, 2, none⟩ = some (.int .i64 (cost : Nat)) ∧ w.cell? ⟨pt, 3, none⟩ = some pv := by
  have fl := fun j => cell_of_row w pt j _ _ _ h
  exact ⟨fl 0, fl 1, fl 2, fl 3⟩
theorem TbV.free {w : World} {pt : Nat} {lv : Value} {sec cost : Nat} {pv : Value} (h : TbV w pt lv sec cost pv) (j : Nat) : w.frozen? ⟨pt, j, none⟩ = false := by
  unfold TbV at h
  simp [World.frozen?, h]
theorem TbV.below {w w' : World} {pt : Nat} {lv : Value} {sec cost : Nat} {pv : Value} (h : TbV w pt lv sec cost pv) (hb : Below w.heap.size w w') : TbV w' pt lv sec cost pv :=
  (hb.block pt (lt_of_block h)).trans h
theorem Still.bel {w w' : World} (h : Still w w') : Below w.heap.size w w' := h.1

set_option maxRecDepth 100000 in
set_option maxHeartbeats 4000000 in
theorem ask_any {w : World} {pt p q : Nat} {lv : Value} {sec cost : Nat} {pv vk : Value} {P : List (List Nat × List Nat)} {key : List Nat} (ht : TbV w pt lv sec cost pv) (hv : PairV w pv P) (hk : RowB w vk key)
    (hp : w.cell? ⟨p, 0, none⟩ = some (.pointer (some ⟨pt, 0, none⟩))) (hq : w.cell? ⟨q, 0, none⟩ = some vk) (i : Nat) (hi : i < P.length) :
    Calls Try.prog 67 #[.int .i64 (i : Nat), .pointer (some ⟨p, 0, none⟩), .pointer (some ⟨q, 0, none⟩)] w fun e w' => e = .returned (.bool (decide (0 ≤ cmpL P[i].1 key))) ∧ Still w w' := by
  obtain ⟨a, cap, rfl, h1, h2, h3⟩ := hv
  obtain ⟨g, rfl, hc⟩ : ∃ g, a = some ⟨g, 0, none⟩ ∧ ∀ i (h : i < P.length), ∃ ka kl kc va vl vc,
      w.cell? ⟨g, i * 2, none⟩ = some (.slice ka kl kc) ∧ w.cell? ⟨g, i * 2 + 1, none⟩ = some (.slice va vl vc) ∧ RowB w (.slice ka kl kc) P[i].1 ∧ RowB w (.slice va vl vc) P[i].2 := by
    rcases h3 with h3 | h3
    · rw [h3] at hi; simp at hi
    · exact h3
  obtain ⟨ka, kl, kc, va, vl, vc, c1, c2, r1, r2⟩ := hc i hi
  obtain ⟨sa, sl, sc, rfl, -⟩ := id hk
  obtain ⟨-, -, -, t3⟩ := ht.cells
  have hiz : (i : Int) < (P.length : Int) := by omega
  obtain ⟨r, hr⟩ : ∃ r, cmpL P[i].1 key = r := ⟨_, rfl⟩
  have HC : Hid (∀ n, Calls Try.prog 68 #[.slice ka kl kc, .slice sa sl sc] (w.drewN n) fun e w' => e = .returned (.int .i64 r) ∧ w' = w.drewN n) := Lib.hid fun n => by
    have := cmp_any (w := w.drewN n) (r1.below ((Still.refl _).drewN n).1) (hk.below ((Still.refl _).drewN n).1)
    rwa [hr] at this
  rw [hr]
  clear hr h3 hc r1 r2 c2 hk h1 h2 ht
  generalize P.length = n at *
  go_enter Try.func67, Try.ntmps67
  go_wp2_with fail
  go_quiet ((go_at_call 68; exact Calls.quiet_of_same (HC.out _)))
  go_wp2_with fail
  go_ret
  exact ⟨rfl, (Still.refl _).drewN _⟩

set_option maxRecDepth 100000 in
set_option maxHeartbeats 4000000 in
theorem place_any {w : World} {pt : Nat} {lv : Value} {sec cost : Nat} {pv vk : Value} {P : List (List Nat × List Nat)} {key : List Nat} (ht : TbV w pt lv sec cost pv) (hv : PairV w pv P) (hk : RowB w vk key) (hn : P.length ≤ 1000000)
    (c : Nat) (hc : c ≤ P.length) (hm : ∀ i (h : i < P.length), decide (0 ≤ cmpL P[i].1 key) = decide (c ≤ i)) :
    Calls Try.prog 36 #[.pointer (some ⟨pt, 0, none⟩), vk] w fun e w' => e = .returned (.tuple #[.int .i64 (c : Nat), .bool (decide (P[c]?.map (·.1) = some key))]) ∧ Below w.heap.size w w' := by
  obtain ⟨sa, sl, sc, rfl, -⟩ := id hk
  obtain ⟨a, cap, rfl, h1, h2, h3⟩ := id hv
  obtain ⟨W, hW, hp, hq, hbW⟩ : ∃ W, W = (w.alloc (.cells #[.pointer (some ⟨pt, 0, none⟩)] 28)).alloc (.cells #[.slice sa sl sc] 23) ∧ W.heap[w.heap.size]? = some (.cells #[.pointer (some ⟨pt, 0, none⟩)] 28 (0, 0)) ∧ W.heap[w.heap.size + 1]? = some (.cells #[.slice sa sl sc] 23 (0, 0)) ∧ Below w.heap.size w W := by
    have e2 := heap_alloc_new (w.alloc (.cells #[.pointer (some ⟨pt, 0, none⟩)] 28)) (.cells #[.slice sa sl sc] 23)
    rw [World.size_alloc] at e2
    exact ⟨_, rfl, (Below.heap_alloc _ _ _ (by simp)).trans (heap_alloc_new w _), e2, ((Below.refl _ _).alloc (Nat.le_refl _) _).alloc (by simp) _⟩
  have HTW := Lib.hid (ht.below hbW)
  have HVW := Lib.hid (hv.below hbW)
  have HKW := Lib.hid (hk.below hbW)
  have HPW := Lib.hid hp
  have HQW := Lib.hid hq
  have HBW := Lib.hid hbW
  have HM := Lib.hid hm
  have hne : w.heap.size ≠ w.heap.size + 1 := by omega
  have HNE := Lib.hid hne
  have y1 : W.cell? ⟨w.heap.size, 0, none⟩ = some (.pointer (some ⟨pt, 0, none⟩)) := cell_of_row W w.heap.size 0 _ _ _ hp
  have y2 : W.cell? ⟨w.heap.size + 1, 0, none⟩ = some (.slice sa sl sc) := cell_of_row W (w.heap.size + 1) 0 _ _ _ hq
  obtain ⟨-, -, -, t3⟩ := HTW.out.cells
  have HSE : Hid (Calls Try.prog 66 #[.int .i64 (P.length : Nat), .func (.func 67) #[] #[.pointer (some ⟨w.heap.size, 0, none⟩), .pointer (some ⟨w.heap.size + 1, 0, none⟩)]] W fun e w' => e = .returned (.int .i64 (c : Nat)) ∧ Still W w') := Lib.hid (by
    refine search_any w.heap.size (w.heap.size + 1) P.length c hn hc (fun W2 i hi hs => ?_)
    have hb := hs.bel
    rw [← hm i hi]
    refine (ask_any (HTW.out.below hb) (HVW.out.below hb) (HKW.out.below hb) ?_ ?_ i hi).mono fun e w' h => ⟨h.1, hs.1.trans (h.2.1.mono hs.1.size), h.2.2.trans hs.2⟩
    · rw [hb.cell (p := ⟨w.heap.size, 0, none⟩) (lt_of_block hp)]; exact y1
    · rw [hb.cell (p := ⟨w.heap.size + 1, 0, none⟩) (lt_of_block hq)]; exact y2)
  clear ht hv hk hp hq hbW hm hne h3 h1 h2
  obtain ⟨n, hnn⟩ : ∃ n, P.length = n := ⟨_, rfl⟩
  rw [hnn] at HSE t3 hn hc
  have HN := Lib.hid hnn
  clear hnn
  go_enter Try.func36, Try.ntmps36
  go_upto_region 1 with (fail)
  rw [← hW]
  clear hW
  generalize w.heap.size + 1 = q at *
  go_upto_region 2 with (first | (go_at_call 66; refine HSE.out.mono ?_; rintro e w2 ⟨rfl, hs2⟩; have HS2 := Lib.hid hs2; clear hs2))
  have hb2 := HS2.out.bel
  obtain ⟨-, -, -, z3⟩ := (HTW.out.below hb2).cells
  rw [HN.out] at z3
  have z1 : w2.cell? ⟨w.heap.size, 0, none⟩ = some (.pointer (some ⟨pt, 0, none⟩)) := by rw [hb2.cell (p := ⟨w.heap.size, 0, none⟩) (lt_of_block HPW.out)]; exact y1
  have z2 : w2.cell? ⟨q, 0, none⟩ = some (.slice sa sl sc) := by rw [hb2.cell (p := ⟨q, 0, none⟩) (lt_of_block HQW.out)]; exact y2
  have HBF := Lib.hid (HBW.out.trans (hb2.mono HBW.out.size))
  by_cases hcn : c < n
  · have hcz : (c : Int) < (n : Int) := by omega
    have hcd : decide (c < n) = true := decide_eq_true hcn
    have hcd2 : decide ((c : Int) < (n : Int)) = true := decide_eq_true hcz
    obtain ⟨a2, cap2, e, -, -, h3⟩ := HVW.out.below hb2
    obtain ⟨rfl, -, rfl⟩ := Value.slice.inj e
    obtain ⟨g, rfl, hcell⟩ : ∃ g, a = some ⟨g, 0, none⟩ ∧ ∀ i (h : i < P.length), ∃ ka kl kc va vl vc,
        w2.cell? ⟨g, i * 2, none⟩ = some (.slice ka kl kc) ∧ w2.cell? ⟨g, i * 2 + 1, none⟩ = some (.slice va vl vc) ∧ RowB w2 (.slice ka kl kc) P[i].1 ∧ RowB w2 (.slice va vl vc) P[i].2 := by
      rcases h3 with h3 | h3
      · rw [h3] at HN; have := HN.out; simp at this; omega
      · exact h3
    obtain ⟨ka, kl, kc, va, vl, vc, c1, -, r1, -⟩ := hcell c (by rw [HN.out]; exact hcn)
    have HEQ : Hid (∀ m, Calls Try.prog 69 #[.slice ka kl kc, .slice sa sl sc] (w2.drewN m) fun e w' => e = .returned (.bool (decide (P[c]?.map (·.1) = some key))) ∧ w' = w2.drewN m) := Lib.hid fun m => by
      have h := equal_any (w := w2.drewN m) (r1.below ((Still.refl _).drewN m).1) ((HKW.out.below hb2).below ((Still.refl _).drewN m).1)
      have hcl : c < P.length := by rw [HN.out]; exact hcn
      have e3 : decide (P[c]?.map (·.1) = some key) = decide (P[c].1 = key) := by
        rw [List.getElem?_eq_getElem hcl]
        simp
      rw [e3]
      exact h
    obtain ⟨d, hd⟩ : ∃ d, decide (P[c]?.map (·.1) = some key) = d := ⟨_, rfl⟩
    rw [hd] at HEQ
    have HD := Lib.hid hd
    clear h3 hcell e r1 hb2 hcn hd
    go_quiet ((go_at_call 69; exact Calls.quiet_of_same (HEQ.out _)))
    go_wp2_with fail
    exact bodyPost_ret (v := .tuple #[.int .i64 (c : Nat), .bool d]) (by simp [results, Try.results36, go_sem]) rfl ⟨by rw [HD.out], below_drewN HBF.out _⟩
  · have hcz : ¬ (c : Int) < (n : Int) := by omega
    have hcd : decide (c < n) = false := decide_eq_false hcn
    have hcd2 : decide ((c : Int) < (n : Int)) = false := decide_eq_false hcz
    have hd : decide (P[c]?.map (·.1) = some key) = false := by
      rw [List.getElem?_eq_none (by rw [HN.out]; omega)]
      rfl
    have HD := Lib.hid hd
    clear hb2 hd
    go_quiet (fail)
    go_wp2_with fail
    exact bodyPost_ret (v := .tuple #[.int .i64 (c : Nat), .bool false]) (by simp [results, Try.results36, go_sem]) rfl ⟨by rw [HD.out], below_drewN HBF.out _⟩
end Go.Proofs.Ytmnbkhgogogeiaa
