/-
  Several texts of one proof, each in a section of its own: Mli, Small.
-/
import Derived.Test.YtnncldnpkfjhbaaGreatDoorMg4
import Derived.Test.YtnncldnpkfjhbaaGreatDoorMemMg
import Derived.Laws.IdiomStrings
import Derived.Lib.ConvBytes
namespace Go.Proofs.YtnncldnpkfjhbaaGreatDoor
section
set_option linter.unusedVariables false
open Go.RowKit Go.Shelf
attribute [local go_sem] Oper.semAt_some

/-- a line as mime's iterator hands it: where it begins, and its text -/
def encM (lb lo cap : Nat) (x : Nat × Nat × Nat) : Array Value := #[.int .i64 (x.1 : Nat), .slice (some ⟨lb, lo + x.1, none⟩) x.2.2 (cap - x.1)]
/-- what a round keeps: what lay ahead, and the iterator's three variables -/
def KpM (n₀ D : Nat) (W W' : World) : Prop := Below n₀ W W' ∧ W'.heap[D - 1]? = W.heap[D - 1]? ∧ W'.heap[D]? = W.heap[D]? ∧ W'.heap[D + 1]? = W.heap[D + 1]?
/-- how far the iterator is -/
def farM (W : World) (D : Nat) : Nat := match W.cell? ⟨D, 0, none⟩ with | some (.int _ n) => n.toNat | _ => 0
theorem farM_box {W : World} {D n : Nat} {t : TypeId} (h : Boxed W D t (.int .i64 (n : Nat))) : farM W D = n := by unfold farM; rw [h.cell]; simp

theorem grown_drewM (w : World) (row : Option Nat) : w.grownBy w.drew row := ⟨rfl, rfl, rfl, Nat.le_refl _, fun _ _ _ => rfl⟩
theorem mlines_any (a : Option Addr) (n c : Nat) (f t : Int) (w : World) : Calls Tryz.prog 55 #[.slice a n c, .int .i64 f, .int .i64 t] w fun e w' => e = .returned (.func (.func 84) #[] #[.pointer (some ⟨w.heap.size + 1, 0, none⟩), .pointer (some ⟨w.heap.size + 2, 0, none⟩), .pointer (some ⟨w.heap.size, 0, none⟩)]) ∧ w' = ((w.alloc (.cells #[.slice a n c] 22)).alloc (.cells #[.int .i64 f] 3)).alloc (.cells #[.int .i64 t] 3) := by
  go_enter Tryz.func55, Tryz.ntmps55
  go_wp2_with fail
  go_ret
  exact ⟨rfl, rfl⟩

set_option maxRecDepth 100000 in
set_option maxHeartbeats 8000000 in
theorem mlines_on (n : Nat) (a : Option Addr) (lb lo cap D n₀ f t : Nat) (l : List Nat) (ha : l ≠ [] → a = some ⟨lb, lo, none⟩) (hn : n₀ < D) (hlb : l ≠ [] → lb < n₀) (hf : f ≤ t) (ht : t ≤ l.length) (hc : l.length ≤ cap) (hm : cap ≤ maxLen) (hlt : ∀ n ∈ l, n < 256) :
    SeqOn Fence.wide n Tryz.prog 84 #[.pointer (some ⟨D, 0, none⟩), .pointer (some ⟨D + 1, 0, none⟩), .pointer (some ⟨D - 1, 0, none⟩)] (encM lb lo cap) D (KpM n₀ D) (linesP f ((l.take t).drop f))
      (fun W => Boxed W D 3 (.int .i64 (f : Nat)) ∧ Boxed W (D + 1) 3 (.int .i64 (t : Nat)) ∧ Boxed W (D - 1) 22 (.slice a l.length cap) ∧ CellsL W lb lo l) := by
  intro y J Jx W ⟨hbox, hbt, hbb, hcells⟩ hJ hJx hY h0
  have HLT := Lib.hid hlt
  have HJ := Lib.hid hJ
  have HJX := Lib.hid hJx
  have HY := Lib.hid hY
  have HTL := Lib.hid (And.intro ht (And.intro hc (And.intro hlb hn)))
  clear hlt hJ hJx hY
  unfold maxLen at hm
  obtain ⟨F, hF⟩ : ∃ F, D - 1 = F := ⟨_, rfl⟩
  have HF : Hid (F < D ∧ n₀ ≤ F) := Lib.hid ⟨by omega, by omega⟩
  have hKp : ∀ A C, KpM n₀ D A C → Below n₀ A C ∧ C.heap[F]? = A.heap[F]? ∧ C.heap[D]? = A.heap[D]? ∧ C.heap[D + 1]? = A.heap[D + 1]? := fun A C h => by unfold KpM at h; rw [hF] at h; exact h
  have HKP := Lib.hid hKp
  have HYY : Hid (∀ pre x rest W1, linesP f ((l.take t).drop f) = pre ++ x :: rest → J pre W1 → YieldAt Fence.wide (n - 1) Tryz.prog y (encM lb lo cap x) W1 fun e W' => (e = .returned (.bool true) ∧ J (pre ++ [x]) W' ∧ (Below n₀ W1 W' ∧ W'.heap[F]? = W1.heap[F]? ∧ W'.heap[D]? = W1.heap[D]? ∧ W'.heap[D + 1]? = W1.heap[D + 1]?)) ∨ (e = .returned (.bool false) ∧ Jx (pre ++ [x]) W')) := Lib.hid fun pre x rest W1 h1 h2 => by
    obtain ⟨fn, tmps, assign, body, hy, hR⟩ := HY.out pre x rest W1 h1 h2
    exact ⟨fn, tmps, assign, body, hy, hR.mono fun e W' h => h.imp (fun h => ⟨h.1, h.2.1, HKP.out _ _ h.2.2⟩) id⟩
  rw [hF] at hbb ⊢
  have HA := Lib.hid ha
  clear hKp HKP HY hF hn hlb ha
  refine callsIn_of_wp Tryz.func84 rfl trivial ?_ rfl
  simp only [Tryz.ntmps84, List.size_toArray, List.length_cons, List.length_nil, Nat.reduceAdd, Nat.reduceSub, Array.replicate_succ, Array.replicate_zero, List.push_toArray, List.append_toArray, List.nil_append, List.cons_append]
  gi_wp2
  gi_loopw [] (fun wr => ∃ (pre : List (Nat × Nat × Nat)) (k : Nat), k ≤ t ∧ linesP f ((l.take t).drop f) = pre ++ linesP k ((l.take t).drop k) ∧ Boxed wr D 3 (.int .i64 (k : Nat)) ∧ Boxed wr (D + 1) 3 (.int .i64 (t : Nat)) ∧ Boxed wr F 22 (.slice a l.length cap) ∧ CellsL wr lb lo l ∧ J pre wr)
    (fun wr => t - farM wr D)
  case atStart => exact ⟨[], f, hf, by simp, hbox, hbt, hbb, hcells, h0⟩
  case round =>
    obtain ⟨pre, k, hk, hp, hb, hbt, hbb, hcl, hj⟩ := hrel
    have hbc := hb.cell
    have hbf := hb.frozen
    have hbtc := hbt.cell
    have hbbc := hbb.cell
    by_cases hkl : k < t
    · have hln : l ≠ [] := by intro e; subst e; simp at ht; omega
      obtain rfl := HA.out hln
      obtain ⟨r, hr⟩ : ∃ r, (l.take t).drop k = r := ⟨_, rfl⟩
      have hrl : r.length = t - k := by rw [← hr, List.length_drop, List.length_take]; omega
      have hrn : r ≠ [] := by intro e; subst e; simp at hrl; omega
      have hrc := (hcl.take t).drop k
      rw [hr] at hp hrc
      rw [linesP_cons k hrn] at hp
      have hrb : ∀ n ∈ r, n < 256 := fun n hn => HLT.out n (by rw [← hr] at hn; exact List.mem_of_mem_take (List.mem_of_mem_drop hn))
      have hrow := hrc.row (cap := cap - k) (by omega) (by unfold maxLen; omega) hrb
      have hix := index_any lb (lo + k) (cap - k) 10 r wr (by decide) hrow
      rw [hrl] at hix
      have HR := Lib.hid hr
      have HRL := Lib.hid hrl
      have HB := Lib.hid (And.intro hb (And.intro hbt hbb))
      have HCL := Lib.hid hcl
      have HRC := Lib.hid hrc
      have HRB := Lib.hid hrb
      have HJJ := Lib.hid hj
      have ha10 := aheadN_le 10 r
      have hkz : (k : Int) < (t : Int) := by omega
      have hkt : (k : Int) ≤ (t : Int) := by omega
      have htc : (t : Int) ≤ (cap : Int) := by omega
      have hkc : (k : Int) < (cap : Int) := by omega
      have hkcn : ¬ cap = k := by omega
      unfold wholeN textN at hp
      unfold idxI at hix
      clear hb hcl hrc hrb hj hr hrow hbt hbb
      by_cases hjl : aheadN 10 r < r.length
      · rw [if_pos hjl, if_pos hjl] at hp
        rw [if_pos (by omega)] at hix
        rw [hrl] at hjl
        obtain ⟨j, hj⟩ : ∃ j, aheadN 10 r = j := ⟨_, rfl⟩
        rw [hj] at hp hix hjl
        have HIX := Lib.hid hix
        have HP := Lib.hid hp
        obtain ⟨e, he⟩ : ∃ e, k + j = e := ⟨_, rfl⟩
        have hez : (k : Int) + (j : Int) = (e : Int) := by omega
        have het : (e : Int) < (t : Int) := by omega
        have hke : (k : Int) ≤ (e : Int) := by omega
        have hec : (e : Int) ≤ (cap : Int) := by omega
        have hw1 : IntKind.i64.wrap (e : Int) = (e : Int) := IntWalk.i64_in _ (by omega)
        have hw2 : IntKind.i64.wrap ((e : Int) + 1) = (e : Int) + 1 := IntWalk.i64_in _ (by omega)
        have hj0 : ¬ (j : Int) < 0 := by omega
        have hejk : e - k = j := by omega
        have htl : (r.take j).length = e - k := by rw [List.length_take]; omega
        have hrt := ((HRC.out.kept (n₀ := wr.heap.size) ((Below.refl _ wr).alloc (Nat.le_refl _) (.cells #[.int .u8 13] 5 (1, 2))) (fun _ => World.block_lt_of_cell? wr _ (HRC.out 0 (by omega)))).take j).row (cap := cap - k) (by rw [htl]; omega) (by unfold maxLen; omega) (fun n hn => HRB.out n (List.mem_of_mem_take hn))
        have hcr := cr_row wr
        have htr := trim_any hrt (by rw [htl]; omega) (by unfold maxLen; omega) hcr ⟨_, _, rfl⟩
        rw [htl] at htr
        have HTR := Lib.hid htr
        have HB1 := Lib.hid (And.intro (HB.out.1.alloc (.cells #[.int .u8 13] 5 (1, 2))) (And.intro (HB.out.2.1.alloc (.cells #[.int .u8 13] 5 (1, 2))) (HB.out.2.2.alloc (.cells #[.int .u8 13] 5 (1, 2)))))
        obtain ⟨m, hmm⟩ : ∃ m, trimN (r.take j) = m := ⟨_, rfl⟩
        rw [hmm] at HTR HP
        obtain ⟨fn, tmps, assign, body, hy, hRR⟩ := HYY.out pre (k, j + 1, m) _ (wr.alloc (.cells #[.int .u8 13] 5 (1, 2))) HP.out (HJ.out _ _ _ HJJ.out (turn_alloc _ _ _))
        dsimp only [encM] at hy
        have hcv := cr_conv wr
        have hb1 := HB1.out.1.cell
        have HE := Lib.hid (And.intro he hejk)
        clear hp hix htr hcr hrt hmm hj hrl ha10 hln hrn he htl hjl hejk
        gi_wp2_with (first
          | (refine ⟨trivial, (fun h => by cases h), ?_⟩; refine (callsIn_wide.2 HIX.out).mono ?_; rintro e w' ⟨rfl, hw'⟩; subst w')
          | (refine ⟨trivial, (fun h => by cases h), ?_⟩; refine (callsIn_wide.2 HTR.out).mono ?_; rintro e w' ⟨rfl, rfl⟩))
        refine ⟨(fun h => by cases h), hRR.mono ?_⟩
        rintro e0 W3 (⟨rfl, hj3, hb3, hf3, hd3, he3⟩ | ⟨rfl, hx3⟩)
        · have HBX := Lib.hid (And.intro (show Boxed W3 D 3 (.int .i64 (k : Nat)) from hd3.trans HB1.out.1) (And.intro (show Boxed W3 (D + 1) 3 (.int .i64 (t : Nat)) from he3.trans HB1.out.2.1) (show Boxed W3 F 22 (.slice (some ⟨lb, lo, none⟩) l.length cap) from hf3.trans HB1.out.2.2)))
          have hbc3 := HBX.out.1.cell
          have hbf3 := HBX.out.1.frozen
          have hlbn : lb < n₀ := HTL.out.2.2.1 (by intro e; subst e; have := HTL.out.1; simp at this; omega)
          have HC3 := Lib.hid ((HCL.out.kept (n₀ := n₀) ((Below.refl n₀ wr).alloc (by have := HB.out.1.lt; have := HTL.out.2.2.2; omega) (.cells #[.int .u8 13] 5 (1, 2))) fun _ => hlbn).kept hb3 fun _ => hlbn)
          have HJ3 := Lib.hid hj3
          have HLN := Lib.hid hlbn
          clear hb3 hf3 hd3 he3 hj3 hlbn
          gi_wp2
          go_roundw
          case rel =>
            refine ⟨pre ++ [(k, j + 1, m)], e + 1, by omega, ?_, ?_, ?_, ?_, HC3.out.kept (n₀ := n₀) ((Below.refl _ _).setCell (p := ⟨D, 0, none⟩) (by have := HTL.out.2.2.2; simp; omega) _) fun _ => HLN.out, HJ.out _ _ _ HJ3.out (grownBy_setCell' W3 D _)⟩
            · rw [HP.out, ← HR.out, List.drop_drop, show k + (j + 1) = e + 1 by have := HE.out.1; omega, List.append_assoc]; rfl
            · have := HBX.out.1.set (.int .i64 ((e + 1 : Nat) : Int))
              simpa using this
            · exact HBX.out.2.1.other (by omega) _
            · exact HBX.out.2.2.other (by have := HF.out; omega) _
          case measure =>
            have h1 := HBX.out.1.set (.int .i64 ((e + 1 : Nat) : Int))
            have h2 := farM_box h1
            have h3 := farM_box HB.out.1
            rw [h3]
            push_cast at h2
            rw [h2]
            omega
        · gi_wp2
          refine bodyPost_ret (results_none rfl _ _ _) rfl ?_
          exact ⟨⟨_, rfl⟩, .inr ⟨pre ++ [(k, j + 1, m)], ⟨_, by rw [HP.out, List.append_assoc]; rfl⟩, hx3⟩⟩
      · rw [if_neg hjl, if_neg hjl, List.drop_length, linesP_nil, hrl] at hp
        rw [if_neg (by omega)] at hix
        have HIX := Lib.hid hix
        have HP := Lib.hid hp
        obtain ⟨fn, tmps, assign, body, hy, hRR⟩ := HYY.out pre (k, t - k, t - k) _ wr.drew HP.out (HJ.out _ _ _ HJJ.out (grown_drewM wr (some D)))
        have hbc4 : wr.drew.cell? ⟨D, 0, none⟩ = some (.int .i64 (k : Nat)) := hbc
        dsimp only [encM] at hy
        clear hp hix hrl ha10 hln hrn hjl
        gi_wp2_with (refine ⟨trivial, (fun h => by cases h), ?_⟩; refine (callsIn_wide.2 HIX.out).mono ?_; rintro e w' ⟨rfl, hw'⟩; subst w')
        gi_region
        gi_wp2_with fail
        refine ⟨(fun h => by cases h), hRR.mono ?_⟩
        rintro e0 W3 (⟨rfl, hj3, hb3, hf3, hd3, he3⟩ | ⟨rfl, hx3⟩)
        · have HBX := Lib.hid (And.intro (show Boxed W3 D 3 (.int .i64 (k : Nat)) from hd3.trans HB.out.1) (And.intro (show Boxed W3 (D + 1) 3 (.int .i64 (t : Nat)) from he3.trans HB.out.2.1) (show Boxed W3 F 22 (.slice (some ⟨lb, lo, none⟩) l.length cap) from hf3.trans HB.out.2.2)))
          have hbc3 := HBX.out.1.cell
          have hbf3 := HBX.out.1.frozen
          have hlbn : lb < n₀ := HTL.out.2.2.1 (by intro e; subst e; have := HTL.out.1; simp at this; omega)
          have HC3 := Lib.hid ((HCL.out.kept (n₀ := n₀) (Below.refl n₀ wr).drew fun _ => hlbn).kept hb3 fun _ => hlbn)
          have HJ3 := Lib.hid hj3
          have HLN := Lib.hid hlbn
          clear hb3 hf3 hd3 he3 hj3 hlbn
          gi_wp2
          go_roundw
          case rel =>
            refine ⟨pre ++ [(k, t - k, t - k)], t, Nat.le_refl _, ?_, HBX.out.1.set _, HBX.out.2.1.other (by omega) _, HBX.out.2.2.other (by have := HF.out; omega) _, HC3.out.kept (n₀ := n₀) ((Below.refl _ _).setCell (p := ⟨D, 0, none⟩) (by have := HTL.out.2.2.2; simp; omega) _) fun _ => HLN.out, HJ.out _ _ _ HJ3.out (grownBy_setCell' W3 D _)⟩
            rw [HP.out, List.drop_eq_nil_of_le (by rw [List.length_take]; omega), linesP_nil, List.append_nil]
          case measure =>
            rw [farM_box (HBX.out.1.set (.int .i64 (t : Nat))), farM_box HB.out.1]
            omega
        · gi_wp2
          refine bodyPost_ret (results_none rfl _ _ _) rfl ?_
          exact ⟨⟨_, rfl⟩, .inr ⟨pre ++ [(k, t - k, t - k)], ⟨[], by rw [HP.out, List.append_nil]⟩, hx3⟩⟩
    · obtain rfl : k = t := by omega
      have htd : (l.take k).drop k = [] := List.drop_eq_nil_of_le (by rw [List.length_take]; omega)
      rw [htd, linesP_nil, List.append_nil] at hp
      have HP := Lib.hid hp
      have hkz : ¬ (k : Int) < (k : Int) := by omega
      clear hp htd
      gi_wp2
      go_end0
      exact ⟨⟨_, rfl⟩, .inl (by rw [HP.out]; exact hj)⟩
end
section
set_option linter.unusedVariables false
open Go.RowKit Go.Lib

theorem size_l (s : ByteArray) : s.size = s.data.toList.length := rfl
/-- a text of bytes -/
def strL (l : List UInt8) : ByteArray := ⟨l.toArray⟩
def lowB (c : UInt8) : UInt8 := if 65 ≤ c.toNat ∧ c.toNat ≤ 90 then c + 32 else c
def foldL (l : List UInt8) : List UInt8 := l.map lowB
theorem lowB_nat (c : UInt8) (h : 65 ≤ c.toNat ∧ c.toNat ≤ 90) : (lowB c).toNat = c.toNat + 32 := by
  simp [lowB, h, UInt8.toNat_add]
  omega

/-- a row of bytes that may be written -/
structure RowU (w : World) (g : Nat) (l : List UInt8) : Prop where
  cell : ∀ j (h : j < l.length), w.cell? ⟨g, j, none⟩ = some (.int .u8 (l[j].toNat : Int))
  free : ∀ j, j < l.length → w.frozen? ⟨g, j, none⟩ = false

theorem RowU.set {w : World} {g : Nat} {l : List UInt8} (k : RowU w g l) (i : Nat) (hi : i < l.length) (c : UInt8) : RowU (w.setCell ⟨g, i, none⟩ (.int .u8 (c.toNat : Int))) g (l.set i c) := by
  refine ⟨fun j h => ?_, fun j h => ?_⟩
  · have h' : j < l.length := by simpa using h
    by_cases e : j = i
    · subst e
      rw [World.cell?_setCell_same _ _ _ (k.cell j h')]
      simp
    · rw [World.cell?_setCell_other _ _ _ _ (fun e2 => e (by have := congrArg Addr.off e2; simp at this; omega)), k.cell j h']
      simp [Ne.symm e]
  · simp only [List.length_set] at h
    rw [World.frozen?_setCell]
    exact k.free j h

theorem RowU.conv (w : World) (s : ByteArray) : RowU (bytesWorld w 5 s) w.heap.size s.data.toList := by
  refine ⟨fun j h => ?_, fun j h => ?_⟩
  · have hj : j < s.size := by rw [size_l]; exact h
    rw [bytesWorld_cell w 5 s j hj]
    simp [List.getD, List.getElem?_eq_getElem h]
  · have hn := bytesWorld_at_new w 5 s
    have hj : j < s.size := by rw [size_l]; exact h
    have hsz : s.size ≤ (bytesCells w 5 s).size := by
      rw [bytesCells, Array.size_append, Array.size_map]
      exact Nat.le_add_right _ _
    rw [World.frozen?, hn]
    simp
    omega

theorem below_bytesWorld (w : World) (s : ByteArray) : Below w.heap.size w (bytesWorld w 5 s) := by
  refine ⟨rfl, rfl, rfl, by rw [bytesWorld_size]; omega, fun i hi => bytesWorld_at_old w 5 s i hi⟩

/-- the bytes behind k rounds -/
def midL (l : List UInt8) (k : Nat) : List UInt8 := (l.take k).map lowB ++ l.drop k
theorem midL_length (l : List UInt8) (k : Nat) : (midL l k).length = l.length := by simp [midL]; omega
theorem midL_zero (l : List UInt8) : midL l 0 = l := by simp [midL]
theorem midL_all (l : List UInt8) (k : Nat) (h : l.length ≤ k) : midL l k = foldL l := by simp [midL, foldL, List.take_of_length_le h, List.drop_eq_nil_of_le h]
theorem midL_at (l : List UInt8) (k : Nat) (h : k < l.length) : (midL l k)[k]'(by rw [midL_length]; exact h) = l[k] := by
  simp [midL, List.getElem_append_right, Nat.min_eq_left (Nat.le_of_lt h)]
theorem midL_step (l : List UInt8) (k : Nat) (h : k < l.length) : midL l (k + 1) = (midL l k).set k (lowB l[k]) := by
  apply List.ext_getElem
  · rw [List.length_set, midL_length, midL_length]
  · intro j h1 h2
    rw [midL_length] at h1
    rw [List.getElem_set]
    by_cases e : k = j
    · subst e
      rw [if_pos rfl]
      simp [midL, List.getElem_append_left, h, Nat.lt_min]
    · rw [if_neg e]
      by_cases hj : j < k
      · simp [midL, List.getElem_append_left, Nat.lt_min, h1, hj, show j < k + 1 by omega]
      · have h3 : k + 1 ≤ j := by omega
        simp [midL, List.getElem_append_right, Nat.min_eq_left (Nat.le_of_lt h), Nat.min_eq_left (show k + 1 ≤ l.length by omega), show k ≤ j by omega, h3]
theorem midL_keep (l : List UInt8) (k : Nat) (h : k < l.length) (hc : ¬ (65 ≤ l[k].toNat ∧ l[k].toNat ≤ 90)) : midL l (k + 1) = midL l k := by
  rw [midL_step l k h, lowB, if_neg hc]
  apply List.ext_getElem
  · simp
  · intro j h1 h2
    rw [List.getElem_set]
    split
    · rename_i e
      subst e
      exact (midL_at l k h).symm
    · rfl

theorem back_any (w : World) (g cap : Nat) (l : List UInt8) (k : RowU w g l) : (convert 22 9 (.slice (some ⟨g, 0, none⟩) l.length cap)).run Tryz.prog w = .ok (.string (strL l)) w :=
  run_convert_bytes_back w 22 9 5 ⟨g, 0, none⟩ cap l Tryz.underlying22 Tryz.underlying5 Tryz.underlying9 (fun j hj => by
    have e : (⟨g, 0, none⟩ : Addr).add j = ⟨g, j, none⟩ := by simp only [Addr.add_lit, Nat.zero_add]
    rw [e]
    exact k.cell j hj)

set_option maxHeartbeats 1000000 in
set_option maxRecDepth 100000 in
theorem small_any (s : ByteArray) (hs : s.size ≤ 100000) (w : World) :
    Calls Tryz.prog 63 #[.string s] w fun e w' => e = .returned (.string (strL (foldL s.data.toList))) ∧ Below w.heap.size w w' := by
  obtain ⟨l, hl⟩ : ∃ l, s.data.toList = l := ⟨_, rfl⟩
  have hsl : s.size = l.length := by rw [← hl]; exact size_l s
  have hb := below_bytesWorld w s
  have hr := RowU.conv w s
  have hs1 : (bytesWorld w 5 s).heap.size = w.heap.size + 1 := bytesWorld_size w 5 s
  obtain ⟨cap, w1, hcv, hb, hr, hs1⟩ : ∃ cap w1, (convert 9 22 (.string s)).run Tryz.prog w = .ok (.slice (some ⟨w.heap.size, 0, none⟩) l.length cap) w1 ∧ Below w.heap.size w w1 ∧ RowU w1 w.heap.size l ∧ w1.heap.size = w.heap.size + 1 := by
    refine ⟨grownCap w s.size 0 5, bytesWorld w 5 s, ?_, hb, by rw [← hl]; exact hr, hs1⟩
    rw [← hsl]
    exact Lib.run_convert_string_bytes w 9 22 5 s Tryz.underlying9 Tryz.underlying22 Tryz.underlying5
  rw [hl]
  have hll : l.length ≤ 100000 := by omega
  obtain ⟨n, hn⟩ : ∃ n, l.length = n := ⟨_, rfl⟩
  rw [hn] at hcv hll
  generalize hg : w.heap.size = g at *
  have HB := Lib.hid hb
  have HR := Lib.hid hr
  have HC := Lib.hid hcv
  have HN := Lib.hid hn
  clear hb hr hcv hs hsl hl hn hg
  go_enter Tryz.func63, Tryz.ntmps63
  go_wp2
  rw [HC.out]
  simp only [Result.andThen]
  rw [Oper.upon_value]
  go_wp2
  go_loopw [10] (fun i wr => ∃ k : Nat, i = .int .i64 k ∧ k ≤ n ∧ RowU wr g (midL l k) ∧ Below g w wr ∧ g < wr.heap.size) (fun i _ => n - (RowKit.intOf i).toNat)
  case atStart => exact ⟨0, rfl, by omega, by rw [midL_zero]; exact HR.out, HB.out, by omega⟩
  case round =>
    obtain ⟨k, rfl, hk, hrow, hbw, hgs⟩ := hrel
    have HBW := Lib.hid hbw
    have HROW := Lib.hid hrow
    by_cases hkn : k < n
    · have hkz : (k : Int) < (n : Int) := by omega
      have hkl : k < l.length := by rw [HN.out]; exact hkn
      have hkl2 : k < (midL l k).length := by rw [midL_length]; exact hkl
      obtain ⟨c, hc⟩ : ∃ c, l[k] = c := ⟨_, rfl⟩
      have hcell := hrow.cell k hkl2
      have hfree := hrow.free k hkl2
      rw [midL_at l k hkl, hc] at hcell
      obtain ⟨x, hx⟩ : ∃ x, c.toNat = x := ⟨_, rfl⟩
      have hx2 : x < 256 := by rw [← hx]; exact c.toNat_lt
      rw [hx] at hcell
      have hk1 : (k : Int) + 1 ≤ 9223372036854775807 := by omega
      by_cases h1 : 65 ≤ x
      · have h1z : (65 : Int) ≤ (x : Int) := by omega
        by_cases h2 : x ≤ 90
        · have h2z : (x : Int) ≤ 90 := by omega
          have ha1 : IntKind.u8.wrap ((x : Int) + 97) = (x : Int) + 97 := IntWalk.u8_in _ (by omega)
          have ha2 : IntKind.u8.wrap ((x : Int) + 97 - 65) = (x : Int) + 32 := by rw [IntWalk.u8_in _ (by omega)]; omega
          have hlow : (lowB c).toNat = x + 32 := by rw [lowB_nat c (by omega), hx]
          have hset := hrow.set k hkl2 (lowB c)
          rw [hlow, ← hc, ← midL_step l k hkl] at hset
          have HSET := Lib.hid hset
          have he : ((x + 32 : Nat) : Int) = (x : Int) + 32 := by omega
          rw [he] at HSET
          clear hset hlow hrow hbw hx hc he
          go_wp2
          go_roundw
          case rel => exact ⟨k + 1, by simp, by omega, HSET.out, HBW.out.setCell (p := ⟨g, k, none⟩) (Nat.le_refl _) _, by simpa using hgs⟩
          case measure => simp [RowKit.intOf]; omega
        · have h2z : ¬ ((x : Int) ≤ 90) := by omega
          have hkeep := midL_keep l k hkl (by rw [hc, hx]; omega)
          have HK := Lib.hid hkeep
          clear hkeep hrow hbw hx hc
          go_wp2
          go_roundw
          case rel => exact ⟨k + 1, by simp, by omega, by rw [HK.out]; exact HROW.out, HBW.out, hgs⟩
          case measure => simp [RowKit.intOf]; omega
      · have h1z : ¬ ((65 : Int) ≤ (x : Int)) := by omega
        have hkeep := midL_keep l k hkl (by rw [hc, hx]; omega)
        have HK := Lib.hid hkeep
        clear hkeep hrow hbw hx hc
        go_wp2
        go_roundw
        case rel => exact ⟨k + 1, by simp, by omega, by rw [HK.out]; exact HROW.out, HBW.out, hgs⟩
        case measure => simp [RowKit.intOf]; omega
    · have hkz : ¬ ((k : Int) < (n : Int)) := by omega
      have hend := back_any wr g cap (midL l k) hrow
      rw [midL_length, HN.out, midL_all l k (by rw [HN.out]; omega)] at hend
      have HE := Lib.hid hend
      clear hend hrow hbw
      go_wp2
      rw [HE.out]
      simp only [Result.andThen]
      rw [Oper.upon_value]
      go_wp2
      go_ret
      exact ⟨rfl, HBW.out⟩
set_option maxHeartbeats 1000000 in
set_option maxRecDepth 100000 in
theorem fold_any (s : ByteArray) (hs : s.size ≤ 100000) (w : World) :
    Calls Tryz.prog 39 #[.string s] w fun e w' => e = .returned (.string (strL (foldL s.data.toList))) ∧ Below w.heap.size w w' := by
  obtain ⟨l, hl⟩ : ∃ l, s.data.toList = l := ⟨_, rfl⟩
  have hsl : s.size = l.length := by rw [← hl]; exact size_l s
  have hb := below_bytesWorld w s
  have hr := RowU.conv w s
  have hs1 : (bytesWorld w 5 s).heap.size = w.heap.size + 1 := bytesWorld_size w 5 s
  obtain ⟨cap, w1, hcv, hb, hr, hs1⟩ : ∃ cap w1, (convert 9 22 (.string s)).run Tryz.prog w = .ok (.slice (some ⟨w.heap.size, 0, none⟩) l.length cap) w1 ∧ Below w.heap.size w w1 ∧ RowU w1 w.heap.size l ∧ w1.heap.size = w.heap.size + 1 := by
    refine ⟨grownCap w s.size 0 5, bytesWorld w 5 s, ?_, hb, by rw [← hl]; exact hr, hs1⟩
    rw [← hsl]
    exact Lib.run_convert_string_bytes w 9 22 5 s Tryz.underlying9 Tryz.underlying22 Tryz.underlying5
  rw [hl]
  have hll : l.length ≤ 100000 := by omega
  obtain ⟨n, hn⟩ : ∃ n, l.length = n := ⟨_, rfl⟩
  rw [hn] at hcv hll
  generalize hg : w.heap.size = g at *
  have HB := Lib.hid hb
  have HR := Lib.hid hr
  have HC := Lib.hid hcv
  have HN := Lib.hid hn
  clear hb hr hcv hs hsl hl hn hg
  go_enter Tryz.func39, Tryz.ntmps39
  go_wp2
  rw [HC.out]
  simp only [Result.andThen]
  rw [Oper.upon_value]
  go_wp2
  go_loopw [4] (fun i wr => ∃ k : Nat, i = .int .i64 k ∧ k ≤ n ∧ RowU wr g (midL l k) ∧ Below g w wr ∧ g < wr.heap.size) (fun i _ => n - (RowKit.intOf i).toNat)
  case atStart => exact ⟨0, rfl, by omega, by rw [midL_zero]; exact HR.out, HB.out, by omega⟩
  case round =>
    obtain ⟨k, rfl, hk, hrow, hbw, hgs⟩ := hrel
    have HBW := Lib.hid hbw
    have HROW := Lib.hid hrow
    by_cases hkn : k < n
    · have hkz : (k : Int) < (n : Int) := by omega
      have hkl : k < l.length := by rw [HN.out]; exact hkn
      have hkl2 : k < (midL l k).length := by rw [midL_length]; exact hkl
      obtain ⟨c, hc⟩ : ∃ c, l[k] = c := ⟨_, rfl⟩
      have hcell := hrow.cell k hkl2
      have hfree := hrow.free k hkl2
      rw [midL_at l k hkl, hc] at hcell
      obtain ⟨x, hx⟩ : ∃ x, c.toNat = x := ⟨_, rfl⟩
      have hx2 : x < 256 := by rw [← hx]; exact c.toNat_lt
      rw [hx] at hcell
      have hk1 : (k : Int) + 1 ≤ 9223372036854775807 := by omega
      by_cases h1 : 65 ≤ x
      · have h1z : (65 : Int) ≤ (x : Int) := by omega
        by_cases h2 : x ≤ 90
        · have h2z : (x : Int) ≤ 90 := by omega
          have ha1 : IntKind.u8.wrap ((x : Int) + 32) = (x : Int) + 32 := IntWalk.u8_in _ (by omega)
          have hlow : (lowB c).toNat = x + 32 := by rw [lowB_nat c (by omega), hx]
          have hset := hrow.set k hkl2 (lowB c)
          rw [hlow, ← hc, ← midL_step l k hkl] at hset
          have HSET := Lib.hid hset
          have he : ((x + 32 : Nat) : Int) = (x : Int) + 32 := by omega
          rw [he] at HSET
          clear hset hlow hrow hbw hx hc he
          go_wp2
          go_roundw
          case rel => exact ⟨k + 1, by simp, by omega, HSET.out, HBW.out.setCell (p := ⟨g, k, none⟩) (Nat.le_refl _) _, by simpa using hgs⟩
          case measure => simp [RowKit.intOf]; omega
        · have h2z : ¬ ((x : Int) ≤ 90) := by omega
          have hkeep := midL_keep l k hkl (by rw [hc, hx]; omega)
          have HK := Lib.hid hkeep
          clear hkeep hrow hbw hx hc
          go_wp2
          go_roundw
          case rel => exact ⟨k + 1, by simp, by omega, by rw [HK.out]; exact HROW.out, HBW.out, hgs⟩
          case measure => simp [RowKit.intOf]; omega
      · have h1z : ¬ ((65 : Int) ≤ (x : Int)) := by omega
        have hkeep := midL_keep l k hkl (by rw [hc, hx]; omega)
        have HK := Lib.hid hkeep
        clear hkeep hrow hbw hx hc
        go_wp2
        go_roundw
        case rel => exact ⟨k + 1, by simp, by omega, by rw [HK.out]; exact HROW.out, HBW.out, hgs⟩
        case measure => simp [RowKit.intOf]; omega
    · have hkz : ¬ ((k : Int) < (n : Int)) := by omega
      have hend := back_any wr g cap (midL l k) hrow
      rw [midL_length, HN.out, midL_all l k (by rw [HN.out]; omega)] at hend
      have HE := Lib.hid hend
      clear hend hrow hbw
      go_wp2
      rw [HE.out]
      simp only [Result.andThen]
      rw [Oper.upon_value]
      go_wp2
      go_ret
      exact ⟨rfl, HBW.out⟩
end
end Go.Proofs.YtnncldnpkfjhbaaGreatDoor
