/-
  The program's Encode, at every text.
-/
import Derived.Test.YtcddppgnmephnaaDoorSign
import Derived.Test.YtcddppgnmephnaaDoorSpec
import Derived.Test.YtcddppgnmephnaaDoorShelf
import Derived.BigCall
namespace Go.Proofs.YtcddppgnmephnaaDoor
set_option linter.unusedVariables false
open Go.RowKit Go.Lib

/-- the two tables of the library's, where they lie -/
def Tabs (w : World) : Prop := Lib.Utf8Tabs 0 1 w
theorem Tabs.size {w : World} (h : Tabs w) : 2 ≤ w.heap.size := by
  have h1 := (h.2 0 (by decide)).1
  unfold World.cell? at h1
  rcases Nat.lt_or_ge 1 w.heap.size with h' | h'
  · exact h'
  · simp [Array.getElem?_eq_none (show w.heap.size ≤ 1 from h')] at h1
theorem Tabs.below {w w' : World} {S : Nat} (h : Tabs w) (hb : Below S w w') (hS : 2 ≤ S) : Tabs w' := by
  refine ⟨fun c hc => ?_, fun i hi => ⟨?_, ?_⟩⟩
  · exact (hb.cell (p := ⟨0, c, none⟩) (by simp; omega)).trans (h.1 c hc)
  · exact (hb.cell (p := ⟨1, 2 * i, none⟩) (by simp; omega)).trans (h.2 i hi).1
  · exact (hb.cell (p := ⟨1, 2 * i + 1, none⟩) (by simp; omega)).trans (h.2 i hi).2

/-- what Encode answers -/
def encV (l : List UInt8) : Value := if validD l then .tuple #[.string ⟨(encS l).toArray⟩, .int .i64 0] else .tuple #[.string ⟨#[]⟩, .int .i64 9]

theorem WrAt.iterAt {w : World} {p B k : Nat} {W : Wr} {s : ByteArray} {pos : Nat} (h : WrAt w p B W) (hk : w.heap[k]? = some (.stringIter s pos)) (q : Nat) : WrAt (w.iterAt k s q) p B W := by
  obtain ⟨a, v, ha, c⟩ := h
  have hkp : p ≠ k := by
    intro e
    have := c.row
    rw [e, hk] at this
    cases this
  refine ⟨a, v, ha, ⟨(iterAt_other w k p s q hkp).trans c.row, ?_, c.ne, c.base, c.nil⟩⟩
  refine ⟨c.own.1, ?_⟩
  rcases c.own.2 with h2 | ⟨g, cap, cur, fz, rfl, hg, hh, r⟩
  · exact .inl h2
  · have hgk : g ≠ k := by
      intro e
      rw [e, hk] at hh
      cases hh
    exact .inr ⟨g, cap, cur, fz, rfl, hg, (iterAt_other w k g s q hgk).trans hh, r⟩
theorem WrAt.alloc {w : World} {p B : Nat} {W : Wr} (h : WrAt w p B W) (o : Obj) : WrAt (w.alloc o) p B W := by
  obtain ⟨a, v, ha, c⟩ := h
  refine ⟨a, v, ha, ⟨(Lib.alloc_old w o p c.lt).trans c.row, ?_, c.ne, c.base, c.nil⟩⟩
  exact c.own.alloc o
theorem WrAt.new (w : World) : WrAt (w.alloc (.cells #[.pointer none, .slice none 0 0, .bool false, .int .u32 0, .int .i64 0] 36)) w.heap.size w.heap.size w0 :=
  ⟨.pointer none, .slice none 0 0, .inl rfl, ⟨heap_alloc_new w _, ⟨rfl, .inl ⟨rfl, rfl⟩⟩, by simp [Value.ownBlock], Nat.le_refl _, fun _ => rfl⟩⟩
theorem WrAt.lt {w : World} {p B : Nat} {W : Wr} (h : WrAt w p B W) : p < w.heap.size := by
  obtain ⟨a, v, ha, c⟩ := h
  exact c.lt

set_option maxHeartbeats 2000000 in
set_option maxRecDepth 100000 in
theorem enc_any (s : ByteArray) (hs : s.size ≤ 100000) (w : World) (hT : Tabs w) :
    Calls Tryd.prog 10 #[.string s] w fun e w' => e = .returned (encV s.data.toList) ∧ Below w.heap.size w w' := by
  have hv := Tryd.utf8_ValidString s w (by omega) hT
  unfold encV
  cases hval : validD s.data.toList with
  | false =>
    rw [hval] at hv
    go_enter Tryd.func10, Tryd.ntmps10
    go_wp2_with (go_at_call 17; refine hv.mono ?_; rintro e w1 ⟨rfl, hb1⟩)
    exact bodyPost_ret (v := .tuple #[.string ⟨#[]⟩, .int .i64 9]) (by simp [results, Tryd.results10, go_sem]) rfl ⟨rfl, hb1⟩
  | true =>
    rw [hval] at hv
    go_enter Tryd.func10, Tryd.ntmps10
    go_wp2_with (go_at_call 17; refine hv.mono ?_; rintro e w1 ⟨rfl, hb1⟩; have HB := Lib.hid hb1; have hsz := hb1.size; clear hb1)
    obtain ⟨w2, hw2⟩ : ∃ w2, w2 = w1.alloc (.cells #[.pointer none, .slice none 0 0, .bool false, .int .u32 0, .int .i64 0] 36) := ⟨_, rfl⟩
    have hA2 : WrAt w2 w1.heap.size w1.heap.size w0 := by rw [hw2]; exact WrAt.new w1
    have hB2 : Below w1.heap.size w1 w2 := by rw [hw2]; exact (Below.refl _ _).alloc (Nat.le_refl _) _
    have hs2 : w2.heap.size = w1.heap.size + 1 := by rw [hw2]; simp
    rw [← hw2]
    clear hw2
    obtain ⟨p, hp⟩ : ∃ p, w1.heap.size = p := ⟨_, rfl⟩
    rw [hp] at hA2 hB2 hs2 ⊢
    have HS := Lib.hid (And.intro hval hp)
    clear hval hv hp
    go_loopw [] (fun wr => ∃ (pos : Nat) (W : Wr), WrAt wr p p W ∧ wr.heap[p + 1]? = some (.stringIter s pos) ∧ Below p w1 wr ∧ W.Good ∧ (runesD (s.data.toList.drop pos)).foldl signS W = (runesD s.data.toList).foldl signS w0 ∧ W.out.length ≤ 8 * pos ∧ pos ≤ s.size) (fun wr => s.size - wr.iterPos (p + 1))
    case atStart =>
      refine ⟨0, w0, hA2.alloc _, ?_, (hB2.alloc (by omega) _), good0, by simp, by simp [w0], by omega⟩
      have := World.iter_heap w2 s 0
      rw [hs2] at this
      simpa using this
    case round =>
      obtain ⟨pos, W, hA, hit, hbw, hg, hf, hl, hps⟩ := hrel
      have hsz2 : p + 1 < wr.heap.size := (Array.getElem?_eq_some_iff.1 hit).1
      have hdd := decodeL_drop s pos
      by_cases hp : pos < s.size
      · have hnx : ∀ ty, (Instr.next (.pointer (some ⟨p + 1, 0, none⟩)) true ty).run Tryd.prog wr = _ := fun ty => Lib.run_next_any_at wr (p + 1) s pos ty hit hp
        have hne : s.data.toList.drop pos ≠ [] := by
          intro e
          have := congrArg List.length e
          rw [List.length_drop, ← Lib.size_eq] at this
          simp at this
          omega
        have hru := decodeL_rune (s.data.toList.drop pos)
        have hwl := decodeL_le (s.data.toList.drop pos) hne
        have hw1 := decodeL_width (s.data.toList.drop pos)
        rw [List.length_drop, ← Lib.size_eq] at hwl
        rw [runesD_step _ hne, List.drop_drop] at hf
        rw [hdd] at hru hwl hw1 hf
        have hA2 := hA.iterAt hit (pos + (Utf8.decode s pos).2)
        have hit2 := Lib.iterAt_heap wr (p + 1) s pos (pos + (Utf8.decode s pos).2) hit
        have hbw2 := Lib.below_iterAt hbw (k := p + 1) (by omega) s (pos + (Utf8.decode s pos).2)
        obtain ⟨sg1, sg2⟩ := signS_good hg (Utf8.decode s pos).1 hru
        have hsign := sign_any p p W (Utf8.decode s pos).1 hru _ hA2 hg (by omega)
        have HS2 := Lib.hid (And.intro hit2 hbw2)
        have HF := Lib.hid hf
        clear hA2 hit2 hbw2 hf hg hA hdd
        go_wp2_with (go_at_call 18; refine hsign.mono ?_; rintro e w3 ⟨rfl, h3, hf3⟩)
        go_roundw
        case rel =>
          refine ⟨pos + (Utf8.decode s pos).2, signS W (Utf8.decode s pos).1, h3, hf3.2.iter HS2.out.1 (by omega), HS2.out.2.trans hf3.1, sg1, HF.out, by omega, by omega⟩
        case measure =>
          have hit3 := hf3.2.iter HS2.out.1 (by omega)
          simp only [World.iterPos, hit3, hit]
          omega
      · have hnx : ∀ ty, (Instr.next (.pointer (some ⟨p + 1, 0, none⟩)) true ty).run Tryd.prog wr = _ := fun ty => Lib.run_next_end_at wr (p + 1) s pos ty hit hp
        have hd : s.data.toList.drop pos = [] := List.drop_eq_nil_of_le (by rw [← Lib.size_eq]; omega)
        rw [hd, runesD_nil, List.foldl_nil] at hf
        obtain ⟨e1, e2, e3⟩ := endS_good hg
        have hend := end_any p p W wr hA hg (by omega)
        have HB2 := Lib.hid hbw
        have HF := Lib.hid hf
        clear hbw hf hA hd hdd
        go_wp2_with (first
          | (go_at_call 19; refine hend.mono ?_; rintro e w3 ⟨rfl, h3, hf3⟩; have H3 := Lib.hid h3; have HF3 := Lib.hid hf3; clear h3 hf3)
          | (go_at_call 20; refine (str_any p p (endS W) _ H3.out).mono ?_; rintro e w4 ⟨rfl, hb4⟩))
        go_ret2
        refine ⟨?_, HB.out.trans ?_⟩
        · simp only [HF.out]; rfl
        · have h1 := (HB2.out.trans HF3.out.1).trans hb4
          rw [← HS.out.2] at h1
          exact h1.mono hsz
end Go.Proofs.YtcddppgnmephnaaDoor
