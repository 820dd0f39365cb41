/-
  Rows of messages: of any folder, and of a call's own; See.
-/
import Derived.Test.YtligplnmgoailaaHdD
namespace Go.Proofs.Ytligplnmgoailaa
set_option linter.unusedVariables false
open Go.RowKit
attribute [local go_sem] Oper.semAt_some

def heldsC (L : List HeldD) : List Value := L.flatMap fun h => (heldA h).toList
theorem heldsC_len (L : List HeldD) : (heldsC L).length = L.length * 9 := by
  induction L with
  | nil => rfl
  | cons h r ih => simp only [heldsC, List.flatMap_cons, List.length_append] at ih ⊢; rw [ih]; simp [heldA]; omega
theorem heldsC_snoc (L : List HeldD) (h : HeldD) : heldsC (L ++ [h]) = heldsC L ++ (heldA h).toList := by simp [heldsC]
theorem heldsC_at (L : List HeldD) (i j : Nat) (hi : i < L.length) (hj : j < 9) : (heldsC L)[i * 9 + j]? = (heldA L[i])[j]? := by
  induction L generalizing i with
  | nil => simp at hi
  | cons h r ih =>
    cases i with
    | zero =>
      simp only [heldsC, List.flatMap_cons, Nat.zero_mul, Nat.zero_add, List.getElem_cons_zero]
      rw [List.getElem?_append_left (by simpa [heldA] using hj), Array.getElem?_toList]
    | succ i =>
      have := ih i (by simpa using hi)
      simp only [heldsC, List.flatMap_cons, List.getElem_cons_succ] at this ⊢
      rw [List.getElem?_append_right (by simp [heldA]; omega), ← this]
      congr 1
      simp [heldA]
      omega
/-- all of a message but where its lists lie -/
def keyD (h : HeldD) := (h.uid, h.up, h.F, h.date, h.size, h.has, h.B, h.gone, h.used)
theorem HAlike.key {a b : HeldD} (h : HAlike a b) : keyD a = keyD b := by
  unfold keyD
  rw [h.uid, h.up, h.F, h.date, h.size, h.has, h.B, h.gone, h.used]
/-- a row of messages, wherever it lies -/
structure HeldsIn (w : World) (v : Value) (L : List HeldD) : Prop where
  row : RowV w 9 v L.length (heldsC L)
  ok : ∀ h ∈ L, HeldOk w h
theorem HeldsIn.below {w w' : World} {v : Value} {L : List HeldD} (h : HeldsIn w v L) (hb : Below w.heap.size w w') : HeldsIn w' v L := ⟨h.row.below hb, fun x hx => (h.ok x hx).below hb⟩
/-- a row of messages of the call's own -/
structure OwnL (w : World) (C : Nat) (v : Value) (L : List HeldD) : Prop where
  row : w.ownsRow C 49 9 v L.length (heldsC L)
  ok : ∀ h ∈ L, HeldOk w h
  ap : ∀ h ∈ L, ∀ g, v.ownBlock = some g → (0 < h.F.length → h.fv.ownBlock ≠ some g) ∧ (0 < h.B.length → h.bv.ownBlock ≠ some g)
theorem OwnL.helds {w : World} {C : Nat} {v : Value} {L : List HeldD} (h : OwnL w C v L) : HeldsIn w v L := ⟨owns_row h.row, h.ok⟩
theorem ownL_nil (w : World) (C : Nat) : OwnL w C (.slice none 0 0) [] := ⟨World.ownsRow_nil _ _ _ _, (fun _ h => nomatch h), (fun _ h => nomatch h)⟩
theorem OwnL.below {w w' : World} {C : Nat} {v : Value} {L : List HeldD} (h : OwnL w C v L) (hb : Below w.heap.size w w') : OwnL w' C v L :=
  ⟨owns_keep h.row hb (owns_lt h.row), fun x hx => (h.ok x hx).below hb, h.ap⟩
theorem RowV.block {w : World} {size n : Nat} {v : Value} {xs : List Value} (h : RowV w size v n xs) (h0 : 0 < n) (hs : 0 < size) : ∀ k, v.ownBlock = some k → k < w.heap.size := by
  obtain ⟨b, off, a, cap, rfl, -, -, hl, ha, -⟩ := h.shape
  obtain ⟨rfl, hb⟩ := ha (by rw [hl]; exact Nat.mul_pos h0 hs)
  intro k hk
  simp only [Value.ownBlock, Option.some.injEq] at hk
  omega
theorem RowV.grown {w w' : World} {size n : Nat} {v : Value} {xs : List Value} {row : Option Nat} (h : RowV w size v n xs) (hg : w.grownBy w' row) (hr : ∀ g, row = some g → 0 < n → v.ownBlock ≠ some g) : RowV w' size v n xs := by
  obtain ⟨a, cap, rfl, hc, hm, hl, hn, hcell⟩ := h
  refine ⟨a, cap, rfl, hc, hm, hl, hn, fun x hx i hi => ?_⟩
  have h1 := hcell x hx i hi
  subst hx
  rw [← h1]
  have h0 : 0 < n := by
    rcases Nat.eq_zero_or_pos n with h | h
    · subst h; omega
    · exact h
  have hlt := World.block_lt_of_cell? w _ h1
  refine World.cell?_of_block (hg.block _ hlt (fun e => ?_))
  have hb : (x.add i).block = x.block := by unfold Addr.add; split <;> rfl
  rw [hb] at e
  exact hr _ e.symm h0 rfl
theorem HeldOk.grown {w w' : World} {h : HeldD} {row : Option Nat} (k : HeldOk w h) (hg : w.grownBy w' row) (hr : ∀ g, row = some g → (0 < h.F.length → h.fv.ownBlock ≠ some g) ∧ (0 < h.B.length → h.bv.ownBlock ≠ some g)) : HeldOk w' h :=
  ⟨⟨k.rf.1.grown hg (fun g e => (hr g e).1), k.rf.2⟩, ⟨k.rb.1.grown hg (fun g e => (hr g e).2), k.rb.2⟩⟩
theorem heldA_cells (w : World) (h : HeldD) (k : HeldOk w h) : ∀ u ∈ (heldA h).toList, u.oneCell' = true := by
  obtain ⟨_, _, e1, _⟩ := k.rf.1
  obtain ⟨_, _, e2, _⟩ := k.rb.1
  intro u hu
  simp only [heldA, List.mem_cons, List.not_mem_nil, or_false] at hu
  rcases hu with rfl | rfl | rfl | rfl | rfl | rfl | rfl | rfl | rfl
  · rfl
  · rfl
  · rw [e1]; rfl
  · rfl
  · rfl
  · rfl
  · rw [e2]; rfl
  · rfl
  · rfl
/-- 'append' of one message to a row of the call's own -/
theorem appL {ops : Array Oper} {rest : List Oper} {o : Oper} {a : Act} {Q : Exit → Act → World → Prop} (hgd : o.guard = none) (s x : Operand)
    (ho : o.op = .call { callee := .builtin .append, args := #[s, x], argTypes := #[23, 23] }) {wr : World} {C : Nat} {v : Value} {L : List HeldD} {d : HeldD} {cs : Array Value}
    {g : Nat} (hs : a.eval s = v) (hx : a.eval x = .slice (some ⟨g, 0, none⟩) 1 1) (hg : g = wr.heap.size) (hcs : cs = heldA d) (hown : OwnL wr C v L) (hd : HeldOk wr d)
    (hap : ∀ g, v.ownBlock = some g → (0 < d.F.length → d.fv.ownBlock ≠ some g) ∧ (0 < d.B.length → d.bv.ownBlock ≠ some g)) (hC : C ≤ wr.heap.size) (hn : L.length ≤ 1000000)
    (h : ∀ v' w2, OwnL w2 C v' (L ++ [d]) → Below C wr w2 → wpList Try.prog ops Q rest (a.put o.dst v') w2) :
    wpList Try.prog ops Q (o :: rest) a (wr.alloc (.cells cs 49)) := by
  subst hg hcs
  obtain ⟨i0, hi, hz0, hz1, hz2⟩ := info_parts Try.info49
  have hba : Below wr.heap.size wr (wr.alloc (.cells (heldA d) 49)) := (Below.refl _ _).alloc (Nat.le_refl _) _
  have hown2 := hown.below hba
  have hd2 := hd.below hba
  refine wpList_append_own_at _ hgd s x 23 ho C 49 i0 _ 9 104 Try.underlying23 hi hz0 hz1 hz2 rfl (by decide) v L.length (heldsC L) hs hown2.row ⟨wr.heap.size, 0, none⟩ 1 1 (heldA d).toList hx rfl (row_new _ _ _ _) (heldA_cells wr d hd) (by simp [maxLen]; omega) (by omega) (by simp; omega) ?_
  intro v' w2 ho' hgr _ hat
  refine h v' w2 ⟨by rw [heldsC_snoc, List.length_append]; exact ho', fun y hy => ?_, fun y hy g hg => ?_⟩ ((hba.mono hC).grown hgr (by simp; omega) (owns_le hown.row))
  · rcases List.mem_append.1 hy with hy | hy
    · exact (hown2.ok y hy).grown hgr (fun g e => hown.ap y hy g e)
    · obtain rfl := List.mem_singleton.1 hy
      exact hd2.grown hgr (fun g e => hap g e)
  · have hok : HeldOk wr y := by
      rcases List.mem_append.1 hy with hy | hy
      · exact hown.ok y hy
      · obtain rfl := List.mem_singleton.1 hy
        exact hd
    rcases hat with e | e
    · rw [e] at hg
      rcases List.mem_append.1 hy with hy | hy
      · exact hown.ap y hy g hg
      · obtain rfl := List.mem_singleton.1 hy
        exact hap g hg
    · rw [e] at hg
      simp only [World.size_alloc, Option.some.injEq] at hg
      exact ⟨fun h0 he => by have := hok.rf.1.block h0 (by decide) _ he; omega, fun h0 he => by have := hok.rb.1.block h0 (by decide) _ he; omega⟩
/-- those that clients see -/
def seenL (L : List HeldD) : List HeldD := L.filter fun h => !h.gone
theorem seenL_snoc (L : List HeldD) (h : HeldD) : seenL (L ++ [h]) = if h.gone then seenL L else seenL L ++ [h] := by
  unfold seenL
  rw [List.filter_append]
  cases hg : h.gone <;> simp [hg]
/-- a folder as cells -/
def foldA (nm : ByteArray) (va nx up : Int) (gone : Bool) (lv : Value) : Array Value := #[.string nm, .int .u32 va, .int .u32 nx, .int .u32 up, .bool gone, lv]

/-- what See answers -/
def SeePost (L : List HeldD) (w w' : World) (v : Value) : Prop := ∃ M, OwnL w' w.heap.size v M ∧ (∀ h ∈ M, OwnFrom w.heap.size h) ∧ M.map keyD = (seenL L).map keyD ∧ Below w.heap.size w w'
set_option maxRecDepth 100000 in
set_option maxHeartbeats 8000000 in
theorem see_any (nm : ByteArray) (va nx up : Int) (gone : Bool) (lv : Value) (L : List HeldD) (w : World) (hL : HeldsIn w lv L) (hn : L.length ≤ 1000) :
    Calls Try.prog 23 #[.agg (foldA nm va nx up gone lv)] w fun e w' => ∃ v, e = .returned v ∧ SeePost L w w' v := by
  have HL := Lib.hid hL
  obtain ⟨lb, off, la, lc, rfl, -, -, -, hla, hcell⟩ := hL.row.shape
  have HLA := Lib.hid hla
  have HC := Lib.hid hcell
  clear hL hla hcell
  unfold foldA
  go_enter Try.func23, Try.ntmps23
  go_wp2_with fail
  go_loopw [3, 9] (fun ov iv wr => ∃ (i : Nat) (M : List HeldD), iv = .int .i64 i ∧ i ≤ L.length ∧ M.length ≤ i ∧ OwnL wr w.heap.size ov M ∧ (∀ h ∈ M, OwnFrom w.heap.size h) ∧ Hid (M.map keyD = (seenL (L.take i)).map keyD) ∧ Below w.heap.size w wr) (fun _ iv _ => L.length - (RowKit.intOf iv).toNat)
  case atStart => exact ⟨0, [], rfl, Nat.zero_le _, Nat.le_refl _, (ownL_nil w _).below ((Below.refl _ _).alloc (Nat.le_refl _) _), (fun _ h => nomatch h), Lib.hid (by simp [seenL]), (Below.refl _ _).alloc (Nat.le_refl _) _⟩
  case round =>
    obtain ⟨i, M, rfl, hi, hM, hown, hfrom, hkey, hb⟩ := hrel
    have HFR := Lib.hid hfrom
    have HO := Lib.hid hown
    have HB := Lib.hid hb
    clear hown hb hfrom
    by_cases hlt : i < L.length
    · have hii : (i : Int) < (L.length : Int) := by omega
      have hpos : 0 < (heldsC L).length := by rw [heldsC_len]; omega
      obtain ⟨rfl, hlb⟩ := HLA.out hpos
      have hd := HL.out.ok L[i] (List.getElem_mem hlt)
      have hsn := seenL_snoc (L.take i) L[i]
      rw [← List.take_succ_eq_append_getElem hlt] at hsn
      have hcell : ∀ j (hj : j < 9) (u : Value), (heldA L[i])[j]? = some u → wr.cell? ⟨lb, off + i * 9 + j, none⟩ = some u := fun j hj u hu => by
        have h1 := heldsC_at L i j hlt hj
        rw [hu] at h1
        obtain ⟨h2, h3⟩ := List.getElem?_eq_some_iff.1 h1
        rw [Nat.add_assoc, HB.out.cell (p := ⟨lb, off + (i * 9 + j), none⟩) hlb, HC.out (i * 9 + j) h2, h3]
      generalize L[i] = d at *
      obtain ⟨uid, up, fv, F, date, size, has, bv, B, dg, used⟩ := d
      obtain ⟨fa, fc, hfv, -⟩ := id hd.rf.1
      obtain ⟨ba, bc, hbv, -⟩ := id hd.rb.1
      simp only at hfv hbv
      subst hfv hbv
      have a0 : wr.cell? ⟨lb, off + i * 9, none⟩ = some (.int .u32 uid) := hcell 0 (by decide) _ rfl
      have a1 : wr.cell? ⟨lb, off + i * 9 + 1, none⟩ = some (.int .u32 up) := hcell 1 (by decide) _ rfl
      have a2 : wr.cell? ⟨lb, off + i * 9 + 2, none⟩ = some (.slice fa F.length fc) := hcell 2 (by decide) _ rfl
      have a3 : wr.cell? ⟨lb, off + i * 9 + 3, none⟩ = some (.string date) := hcell 3 (by decide) _ rfl
      have a4 : wr.cell? ⟨lb, off + i * 9 + 4, none⟩ = some (.int .i64 size) := hcell 4 (by decide) _ rfl
      have a5 : wr.cell? ⟨lb, off + i * 9 + 5, none⟩ = some (.bool has) := hcell 5 (by decide) _ rfl
      have a6 : wr.cell? ⟨lb, off + i * 9 + 6, none⟩ = some (.slice ba B.length bc) := hcell 6 (by decide) _ rfl
      have a7 : wr.cell? ⟨lb, off + i * 9 + 7, none⟩ = some (.bool dg) := hcell 7 (by decide) _ rfl
      have a8 : wr.cell? ⟨lb, off + i * 9 + 8, none⟩ = some (.int .i64 used) := hcell 8 (by decide) _ rfl
      have HSN := Lib.hid hsn
      have HD : Hid (HeldOk wr ⟨uid, up, .slice fa F.length fc, F, date, size, has, .slice ba B.length bc, B, dg, used⟩) := Lib.hid ⟨⟨(hd.rf.1.below ((Below.refl _ _).trans ⟨HB.out.os, HB.out.tape, HB.out.output, HB.out.size, HB.out.block⟩)), hd.rf.2⟩, ⟨hd.rb.1.below ⟨HB.out.os, HB.out.tape, HB.out.output, HB.out.size, HB.out.block⟩, hd.rb.2⟩⟩
      clear hcell hd hsn hpos
      cases dg with
      | true =>
        go_wp2_with fail
        go_roundw
        case rel => exact ⟨i + 1, M, by go_num, hlt, by omega, HO.out.below ((Below.refl _ _).alloc (Nat.le_refl _) _), HFR.out, Lib.hid (by rw [HSN.out]; exact hkey.out), HB.out.alloc HB.out.size _⟩
        case measure => simp [RowKit.intOf]; omega
      | false =>
        go_wp2_with fail
        have hba : Below wr.heap.size wr (wr.alloc (.cells #[.int .u32 uid, .int .u32 up, .slice fa F.length fc, .string date, .int .i64 size, .bool has, .slice ba B.length bc, .bool false, .int .i64 used] 49)) := (Below.refl _ _).alloc (Nat.le_refl _) _
        have HOA := Lib.hid (HO.out.below hba)
        have HDA := Lib.hid (HD.out.below hba)
        have HBA := Lib.hid (HB.out.trans (hba.mono HB.out.size))
        generalize wr.alloc (.cells #[.int .u32 uid, .int .u32 up, .slice fa F.length fc, .string date, .int .i64 size, .bool has, .slice ba B.length bc, .bool false, .int .i64 used] 49) = wa at *
        clear a0 a1 a2 a3 a4 a5 a6 a7 a8 hba
        refine (held_any ⟨uid, up, .slice fa F.length fc, F, date, size, has, .slice ba B.length bc, B, false, used⟩ wa HDA.out).mono ?_
        rintro e w2 ⟨cs, rfl, ⟨uid', up', fv', F', date', size', has', bv', B', gone', used'⟩, rfl, hal, hok, hof, hb2⟩
        obtain ⟨fa', fc', hfv', -⟩ := id hok.rf.1
        obtain ⟨ba', bc', hbv', -⟩ := id hok.rb.1
        simp only at hfv' hbv'
        subst hfv' hbv'
        have HO2 := Lib.hid (HOA.out.below hb2)
        have HOK2 := Lib.hid hok
        have HB2 : Hid (Below w.heap.size w w2) := Lib.hid (HBA.out.trans (hb2.mono HBA.out.size))
        have HAP : Hid (∀ g, u3.ownBlock = some g → (0 < F'.length → (Value.slice fa' F'.length fc').ownBlock ≠ some g) ∧ (0 < B'.length → (Value.slice ba' B'.length bc').ownBlock ≠ some g)) := Lib.hid (fun g hg => by
          have h1 := owns_lt HOA.out.row g hg
          exact ⟨fun _ e => by have := hof.1 g e; omega, fun _ e => by have := hof.2 g e; omega⟩)
        have HK := Lib.hid hal.key
        have HFR3 : Hid (∀ h ∈ M ++ [(⟨uid', up', .slice fa' F'.length fc', F', date', size', has', .slice ba' B'.length bc', B', gone', used'⟩ : HeldD)], OwnFrom w.heap.size h) := Lib.hid (fun h hh => by
          have hz := HBA.out.size
          rcases List.mem_append.1 hh with hh | hh
          · exact HFR.out h hh
          · obtain rfl := List.mem_singleton.1 hh
            exact ⟨fun k hk => by have := hof.1 k hk; omega, fun k hk => by have := hof.2 k hk; omega⟩)
        have hsz : w.heap.size ≤ w2.heap.size := HB2.out.size
        have hMn : M.length ≤ 1000000 := by omega
        clear hal hok hof hb2
        unfold heldA
        go_wp2_with (at_builtin
                     refine appL (d := ⟨uid', up', .slice fa' F'.length fc', F', date', size', has', .slice ba' B'.length bc', B', gone', used'⟩) rfl (.tmp 16) (.tmp 19) rfl rfl rfl (by simp) rfl HO2.out HOK2.out HAP.out hsz hMn ?_
                     intro v3 w3 ho3 hb3
                     have HO3 := Lib.hid ho3
                     have HB3 := Lib.hid (HB2.out.trans hb3)
                     clear ho3 hb3)
        go_roundw
        case rel => exact ⟨i + 1, M ++ [_], by go_num, hlt, by simp; omega, HO3.out, HFR3.out, Lib.hid (by
          rw [HSN.out, List.map_append, hkey.out]
          simp only [Bool.false_eq_true, if_false, List.map_append, List.map_cons, List.map_nil]
          rw [HK.out]), HB3.out⟩
        case measure => simp [RowKit.intOf]; omega
    · have hii : ¬ (i : Int) < (L.length : Int) := by omega
      obtain rfl : i = L.length := by omega
      have HF : Hid (SeePost L w wr u3) := Lib.hid ⟨M, HO.out, HFR.out, by rw [hkey.out, List.take_length], HB.out⟩
      clear hkey
      go_wp2_with fail
      exact bodyPost_ret (v := u3) (by simp [results, Try.results23, go_sem]) rfl ⟨_, rfl, HF.out⟩
end Go.Proofs.Ytligplnmgoailaa
