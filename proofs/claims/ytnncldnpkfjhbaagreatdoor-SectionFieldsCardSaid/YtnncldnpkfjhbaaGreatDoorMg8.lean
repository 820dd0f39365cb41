/-
  Several texts of one proof, each in a section of its own: Loc, TrimT, Quo.
-/
import Derived.Test.YtnncldnpkfjhbaaGreatDoorMg6
import Derived.Test.YtnncldnpkfjhbaaGreatDoorShelfBMg
import Derived.Lib.FrozenHead2
import Derived.Shelf.Strings.BuilderK
import Derived.Test.YtnncldnpkfjhbaaGreatDoorShelfMg
import Derived.Shelf.Strings.SlTrimAscii
import Derived.Test.YtnncldnpkfjhbaaGreatDoorMg5
import Derived.Deep.CutBlock
namespace Go.Proofs.YtnncldnpkfjhbaaGreatDoor
section
set_option linter.unusedVariables false
open Go.RowKit Go.Lib

theorem info82 : (Tryz.prog.info? 82).map (·.size) = some 2 := by kernel_rfl
theorem ownF_set {w : World} {B p j n : Nat} {v u : Value} {xs : List Value} (h : w.ownsRowF B 5 1 v n xs) (hne : v.ownBlock ≠ some p) : (w.setCell ⟨p, j, none⟩ u).ownsRowF B 5 1 v n xs := by
  refine ⟨h.1, ?_⟩
  rcases h.2 with h2 | ⟨g, cap, cur, fz, rfl, hg, hh, r⟩
  · exact .inl h2
  · exact .inr ⟨g, cap, cur, fz, rfl, hg, by rw [heap_setCell_other _ _ _ _ (show g ≠ p from fun e => hne (by simp [Value.ownBlock, e]))]; exact hh, r⟩
theorem lies82b : liesAt Tryz.prog Tryz.prog.depth 82 (2 / Tryz.prog.cellsOf 82) 0 82 1 = true := by kernel_rfl

/-- a builder in block b, as a walk wants it -/
theorem bldF_at {a : Value} {w : World} {B b : Nat} {bs : List Value} (h : BuilderAtF 82 5 B b a bs w) : ∃ v, w.heap[b]? = some (.cells #[a, v] 82 (0, 0)) ∧ w.ownsRowF B 5 1 v bs.length bs ∧ v.ownBlock ≠ some b ∧ B ≤ b ∧ w.cell? ⟨b, 0, none⟩ = some a ∧ w.cell? ⟨b, 1, none⟩ = some v ∧ w.frozen? ⟨b, 0, none⟩ = false ∧ w.frozen? ⟨b, 1, none⟩ = false ∧ w.shape? b = some (82, 2) := by
  obtain ⟨hB, v, hb, hown, hne⟩ := h
  have c : ∀ j, w.cell? ⟨b, j, none⟩ = (#[a, v] : Array Value)[j]? := fun j => cell_of_row _ _ j _ 82 (0, 0) hb
  have x : ∀ j, w.frozen? ⟨b, j, none⟩ = false := fun j => frozen_of_row _ _ _ _ _ hb
  exact ⟨v, hb, hown, hne, hB, c 0, c 1, x 0, x 1, by simp [World.shape?, hb]⟩

set_option maxHeartbeats 1000000 in
set_option maxRecDepth 100000 in
theorem lcopy_any (B b : Nat) (bs : List Value) (w : World) (h : IsBuilderF 82 5 B b bs w) :
    Calls Tryz.prog 92 #[.pointer (some ⟨b, 0, none⟩)] w fun e w' => e = .returned (.tuple #[]) ∧ BuilderAtF 82 5 B b (.pointer (some ⟨b, 0, none⟩)) bs w' ∧ Below B w w' ∧ OthersKept 5 (some b) w w' := by
  obtain ⟨j, hj, hjs⟩ := Option.map_eq_some_iff.1 info82
  rcases h with h | h
  · obtain ⟨v, hb, hown, hne, hB, c0, c1, x0, x1, hsh⟩ := bldF_at h
    have H := Lib.hid (show BuilderAtF 82 5 B b (.pointer (some ⟨b, 0, none⟩)) bs (w.setCell ⟨b, 0, none⟩ (.pointer (some ⟨b, 0, none⟩))) from ⟨hB, v, heap_setCell_same w b 0 _ _ _ hb, ownF_set hown hne, hne⟩)
    clear h hb hown hne
    go_enter Tryz.func92, Tryz.ntmps92
    go_wp2
    rw [Lib.run_to_unsafe w ⟨b, 0, none⟩ Tryz.underlying80 Tryz.underlying137 hj (by rw [hjs]; decide) hsh (by decide : (0 : Nat) < 2)]
    simp only [Result.andThen]
    rw [Oper.upon_value]
    go_wp2
    rw [run_callFunc_extern Tryz.func107 (by kernel_rfl) (by kernel_rfl) (by kernel_rfl) (e := Extern.AbiNoEscape.same) (by kernel_rfl)]
    rw [Lib.run_noEscape]
    simp only [Result.andThen]
    rw [Oper.upon_value]
    go_wp2
    rw [Lib.run_from_unsafe w ⟨b, 0, none⟩ Tryz.underlying137 Tryz.underlying80 hj hsh lies82b]
    simp only [Result.andThen]
    rw [Oper.upon_value]
    go_wp2
    go_end0
    exact ⟨rfl, H.out, (Below.refl B w).setCell (p := ⟨b, 0, none⟩) hB _, (OthersKept.refl 5 (some b) w).setCell ⟨b, 0, none⟩ rfl _⟩
  · obtain ⟨v, hb, hown, hne, hB, c0, c1, x0, x1, hsh⟩ := bldF_at h
    have H := Lib.hid h
    clear h hb hown hne
    go_enter Tryz.func92, Tryz.ntmps92
    go_wp2
    rw [Lib.run_neq_ptr_same w _ Tryz.underlying80 hj]
    go_wp2
    go_end0
    exact ⟨rfl, H.out, Below.refl B w, OthersKept.refl 5 (some b) w⟩

set_option maxHeartbeats 1000000 in
set_option maxRecDepth 100000 in
theorem lwb_any (B b : Nat) (bs : List Value) (z : Int) (w : World) (h : IsBuilderF 82 5 B b bs w) (hl : bs.length + 1 ≤ 100000000) :
    Calls Tryz.prog 101 #[.pointer (some ⟨b, 0, none⟩), .int .u8 z] w fun e w' => e = .returned .nilIface ∧ BuilderAtF 82 5 B b (.pointer (some ⟨b, 0, none⟩)) (bs ++ [.int .u8 z]) w' ∧ Below B w w' ∧ OthersKept 5 (some b) w w' := by
  obtain ⟨i0, hi, hz0, hz1, hz2⟩ := info_parts Tryz.info5
  have hcc := lcopy_any B b bs w h
  clear h
  go_enter Tryz.func101, Tryz.ntmps101
  go_wp2_with (go_at_call 92; refine hcc.mono ?_)
  rintro e w1 ⟨rfl, h1, hb1, hk1⟩
  obtain ⟨v, hb, hown, hne, hB, c0, c1, x0, x1, hsh⟩ := bldF_at h1
  have hlt : b < w1.heap.size := (Array.getElem?_eq_some_iff.1 hb).1
  have HF := Lib.hid (And.intro hb1 hk1)
  have HB := Lib.hid hb
  have HN := Lib.hid hne
  clear hb1 hk1 h1 hsh hb hne
  go_wp2_with (at_builtin; refine wpList_append_ownF _ rfl _ _ 22 rfl B 5 i0 (.int .u8 0) 1 1 Tryz.underlying22 hi hz0 hz1 hz2 rfl (by decide) _ _ _ rfl (hown.alloc _) ⟨w1.heap.size, 0, none⟩ 1 1 [.int .u8 z] rfl rfl ?c1 ?c2 ?c3 ?c4 ?c5 ?_)
  case c1 =>
    intro j u hj
    match j, hj with
    | 0, hj => simp at hj; subst hj; simp [Addr.add]
  case c2 => intro u hu; simp at hu; subst hu; rfl
  case c3 => unfold maxLen; omega
  case c4 => omega
  case c5 => simp; omega
  intro v' w2 hown' hgrow _
  have hb2 : w2.heap[b]? = some (.cells #[.pointer (some ⟨b, 0, none⟩), v] 82 (0, 0)) := by
    rw [hgrow.block b (by simp; omega) (fun e => HN.out e.symm), Lib.alloc_old w1 _ b hlt]
    exact HB.out
  have d0 : w2.cell? ⟨b, 0, none⟩ = some (.pointer (some ⟨b, 0, none⟩)) := by rw [Lib.cell_of_heap hb2]; rfl
  have d1 : w2.cell? ⟨b, 1, none⟩ = some v := by rw [Lib.cell_of_heap hb2]; rfl
  have f1 : w2.frozen? ⟨b, 1, none⟩ = false := Lib.frozen_of_heap hb2 1
  have hne' : v'.ownBlock ≠ some b := ownBlock_neF hown' hb2 (by decide)
  obtain ⟨g, cap, rfl⟩ : ∃ g cap, v' = .slice (some ⟨g, 0, none⟩) (bs.length + 1) cap := by
    rcases hown'.2 with ⟨_, h0⟩ | ⟨g, cap, cur, fz, hv, _⟩
    · omega
    · exact ⟨g, cap, hv⟩
  go_wp2
  go_ret
  refine ⟨rfl, ⟨hB, _, heap_setCell_same w2 b 1 _ _ _ hb2, ?_, hne'⟩, ?_, ?_⟩
  · simp only [List.length_append, List.length_singleton]
    exact ownF_set hown' hne'
  · exact HF.out.1.trans ((((Below.refl B w1).alloc (by omega) _).grown hgrow (by simp; omega) (fun k hk => (hown.lt k hk).1)).setCell (p := ⟨b, 1, none⟩) hB _)
  · exact HF.out.2.trans ((((OthersKept.refl 5 (some b) w1).alloc _).grown hgrow (Lib.ownsRowF_kind (hown.alloc _))).setCell ⟨b, 1, none⟩ rfl _)
theorem bldF_below {w w' : World} {B b : Nat} {bs : List Value} (h : IsBuilderF 82 5 B b bs w) (hb : Below w.heap.size w w') : IsBuilderF 82 5 B b bs w' := by
  have one : ∀ {p : Value}, BuilderAtF 82 5 B b p bs w → BuilderAtF 82 5 B b p bs w' := by
    rintro p ⟨hB, v, h1, hown, hne⟩
    have hlt : b < w.heap.size := (Array.getElem?_eq_some_iff.1 h1).1
    refine ⟨hB, v, (hb.block b hlt).trans h1, ⟨hown.1, ?_⟩, hne⟩
    rcases hown.2 with hn | ⟨g, cap, cur, fz, hv, hbg, hg, rest⟩
    · exact .inl hn
    · have hgl : g < w.heap.size := (Array.getElem?_eq_some_iff.1 hg).1
      exact .inr ⟨g, cap, cur, fz, hv, hbg, (hb.block g hgl).trans hg, rest⟩
  exact h.elim (fun x => .inl (one x)) (fun x => .inr (one x))
end
section
open Go.RowKit Go.Shelf

theorem info73 : (Tryz.prog.info? 111).map (fun i => (i.zero, i.size)) = some (some (.agg (Array.replicate 256 (.bool false))), 256) := by kernel_rfl
/-- blanks and tabs are cut off at both ends -/
theorem cut_any (s : ByteArray) (w : World) (hs : s.size ≤ 9223372036854775807) :
    Calls Tryz.prog 43 #[.string s, .string ⟨#[32, 9]⟩] w fun e w' => e = .returned (.string ⟨(Lib.trimS s.data.toList [32, 9]).toArray⟩) ∧ Below w.heap.size w w' :=
  Any.strings_Trim_laid Tryz.lays160 info73 s ⟨#[32, 9]⟩ w hs (by decide) (ascii_of_all (by decide))
end
section
set_option linter.unusedVariables false
open Go.RowKit Go.Lib Go.Shelf

theorem dropc (s : ByteArray) (k : Nat) (h : k < s.size) : s.data.toList.drop k = s[k] :: s.data.toList.drop (k + 1) := by
  rw [List.drop_eq_getElem_cons (by simpa using h)]; rfl
theorem takec (s : ByteArray) (k : Nat) (h : k < s.size) : s.data.toList.take (k + 1) = s.data.toList.take k ++ [s[k]] := by
  rw [List.take_succ_eq_append_getElem (by simpa using h)]; rfl
theorem szl (s : ByteArray) : s.data.toList.length = s.size := by rw [Array.length_toList]; rfl

/-- how many bytes a quoted text takes behind its first sign -/
def qeL : List UInt8 → Nat
  | [] => 0
  | c :: r => if c = 92 then (match r with | [] => 1 | _ :: r' => 2 + qeL r') else if c = 34 then 1 else 1 + qeL r
theorem qeL_le : ∀ (n : Nat) (l : List UInt8), l.length ≤ n → qeL l ≤ l.length
  | 0, [], _ => by simp [qeL]
  | 0, _ :: _, h => by simp at h
  | n + 1, [], _ => by simp [qeL]
  | n + 1, c :: r, h => by
    simp only [List.length_cons] at h
    unfold qeL
    split
    · cases r with
      | nil => simp
      | cons d r' =>
        have := qeL_le n r' (by simp at h; omega)
        simp only [List.length_cons]
        omega
    · split
      · simp
      · have := qeL_le n r (by omega)
        simp only [List.length_cons]
        omega

theorem qe_bs {r : List UInt8} {d : UInt8} : qeL (92 :: d :: r) = 2 + qeL r := by rw [qeL.eq_def]; simp
theorem qe_bs0 : qeL [92] = 1 := by rw [qeL.eq_def]; simp
theorem qe_q {r : List UInt8} : qeL (34 :: r) = 1 := by rw [qeL.eq_def]; simp
theorem qe_o {c : UInt8} {r : List UInt8} (h : c ≠ 92) (h2 : c ≠ 34) : qeL (c :: r) = 1 + qeL r := by rw [qeL.eq_def]; simp [h, h2]
theorem u8_ne {c : UInt8} {n : Nat} (hn : n < 256) (h : c ≠ UInt8.ofNat n) : ((c.toNat : Int) == (n : Int)) = false := by
  refine beq_false_of_ne fun e => h ?_
  have : c.toNat = n := by omega
  rw [← this]; simp
theorem u8_eq {c : UInt8} {n : Nat} (hn : n < 256) (h : c = UInt8.ofNat n) : ((c.toNat : Int) == (n : Int)) = true := by
  subst h
  rw [beq_iff_eq]
  simp [UInt8.toNat_ofNat', Nat.mod_eq_of_lt hn]

set_option maxHeartbeats 2000000 in
set_option maxRecDepth 100000 in
theorem qend_any (s : ByteArray) (i : Nat) (hi : i < s.size) (hs : s.size ≤ 1000000) (w : World) :
    Calls Tryz.prog 78 #[.string s, .int .i64 (i : Nat)] w fun e w' => e = .returned (.int .i64 (i + 1 + qeL (s.data.toList.drop (i + 1)) : Nat)) ∧ w = w' := by
  obtain ⟨T, hT⟩ : ∃ T, i + 1 + qeL (s.data.toList.drop (i + 1)) = T := ⟨_, rfl⟩
  rw [hT]
  have HT := Lib.hid hT
  clear hT
  go_enter Tryz.func78, Tryz.ntmps78
  go_wp2_with fail
  go_loop [1] (fun v => ∃ k : Nat, v = .int .i64 (k : Nat) ∧ ((k ≤ s.size ∧ k + qeL (s.data.toList.drop k) = T) ∨ (k = s.size + 1 ∧ T = s.size))) (fun v => s.size + 2 - (RowKit.intOf v).toNat)
  case atStart => exact ⟨i + 1, by go_num, .inl ⟨by omega, HT.out⟩⟩
  case round =>
    obtain ⟨k, rfl, hk⟩ := hrel
    have HK := Lib.hid hk
    have hk1 : k ≤ s.size + 1 := by rcases hk with h | h <;> omega
    clear hk
    by_cases hlt : k < s.size
    · have hd := dropc s k hlt
      have HK2 : Hid (k + qeL (s[k] :: s.data.toList.drop (k + 1)) = T) := Lib.hid (by
        rcases HK.out with ⟨-, h⟩ | ⟨h, -⟩
        · rw [← hd]; exact h
        · omega)
      clear hd HK
      obtain ⟨c, hc⟩ : ∃ c, s[k] = c := ⟨_, rfl⟩
      have HC := Lib.hid hc
      rw [hc] at HK2
      by_cases hb : c = 92
      · have hcz : ((s[k].toNat : Int) == 92) = true := by rw [hc]; exact u8_eq (n := 92) (by decide) hb
        subst hb
        clear hc
        go_wp2_with fail
        go_round
        case rel =>
          refine ⟨k + 2, by go_num, ?_⟩
          by_cases h2 : k + 1 < s.size
          · have h3 := HK2.out
            rw [dropc s (k + 1) h2, qe_bs, show k + 1 + 1 = k + 2 from rfl] at h3
            exact .inl ⟨by omega, by omega⟩
          · have h3 := HK2.out
            rw [List.drop_eq_nil_of_le (by rw [szl]; omega), qe_bs0] at h3
            exact .inr ⟨by omega, by omega⟩
        case measure => simp [RowKit.intOf]; omega
      · have hcz : ((s[k].toNat : Int) == 92) = false := by rw [hc]; exact u8_ne (n := 92) (by decide) hb
        by_cases hq : c = 34
        · have hcy : ((s[k].toNat : Int) == 34) = true := by rw [hc]; exact u8_eq (n := 34) (by decide) hq
          subst hq
          clear hc hb
          have HT2 : Hid (k + 1 = T) := Lib.hid (by have := HK2.out; rw [qe_q] at this; exact this)
          go_wp2_with fail
          go_ret
          exact ⟨by rw [← HT2.out]; rfl, rfl⟩
        · have hcy : ((s[k].toNat : Int) == 34) = false := by rw [hc]; exact u8_ne (n := 34) (by decide) hq
          have HT2 : Hid (k + 1 + qeL (s.data.toList.drop (k + 1)) = T) := Lib.hid (by have := HK2.out; rw [qe_o hb hq] at this; omega)
          clear hc hb hq
          go_wp2_with fail
          go_round
          case rel => exact ⟨k + 1, by go_num, .inl ⟨by omega, HT2.out⟩⟩
          case measure => simp [RowKit.intOf]; omega
    · have HT2 : Hid (s.size = T) := Lib.hid (by
        rcases HK.out with ⟨h1, h⟩ | ⟨-, h⟩
        · rw [List.drop_eq_nil_of_le (by rw [szl]; omega)] at h
          simp [qeL] at h
          omega
        · omega)
      go_wp2_with fail
      go_ret
      exact ⟨by rw [← HT2.out]; rfl, rfl⟩

/-- what stands within a quoted text -/
def saysGo : List UInt8 → List UInt8
  | [] => []
  | c :: r => if c = 34 then [] else if c = 92 then (match r with | [] => [] | d :: r' => d :: saysGo r') else c :: saysGo r
theorem sg_q {r : List UInt8} : saysGo (34 :: r) = [] := by rw [saysGo.eq_def]; simp
theorem sg_bs {r : List UInt8} {d : UInt8} : saysGo (92 :: d :: r) = d :: saysGo r := by rw [saysGo.eq_def]; simp
theorem sg_bs0 : saysGo [92] = [] := by rw [saysGo.eq_def]; simp
theorem sg_o {c : UInt8} {r : List UInt8} (h : c ≠ 92) (h2 : c ≠ 34) : saysGo (c :: r) = c :: saysGo r := by rw [saysGo.eq_def]; simp [h, h2]
theorem saysGo_le : ∀ (n : Nat) (l : List UInt8), l.length ≤ n → (saysGo l).length ≤ l.length
  | 0, [], _ => by simp [saysGo]
  | 0, _ :: _, h => by simp at h
  | n + 1, [], _ => by simp [saysGo]
  | n + 1, c :: r, h => by
    simp only [List.length_cons] at h
    unfold saysGo
    split
    · simp
    · split
      · cases r with
        | nil => simp
        | cons d r' =>
          have := saysGo_le n r' (by simp at h; omega)
          simp only [List.length_cons]
          omega
      · have := saysGo_le n r (by omega)
        simp only [List.length_cons]
        omega
/-- what a text says: itself, or, if it is one quoted text, what is within -/
def saysL (l : List UInt8) : List UInt8 := if l.head? = some 34 ∧ 1 + qeL (l.drop 1) = l.length then saysGo (l.drop 1) else l
theorem saysL_le (l : List UInt8) : (saysL l).length ≤ l.length := by
  unfold saysL
  split
  · have := saysGo_le _ (l.drop 1) (Nat.le_refl _)
    simp at this ⊢
    omega
  · exact Nat.le_refl _

set_option maxHeartbeats 4000000 in
set_option maxRecDepth 100000 in
theorem says_any (s : ByteArray) (hs : s.size ≤ 1000000) (w : World) :
    Calls Tryz.prog 76 #[.string s] w fun e w' => e = .returned (.string (strL (saysL s.data.toList))) ∧ Below w.heap.size w w' := by
  by_cases h0 : s.size = 0
  · obtain rfl : s = ⟨#[]⟩ := by
      have : s.data.toList = [] := List.eq_nil_of_length_eq_zero (by rw [szl]; exact h0)
      exact ByteArray.ext (by simpa using this)
    go_enter Tryz.func76, Tryz.ntmps76
    go_wp2_with fail
    go_ret
    exact ⟨rfl, Below.refl _ _⟩
  · have hd := dropc s 0 (by omega)
    rw [List.drop_zero] at hd
    obtain ⟨c, hc⟩ : ∃ c, s[0]'(by omega) = c := ⟨_, rfl⟩
    have hne : s.toList.isEmpty = false := by
      rw [ByteArray.toList_eq, hd]; rfl
    by_cases hq : c = 34
    · have hcy : ((((s[0]'(by omega)).toNat : Nat) : Int) == 34) = true := by rw [hc]; exact u8_eq (n := 34) (by decide) hq
      have hcn : ((((s[0]'(by omega)).toNat : Nat) : Int) != 34) = false := by rw [bne, hcy]; rfl
      have HQE := Lib.hid (qend_any s 0 (by omega) hs w)
      have hlz : (0 : Int) < (s.size : Int) := by omega
      obtain ⟨T, hT⟩ : ∃ T, 0 + 1 + qeL (s.data.toList.drop (0 + 1)) = T := ⟨_, rfl⟩
      rw [hT] at HQE
      rw [Nat.zero_add] at hT
      by_cases hTs : T = s.size
      · have HF : Hid (saysL s.data.toList = saysGo (s.data.toList.drop 1)) := Lib.hid (by
          unfold saysL
          rw [if_pos]
          rw [szl]
          refine ⟨?_, by omega⟩
          rw [hd, hc, hq]
          rfl)
        rw [hTs] at HQE
        clear hT hd hTs
        go_enter Tryz.func76, Tryz.ntmps76
        go_upto_block 0 with (go_at_call 78; refine HQE.out.mono ?_; rintro e w' ⟨rfl, rfl⟩)
        obtain ⟨p, hp⟩ : ∃ p, w.heap.size = p := ⟨_, rfl⟩
        have hI0 : IsBuilderF 82 5 p p (byteCells []) (w.alloc (.cells #[.pointer none, .slice none 0 0] 82)) := by rw [← hp]; exact IsBuilderF.of (Lib.fresh_isBuilder 82 5 w)
        have hB0 : Below p w (w.alloc (.cells #[.pointer none, .slice none 0 0] 82)) := (Below.refl _ _).alloc (by omega) _
        have hS0 : p < (w.alloc (.cells #[.pointer none, .slice none 0 0] 82)).heap.size := by simp; omega
        rw [hp]
        generalize w.alloc (.cells #[.pointer none, .slice none 0 0] 82) = w1 at *
        obtain ⟨R, hR⟩ : ∃ R, saysGo (s.data.toList.drop 1) = R := ⟨_, rfl⟩
        rw [hR] at HF
        have HR := Lib.hid hR
        have HP := Lib.hid hp
        clear hR hp hc
        go_wp2_with fail
        go_loopw [4] (fun i wr => ∃ (k : Nat) (pre : List UInt8), i = .int .i64 (k : Nat) ∧ IsBuilderF 82 5 p p (byteCells pre) wr ∧ Below p w wr ∧ p < wr.heap.size ∧ pre.length ≤ k ∧ ((k ≤ s.size ∧ pre ++ saysGo (s.data.toList.drop k) = R) ∨ (k = s.size + 1 ∧ pre = R))) (fun i _ => s.size + 2 - (RowKit.intOf i).toNat)
        case atStart => exact ⟨1, [], rfl, hI0, hB0, hS0, by simp, .inl ⟨by omega, by rw [HR.out]; rfl⟩⟩
        case round =>
          obtain ⟨k, pre, rfl, hb, hbw, hsz, hpl, hk⟩ := hrel
          rename World => wr
          have hk1 : k ≤ s.size + 1 := by rcases hk with h | h <;> omega
          have HK := Lib.hid hk
          have HB := Lib.hid (And.intro hb (And.intro hbw hsz))
          have HPL := Lib.hid hpl
          clear hI0 hB0 hS0 hk hb hbw hsz hpl
          have HEND : ∀ W, IsBuilderF 82 5 p p (byteCells R) W → p < W.heap.size → Hid (Calls Tryz.prog 44 #[.pointer (some ⟨p, 0, none⟩)] W fun e w' => e = .returned (.string (strL R)) ∧ Below p W w') := fun W h1 h2 => Lib.hid ((Tryz.Builder_String_any_k p p R W h1 (by omega)).mono fun e w' h => ⟨h.1, h.2.2.1⟩)
          by_cases hlt : k < s.size
          · have hdk := dropc s k hlt
            have HK2 : Hid (pre ++ saysGo (s[k] :: s.data.toList.drop (k + 1)) = R) := Lib.hid (by
              rcases HK.out with ⟨-, h⟩ | ⟨h, -⟩
              · rw [← hdk]; exact h
              · omega)
            clear hdk HK
            obtain ⟨c, hc⟩ : ∃ c, s[k] = c := ⟨_, rfl⟩
            have HC := Lib.hid hc
            rw [hc] at HK2
            have hkz : (k : Int) < (s.size : Int) := by omega
            by_cases hq2 : c = 34
            · have hcz : ((s[k].toNat : Int) == 34) = true := by rw [hc]; exact u8_eq (n := 34) (by decide) hq2
              have hpr : pre = R := by
                have := HK2.out
                rw [hq2, sg_q] at this
                simpa using this
              have HST := HEND wr (by rw [← hpr]; exact HB.out.1) HB.out.2.2
              clear hc HEND hpr
              go_wp2_with (go_at_call 44; refine HST.out.mono ?_; rintro e w' ⟨rfl, hb2⟩; have HB2 := Lib.hid hb2; clear hb2)
              refine bodyPost_ret (v := .string (strL R)) (by simp [results, Tryz.results76, go_sem]) rfl ?_
              exact ⟨by rw [HF.out], by rw [HP.out]; exact HB.out.2.1.trans HB2.out⟩
            · have hcz : ((s[k].toNat : Int) == 34) = false := by rw [hc]; exact u8_ne (n := 34) (by decide) hq2
              by_cases hb2 : c = 92
              · have hcb : ((s[k].toNat : Int) == 92) = true := by rw [hc]; exact u8_eq (n := 92) (by decide) hb2
                subst hb2
                by_cases h2 : k + 1 < s.size
                · have HK3 : Hid ((pre ++ [s[k + 1]]) ++ saysGo (s.data.toList.drop (k + 2)) = R) := Lib.hid (by
                    have h3 := HK2.out
                    rw [dropc s (k + 1) h2, sg_bs] at h3
                    rw [← h3]; simp)
                  have h2z : (k : Int) + 1 < (s.size : Int) := by omega
                  have h2y : ((k + 1 : Nat) : Int) < (s.size : Int) := by omega
                  have HWB := Lib.hid (lwb_any p p (byteCells pre) (s[k + 1].toNat : Int) wr HB.out.1 (by simp [byteCells]; have := HPL.out; omega))
                  clear hc HEND
                  go_wp2_with (go_at_call 101; refine HWB.out.mono ?_; rintro e w' ⟨rfl, h4, hb4, ho4⟩; have H4 := Lib.hid h4; have HB4 := Lib.hid hb4; clear h4 hb4 ho4)
                  go_roundw
                  case rel => exact ⟨k + 2, pre ++ [s[k + 1]], by go_num, .inr (by simpa [byteCells] using H4.out), HB.out.2.1.trans HB4.out, Nat.lt_of_lt_of_le HB.out.2.2 HB4.out.size, by have := HPL.out; simp; omega, .inl ⟨by omega, HK3.out⟩⟩
                  case measure => simp [RowKit.intOf]; omega
                · have HK3 : Hid (pre = R) := Lib.hid (by
                    have h3 := HK2.out
                    rw [List.drop_eq_nil_of_le (by rw [szl]; omega), sg_bs0] at h3
                    simpa using h3)
                  have h2z : ¬ (k : Int) + 1 < (s.size : Int) := by omega
                  clear hc HEND
                  go_wp2_with fail
                  go_roundw
                  case rel => exact ⟨k + 2, pre, by go_num, HB.out.1, HB.out.2.1, HB.out.2.2, by have := HPL.out; omega, .inr ⟨by omega, HK3.out⟩⟩
                  case measure => simp [RowKit.intOf]; omega
              · have hcb : ((s[k].toNat : Int) == 92) = false := by rw [hc]; exact u8_ne (n := 92) (by decide) hb2
                have HK3 : Hid ((pre ++ [s[k]]) ++ saysGo (s.data.toList.drop (k + 1)) = R) := Lib.hid (by
                  have h3 := HK2.out
                  rw [sg_o hb2 hq2] at h3
                  rw [← h3, hc]; simp)
                have HWB := Lib.hid (lwb_any p p (byteCells pre) (s[k].toNat : Int) wr HB.out.1 (by simp [byteCells]; have := HPL.out; omega))
                clear hc HEND
                go_wp2_with (go_at_call 101; refine HWB.out.mono ?_; rintro e w' ⟨rfl, h4, hb4, ho4⟩; have H4 := Lib.hid h4; have HB4 := Lib.hid hb4; clear h4 hb4 ho4)
                go_roundw
                case rel => exact ⟨k + 1, pre ++ [s[k]], by go_num, .inr (by simpa [byteCells] using H4.out), HB.out.2.1.trans HB4.out, Nat.lt_of_lt_of_le HB.out.2.2 HB4.out.size, by have := HPL.out; simp; omega, .inl ⟨by omega, HK3.out⟩⟩
                case measure => simp [RowKit.intOf]; omega
          · have hpr : pre = R := by
              rcases HK.out with ⟨h1, h⟩ | ⟨-, h⟩
              · rw [List.drop_eq_nil_of_le (by rw [szl]; omega)] at h
                simpa [saysGo] using h
              · exact h
            have hkz : ¬ (k : Int) < (s.size : Int) := by omega
            have HST := HEND wr (by rw [← hpr]; exact HB.out.1) HB.out.2.2
            clear HEND hpr
            go_wp2_with (go_at_call 44; refine HST.out.mono ?_; rintro e w' ⟨rfl, hb2⟩; have HB2 := Lib.hid hb2; clear hb2)
            refine bodyPost_ret (v := .string (strL R)) (by simp [results, Tryz.results76, go_sem]) rfl ?_
            exact ⟨by rw [HF.out], by rw [HP.out]; exact HB.out.2.1.trans HB2.out⟩
      · have hTz : ((T : Int) == (s.size : Int)) = false := beq_false_of_ne (by omega)
        have hTn : ((T : Int) != (s.size : Int)) = true := by rw [bne, hTz]; rfl
        have HF : Hid (saysL s.data.toList = s.data.toList) := Lib.hid (by
          unfold saysL
          rw [if_neg]
          rw [szl]
          rintro ⟨-, h⟩
          omega)
        clear hT hd hc hTs
        go_enter Tryz.func76, Tryz.ntmps76
        go_wp2_with (go_at_call 78; refine HQE.out.mono ?_; rintro e w' ⟨rfl, rfl⟩)
        refine bodyPost_ret (v := .string s) (by simp [results, Tryz.results76, go_sem]) rfl ?_
        exact ⟨by rw [HF.out]; rfl, Below.refl _ _⟩
    · have hcy : ((((s[0]'(by omega)).toNat : Nat) : Int) == 34) = false := by rw [hc]; exact u8_ne (n := 34) (by decide) hq
      have hcn : ((((s[0]'(by omega)).toNat : Nat) : Int) != 34) = true := by rw [bne, hcy]; rfl
      have hlz : (0 : Int) < (s.size : Int) := by omega
      have HF : Hid (saysL s.data.toList = s.data.toList) := Lib.hid (by
        unfold saysL
        rw [if_neg]
        rw [hd]
        rintro ⟨h, -⟩
        simp [hc] at h
        exact hq h)
      clear hd hc
      go_enter Tryz.func76, Tryz.ntmps76
      go_wp2_with fail
      refine bodyPost_ret (v := .string s) (by simp [results, Tryz.results76, go_sem]) rfl ?_
      exact ⟨by rw [HF.out]; rfl, Below.refl _ _⟩
end
end Go.Proofs.YtnncldnpkfjhbaaGreatDoor
