/-
  Print: the walk.
-/
import Derived.Test.YtghibofnfjnfcaaGreatDoorPrt
import Derived.Lib.AppendStr
namespace Go.Proofs.YtghibofnfjnfcaaGreatDoor
set_option linter.unusedVariables false
open Go.RowKit

theorem apartL_cons (b : Bool) (t : Tk) (r : List Tk) : apartL b (t :: r) = ((!(b && t.1 == 1)) && apartL (t.1 == 1) r) := rfl
def lastB (b : Bool) (P : List Tk) : Bool := match P.getLast? with | none => b | some p => p.1 == 1
theorem lastB_cons (b : Bool) (t : Tk) (P : List Tk) : lastB b (t :: P) = lastB (t.1 == 1) P := by
  unfold lastB
  cases P with
  | nil => rfl
  | cons p P => rw [List.getLast?_cons_cons, List.getLast?_cons]
theorem apart_app (P Q : List Tk) : ∀ b, apartL b (P ++ Q) = (apartL b P && apartL (lastB b P) Q) := by
  induction P with
  | nil => intro b; rfl
  | cons t P ih => intro b; rw [List.cons_append, apartL_cons, apartL_cons, ih, lastB_cons, Bool.and_assoc]
theorem print_snoc {P : List Tk} {t : Tk} {x : List Nat} (h : printL P = some x) (hr : rightT t = true) (ha : ∀ p, P.getLast? = some p → ¬ (t.1 = 1 ∧ p.1 = 1)) : printL (P ++ [t]) = some (x ++ showT t) := by
  unfold printL at h ⊢
  split at h
  · rename_i hc
    obtain rfl := Option.some.inj h
    obtain ⟨h1, h2⟩ := (Bool.and_eq_true _ _).mp hc
    rw [if_pos]
    · simp
    · rw [apart_app, h2]
      have h3 : apartL (lastB false P) [t] = true := by
        unfold lastB
        cases hp : P.getLast? with
        | none => simp [apartL]
        | some p =>
          have := ha p hp
          simp only [apartL, Bool.and_true, Bool.not_eq_true', Bool.and_eq_false_iff, beq_eq_false_iff_ne]
          by_cases e : p.1 = 1
          · exact .inr fun e2 => this ⟨e2, e⟩
          · exact .inl e
      rw [h3]
      simp [hr]
      intro p hp
      exact fun q => List.all_eq_true.1 h1 (p, hp) q
  · cases h
theorem print_bad {L : List Tk} {t : Tk} (ht : t ∈ L) (hr : rightT t = false) : printL L = none := by
  unfold printL
  rw [if_neg]
  intro hc
  have := List.all_eq_true.1 ((Bool.and_eq_true _ _).mp hc).1 t ht
  rw [hr] at this
  cases this
theorem print_side {L : List Tk} {k : Nat} (h : k + 1 < L.length) (h1 : L[k].1 = 1) (h2 : L[k + 1].1 = 1) : printL L = none := by
  unfold printL
  rw [if_neg]
  intro hc
  have h3 := ((Bool.and_eq_true _ _).mp hc).2
  have e : L = L.take (k + 1) ++ (L[k + 1] :: L.drop (k + 2)) := by rw [← List.drop_eq_getElem_cons h, List.take_append_drop]
  rw [e, apart_app] at h3
  have h4 := ((Bool.and_eq_true _ _).mp h3).2
  have h5 : (L.take (k + 1)).getLast? = some L[k] := by
    rw [List.getLast?_eq_getElem?, List.length_take, show min (k + 1) L.length - 1 = k by omega, List.getElem?_take_of_lt (by omega), List.getElem?_eq_getElem (by omega)]
  unfold lastB at h4
  rw [h5] at h4
  simp [apartL, h1, h2] at h4

/-- tokens among the arguments -/
def TkIn (w : World) (v : Value) (L : List TkI) : Prop :=
  (L = [] ∧ ∃ a c, v = .slice a 0 c) ∨ ∃ b off c, v = .slice (some ⟨b, off, none⟩) L.length c ∧ b < w.heap.size ∧ ∀ i (h : i < L.length), w.cell? ⟨b, off + i * 2, none⟩ = some (.int .i64 L[i].1) ∧ w.cell? ⟨b, off + i * 2 + 1, none⟩ = some (.string (strN L[i].2))
theorem TkIn.shape {w : World} {v : Value} {L : List TkI} (h : TkIn w v L) : ∃ a c, v = .slice a L.length c := by
  rcases h with ⟨rfl, a, c, rfl⟩ | ⟨b, off, c, rfl, _⟩
  · exact ⟨a, c, rfl⟩
  · exact ⟨_, c, rfl⟩
theorem TkIn.at {w : World} {a : Option Addr} {n c : Nat} {L : List TkI} (h : TkIn w (.slice a n c) L) : ∃ b off, ∀ i (hi : i < L.length), a = some ⟨b, off, none⟩ ∧ b < w.heap.size ∧ w.cell? ⟨b, off + i * 2, none⟩ = some (.int .i64 L[i].1) ∧ w.cell? ⟨b, off + i * 2 + 1, none⟩ = some (.string (strN L[i].2)) := by
  rcases h with ⟨rfl, a, c, e⟩ | ⟨b, off, c', e, h1, h3⟩
  · exact ⟨0, 0, fun i hi => absurd hi (by simp)⟩
  · simp only [Value.slice.injEq] at e
    exact ⟨b, off, fun i hi => ⟨e.1, h1, h3 i hi⟩⟩
theorem TkIn.below {w W : World} {v : Value} {L : List TkI} (h : TkIn w v L) (hb : Below w.heap.size w W) : TkIn W v L := by
  rcases h with h2 | ⟨b, off, c, e, h1, h3⟩
  · exact .inl h2
  · exact .inr ⟨b, off, c, e, by have := hb.size; omega, fun i hi => ⟨(hb.cell (p := ⟨b, off + i * 2, none⟩) h1).trans (h3 i hi).1, (hb.cell (p := ⟨b, off + i * 2 + 1, none⟩) h1).trans (h3 i hi).2⟩⟩
def intT (t : Tk) : TkI := ((t.1 : Int), t.2)
theorem OwnT.tkIn {w : World} {B : Nat} {v : Value} {l : List Tk} (h : OwnT w B v l) : TkIn w v (l.map intT) := by
  obtain ⟨g, cap, hc⟩ := h.cells
  obtain ⟨a, c, hs⟩ := h.shape
  by_cases h0 : 0 < l.length
  · obtain ⟨hv, _, hg, hcc⟩ := hc h0
    refine .inr ⟨g, 0, cap, by rw [hv, List.length_map], hg, fun i hi => ?_⟩
    have hi' : i < l.length := by simpa using hi
    rw [Nat.zero_add]
    obtain ⟨h1, h2⟩ := hcc i hi'
    rw [List.getElem_map]
    exact ⟨h1, h2⟩
  · obtain rfl : l = [] := List.eq_nil_of_length_eq_zero (by omega)
    exact .inl ⟨rfl, a, c, hs⟩

/-- 'append(out, s...)' of a text -/
theorem run_appN {w : World} {B : Nat} {v : Value} {l : List Nat} (ty : TypeId) (h : OwnB w B v l) (m : List Nat) (hm : ∀ c ∈ m, c < 256) (hn : l.length + m.length ≤ 100000000) (hB : B ≤ w.heap.size) :
    ∃ v' w', (Builtin.append_ #[27, 9] ty #[v, .string (strN m)]).run Tryz.prog w = .ok v' w' ∧ OwnB w' B v' (l ++ m) ∧ w.grownBy w' v.ownBlock := by
  obtain ⟨i0, hi, hz0, hz1, hz2⟩ := info_parts Tryz.info5
  obtain ⟨v', w', hr, ho, hg, -⟩ := Lib.run_append_own_string (P := Tryz.prog) w B 27 9 ty 5 i0 Tryz.underlying27 Tryz.underlying9 hi hz0 hz1 hz2 v l.length (u8s l) h (strN m) (by rw [strN_size]; simp [maxLen]; omega) (by rw [strN_size]; omega) hB
  refine ⟨v', w', hr, ?_, hg⟩
  unfold OwnB
  rw [strN_size] at ho
  rw [u8s_append, List.length_append]
  have : Lib.strCells (strN m) = u8s m := by
    unfold Lib.strCells strN u8s
    simp only [List.map_map]
    refine List.map_congr_left fun c hc => ?_
    have := hm c hc
    simp only [Function.comp, UInt8.toNat_ofNat']
    rw [Nat.mod_eq_of_lt (by omega)]
  rw [this] at ho
  exact ho
theorem appN {ops : Array Oper} {rest : List Oper} {o : Oper} {a : Act} {Q : Exit → Act → World → Prop} {w : World} (hgd : o.guard = none) (s x : Operand)
    (ho : o.op = .call { callee := .builtin .append, args := #[s, x], argTypes := #[27, 9] }) {v y : Value} (hs : a.eval s = v) (hx : a.eval x = y) {R : Value → World → Prop}
    (hr : ∃ v' w', (Builtin.append_ #[27, 9] o.type #[v, y]).run Tryz.prog w = .ok v' w' ∧ R v' w') (h : ∀ v' w', R v' w' → wpList Tryz.prog ops Q rest (a.put o.dst v') w') : wpList Tryz.prog ops Q (o :: rest) a w := by
  refine wpList_plain hgd fun K hK => ?_
  obtain ⟨v', w', hr, hR⟩ := hr
  unfold Oper.wp
  simp [execOp, ho, resolve, invoke, builtin, hs, hx, hr, Result.andThen]
  exact hK _ _ (h v' w' hR)
theorem showT_lt {t : Tk} (h : ∀ c ∈ t.2, c < 256) : ∀ c ∈ showT t, c < 256 := by
  have hd := decL_dig t.2.length
  have he := escL_lt h
  intro c hc
  unfold showT at hc
  split at hc
  · simp only [List.cons_append, List.mem_cons, List.mem_append, List.not_mem_nil, or_false] at hc
    rcases hc with rfl | hc | rfl
    · omega
    · exact he c hc
    · omega
  split at hc
  · simp only [List.cons_append, List.append_assoc, List.mem_cons, List.mem_append, List.nil_append] at hc
    rcases hc with rfl | hc | rfl | rfl | rfl | hc
    · omega
    · have := hd c hc; omega
    · omega
    · omega
    · omega
    · exact h c hc
  split at hc
  · simp at hc; omega
  split at hc
  · simp at hc; omega
  split at hc
  · simp at hc; omega
  split at hc
  · simp at hc; omega
  split at hc
  · simp at hc; omega
  · exact h c hc
def PrintOut (w : World) (r : Option (List Nat)) (e : Ending) (w' : World) : Prop :=
  (∃ x o, r = some x ∧ e = .returned (.tuple #[o, .int .i64 0]) ∧ OwnB w' w.heap.size o x ∧ Below w.heap.size w w') ∨ (r = none ∧ e = .returned (.tuple #[.slice none 0 0, .int .i64 9]) ∧ Below w.heap.size w w')

theorem nrm_take (L : List TkI) {k : Nat} (h : k < L.length) : (L.take (k + 1)).map nrm = (L.take k).map nrm ++ [nrm L[k]] := by
  rw [List.take_add_one, List.getElem?_eq_getElem h, List.map_append]; rfl
theorem nrm_last (L : List TkI) {k : Nat} (h : k < L.length) : ((L.take (k + 1)).map nrm).getLast? = some (nrm L[k]) := by
  rw [nrm_take L h, List.getLast?_append]; rfl
/-- what is said so far -/
def said (L : List TkI) (k : Nat) : List Nat := ((L.take k).map nrm).flatMap showT
theorem said_next (L : List TkI) {k : Nat} (h : k < L.length) : said L (k + 1) = said L k ++ showT (nrm L[k]) := by unfold said; rw [nrm_take L h]; simp
theorem said_le (L : List TkI) (k : Nat) : (said L k).length ≤ (said L L.length).length := by
  have : said L L.length = said L k ++ ((L.drop k).map nrm).flatMap showT := by
    unfold said
    rw [List.take_length, ← List.flatMap_append, ← List.map_append, List.take_append_drop]
  rw [this, List.length_append]
  omega

set_option maxRecDepth 100000 in
set_option maxHeartbeats 8000000 in
theorem print_any (v : Value) (L : List TkI) (w : World) (hL : TkIn w v L) (hb : ∀ t ∈ L, (∀ c ∈ t.2, c < 256) ∧ t.2.length ≤ 1100000) (hn : L.length ≤ 100000000) (hsum : (said L L.length).length ≤ 100000000) (ht : TabV w) :
    Calls Tryz.prog 8 #[v] w (PrintOut w (printL (L.map nrm))) := by
  obtain ⟨a, c, rfl⟩ := hL.shape
  obtain ⟨b, off, hat⟩ := hL.at
  have HAT := Lib.hid hat
  have HBB := Lib.hid hb
  have HT := Lib.hid ht
  have HSUM := Lib.hid hsum
  clear hL hat hb ht hsum
  go_enter Tryz.func8, Tryz.ntmps8
  go_wp2_with fail
  go_loopw [4, 9] (fun o i wr => ∃ k : Nat, k ≤ L.length ∧ i = .int .i64 k ∧ OwnB wr w.heap.size o (said L k) ∧ printL ((L.take k).map nrm) = some (said L k) ∧ Below w.heap.size w wr) (fun _ i _ => L.length - (intOf i).toNat)
  case atStart => exact ⟨0, Nat.zero_le _, rfl, World.ownsRow_nil _ _ _ _, rfl, Below.refl _ _⟩
  case round =>
    obtain ⟨k, hk, rfl, hown, hpre, hbel⟩ := hrel
    obtain ⟨oa, oc, ho⟩ := hown.shape
    have HO := Lib.hid hown
    have HP := Lib.hid hpre
    have HB := Lib.hid hbel
    have hsz := hbel.size
    clear hown hpre hbel
    by_cases hkl : k < L.length
    · obtain ⟨rfl, hbw, h1, h2⟩ := HAT.out k hkl
      have hbr : b < wr.heap.size := by omega
      have c1 := (HB.out.cell (p := ⟨b, off + k * 2, none⟩) hbw).trans h1
      have c2 := (HB.out.cell (p := ⟨b, off + k * 2 + 1, none⟩) hbw).trans h2
      have hkz : (k : Int) < (L.length : Int) := by omega
      obtain ⟨hlt, hlen⟩ := HBB.out _ (List.getElem_mem hkl)
      obtain ⟨z, T, hzT⟩ : ∃ z T, L[k] = (z, T) := ⟨_, _, rfl⟩
      have HMEM : Hid ((z, T) ∈ L) := Lib.hid (by rw [← hzT]; exact List.getElem_mem hkl)
      have HLK : Hid (L[k] = (z, T)) := Lib.hid hzT
      have HSAY : Hid (said L (k + 1) = said L k ++ showT (nrm (z, T))) := Lib.hid (by rw [said_next L hkl, hzT])
      have HLE : Hid ((said L k).length + (showT (nrm (z, T))).length ≤ 100000000) := Lib.hid (by
        have h3 := said_le L (k + 1)
        rw [HSAY.out, List.length_append] at h3
        have := HSUM.out
        omega)
      have HSN : Hid ((said L k).length + 0 ≤ 100000000) := Lib.hid (by have := HLE.out; omega)
      rw [hzT] at c1 c2 hlt hlen
      simp only at c1 c2 hlt hlen
      have HLT : Hid (∀ c ∈ showT (nrm (z, T)), c < 256) := Lib.hid (showT_lt hlt)
      have HR := Lib.hid (fun W => right_any z T hlt (by omega) W)
      clear h1 h2 hzT
      generalize hk0 : k = k0 at hkl
      subst hk0
      cases hr : rightT (nrm (z, T)) with
      | false =>
        have HBAD : Hid (printL (L.map nrm) = none) := Lib.hid (print_bad (List.mem_map.2 ⟨_, HMEM.out, rfl⟩) hr)
        rw [hr] at HR
        have HLTT := Lib.hid hlt
        clear hr hlt
        subst ho
        go_wp2_with (first | (go_at_call 18; refine (HR.out _).mono ?_; rintro e w2 ⟨rfl, hb2⟩; have q0 : w2.cell? ⟨wr.heap.size, 0, none⟩ = some (.int .i64 z) := (hb2.cell (p := ⟨wr.heap.size, 0, none⟩) (by simp)).trans (by rw [cell_of_row _ _ 0 _ 26 (0, 0) (heap_alloc_new wr (.cells #[.int .i64 z, .string (strN T)] 26))]; rfl); have q1 : w2.cell? ⟨wr.heap.size, 1, none⟩ = some (.string (strN T)) := (hb2.cell (p := ⟨wr.heap.size, 1, none⟩) (by simp)).trans (by rw [cell_of_row _ _ 1 _ 26 (0, 0) (heap_alloc_new wr (.cells #[.int .i64 z, .string (strN T)] 26))]; rfl); have hb12 : Below wr.heap.size wr w2 := ((Below.refl _ _).alloc (Nat.le_refl _) (.cells #[.int .i64 z, .string (strN T)] 26)).trans (hb2.mono (by simp)); have hs12 := hb12.size; have HB12 := Lib.hid hb12; clear hb2 hb12))
        refine bodyPost_ret (v := .tuple #[.slice none 0 0, .int .i64 9]) (by simp [results, Tryz.results8, go_sem]) rfl ?_
        exact .inr ⟨HBAD.out, rfl, HB.out.trans (HB12.out.mono hsz)⟩
      | true =>
        have hkd : kdN z ≠ 0 := fun e => by
          rw [show nrm (z, T) = (0, T) by unfold nrm; simp only [e]] at hr
          cases hr
        have hz := kdN_eq rfl hkd
        have HS : Hid (∀ W, TabV W → Calls Tryz.prog 19 #[.agg #[.int .i64 z, .string (strN T)]] W fun e w' => e = .returned (.string (strN (showT (nrm (z, T))))) ∧ Below W.heap.size W w') := Lib.hid (fun W hW => by
          have := show_any (kdN z) T hlt hlen W hW
          rw [← hz] at this
          exact this)
        have HNX : Hid ((∀ p, ((L.take k).map nrm).getLast? = some p → ¬ ((nrm (z, T)).1 = 1 ∧ p.1 = 1)) → printL ((L.take (k + 1)).map nrm) = some (said L (k + 1))) := Lib.hid (fun ha => by
          rw [nrm_take L hkl, HLK.out, HSAY.out]
          exact print_snoc HP.out hr ha)
        have HKD : Hid ((nrm (z, T)).1 = 1 → z = 1) := Lib.hid (fun e => by
          have : kdN z = 1 := e
          rw [hz, this]; rfl)
        rw [hr] at HR
        have HLTT := Lib.hid hlt
        clear hr hlt hz hkd
        by_cases hz1 : z = 1
        · subst hz1
          cases k with
          | zero =>
            have HAP : Hid (∀ p, ((L.take 0).map nrm).getLast? = some p → ¬ ((nrm (1, T)).1 = 1 ∧ p.1 = 1)) := Lib.hid (fun p hp => by simp at hp)
            simp only [Nat.zero_mul, Nat.add_zero] at c1 c2
            subst ho
            go_wp2_with (first | (go_at_call 18; refine (HR.out _).mono ?_; rintro e w2 ⟨rfl, hb2⟩; have q0 : w2.cell? ⟨wr.heap.size, 0, none⟩ = some (.int .i64 1) := (hb2.cell (p := ⟨wr.heap.size, 0, none⟩) (by simp)).trans (by rw [cell_of_row _ _ 0 _ 26 (0, 0) (heap_alloc_new wr (.cells #[.int .i64 1, .string (strN T)] 26))]; rfl); have q1 : w2.cell? ⟨wr.heap.size, 1, none⟩ = some (.string (strN T)) := (hb2.cell (p := ⟨wr.heap.size, 1, none⟩) (by simp)).trans (by rw [cell_of_row _ _ 1 _ 26 (0, 0) (heap_alloc_new wr (.cells #[.int .i64 1, .string (strN T)] 26))]; rfl); have hb12 : Below wr.heap.size wr w2 := ((Below.refl _ _).alloc (Nat.le_refl _) (.cells #[.int .i64 1, .string (strN T)] 26)).trans (hb2.mono (by simp)); have hs12 := hb12.size; have HB12 := Lib.hid hb12; clear hb2 hb12) | (go_at_call 19; refine (HS.out _ (HT.out.below (HB.out.trans (HB12.out.mono hsz)))).mono ?_; rintro e w3 ⟨rfl, hb3⟩; have hs3 := hb3.size; have HB13 : Hid (Below wr.heap.size wr w3) := Lib.hid (HB12.out.trans (hb3.mono hs12)); clear hb3) | (at_builtin; refine appN rfl (.tmp 35) (.tmp 37) rfl rfl rfl (run_appN 27 (HO.out.keep HB13.out (owns_ltZ HO.out)) (showT (nrm (1, T))) HLT.out (by have := HSN.out; have := HLE.out; omega) (by omega)) ?_; rintro o4 w4 ⟨ho4, hg4⟩; have HO4 := Lib.hid ho4; have HB4 : Hid (Below w.heap.size w w4) := Lib.hid ((HB.out.trans (HB13.out.mono hsz)).grown hg4 (by omega) (ownB_ge HO.out)); clear ho4 hg4))
            go_roundw
            case rel => exact ⟨0 + 1, by omega, by go_num, by rw [HSAY.out]; exact HO4.out, HNX.out HAP.out, HB4.out⟩
            case measure => simp [intOf]; omega
          | succ j =>
            obtain ⟨-, -, h3, -⟩ := HAT.out j (by omega)
            obtain ⟨y, hy⟩ : ∃ y, (L[j]'(by omega)).1 = y := ⟨_, rfl⟩
            rw [hy] at h3
            have cp := (HB.out.cell (p := ⟨b, off + j * 2, none⟩) hbw).trans h3
            have HY := Lib.hid hy
            clear h3 hy
            by_cases hy1 : y = 1
            · have HBAD : Hid (printL (L.map nrm) = none) := Lib.hid (by
                refine print_side (k := j) (by simpa using hkl) ?_ ?_
                · rw [List.getElem_map]; show kdN _ = 1; rw [HY.out, hy1]; rfl
                · rw [List.getElem_map, HLK.out]; rfl)
              subst hy1
              subst ho
              go_wp2_with (first | (go_at_call 18; refine (HR.out _).mono ?_; rintro e w2 ⟨rfl, hb2⟩; have q0 : w2.cell? ⟨wr.heap.size, 0, none⟩ = some (.int .i64 1) := (hb2.cell (p := ⟨wr.heap.size, 0, none⟩) (by simp)).trans (by rw [cell_of_row _ _ 0 _ 26 (0, 0) (heap_alloc_new wr (.cells #[.int .i64 1, .string (strN T)] 26))]; rfl); have q1 : w2.cell? ⟨wr.heap.size, 1, none⟩ = some (.string (strN T)) := (hb2.cell (p := ⟨wr.heap.size, 1, none⟩) (by simp)).trans (by rw [cell_of_row _ _ 1 _ 26 (0, 0) (heap_alloc_new wr (.cells #[.int .i64 1, .string (strN T)] 26))]; rfl); have hb12 : Below wr.heap.size wr w2 := ((Below.refl _ _).alloc (Nat.le_refl _) (.cells #[.int .i64 1, .string (strN T)] 26)).trans (hb2.mono (by simp)); have hs12 := hb12.size; have HB12 := Lib.hid hb12; have qp : w2.cell? ⟨b, off + j * 2, none⟩ = some (.int .i64 1) := (HB12.out.cell (p := ⟨b, off + j * 2, none⟩) hbr).trans cp; clear hb2 hb12))
              refine bodyPost_ret (v := .tuple #[.slice none 0 0, .int .i64 9]) (by simp [results, Tryz.results8, go_sem]) rfl ?_
              exact .inr ⟨HBAD.out, rfl, HB.out.trans (HB12.out.mono hsz)⟩
            · have HAP : Hid (∀ p, ((L.take (j + 1)).map nrm).getLast? = some p → ¬ ((nrm (1, T)).1 = 1 ∧ p.1 = 1)) := Lib.hid (fun p hp hq => by
                rw [nrm_last L (by omega)] at hp
                have hp2 := Option.some.inj hp
                have h2 : kdN (L[j]'(by omega)).1 = 1 := by have := hq.2; rw [← hp2] at this; exact this
                rw [HY.out] at h2
                exact hy1 (by have := kdN_eq h2 (by decide); omega))
              subst ho
              go_wp2_with (first | (go_at_call 18; refine (HR.out _).mono ?_; rintro e w2 ⟨rfl, hb2⟩; have q0 : w2.cell? ⟨wr.heap.size, 0, none⟩ = some (.int .i64 1) := (hb2.cell (p := ⟨wr.heap.size, 0, none⟩) (by simp)).trans (by rw [cell_of_row _ _ 0 _ 26 (0, 0) (heap_alloc_new wr (.cells #[.int .i64 1, .string (strN T)] 26))]; rfl); have q1 : w2.cell? ⟨wr.heap.size, 1, none⟩ = some (.string (strN T)) := (hb2.cell (p := ⟨wr.heap.size, 1, none⟩) (by simp)).trans (by rw [cell_of_row _ _ 1 _ 26 (0, 0) (heap_alloc_new wr (.cells #[.int .i64 1, .string (strN T)] 26))]; rfl); have hb12 : Below wr.heap.size wr w2 := ((Below.refl _ _).alloc (Nat.le_refl _) (.cells #[.int .i64 1, .string (strN T)] 26)).trans (hb2.mono (by simp)); have hs12 := hb12.size; have HB12 := Lib.hid hb12; have qp : w2.cell? ⟨b, off + j * 2, none⟩ = some (.int .i64 y) := (HB12.out.cell (p := ⟨b, off + j * 2, none⟩) hbr).trans cp; clear hb2 hb12) | (go_at_call 19; refine (HS.out _ (HT.out.below (HB.out.trans (HB12.out.mono hsz)))).mono ?_; rintro e w3 ⟨rfl, hb3⟩; have hs3 := hb3.size; have HB13 : Hid (Below wr.heap.size wr w3) := Lib.hid (HB12.out.trans (hb3.mono hs12)); clear hb3) | (at_builtin; refine appN rfl (.tmp 35) (.tmp 37) rfl rfl rfl (run_appN 27 (HO.out.keep HB13.out (owns_ltZ HO.out)) (showT (nrm (1, T))) HLT.out (by have := HSN.out; have := HLE.out; omega) (by omega)) ?_; rintro o4 w4 ⟨ho4, hg4⟩; have HO4 := Lib.hid ho4; have HB4 : Hid (Below w.heap.size w w4) := Lib.hid ((HB.out.trans (HB13.out.mono hsz)).grown hg4 (by omega) (ownB_ge HO.out)); clear ho4 hg4))
              go_roundw
              case rel => exact ⟨(j + 1) + 1, by omega, by go_num, by rw [HSAY.out]; exact HO4.out, HNX.out HAP.out, HB4.out⟩
              case measure => simp [intOf]; omega
        · have HAP : Hid (∀ p, ((L.take k).map nrm).getLast? = some p → ¬ ((nrm (z, T)).1 = 1 ∧ p.1 = 1)) := Lib.hid (fun p hp ⟨h, _⟩ => hz1 (HKD.out h))
          subst ho
          go_wp2_with (first | (go_at_call 18; refine (HR.out _).mono ?_; rintro e w2 ⟨rfl, hb2⟩; have q0 : w2.cell? ⟨wr.heap.size, 0, none⟩ = some (.int .i64 z) := (hb2.cell (p := ⟨wr.heap.size, 0, none⟩) (by simp)).trans (by rw [cell_of_row _ _ 0 _ 26 (0, 0) (heap_alloc_new wr (.cells #[.int .i64 z, .string (strN T)] 26))]; rfl); have q1 : w2.cell? ⟨wr.heap.size, 1, none⟩ = some (.string (strN T)) := (hb2.cell (p := ⟨wr.heap.size, 1, none⟩) (by simp)).trans (by rw [cell_of_row _ _ 1 _ 26 (0, 0) (heap_alloc_new wr (.cells #[.int .i64 z, .string (strN T)] 26))]; rfl); have hb12 : Below wr.heap.size wr w2 := ((Below.refl _ _).alloc (Nat.le_refl _) (.cells #[.int .i64 z, .string (strN T)] 26)).trans (hb2.mono (by simp)); have hs12 := hb12.size; have HB12 := Lib.hid hb12; clear hb2 hb12) | (go_at_call 19; refine (HS.out _ (HT.out.below (HB.out.trans (HB12.out.mono hsz)))).mono ?_; rintro e w3 ⟨rfl, hb3⟩; have hs3 := hb3.size; have HB13 : Hid (Below wr.heap.size wr w3) := Lib.hid (HB12.out.trans (hb3.mono hs12)); clear hb3) | (at_builtin; refine appN rfl (.tmp 35) (.tmp 37) rfl rfl rfl (run_appN 27 (HO.out.keep HB13.out (owns_ltZ HO.out)) (showT (nrm (z, T))) HLT.out (by have := HSN.out; have := HLE.out; omega) (by omega)) ?_; rintro o4 w4 ⟨ho4, hg4⟩; have HO4 := Lib.hid ho4; have HB4 : Hid (Below w.heap.size w w4) := Lib.hid ((HB.out.trans (HB13.out.mono hsz)).grown hg4 (by omega) (ownB_ge HO.out)); clear ho4 hg4))
          go_roundw
          case rel => exact ⟨k + 1, by omega, by go_num, by rw [HSAY.out]; exact HO4.out, HNX.out HAP.out, HB4.out⟩
          case measure => simp [intOf]; omega
    · obtain rfl : k = L.length := by omega
      have hall : printL (L.map nrm) = some (said L L.length) := by have := HP.out; rwa [List.take_length] at this
      have HALL := Lib.hid hall
      clear hall
      subst ho
      go_wp2_with fail
      refine bodyPost_ret (v := .tuple #[.slice oa (said L L.length).length oc, .int .i64 0]) (by simp [results, Tryz.results8, go_sem]) rfl ?_
      exact .inl ⟨_, _, HALL.out, rfl, HO.out, HB.out⟩
end Go.Proofs.YtghibofnfjnfcaaGreatDoor
