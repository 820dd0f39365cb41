/-
  fields: what it answers.
-/
import Derived.Test.YtnncldnpkfjhbaaGreatDoorMg11
import Derived.Deep.RegionHeld
namespace Go.Proofs.YtnncldnpkfjhbaaGreatDoor
set_option linter.unusedVariables false
open Go.RowKit Go.Shelf Go.Lib
attribute [local go_sem] Oper.semAt_some

theorem info52 : (Tryz.prog.info? 79).map (fun i => (i.zero, i.size, i.bytes)) = some (some (.pointer none), 1, 8) := by kernel_rfl

/-- what fields answers: pointers to fields that lie behind n -/
def FldsOut (n : Nat) (l : List Nat) (w : World) (e : Ending) (w' : World) : Prop :=
  ∃ vo gs E, e = .returned vo ∧ w'.ownsRow (n + 3) 79 1 vo gs.length (ptrs gs) ∧ fin2 w' (n + 3) E (fieldsS l) gs ∧ Below n w w'

/-- the invariant between two rounds -/
def FI (n : Nat) (w : World) (l : List Nat) (pre : List (Nat × Nat × Nat)) (W : World) : Prop := FInv n W (runF l ([], none) pre) ∧ Below n w W ∧ n + 3 ≤ W.heap.size

theorem FI.from {n : Nat} {w : World} {l : List Nat} (hn : n = w.heap.size) : OwnFrom (n + 3) (FI n w l) := by
  intro s W W' row hs hg hr
  obtain ⟨h1, h2, h3⟩ := hs
  refine ⟨h1.keep (X := fun _ => False) ⟨fun k C t fz hk _ => hg.block k (Array.getElem?_eq_some_iff.1 hk).1 (fun e => ?_), hg.size⟩ (fun k hk => hk.elim), h2.grown hg (by omega) (fun k e => ?_), Nat.le_trans h3 hg.size⟩
  · obtain ⟨_, o, ho, hc⟩ := hr k e.symm
    rw [hk] at ho
    cases ho
    cases hc
  · have := (hr k e).1
    omega
theorem FI.turn {n : Nat} {w : World} {l : List Nat} : Turns (n + 2) (FI n w l) := by
  intro s W W' hs hg
  obtain ⟨h1, h2, h3⟩ := hs
  exact ⟨h1.keep (X := fun k => k = n + 2) ⟨fun k C t fz hk hx => hg.block k (Array.getElem?_eq_some_iff.1 hk).1 (fun e => hx (Option.some.inj e)), hg.size⟩ (fun k hk => hk), h2.grown hg (by omega) (fun k e => by cases e; omega), Nat.le_trans h3 hg.size⟩

theorem kf_below {A C : World} {B : Nat} (h : Below A.heap.size A C) : KeepsFrom B A C := ⟨h.size, fun k o _ hk _ => (h.block k (Array.getElem?_eq_some_iff.1 hk).1).trans hk⟩

set_option maxRecDepth 100000 in
set_option maxHeartbeats 8000000 in
theorem flds_any (v : Value) (l : List Nat) (w : World) (hr : RowB w v l) (hl : l.length ≤ 100000) :
    Calls Tryz.prog 40 #[v] w (FldsOut w.heap.size l w) := by
  obtain ⟨a, cap, rfl⟩ : ∃ a c, v = .slice a l.length c := by obtain ⟨a, len, c, e, h, _⟩ := hr; exact ⟨a, c, by rw [e, h]⟩
  obtain ⟨hc, hm⟩ : l.length ≤ cap ∧ cap ≤ maxLen := by
    obtain ⟨x, len, cp, e, h1, h2, h3, _⟩ := hr
    simp only [Value.slice.injEq] at e
    obtain ⟨rfl, rfl, rfl⟩ := e
    exact ⟨h2, h3⟩
  have hlt := hr.lt
  obtain ⟨lb, lo, ha, hlb, hcells⟩ : ∃ lb lo, (l ≠ [] → a = some ⟨lb, lo, none⟩) ∧ (l ≠ [] → lb < w.heap.size) ∧ CellsL w lb lo l := by
    by_cases h : l = []
    · subst h; exact ⟨0, 0, fun h => absurd rfl h, fun h => absurd rfl h, fun i hi => absurd hi (by simp)⟩
    · have h0 : 0 < l.length := List.length_pos_iff.2 h
      rcases hr.shape with ⟨rfl, he⟩ | ⟨lb, lo, c, e, _, _, _, hcell⟩
      · exact absurd rfl h
      · simp only [Value.slice.injEq] at e
        obtain ⟨rfl, -, rfl⟩ := e
        exact ⟨lb, lo, fun _ => rfl, fun _ => World.block_lt_of_cell? w _ (hcell 0 h0), fun i hi => hcell i hi⟩
  clear hr
  have HA := Lib.hid ha
  have HLB := Lib.hid hlb
  have HLT := Lib.hid hlt
  have HC := Lib.hid hcells
  clear ha hlb hlt hcells
  refine (callsIn_wide (n := 3)).1 ?_
  refine callsIn_of_wp_marks Tryz.func40 rfl trivial ?_ rfl
  simp only [Tryz.ntmps40, List.size_toArray, List.length_cons, List.length_nil, Nat.reduceAdd, Nat.reduceSub, Array.replicate_succ, Array.replicate_zero, List.push_toArray, List.append_toArray, List.nil_append, List.cons_append]
  gi_wp2_with (refine ⟨trivial, ?_⟩; refine (callsIn_wide.2 (lines_any _ _ _ _)).mono ?_; rintro e w' ⟨rfl, rfl⟩)
  obtain ⟨W0, hW0⟩ : ∃ W0, (((w.alloc (.cells #[.slice none 0 0] 77)).alloc (.cells #[.pointer none] 79)).alloc (.cells #[.slice a l.length cap] 22)) = W0 := ⟨_, rfl⟩
  have hsz : W0.heap.size = w.heap.size + 3 := by rw [← hW0]; simp
  have hb0 : Boxed W0 (w.heap.size + 2) 22 (.slice a l.length cap) := by
    have := Boxed.new ((w.alloc (.cells #[.slice none 0 0] 77)).alloc (.cells #[.pointer none] 79)) 22 (.slice a l.length cap)
    rw [hW0] at this
    simpa using this
  have hb1 : Boxed W0 (w.heap.size + 1) 79 (.pointer none) := by
    have := (Boxed.new (w.alloc (.cells #[.slice none 0 0] 77)) 79 (.pointer none)).alloc (.cells #[.slice a l.length cap] 22)
    rw [hW0] at this
    simpa using this
  have hb2 : Boxed W0 w.heap.size 77 (.slice none 0 0) := by
    have := ((Boxed.new w 77 (.slice none 0 0)).alloc (.cells #[.pointer none] 79)).alloc (.cells #[.slice a l.length cap] 22)
    rwa [hW0] at this
  have hbel : Below w.heap.size w W0 := by rw [← hW0]; exact (((Below.refl _ w).alloc (Nat.le_refl _) _).alloc (by simp) _).alloc (by simp; omega) _
  have hI0 : FI w.heap.size w l [] W0 := ⟨⟨.slice none 0 0, [], [], 0, hb2, World.ownsRow_nil _ _ _ _, trivial, ⟨rfl, hb1⟩, Nat.zero_le _⟩, hbel, by omega⟩
  rw [hW0]
  obtain ⟨n, hn⟩ : ∃ n, w.heap.size = n := ⟨_, rfl⟩
  rw [hn] at hsz hb0 hb1 hb2 hbel hI0 HLB ⊢
  refine range_on rfl (by omega) (gf := 64) (lb := #[.pointer (some ⟨n + 2, 0, none⟩)]) rfl trivial (enters_of Tryz.func64 (by kernel_rfl) rfl)
    (lines_on 2 a lb lo cap (n + 2) n l HA.out (by omega) HLB.out hc hm HLT.out) (by omega)
    (fun r => ⟨(hb0.alloc _).alloc _, HC.out.kept (n₀ := n) (((hbel.alloc (by omega) _)).alloc (by simp; omega) _) HLB.out⟩)
    (fun h k => ⟨h.1.trans k.1, k.2.trans h.2⟩)
    (fun W r r' hb => ⟨(Below.refl _ W).grown (grownBy_putObj' W _ _) (by have := (Array.getElem?_eq_some_iff.1 hb.2).1; omega) (fun k e => by cases e; omega), World.putObj_heap_other (by omega)⟩)
    (fun _ => rfl)
    (fun pre W => FI n w l pre W ∧ ∀ x ∈ pre, x.2.2 ≠ 0)
    (fun c pre W => ∃ p x, pre = p ++ [x] ∧ FI n w l p W ∧ c = .exit 0 ∧ (∀ y ∈ p, y.2.2 ≠ 0) ∧ x.2.2 = 0)
    ?hI ?hIx ?hIB ?hIxB ⟨hI0, by simp⟩
    (fun x => { tmps := #[.slice a l.length cap, undef, .slice none 0 0, .pointer (some ⟨n, 0, none⟩), .pointer (some ⟨n + 1, 0, none⟩), .slice (some ⟨lb, lo + x.1, none⟩) x.2.1 (cap - x.1), .slice (some ⟨lb, lo + x.1, none⟩) x.2.2 (cap - x.1), undef, undef, .slice a l.length cap, .func (.func 64) #[] #[.pointer (some ⟨n + 1 + 1, 0, none⟩)], .slice (some ⟨lb, lo + x.1, none⟩) x.2.1 (cap - x.1), .slice (some ⟨lb, lo + x.1, none⟩) x.2.2 (cap - x.1), undef, undef, undef, undef, undef, undef, undef, undef, undef, undef, undef, undef, undef, undef, undef, undef, undef, undef, undef, undef, undef, undef, undef, undef, undef, undef, undef, undef, undef, undef, undef, undef, undef, undef, undef, undef, undef, undef, undef, undef, undef], defers := [] }) ?assign ?body ?done ?stop
  case hI => rw [hsz]; exact fun s W W' row hs hg hr => ⟨FI.from hn.symm s W W' row hs.1 hg hr, hs.2⟩
  case hIx => rw [hsz]; exact fun c s W W' row hs hg hr => by obtain ⟨p, x, e, h1, h2⟩ := hs; exact ⟨p, x, e, FI.from hn.symm p W W' row h1 hg hr, h2⟩
  case hIB => exact fun s W W' hs hg => ⟨FI.turn s W W' hs.1 hg, hs.2⟩
  case hIxB => exact fun c s W W' hs hg => by obtain ⟨p, x, e, h1, h2⟩ := hs; exact ⟨p, x, e, FI.turn p W W' h1 hg, h2⟩
  case assign =>
    intro x W K hK
    dsimp only [encL]
    gi_wp2
    exact hK
  case body =>
    rw [hsz]
    rintro pre ⟨s, c, m⟩ rest W hx ⟨⟨hinv, hbel, hs3⟩, hne⟩
    obtain ⟨i1, i2⟩ := lines_in l.length 0 l (Nat.le_refl _)
    obtain ⟨-, hsc, hmc⟩ := i2 (s, c, m) (by rw [hx]; simp)
    simp only [Nat.zero_add] at hsc hmc
    have hpl : pre.length < l.length := by rw [hx] at i1; simp at i1; omega
    have hcell := HC.out.kept hbel HLB.out
    have HX := Lib.hid hx
    have HNE := Lib.hid hne
    clear hx hne i1 i2
    by_cases hm0 : m = 0
    · subst hm0
      gi_wp2
      exact ⟨KeepsFrom.refl _ _, pre, _, rfl, ⟨hinv, hbel, hs3⟩, rfl, HNE.out, rfl⟩
    · have gm : ((m : Int) == 0) = false := beq_false_of_ne (by omega)
      have hNE2 : ∀ x ∈ pre ++ [(s, c, m)], x.2.2 ≠ 0 := by
        intro y hy
        rcases List.mem_append.1 hy with h | h
        · exact HNE.out y h
        · obtain rfl := List.mem_singleton.1 h
          exact hm0
      have hsnoc := runF_snoc l ([], none) pre (s, c, m)
      have hlen := runF_len l pre ([], none)
      have hle := runF_le l pre
      obtain ⟨tx, htx⟩ : ∃ tx, lineT l (s, c, m) = tx := ⟨_, rfl⟩
      obtain ⟨wh, hwh⟩ : ∃ wh, lineW l (s, c, m) = wh := ⟨_, rfl⟩
      rw [htx, hwh] at hsnoc
      unfold lineT at htx
      unfold lineW at hwh
      simp only at htx hwh
      have htl : tx.length = m := by rw [← htx]; simp; omega
      have hwl : wh.length = c := by rw [← hwh]; simp; omega
      have hct : CellsL W lb (lo + s) tx := by rw [← htx]; exact (hcell.drop s).take m
      have hcw : CellsL W lb (lo + s) wh := by rw [← hwh]; exact (hcell.drop s).take c
      have hbt : ∀ n ∈ tx, n < 256 := fun n hn => HLT.out n (by rw [← htx] at hn; exact List.mem_of_mem_drop (List.mem_of_mem_take hn))
      have hbw : ∀ n ∈ wh, n < 256 := fun n hn => HLT.out n (by rw [← hwh] at hn; exact List.mem_of_mem_drop (List.mem_of_mem_take hn))
      obtain ⟨⟨fin, op⟩, hst⟩ : ∃ st, runF l ([], none) pre = st := ⟨_, rfl⟩
      rw [hst] at hinv hsnoc hlen hle
      have htn : tx ≠ [] := by intro e; subst e; simp at htl; omega
      have hgo := goes_any _ tx W (hct.row (cap := cap - s) (by omega) (by omega) hbt) htn
      rw [htl] at hgo
      have HGO := Lib.hid hgo
      have HSN := Lib.hid hsnoc
      have HCT := Lib.hid hct
      have HCW := Lib.hid hcw
      have HBT := Lib.hid hbt
      have HBW := Lib.hid hbw
      have HINV := Lib.hid hinv
      have HBEL := Lib.hid hbel
      have HN2 := Lib.hid hNE2
      have HTL := Lib.hid htl
      have HWL := Lib.hid hwl
      have HLN := Lib.hid hlen
      have HLE := Lib.hid hle
      clear hgo hsnoc hct hcw hbt hbw hinv hbel hNE2 htl hwl hlen hle htx hwh hst hcell htn
      cases hg : goesB tx
      · -- a line that begins something: open is over
        rw [hg] at HGO
        have hstep : stepF (fin, op) wh tx = (fin ++ op.toList, (nameN tx).map fun q => ⟨nameT tx, tx.drop (q + 1), wh⟩) := by unfold stepF; rw [hg]; rfl
        have HST := Lib.hid hstep
        obtain ⟨vo, gf, go, E, -, -, -, hop, -⟩ := id HINV.out
        have hbx : ∃ v1, Boxed W (n + 1) 79 v1 := by
          cases op with
          | none => exact ⟨_, hop.2⟩
          | some f => obtain ⟨g, Bo, _, hb, _⟩ := hop; exact ⟨_, hb⟩
        obtain ⟨v1, hbx⟩ := hbx
        have hbc := hbx.cell
        have hbf := hbx.frozen
        have hcl := HINV.out.close
        have HCL := Lib.hid hcl
        obtain ⟨_, _, _, _, _, _, _, hop2, _⟩ := id hcl
        have HBX2 := Lib.hid hop2.2
        clear hop2
        have hW2 : Below n W (W.setCell ⟨n + 1, 0, none⟩ (.pointer none)) := (Below.refl n W).setCell (p := ⟨n + 1, 0, none⟩) (by simp) _
        have hnm := name_any lb (lo + s) (cap - s) tx (W.setCell ⟨n + 1, 0, none⟩ (.pointer none)) (HCT.out.kept hW2 (fun _ => HLB.out (by intro e; subst e; simp at hpl))) (by intro e; have := HTL.out; subst e; simp at this; omega) (by rw [HTL.out]; omega) (by omega) HBT.out (by rw [HTL.out]; omega)
        rw [HTL.out] at hnm
        have HNM := Lib.hid hnm
        have HW2 := Lib.hid hW2
        clear hstep hop hbx hcl hnm hW2 hg
        cases hnn : nameN tx with
        | none =>
          rw [hnn] at HNM HST
          clear hnn
          gi_wp2_with (first
            | (refine ⟨trivial, ?_⟩; refine (CallsIn.inRound _ (callsIn_wide.2 HGO.out)).mono ?_; rintro e w' ⟨rfl, hw'⟩; subst w')
            | (refine ⟨trivial, ?_⟩; refine (CallsIn.inRound _ (callsIn_wide.2 HNM.out)).mono ?_; rintro e w' ⟨rfl, hb3⟩; have hbc3 := (boxed_keepX HBX2.out (keepX_below hb3) (fun h => h)).cell; have HB3 := Lib.hid hb3; clear hb3))
          refine ⟨((KeepsOthers.setCell W _ _).from _).trans (kf_below HB3.out), ⟨HW2.out.trans (HB3.out.mono (by simp; omega)), (HB3.out.block (n + 2) (by simp; omega)).trans (Below.heap_setCell _ _ _ _ (by simp))⟩, ⟨?_, HBEL.out.trans (HW2.out.trans (HB3.out.mono (by simp; omega))), by have := HB3.out.size; simp at this; omega⟩, HN2.out⟩
          rw [HSN.out, HST.out]
          exact HCL.out.keep (keepX_below HB3.out) (fun k h => h.elim)
        | some q =>
          have hq : 1 ≤ q ∧ q < tx.length := by
            unfold nameN at hnn
            split at hnn
            · rename_i h; simp at hnn; omega
            · cases hnn
          obtain ⟨S, hS⟩ : ∃ S, nameT tx = S := ⟨_, rfl⟩
          have hSz : S.size = q := by
            rw [← hS]
            unfold nameT
            rw [hnn]
            simp [strN, ByteArray.size]
            omega
          rw [hnn, hS] at HNM HST
          rw [HTL.out] at hq
          obtain ⟨i0, hi, hz0, hz1, hz2⟩ := info_parts info52
          have hwq : IntKind.i64.wrap ((q : Int) + 1) = (q : Int) + 1 := IntWalk.i64_in _ (by omega)
          have gq1 : (q : Int) + 1 ≤ ((cap - s : Nat) : Int) := by omega
          have gq2 : (q : Int) + 1 ≤ (m : Int) := by omega
          have gqt : ((q : Int) + 1).toNat = q + 1 := by omega
          have hfl := HLE.out
          have HI := Lib.hid hi
          clear hnn hS hi
          by_cases hce : cap - s = q + 1
          · have hmC : m ≤ cap - s := by omega
            have hcC : c ≤ cap - s := by omega
            have hCm : cap - s ≤ maxLen := Nat.le_trans (Nat.sub_le _ _) hm
            generalize cap - s = C at *
            subst hce
            gi_wp2_with (first
              | (refine ⟨trivial, ?_⟩; refine (CallsIn.inRound _ (callsIn_wide.2 HGO.out)).mono ?_; rintro e w' ⟨rfl, hw'⟩; subst w')
              | (gi_at_builtin; refine wpListIn_append_own _ rfl (.tmp 28) (.tmp 30) 77 rfl (n + 3) 79 i0 (.pointer none) 1 8 Tryz.underlying77 HI.out hz0 hz1 hz2 rfl (by decide) (.slice oa1 gf.length oc1) gf.length (ptrs gf) rfl (World.ownsRow.alloc HMD.out.row _) ⟨w3.heap.size + 1, 0, none⟩ 1 1 [.pointer (some ⟨w3.heap.size, 0, none⟩)] rfl rfl (by have := cell_one_new ((newF w3 S).setCell ⟨n + 1, 0, none⟩ (.pointer (some ⟨w3.heap.size, 0, none⟩))) (.pointer (some ⟨w3.heap.size, 0, none⟩)) 79; simpa using this) (by simp [Value.oneCell']) (by have h1 := fin2_len _ _ HMD.out.fins; have h2 := HLN.out; simp at h1 h2; unfold maxLen; omega) (by have h1 := fin2_len _ _ HMD.out.fins; have h2 := HLN.out; simp at h1 h2; omega) (by simp; omega) ?_; intro vo2 w7 hown7 hgr7 _; obtain ⟨g7, c7, rfl⟩ := ownsRow_succ hown7; have hlow : ∀ k, (Value.slice oa1 gf.length oc1).ownBlock = some k → n + 3 ≤ k := (by intro k hk; rcases HMD.out.row.2 with ⟨h, _⟩ | ⟨b, cp, cur, h, hb, _⟩; (rw [h] at hk; simp [Value.ownBlock] at hk); (rw [h] at hk; simp [Value.ownBlock] at hk; omega)); have hb7 := (HMD.out.out.alloc (.cells #[.pointer (some ⟨w3.heap.size, 0, none⟩)] 79)).kept hgr7 (fun e => by have := hlow n e.symm; omega); have hc7 := hb7.cell; have hf7 := hb7.frozen; have htl8 := HMD.out.tl (keepX_alloc _ _) hgr7 hown7; have hcb8 := htl8.box.cell; have HT8 := Lib.hid htl8; have HG7 := Lib.hid hgr7; have hvc : ∀ (j : Nat) (o : Obj), (Value.slice oa1 gf.length oc1).ownBlock = some j → (((newF w3 S).setCell ⟨n + 1, 0, none⟩ (.pointer (some ⟨w3.heap.size, 0, none⟩))).alloc (.cells #[.pointer (some ⟨w3.heap.size, 0, none⟩)] 79)).heap[j]? = some o → o.isCells = true := (by intro j o hj ho; rcases (World.ownsRow.alloc HMD.out.row (.cells #[.pointer (some ⟨w3.heap.size, 0, none⟩)] 79)).2 with ⟨h, _⟩ | ⟨b, cp, cur, h, hb, hh, _⟩; (rw [h] at hj; simp [Value.ownBlock] at hj); (rw [h] at hj; simp [Value.ownBlock] at hj; subst hj; rw [hh] at ho; cases ho; rfl)); have HLOW := Lib.hid hlow; have HVC := Lib.hid hvc; clear htl8 hgr7 hown7 hb7 hlow hvc)
              | (refine ⟨trivial, ?_⟩; refine (CallsIn.inRound _ (callsIn_wide.2 HNM.out)).mono ?_; rintro e w3 ⟨rfl, hb3⟩; have hbx3 := boxed_keepX HBX2.out (keepX_below hb3) (fun h => h); have hbc3 := hbx3.cell; have hbf3 := hbx3.frozen; have hs33 : n + 3 ≤ w3.heap.size := (by have := hb3.size; simp at this; omega); obtain ⟨gf, vo1, hmd⟩ := (HCL.out.keep (keepX_below hb3) (fun k h => h.elim)).opens S hs33; obtain ⟨oa1, oc1, rfl⟩ : ∃ oa oc, vo1 = .slice oa gf.length oc := (by rcases hmd.row.2 with ⟨h, h0⟩ | ⟨b, cp, cur, h, _⟩; exact ⟨none, 0, by rw [h, h0]⟩; exact ⟨_, _, h⟩); have hbo3 : Boxed w3 n 77 (.slice oa1 gf.length oc1) := (((Below.heap_setCell _ _ _ _ (by simp)).trans (Below.heap_alloc _ _ _ (by omega))).symm.trans hmd.out); have hbA := hbx3.alloc (.cells #[.string S, .pointer none, .slice none 0 0, .slice none 0 0] 84); have hcA := hbA.cell; have hfA := hbA.frozen; have hcO := hmd.out.cell; have hfO := hmd.out.frozen; have hcP := hmd.box.cell; dsimp only [newF] at hcO hfO hcP; clear hbA; have HMD := Lib.hid hmd; have HB3 := Lib.hid hb3; clear hb3 hmd hbx3 hbo3 hbc3 hbf3))
            refine ⟨trivial, ?_⟩
            have hg7s := HG7.out.size
            simp at hg7s
            have hB8 : Below n W (w7.setCell ⟨n, 0, none⟩ (.slice (some ⟨g7, 0, none⟩) (gf.length + 1) c7)) := ((HW2.out.trans (HB3.out.mono (by simp; omega))).trans (((((Below.refl n w3).alloc (by omega) _).setCell (p := ⟨n + 1, 0, none⟩) (by simp) _).alloc (by simp; omega) _).grown HG7.out (by simp; omega) (fun k e => by have := HLOW.out k e; omega))).setCell (p := ⟨n, 0, none⟩) (Nat.le_refl _) _
            have hdl : (tx.drop (q + 1)).length = 0 := by rw [List.length_drop, HTL.out]; omega
            have hwr := write_any w3.heap.size w3.heap.size lb (lo + s) 0 S [] [] (tx.drop (q + 1)) (w7.setCell ⟨n, 0, none⟩ (.slice (some ⟨g7, 0, none⟩) (gf.length + 1) c7)) HT8.out.fld (by rw [List.drop_eq_nil_of_le (by rw [HTL.out]; omega)]; intro i hi; simp at hi) (by rw [hdl]; omega) (by unfold maxLen at *; omega) (fun x hx => HBT.out x (List.mem_of_mem_drop hx)) (fun _ => by have := HLB.out (by intro e; subst e; simp at hpl); omega) (by simp; rw [HTL.out]; omega)
            rw [hdl] at hwr
            have h22 : (w7.setCell ⟨n, 0, none⟩ (.slice (some ⟨g7, 0, none⟩) (gf.length + 1) c7)).heap[n + 2]? = W.heap[n + 2]? := (Below.heap_setCell w7 ⟨n, 0, none⟩ _ (n + 2) (by simp)).trans ((HG7.out.block (n + 2) (by simp; omega) (fun e => by have := HLOW.out _ e.symm; omega)).trans ((Below.heap_alloc _ _ _ (by simp; omega)).trans ((Below.heap_setCell _ _ _ _ (by simp)).trans ((Below.heap_alloc _ _ _ (by omega)).trans ((HB3.out.block (n + 2) (by simp; omega)).trans (Below.heap_setCell _ _ _ _ (by simp)))))))
            have hkf8 : KeepsFrom (n + 3) W (w7.setCell ⟨n, 0, none⟩ (.slice (some ⟨g7, 0, none⟩) (gf.length + 1) c7)) := (((KeepsOthers.setCell W _ _).from (n + 3)).trans (kf_below HB3.out)).trans ((((((KeepsOthers.alloc w3 _).trans (KeepsOthers.setCell _ _ _)).trans (KeepsOthers.alloc _ _)).trans (KeepsOthers.of_grownBy HG7.out HVC.out)).trans (KeepsOthers.setCell w7 _ _)).from (n + 3))
            have HB8 := Lib.hid hB8
            have H22 := Lib.hid h22
            have HKF8 := Lib.hid hkf8
            have hb2 : n + 3 ≤ w3.heap.size := hs33
            have hmul : pre.length * l.length ≤ 100000 * 100000 := Nat.mul_le_mul (by omega) hl
            refine (CallsIn.inRound _ (callsIn_wide.2 hwr)).mono ?_
            rintro e w2 ⟨rfl, hfl2, hfr2⟩
            have htl2 := HT8.out.fr (f' := ⟨S, [] ++ tx.drop (q + 1), []⟩) hfr2 hfl2
            have hbc2 := htl2.box.cell
            have HTL2 := Lib.hid htl2
            have HFR2 := Lib.hid hfr2
            clear hfl2 hfr2 htl2 hwr hB8 h22 hkf8 hdl
            gi_wp2
            have HCW2 := Lib.hid ((HCW.out.kept HB8.out (fun _ => HLB.out (by intro e; subst e; simp at hpl))).kept HFR2.out.1 (fun h => by have := HLB.out (by intro e; subst e; simp at hpl); omega))
            obtain ⟨a9, v9, r9, ha9, hf9⟩ := HTL2.out.fld
            obtain ⟨d0, d1, d2, d3, x1, x2, x3, _⟩ := hf9.at
            have hfd := hf9.drew
            have hrw := CellsL.row (W := w2.drew) (cap := q + 1) (fun i hi => (HCW2.out) i hi) (by rw [HWL.out]; omega) (by omega) HBW.out
            rw [HWL.out] at hrw
            have HF9 := Lib.hid hfd
            have HRW := Lib.hid hrw
            have hgl9 := hf9.lt
            have hbs9 := hf9.base
            clear hf9 hfd hrw
            refine region_roundH (fun w' => w'.cell? ⟨n + 1, 0, none⟩ = some (.pointer (some ⟨w3.heap.size, 0, none⟩))) (by kernel_rfl) (by rintro ⟨_, _, h⟩; exact h) (by kernel_rfl) hbc2 (fun hHeld => ?_)
            refine wpAnyH_take (i := 0) (oi := ⟨_, _, _, _, _, _⟩) (v := ?_) rfl (by kernel_rfl) (by kernel_rfl) (by kernel_rfl) (fun _ _ _ h => h) (Or.inl ⟨by rfl, ?_⟩) (by assumption) ?_
            rotate_left
            · intro w hSw; (try dsimp only at hSw); go_simp <;> with_reducible rfl
            simp only [Act.put, List.setIfInBounds_toArray, List.set_cons_zero, List.set_cons_succ]
            refine wpAnyH_take (i := 1) (oi := ⟨_, _, _, _, _, _⟩) (v := ?_) rfl (by kernel_rfl) (by kernel_rfl) (by kernel_rfl) (fun _ _ _ h => h) (Or.inl ⟨by rfl, ?_⟩) (by assumption) ?_
            rotate_left
            · intro w hSw; (try dsimp only at hSw); go_simp <;> with_reducible rfl
            simp only [Act.put, List.setIfInBounds_toArray, List.set_cons_zero, List.set_cons_succ]
            refine wpAnyH_take (i := 2) (oi := ⟨_, _, _, _, _, _⟩) (v := ?_) rfl (by kernel_rfl) (by kernel_rfl) (by kernel_rfl) (fun _ _ _ h => h) (Or.inl ⟨by rfl, ?_⟩) (by assumption) ?_
            rotate_left
            · intro w hSw; (try dsimp only at hSw); go_simp <;> with_reducible rfl
            simp only [Act.put, List.setIfInBounds_toArray, List.set_cons_zero, List.set_cons_succ]
            refine wpAnyH_take (i := 3) (oi := ⟨_, _, _, _, _, _⟩) (v := ?_) rfl (by kernel_rfl) (by kernel_rfl) (by kernel_rfl) (fun _ _ _ h => h) (Or.inl ⟨by rfl, ?_⟩) (by assumption) ?_
            rotate_left
            · intro w hSw; (try dsimp only at hSw); go_simp <;> with_reducible rfl
            simp only [Act.put, List.setIfInBounds_toArray, List.set_cons_zero, List.set_cons_succ]
            refine wpAnyH_take (i := 5) (oi := ⟨_, _, _, _, _, _⟩) (v := ?_) rfl (by kernel_rfl) (by kernel_rfl) (by kernel_rfl) (fun _ _ _ h => h) (Or.inl ⟨by rfl, ?_⟩) (by assumption) ?_
            rotate_left
            · intro w hSw; (try dsimp only at hSw); go_simp <;> with_reducible rfl
            simp only [Act.put, List.setIfInBounds_toArray, List.set_cons_zero, List.set_cons_succ]
            refine wpAnyH_ready (rs := [4]) (by kernel_rfl) (by simp) ?_
            refine AllReadyH.cons (o := ⟨_, _, _, _, _, _⟩) rfl (fun K hK => ?_) AllReadyH.nil
            go_simp
            refine hK.out _ _ hHeld (fun _ => ?_)
            clear hK K
            refine wpAnyH_ready (rs := [6]) (by kernel_rfl) (by simp) ?_
            refine AllReadyH.cons (o := ⟨_, _, _, _, _, _⟩) rfl (fun K hK => ?_) AllReadyH.nil
            refine step_app rfl (.tmp 48) (.tmp 49) rfl HF9.out.raw HRW.out (by simp; omega) rfl rfl (by rw [HWL.out]; simp; omega) (fun o3 w3x ho3 hg3 hm3 => ?_)
            obtain ⟨oa3, oc3, rfl⟩ := ho3.shape
            simp only [List.length_append, List.length_nil, Nat.zero_add] at ho3 hm3
            have hb3 : w3x.cell? ⟨n + 1, 0, none⟩ = some (.pointer (some ⟨w3.heap.size, 0, none⟩)) := (World.cell?_of_block (hg3.block (n + 1) (by simp; omega) (fun e => by have := HF9.out.raw.ownLe _ e.symm; omega))).trans hHeld
            have hneg : some w3.heap.size ≠ r9.ownBlock := fun e => ownB_ne HF9.out.raw HF9.out.row e.symm
            have y3 : w3x.cell? ⟨w3.heap.size, 3, none⟩ = some r9 := (World.cell?_of_block (hg3.block w3.heap.size (by simpa using hgl9) hneg)).trans d3
            have z3 : w3x.frozen? ⟨w3.heap.size, 3, none⟩ = false := (World.frozen?_of_block (hg3.block w3.heap.size (by simpa using hgl9) hneg)).trans x3
            have HO3 := Lib.hid ho3
            have HG3 := Lib.hid hg3
            have HM3 := Lib.hid hm3
            clear ho3 hg3 hm3 hneg
            refine hK.out _ _ hb3 (fun hHeld3 => ?_)
            clear hK K
            simp only [Act.put, List.setIfInBounds_toArray, List.set_cons_zero, List.set_cons_succ]
            refine wpAnyH_take (i := 7) (oi := ⟨_, _, _, _, _, _⟩) (v := ?_) rfl (by kernel_rfl) (by kernel_rfl) (by kernel_rfl) (fun _ _ _ h => h) (Or.inl ⟨by rfl, ?_⟩) (by assumption) ?_
            rotate_left
            · intro w hSw; (try dsimp only at hSw); go_simp <;> with_reducible rfl
            simp only [Act.put, List.setIfInBounds_toArray, List.set_cons_zero, List.set_cons_succ]
            refine wpAnyH_take (i := 8) (oi := ⟨_, _, _, _, _, _⟩) (v := ?_) rfl (by kernel_rfl) (by kernel_rfl) (by kernel_rfl) (fun _ _ _ h => h) (Or.inl ⟨by rfl, ?_⟩) (by assumption) ?_
            rotate_left
            · intro w hSw; (try dsimp only at hSw); go_simp <;> with_reducible rfl
            simp only [Act.put, List.setIfInBounds_toArray, List.set_cons_zero, List.set_cons_succ]
            refine wpAnyH_ready (rs := [9]) (by kernel_rfl) (by simp) ?_
            refine AllReadyH.cons (o := ⟨_, _, _, _, _, _⟩) rfl (fun K hK => ?_) AllReadyH.nil
            go_simp
            refine hK.out _ _ (show (w3x.setCell _ _).cell? _ = _ from (World.cell?_of_block (Below.heap_setCell w3x _ _ _ (by simp; omega))).trans hHeld3) (fun _ => ?_)
            clear hK K
            refine wpAnyH_done (by kernel_rfl) ?_ _
            have hs3' := HG3.out.size
            have hfrx : Fr w3.heap.size w3.heap.size w2 (w3x.setCell ⟨w3.heap.size, 3, none⟩ (.slice oa3 wh.length oc3)) := ((Fr.drewn w3.heap.size w3.heap.size w2).app (by simp; omega) HF9.out.raw HG3.out).turn hbs9 (by simp at hs3'; omega) (grownBy_set w3x w3.heap.size 3 _)
            have htl3 := HTL2.out.fr (f' := ⟨S, tx.drop (q + 1), wh⟩) hfrx ⟨a9, v9, _, ha9, HF9.out.apr HO3.out HG3.out HM3.out⟩
            have hfrw := HFR2.out.trans hfrx
            change KeepsFrom (n + 3) W _ ∧ KpL n (n + 2) W _ ∧ (FI n w l (pre ++ [(s, c, m)]) _ ∧ ∀ x ∈ pre ++ [(s, c, m)], x.2.2 ≠ 0)
            refine ⟨HKF8.out.trans (hfrw.kf HT8.out.fld.cells), ⟨HB8.out.trans (hfrw.1.mono (by omega)), (hfrw.1.block _ (by omega)).trans H22.out⟩, ⟨?_, HBEL.out.trans (HB8.out.trans (hfrw.1.mono (by omega))), by have h1 := HB8.out.size; have h2 := hfrw.1.size; omega⟩, HN2.out⟩
            rw [HSN.out, HST.out]
            exact htl3.inv
          · gi_wp2_with (first
              | (refine ⟨trivial, ?_⟩; refine (CallsIn.inRound _ (callsIn_wide.2 HGO.out)).mono ?_; rintro e w' ⟨rfl, hw'⟩; subst w')
              | (gi_at_builtin; refine wpListIn_append_own _ rfl (.tmp 28) (.tmp 30) 77 rfl (n + 3) 79 i0 (.pointer none) 1 8 Tryz.underlying77 HI.out hz0 hz1 hz2 rfl (by decide) (.slice oa1 gf.length oc1) gf.length (ptrs gf) rfl (World.ownsRow.alloc HMD.out.row _) ⟨w3.heap.size + 1, 0, none⟩ 1 1 [.pointer (some ⟨w3.heap.size, 0, none⟩)] rfl rfl (by have := cell_one_new ((newF w3 S).setCell ⟨n + 1, 0, none⟩ (.pointer (some ⟨w3.heap.size, 0, none⟩))) (.pointer (some ⟨w3.heap.size, 0, none⟩)) 79; simpa using this) (by simp [Value.oneCell']) (by have h1 := fin2_len _ _ HMD.out.fins; have h2 := HLN.out; simp at h1 h2; unfold maxLen; omega) (by have h1 := fin2_len _ _ HMD.out.fins; have h2 := HLN.out; simp at h1 h2; omega) (by simp; omega) ?_; intro vo2 w7 hown7 hgr7 _; obtain ⟨g7, c7, rfl⟩ := ownsRow_succ hown7; have hlow : ∀ k, (Value.slice oa1 gf.length oc1).ownBlock = some k → n + 3 ≤ k := (by intro k hk; rcases HMD.out.row.2 with ⟨h, _⟩ | ⟨b, cp, cur, h, hb, _⟩; (rw [h] at hk; simp [Value.ownBlock] at hk); (rw [h] at hk; simp [Value.ownBlock] at hk; omega)); have hb7 := (HMD.out.out.alloc (.cells #[.pointer (some ⟨w3.heap.size, 0, none⟩)] 79)).kept hgr7 (fun e => by have := hlow n e.symm; omega); have hc7 := hb7.cell; have hf7 := hb7.frozen; have htl8 := HMD.out.tl (keepX_alloc _ _) hgr7 hown7; have hcb8 := htl8.box.cell; have HT8 := Lib.hid htl8; have HG7 := Lib.hid hgr7; have hvc : ∀ (j : Nat) (o : Obj), (Value.slice oa1 gf.length oc1).ownBlock = some j → (((newF w3 S).setCell ⟨n + 1, 0, none⟩ (.pointer (some ⟨w3.heap.size, 0, none⟩))).alloc (.cells #[.pointer (some ⟨w3.heap.size, 0, none⟩)] 79)).heap[j]? = some o → o.isCells = true := (by intro j o hj ho; rcases (World.ownsRow.alloc HMD.out.row (.cells #[.pointer (some ⟨w3.heap.size, 0, none⟩)] 79)).2 with ⟨h, _⟩ | ⟨b, cp, cur, h, hb, hh, _⟩; (rw [h] at hj; simp [Value.ownBlock] at hj); (rw [h] at hj; simp [Value.ownBlock] at hj; subst hj; rw [hh] at ho; cases ho; rfl)); have HLOW := Lib.hid hlow; have HVC := Lib.hid hvc; clear htl8 hgr7 hown7 hb7 hlow hvc)
              | (refine ⟨trivial, ?_⟩; refine (CallsIn.inRound _ (callsIn_wide.2 HNM.out)).mono ?_; rintro e w3 ⟨rfl, hb3⟩; have hbx3 := boxed_keepX HBX2.out (keepX_below hb3) (fun h => h); have hbc3 := hbx3.cell; have hbf3 := hbx3.frozen; have hs33 : n + 3 ≤ w3.heap.size := (by have := hb3.size; simp at this; omega); obtain ⟨gf, vo1, hmd⟩ := (HCL.out.keep (keepX_below hb3) (fun k h => h.elim)).opens S hs33; obtain ⟨oa1, oc1, rfl⟩ : ∃ oa oc, vo1 = .slice oa gf.length oc := (by rcases hmd.row.2 with ⟨h, h0⟩ | ⟨b, cp, cur, h, _⟩; exact ⟨none, 0, by rw [h, h0]⟩; exact ⟨_, _, h⟩); have hbo3 : Boxed w3 n 77 (.slice oa1 gf.length oc1) := (((Below.heap_setCell _ _ _ _ (by simp)).trans (Below.heap_alloc _ _ _ (by omega))).symm.trans hmd.out); have hbA := hbx3.alloc (.cells #[.string S, .pointer none, .slice none 0 0, .slice none 0 0] 84); have hcA := hbA.cell; have hfA := hbA.frozen; have hcO := hmd.out.cell; have hfO := hmd.out.frozen; have hcP := hmd.box.cell; dsimp only [newF] at hcO hfO hcP; clear hbA; have HMD := Lib.hid hmd; have HB3 := Lib.hid hb3; clear hb3 hmd hbx3 hbo3 hbc3 hbf3))
            refine ⟨trivial, ?_⟩
            have hg7s := HG7.out.size
            simp at hg7s
            have hB8 : Below n W (w7.setCell ⟨n, 0, none⟩ (.slice (some ⟨g7, 0, none⟩) (gf.length + 1) c7)) := ((HW2.out.trans (HB3.out.mono (by simp; omega))).trans (((((Below.refl n w3).alloc (by omega) _).setCell (p := ⟨n + 1, 0, none⟩) (by simp) _).alloc (by simp; omega) _).grown HG7.out (by simp; omega) (fun k e => by have := HLOW.out k e; omega))).setCell (p := ⟨n, 0, none⟩) (Nat.le_refl _) _
            have hdl : (tx.drop (q + 1)).length = m - (q + 1) := by rw [List.length_drop, HTL.out]
            have hwr := write_any w3.heap.size w3.heap.size lb (lo + s + (q + 1)) (cap - s - (q + 1)) S [] [] (tx.drop (q + 1)) (w7.setCell ⟨n, 0, none⟩ (.slice (some ⟨g7, 0, none⟩) (gf.length + 1) c7)) HT8.out.fld ((HCT.out.kept hB8 (fun _ => HLB.out (by intro e; subst e; simp at hpl))).drop (q + 1)) (by rw [hdl]; omega) (by unfold maxLen at *; omega) (fun x hx => HBT.out x (List.mem_of_mem_drop hx)) (fun _ => by have := HLB.out (by intro e; subst e; simp at hpl); omega) (by simp; rw [HTL.out]; omega)
            rw [hdl] at hwr
            have h22 : (w7.setCell ⟨n, 0, none⟩ (.slice (some ⟨g7, 0, none⟩) (gf.length + 1) c7)).heap[n + 2]? = W.heap[n + 2]? := (Below.heap_setCell w7 ⟨n, 0, none⟩ _ (n + 2) (by simp)).trans ((HG7.out.block (n + 2) (by simp; omega) (fun e => by have := HLOW.out _ e.symm; omega)).trans ((Below.heap_alloc _ _ _ (by simp; omega)).trans ((Below.heap_setCell _ _ _ _ (by simp)).trans ((Below.heap_alloc _ _ _ (by omega)).trans ((HB3.out.block (n + 2) (by simp; omega)).trans (Below.heap_setCell _ _ _ _ (by simp)))))))
            have hkf8 : KeepsFrom (n + 3) W (w7.setCell ⟨n, 0, none⟩ (.slice (some ⟨g7, 0, none⟩) (gf.length + 1) c7)) := (((KeepsOthers.setCell W _ _).from (n + 3)).trans (kf_below HB3.out)).trans ((((((KeepsOthers.alloc w3 _).trans (KeepsOthers.setCell _ _ _)).trans (KeepsOthers.alloc _ _)).trans (KeepsOthers.of_grownBy HG7.out HVC.out)).trans (KeepsOthers.setCell w7 _ _)).from (n + 3))
            have HB8 := Lib.hid hB8
            have H22 := Lib.hid h22
            have HKF8 := Lib.hid hkf8
            have hb2 : n + 3 ≤ w3.heap.size := hs33
            have hmul : pre.length * l.length ≤ 100000 * 100000 := Nat.mul_le_mul (by omega) hl
            refine (CallsIn.inRound _ (callsIn_wide.2 hwr)).mono ?_
            rintro e w2 ⟨rfl, hfl2, hfr2⟩
            have htl2 := HT8.out.fr (f' := ⟨S, [] ++ tx.drop (q + 1), []⟩) hfr2 hfl2
            have hbc2 := htl2.box.cell
            have HTL2 := Lib.hid htl2
            have HFR2 := Lib.hid hfr2
            clear hfl2 hfr2 htl2 hwr hB8 h22 hkf8 hdl
            gi_wp2
            have HCW2 := Lib.hid ((HCW.out.kept HB8.out (fun _ => HLB.out (by intro e; subst e; simp at hpl))).kept HFR2.out.1 (fun h => by have := HLB.out (by intro e; subst e; simp at hpl); omega))
            obtain ⟨a9, v9, r9, ha9, hf9⟩ := HTL2.out.fld
            obtain ⟨d0, d1, d2, d3, x1, x2, x3, _⟩ := hf9.at
            have hfd := hf9.drew
            have hrw := CellsL.row (W := w2.drew) (cap := cap - s) (fun i hi => (HCW2.out) i hi) (by rw [HWL.out]; omega) (by omega) HBW.out
            rw [HWL.out] at hrw
            have HF9 := Lib.hid hfd
            have HRW := Lib.hid hrw
            have hgl9 := hf9.lt
            have hbs9 := hf9.base
            clear hf9 hfd hrw
            refine region_roundH (fun w' => w'.cell? ⟨n + 1, 0, none⟩ = some (.pointer (some ⟨w3.heap.size, 0, none⟩))) (by kernel_rfl) (by rintro ⟨_, _, h⟩; exact h) (by kernel_rfl) hbc2 (fun hHeld => ?_)
            refine wpAnyH_take (i := 0) (oi := ⟨_, _, _, _, _, _⟩) (v := ?_) rfl (by kernel_rfl) (by kernel_rfl) (by kernel_rfl) (fun _ _ _ h => h) (Or.inl ⟨by rfl, ?_⟩) (by assumption) ?_
            rotate_left
            · intro w hSw; (try dsimp only at hSw); go_simp <;> with_reducible rfl
            simp only [Act.put, List.setIfInBounds_toArray, List.set_cons_zero, List.set_cons_succ]
            refine wpAnyH_take (i := 1) (oi := ⟨_, _, _, _, _, _⟩) (v := ?_) rfl (by kernel_rfl) (by kernel_rfl) (by kernel_rfl) (fun _ _ _ h => h) (Or.inl ⟨by rfl, ?_⟩) (by assumption) ?_
            rotate_left
            · intro w hSw; (try dsimp only at hSw); go_simp <;> with_reducible rfl
            simp only [Act.put, List.setIfInBounds_toArray, List.set_cons_zero, List.set_cons_succ]
            refine wpAnyH_take (i := 2) (oi := ⟨_, _, _, _, _, _⟩) (v := ?_) rfl (by kernel_rfl) (by kernel_rfl) (by kernel_rfl) (fun _ _ _ h => h) (Or.inl ⟨by rfl, ?_⟩) (by assumption) ?_
            rotate_left
            · intro w hSw; (try dsimp only at hSw); go_simp <;> with_reducible rfl
            simp only [Act.put, List.setIfInBounds_toArray, List.set_cons_zero, List.set_cons_succ]
            refine wpAnyH_take (i := 3) (oi := ⟨_, _, _, _, _, _⟩) (v := ?_) rfl (by kernel_rfl) (by kernel_rfl) (by kernel_rfl) (fun _ _ _ h => h) (Or.inl ⟨by rfl, ?_⟩) (by assumption) ?_
            rotate_left
            · intro w hSw; (try dsimp only at hSw); go_simp <;> with_reducible rfl
            simp only [Act.put, List.setIfInBounds_toArray, List.set_cons_zero, List.set_cons_succ]
            refine wpAnyH_take (i := 5) (oi := ⟨_, _, _, _, _, _⟩) (v := ?_) rfl (by kernel_rfl) (by kernel_rfl) (by kernel_rfl) (fun _ _ _ h => h) (Or.inl ⟨by rfl, ?_⟩) (by assumption) ?_
            rotate_left
            · intro w hSw; (try dsimp only at hSw); go_simp <;> with_reducible rfl
            simp only [Act.put, List.setIfInBounds_toArray, List.set_cons_zero, List.set_cons_succ]
            refine wpAnyH_ready (rs := [4]) (by kernel_rfl) (by simp) ?_
            refine AllReadyH.cons (o := ⟨_, _, _, _, _, _⟩) rfl (fun K hK => ?_) AllReadyH.nil
            go_simp
            refine hK.out _ _ hHeld (fun _ => ?_)
            clear hK K
            refine wpAnyH_ready (rs := [6]) (by kernel_rfl) (by simp) ?_
            refine AllReadyH.cons (o := ⟨_, _, _, _, _, _⟩) rfl (fun K hK => ?_) AllReadyH.nil
            refine step_app rfl (.tmp 48) (.tmp 49) rfl HF9.out.raw HRW.out (by simp; omega) rfl rfl (by rw [HWL.out]; simp; omega) (fun o3 w3x ho3 hg3 hm3 => ?_)
            obtain ⟨oa3, oc3, rfl⟩ := ho3.shape
            simp only [List.length_append, List.length_nil, Nat.zero_add] at ho3 hm3
            have hb3 : w3x.cell? ⟨n + 1, 0, none⟩ = some (.pointer (some ⟨w3.heap.size, 0, none⟩)) := (World.cell?_of_block (hg3.block (n + 1) (by simp; omega) (fun e => by have := HF9.out.raw.ownLe _ e.symm; omega))).trans hHeld
            have hneg : some w3.heap.size ≠ r9.ownBlock := fun e => ownB_ne HF9.out.raw HF9.out.row e.symm
            have y3 : w3x.cell? ⟨w3.heap.size, 3, none⟩ = some r9 := (World.cell?_of_block (hg3.block w3.heap.size (by simpa using hgl9) hneg)).trans d3
            have z3 : w3x.frozen? ⟨w3.heap.size, 3, none⟩ = false := (World.frozen?_of_block (hg3.block w3.heap.size (by simpa using hgl9) hneg)).trans x3
            have HO3 := Lib.hid ho3
            have HG3 := Lib.hid hg3
            have HM3 := Lib.hid hm3
            clear ho3 hg3 hm3 hneg
            refine hK.out _ _ hb3 (fun hHeld3 => ?_)
            clear hK K
            simp only [Act.put, List.setIfInBounds_toArray, List.set_cons_zero, List.set_cons_succ]
            refine wpAnyH_take (i := 7) (oi := ⟨_, _, _, _, _, _⟩) (v := ?_) rfl (by kernel_rfl) (by kernel_rfl) (by kernel_rfl) (fun _ _ _ h => h) (Or.inl ⟨by rfl, ?_⟩) (by assumption) ?_
            rotate_left
            · intro w hSw; (try dsimp only at hSw); go_simp <;> with_reducible rfl
            simp only [Act.put, List.setIfInBounds_toArray, List.set_cons_zero, List.set_cons_succ]
            refine wpAnyH_take (i := 8) (oi := ⟨_, _, _, _, _, _⟩) (v := ?_) rfl (by kernel_rfl) (by kernel_rfl) (by kernel_rfl) (fun _ _ _ h => h) (Or.inl ⟨by rfl, ?_⟩) (by assumption) ?_
            rotate_left
            · intro w hSw; (try dsimp only at hSw); go_simp <;> with_reducible rfl
            simp only [Act.put, List.setIfInBounds_toArray, List.set_cons_zero, List.set_cons_succ]
            refine wpAnyH_ready (rs := [9]) (by kernel_rfl) (by simp) ?_
            refine AllReadyH.cons (o := ⟨_, _, _, _, _, _⟩) rfl (fun K hK => ?_) AllReadyH.nil
            go_simp
            refine hK.out _ _ (show (w3x.setCell _ _).cell? _ = _ from (World.cell?_of_block (Below.heap_setCell w3x _ _ _ (by simp; omega))).trans hHeld3) (fun _ => ?_)
            clear hK K
            refine wpAnyH_done (by kernel_rfl) ?_ _
            have hs3' := HG3.out.size
            have hfrx : Fr w3.heap.size w3.heap.size w2 (w3x.setCell ⟨w3.heap.size, 3, none⟩ (.slice oa3 wh.length oc3)) := ((Fr.drewn w3.heap.size w3.heap.size w2).app (by simp; omega) HF9.out.raw HG3.out).turn hbs9 (by simp at hs3'; omega) (grownBy_set w3x w3.heap.size 3 _)
            have htl3 := HTL2.out.fr (f' := ⟨S, tx.drop (q + 1), wh⟩) hfrx ⟨a9, v9, _, ha9, HF9.out.apr HO3.out HG3.out HM3.out⟩
            have hfrw := HFR2.out.trans hfrx
            change KeepsFrom (n + 3) W _ ∧ KpL n (n + 2) W _ ∧ (FI n w l (pre ++ [(s, c, m)]) _ ∧ ∀ x ∈ pre ++ [(s, c, m)], x.2.2 ≠ 0)
            refine ⟨HKF8.out.trans (hfrw.kf HT8.out.fld.cells), ⟨HB8.out.trans (hfrw.1.mono (by omega)), (hfrw.1.block _ (by omega)).trans H22.out⟩, ⟨?_, HBEL.out.trans (HB8.out.trans (hfrw.1.mono (by omega))), by have h1 := HB8.out.size; have h2 := hfrw.1.size; omega⟩, HN2.out⟩
            rw [HSN.out, HST.out]
            exact htl3.inv
      · rw [hg] at HGO
        have hstep : stepF (fin, op) wh tx = (fin, op.map fun f => ⟨f.nm, f.T ++ tx, f.R ++ wh⟩) := by unfold stepF; rw [hg]; rfl
        have HST := Lib.hid hstep
        clear hstep hg
        cases op with
        | none =>
          obtain ⟨vo, gf, go, E, -, -, -, hop, -⟩ := id HINV.out
          have hbc := hop.2.cell
          clear hop
          gi_wp2_with (refine ⟨trivial, ?_⟩; refine (CallsIn.inRound _ (callsIn_wide.2 HGO.out)).mono ?_; rintro e w' ⟨rfl, hw'⟩; subst w')
          refine ⟨KeepsFrom.refl _ _, ⟨Below.refl _ _, rfl⟩, ⟨?_, HBEL.out, hs3⟩, HN2.out⟩
          rw [HSN.out, HST.out]
          exact HINV.out
        | some f =>
          obtain ⟨gf, g, Bo, E, vo, htl⟩ := HINV.out.tl
          have hbx := htl.box
          have hbc := hbx.cell
          have hTL := Lib.hid htl
          have hb2 := htl.le2
          have hb3 := htl.le3
          have hgl := htl.fld
          have hfl := HLE.out f (by simp)
          have hmul : pre.length * l.length ≤ 100000 * 100000 := Nat.mul_le_mul (by omega) hl
          have hwr := write_any g Bo lb (lo + s) (cap - s) f.nm f.T f.R tx W htl.fld HCT.out (by rw [HTL.out]; omega) (by omega) HBT.out (fun h => by have := HLB.out (by intro e; subst e; simp at hpl); omega) (by rw [HTL.out]; omega)
          rw [HTL.out] at hwr
          have HWR := Lib.hid hwr
          clear htl hbx hwr hgl
          gi_wp2_with (first
            | (refine ⟨trivial, ?_⟩; refine (CallsIn.inRound _ (callsIn_wide.2 HGO.out)).mono ?_; rintro e w' ⟨rfl, hw'⟩; subst w')
            | (refine ⟨trivial, ?_⟩; refine (CallsIn.inRound _ (callsIn_wide.2 HWR.out)).mono ?_; rintro e w2 ⟨rfl, hfl2, hfr2⟩; have htl2 := hTL.out.fr (f' := ⟨f.nm, f.T ++ tx, f.R⟩) hfr2 hfl2; have hbc2 := htl2.box.cell; have HTL2 := Lib.hid htl2; have HFR2 := Lib.hid hfr2; clear hfl2 hfr2 htl2))
          have HCW2 := Lib.hid (HCW.out.kept HFR2.out.1 (fun h => by have := HLB.out (by intro e; subst e; simp at hpl); omega))
          obtain ⟨a9, v9, r9, ha9, hf9⟩ := HTL2.out.fld
          obtain ⟨d0, d1, d2, d3, x1, x2, x3, _⟩ := hf9.at
          have hfd := hf9.drew
          have hrw := CellsL.row (W := w2.drew) (cap := cap - s) (fun i hi => (HCW2.out) i hi) (by rw [HWL.out]; omega) (by omega) HBW.out
          rw [HWL.out] at hrw
          have HF9 := Lib.hid hfd
          have HRW := Lib.hid hrw
          have hgl9 := hf9.lt
          have hbs9 := hf9.base
          clear hf9 hfd hrw
          refine region_roundH (fun w' => w'.cell? ⟨n + 1, 0, none⟩ = some (.pointer (some ⟨g, 0, none⟩))) (by kernel_rfl) (by rintro ⟨_, _, h⟩; exact h) (by kernel_rfl) hbc2 (fun hHeld => ?_)
          refine wpAnyH_take (i := 0) (oi := ⟨_, _, _, _, _, _⟩) (v := ?_) rfl (by kernel_rfl) (by kernel_rfl) (by kernel_rfl) (fun _ _ _ h => h) (Or.inl ⟨by rfl, ?_⟩) (by assumption) ?_
          rotate_left
          · intro w hSw; (try dsimp only at hSw); go_simp <;> with_reducible rfl
          simp only [Act.put, List.setIfInBounds_toArray, List.set_cons_zero, List.set_cons_succ]
          refine wpAnyH_take (i := 1) (oi := ⟨_, _, _, _, _, _⟩) (v := ?_) rfl (by kernel_rfl) (by kernel_rfl) (by kernel_rfl) (fun _ _ _ h => h) (Or.inl ⟨by rfl, ?_⟩) (by assumption) ?_
          rotate_left
          · intro w hSw; (try dsimp only at hSw); go_simp <;> with_reducible rfl
          simp only [Act.put, List.setIfInBounds_toArray, List.set_cons_zero, List.set_cons_succ]
          refine wpAnyH_take (i := 2) (oi := ⟨_, _, _, _, _, _⟩) (v := ?_) rfl (by kernel_rfl) (by kernel_rfl) (by kernel_rfl) (fun _ _ _ h => h) (Or.inl ⟨by rfl, ?_⟩) (by assumption) ?_
          rotate_left
          · intro w hSw; (try dsimp only at hSw); go_simp <;> with_reducible rfl
          simp only [Act.put, List.setIfInBounds_toArray, List.set_cons_zero, List.set_cons_succ]
          refine wpAnyH_take (i := 3) (oi := ⟨_, _, _, _, _, _⟩) (v := ?_) rfl (by kernel_rfl) (by kernel_rfl) (by kernel_rfl) (fun _ _ _ h => h) (Or.inl ⟨by rfl, ?_⟩) (by assumption) ?_
          rotate_left
          · intro w hSw; (try dsimp only at hSw); go_simp <;> with_reducible rfl
          simp only [Act.put, List.setIfInBounds_toArray, List.set_cons_zero, List.set_cons_succ]
          refine wpAnyH_take (i := 5) (oi := ⟨_, _, _, _, _, _⟩) (v := ?_) rfl (by kernel_rfl) (by kernel_rfl) (by kernel_rfl) (fun _ _ _ h => h) (Or.inl ⟨by rfl, ?_⟩) (by assumption) ?_
          rotate_left
          · intro w hSw; (try dsimp only at hSw); go_simp <;> with_reducible rfl
          simp only [Act.put, List.setIfInBounds_toArray, List.set_cons_zero, List.set_cons_succ]
          refine wpAnyH_ready (rs := [4]) (by kernel_rfl) (by simp) ?_
          refine AllReadyH.cons (o := ⟨_, _, _, _, _, _⟩) rfl (fun K hK => ?_) AllReadyH.nil
          go_simp
          refine hK.out _ _ hHeld (fun _ => ?_)
          clear hK K
          refine wpAnyH_ready (rs := [6]) (by kernel_rfl) (by simp) ?_
          refine AllReadyH.cons (o := ⟨_, _, _, _, _, _⟩) rfl (fun K hK => ?_) AllReadyH.nil
          refine step_app rfl (.tmp 48) (.tmp 49) rfl HF9.out.raw HRW.out (by simp; omega) rfl rfl (by rw [HWL.out]; show f.R.length + c ≤ _; omega) (fun o3 w3 ho3 hg3 hm3 => ?_)
          obtain ⟨oa3, oc3, rfl⟩ := ho3.shape
          simp only [List.length_append] at ho3 hm3
          have hb3 : w3.cell? ⟨n + 1, 0, none⟩ = some (.pointer (some ⟨g, 0, none⟩)) := (World.cell?_of_block (hg3.block (n + 1) (by simp; omega) (fun e => by have := HF9.out.raw.ownLe _ e.symm; omega))).trans hHeld
          have hneg : some g ≠ r9.ownBlock := fun e => ownB_ne HF9.out.raw HF9.out.row e.symm
          have y3 : w3.cell? ⟨g, 3, none⟩ = some r9 := (World.cell?_of_block (hg3.block g (by simpa using hgl9) hneg)).trans d3
          have z3 : w3.frozen? ⟨g, 3, none⟩ = false := (World.frozen?_of_block (hg3.block g (by simpa using hgl9) hneg)).trans x3
          have HO3 := Lib.hid ho3
          have HG3 := Lib.hid hg3
          have HM3 := Lib.hid hm3
          clear ho3 hg3 hm3 hneg
          refine hK.out _ _ hb3 (fun hHeld3 => ?_)
          clear hK K
          simp only [Act.put, List.setIfInBounds_toArray, List.set_cons_zero, List.set_cons_succ]
          refine wpAnyH_take (i := 7) (oi := ⟨_, _, _, _, _, _⟩) (v := ?_) rfl (by kernel_rfl) (by kernel_rfl) (by kernel_rfl) (fun _ _ _ h => h) (Or.inl ⟨by rfl, ?_⟩) (by assumption) ?_
          rotate_left
          · intro w hSw; (try dsimp only at hSw); go_simp <;> with_reducible rfl
          simp only [Act.put, List.setIfInBounds_toArray, List.set_cons_zero, List.set_cons_succ]
          refine wpAnyH_take (i := 8) (oi := ⟨_, _, _, _, _, _⟩) (v := ?_) rfl (by kernel_rfl) (by kernel_rfl) (by kernel_rfl) (fun _ _ _ h => h) (Or.inl ⟨by rfl, ?_⟩) (by assumption) ?_
          rotate_left
          · intro w hSw; (try dsimp only at hSw); go_simp <;> with_reducible rfl
          simp only [Act.put, List.setIfInBounds_toArray, List.set_cons_zero, List.set_cons_succ]
          refine wpAnyH_ready (rs := [9]) (by kernel_rfl) (by simp) ?_
          refine AllReadyH.cons (o := ⟨_, _, _, _, _, _⟩) rfl (fun K hK => ?_) AllReadyH.nil
          go_simp
          refine hK.out _ _ (show (w3.setCell _ _).cell? _ = _ from (World.cell?_of_block (Below.heap_setCell w3 _ _ _ (by simp; omega))).trans hHeld3) (fun _ => ?_)
          clear hK K
          refine wpAnyH_done (by kernel_rfl) ?_ _
          have hs3' := HG3.out.size
          have hfrx : Fr Bo g w2 (w3.setCell ⟨g, 3, none⟩ (.slice oa3 (f.R.length + wh.length) oc3)) := ((Fr.drewn Bo g w2).app (by simp; omega) HF9.out.raw HG3.out).turn hbs9 (by simp at hs3'; omega) (grownBy_set w3 g 3 _)
          have htl3 := HTL2.out.fr (f' := ⟨f.nm, f.T ++ tx, f.R ++ wh⟩) hfrx ⟨a9, v9, _, ha9, HF9.out.apr HO3.out HG3.out HM3.out⟩
          have hfrw := HFR2.out.trans hfrx
          change KeepsFrom (n + 3) W _ ∧ KpL n (n + 2) W _ ∧ (FI n w l (pre ++ [(s, c, m)]) _ ∧ ∀ x ∈ pre ++ [(s, c, m)], x.2.2 ≠ 0)
          refine ⟨hfrw.kf hTL.out.fld.cells, hfrw.kp hb2, ⟨?_, HBEL.out.trans (hfrw.1.mono (by omega)), Nat.le_trans hs3 hfrw.1.size⟩, HN2.out⟩
          rw [HSN.out, HST.out]
          exact htl3.inv
  case done =>
    rw [hsz]
    rintro W ⟨⟨hinv, hbel, hs3⟩, hne⟩ hK
    have hall : fieldsS l = (runF l ([], none) (linesP 0 l)).1 ++ (runF l ([], none) (linesP 0 l)).2.toList := by
      unfold fieldsS
      rw [headF_all hne]
    have HALL := Lib.hid hall
    have hf := hinv.ends
    have HE := Lib.hid hf
    have HB := Lib.hid hbel
    clear hf hbel hinv hne hall
    obtain ⟨vo, gs, E, hbx, hrow, hfin⟩ := HE.out
    have hcx := hbx.cell
    have HROW := Lib.hid hrow
    have HFIN := Lib.hid hfin
    clear hrow hfin HE
    gi_wp2
    refine ⟨by simp, .inl ⟨_, _, rfl, run_takeDeferred hK, ?_⟩⟩
    have hkp := keepX_put (o' := .deferred none) hK rfl
    refine ⟨_, results_tmp rfl _ _ _, ?_⟩
    rw [hn]
    refine ⟨vo, gs, E, rfl, ownsRow_keepX HROW.out hkp (fun k h => h.elim), ?_, HB.out.trans (belowK_b (w := W0) (by omega) W _ _ _ (by omega) hK rfl rfl)⟩
    rw [HALL.out]
    exact fin2_map (fun f g h => h.keep hkp (fun k h => h.elim)) _ _ HFIN.out
  case stop =>
    rw [hsz]
    rintro c pre W ⟨rest, hp⟩ ⟨p, x, rfl, ⟨hinv, hbel, hs3⟩, rfl, hne, hx⟩ hK
    have hall : fieldsS l = (runF l ([], none) p).1 ++ (runF l ([], none) p).2.toList := by
      unfold fieldsS
      rw [← hp, List.append_assoc]
      show (runF l ([], none) (headF (p ++ x :: rest))).1 ++ (runF l ([], none) (headF (p ++ x :: rest))).2.toList = _
      rw [headF_stop hx hne]
    have HALL := Lib.hid hall
    have hf := hinv.ends
    have HE := Lib.hid hf
    have HB := Lib.hid hbel
    clear hf hbel hinv hne hall hx hp
    obtain ⟨vo, gs, E, hbx, hrow, hfin⟩ := HE.out
    have hcx := hbx.cell
    have HROW := Lib.hid hrow
    have HFIN := Lib.hid hfin
    clear hrow hfin HE
    gi_wp2
    refine ⟨by simp, .inl ⟨_, _, rfl, run_takeDeferred hK, ?_⟩⟩
    have hkp := keepX_put (o' := .deferred none) hK rfl
    refine ⟨_, results_tmp rfl _ _ _, ?_⟩
    rw [hn]
    refine ⟨vo, gs, E, rfl, ownsRow_keepX HROW.out hkp (fun k h => h.elim), ?_, HB.out.trans (belowK_b (w := W0) (by omega) W _ _ _ (by omega) hK rfl rfl)⟩
    rw [HALL.out]
    exact fin2_map (fun f g h => h.keep hkp (fun k h => h.elim)) _ _ HFIN.out
end Go.Proofs.YtnncldnpkfjhbaaGreatDoor
