/-
  Several texts of one proof, each in a section of its own: Vw, AppIn.
-/
import Derived.Test.YtmnbkhgogogeiaaDo5Rg
import Derived.Test.YtmnbkhgogogeiaaItrRg
import Derived.Test.YtmnbkhgogogeiaaRg31
import Derived.OwnWalkIn
namespace Go.Proofs.Ytmnbkhgogogeiaa
section
set_option linter.unusedVariables false
open Go.RowKit

def Vw (B5 : Nat) (w : World) (pt : Nat) (P : List (List Nat × List Nat)) : Prop :=
  ∃ lv sec cost pv L, TbV w pt lv sec cost pv ∧ PairR w 0 pv L ∧ (∀ x ∈ L, OwnB w B5 x.kv x.key ∧ OwnB w B5 x.vv x.val) ∧ L.map Pr.of = P
theorem Vw.parts {B5 : Nat} {w : World} {pt : Nat} {P : List (List Nat × List Nat)} (h : Vw B5 w pt P) : ∃ lv sec cost pv, TbV w pt lv sec cost pv ∧ PairV w pv P := by
  obtain ⟨lv, sec, cost, pv, L, ht, hr, -, hm⟩ := h
  exact ⟨lv, sec, cost, pv, ht, by rw [← hm]; exact hr.pairV⟩
theorem Tb5.vw {B B5 : Nat} {w0 w : World} {pt pl pd : Nat} {kv : Value} {ring u sec : Nat} {P : List (List Nat × List Nat)} (h : Tb5 B B5 w0 w pt pl pd kv ring u sec P) : Vw B5 w pt P := by
  obtain ⟨-, ⟨cost, pv, L, ht, -, ⟨hr, h5⟩, hm⟩, -, -⟩ := h
  exact ⟨_, _, cost, pv, L, ht, hr.mono (Nat.zero_le _), h5, hm⟩
theorem Tb5.bel {B B5 : Nat} {w0 w : World} {pt pl pd : Nat} {kv : Value} {ring u sec : Nat} {P : List (List Nat × List Nat)} (h : Tb5 B B5 w0 w pt pl pd kv ring u sec P) : Below B w0 w := by
  obtain ⟨⟨s, S, W, hl, _⟩, _⟩ := h
  exact hl.disk.below
theorem Vw.below {B5 : Nat} {w w' : World} {pt : Nat} {P : List (List Nat × List Nat)} (h : Vw B5 w pt P) (hb : Below w.heap.size w w') : Vw B5 w' pt P := by
  obtain ⟨lv, sec, cost, pv, L, ht, hr, h5, hm⟩ := h
  exact ⟨lv, sec, cost, pv, L, ht.below hb, hr.below hb, fun x hx => ⟨ownsRow_below (h5 x hx).1 hb, ownsRow_below (h5 x hx).2 hb⟩, hm⟩
theorem Vw.spoil {B5 : Nat} {w w' : World} {pt : Nat} {P : List (List Nat × List Nat)} (h : Vw B5 w pt P) {C : Nat} {v : Value} {l : List Nat} (ho : OwnB w C v l) (hlt : ∀ k, v.ownBlock = some k → k < B5) (hb : Beside (fun k => v.ownBlock = some k) w w') : Vw B5 w' pt P := by
  obtain ⟨lv, sec, cost, pv, L, ht, hr, h5, hm⟩ := h
  have hown : ∀ k, v.ownBlock = some k → ∃ cs fr, w.heap[k]? = some (.cells cs 5 fr) := by
    intro k hk
    rcases ho.2 with ⟨e, _⟩ | ⟨g, cap, cur, e, hg, hh, _⟩
    · rw [e] at hk; cases hk
    · rw [e] at hk
      obtain rfl : g = k := by simpa [Value.ownBlock] using hk
      exact ⟨_, _, hh⟩
  have hne : ∀ (k : Nat) cs t fr, w.heap[k]? = some (.cells cs t fr) → t ≠ 5 → v.ownBlock ≠ some k := by
    intro k cs t fr hh ht e
    obtain ⟨cs2, fr2, h2⟩ := hown k e
    rw [hh] at h2
    simp at h2
    exact ht h2.2.1
  have h5' : ∀ u n, OwnB w B5 u n → OwnB w' B5 u n := fun u n hu => hu.beside hb fun k hk e => by have := hu.ownLe k hk; have := hlt k e; omega
  have ht' : TbV w' pt lv sec cost pv := (hb.block pt (lt_of_block ht) (hne _ _ _ _ ht (by decide))).trans ht
  refine ⟨lv, sec, cost, pv, L, ht', ⟨ownsRow_beside hr.row hb (fun k hk e => ?_), fun x hx => ?_⟩, fun x hx => ⟨h5' _ _ (h5 x hx).1, h5' _ _ (h5 x hx).2⟩, hm⟩
  · rcases hr.row.2 with ⟨e2, _⟩ | ⟨g, cap, cur, e2, hg, hh, _⟩
    · rw [e2] at hk; cases hk
    · rw [e2] at hk
      obtain rfl : g = k := by simpa [Value.ownBlock] using hk
      exact hne _ _ _ _ hh (by decide) e
  · obtain ⟨-, -, o3, o4⟩ := hr.own x hx
    exact ⟨owns_mono (h5' _ _ (h5 x hx).1) (Nat.zero_le _), owns_mono (h5' _ _ (h5 x hx).2) (Nat.zero_le _), o3, o4⟩

set_option maxRecDepth 100000 in
set_option maxHeartbeats 4000000 in
theorem len_vw {B5 : Nat} {w : World} {pt : Nat} {P : List (List Nat × List Nat)} (h : Vw B5 w pt P) :
    Calls Try.prog 22 #[.pointer (some ⟨pt, 0, none⟩)] w fun e w' => e = .returned (.int .i64 (P.length : Nat)) ∧ w = w' := by
  obtain ⟨lv, sec, cost, pv, ht, a, cap, rfl, -⟩ := h.parts
  obtain ⟨-, -, -, t3⟩ := ht.cells
  clear h ht
  go_enter Try.func22, Try.ntmps22
  go_wp2_with fail
  go_ret
  exact ⟨rfl, rfl⟩
set_option maxRecDepth 100000 in
set_option maxHeartbeats 4000000 in
theorem get_yes_vw {B5 : Nat} {w : World} {pt : Nat} {P : List (List Nat × List Nat)} (h : Vw B5 w pt P) {vk : Value} {key : List Nat} (hk : RowB w vk key) (hP : P.length ≤ 10000)
    (c : Nat) {val : List Nat} (hx : P[c]? = some (key, val)) (hm : ∀ i (h : i < P.length), decide (0 ≤ cmpL P[i].1 key) = decide (c ≤ i)) (hl : val.length ≤ 1000000) :
    Calls Try.prog 17 #[.pointer (some ⟨pt, 0, none⟩), vk] w fun e w' => ∃ o, e = .returned (.tuple #[o, .bool true]) ∧ OwnB w' w.heap.size o val ∧ Below w.heap.size w w' := by
  obtain ⟨lv, sec, cost, pv, ht, hv⟩ := h.parts
  obtain ⟨hc, hx2⟩ := List.getElem?_eq_some_iff.1 hx
  have HPL := Lib.hid (place_any ht hv hk (by omega) c (Nat.le_of_lt hc) hm)
  have hd : decide (P[c]?.map (·.1) = some key) = true := by
    rw [hx]
    simp
  rw [hd] at HPL
  have HT := Lib.hid ht
  have HV := Lib.hid hv
  obtain ⟨sa, sl, sc, rfl, -⟩ := id hk
  have hcz : (c : Int) < (P.length : Int) := by omega
  have HC := Lib.hid hc
  have HX := Lib.hid hx2
  have HLV := Lib.hid hl
  obtain ⟨a, cap, rfl, -, -, -⟩ := id hv
  clear h ht hv hk hm hd hx hl
  have HCC := Lib.hid (show ∀ (h : c < P.length), P[c] = (key, val) from fun _ => hx2)
  clear HX hx2 hc
  go_enter Try.func17, Try.ntmps17
  go_upto_region 6 with (first | (go_at_call 36; refine HPL.out.mono ?_; rintro e w1 ⟨rfl, hb1⟩; have HB1 := Lib.hid hb1; clear hb1))
  obtain ⟨a2, cap2, e, -, -, h3⟩ := HV.out.below HB1.out
  obtain ⟨rfl, -, rfl⟩ := Value.slice.inj e
  obtain ⟨g, rfl, hcell⟩ : ∃ g, a = some ⟨g, 0, none⟩ ∧ ∀ i (h : i < P.length), ∃ ka kl kc va vl vc,
      w1.cell? ⟨g, i * 2, none⟩ = some (.slice ka kl kc) ∧ w1.cell? ⟨g, i * 2 + 1, none⟩ = some (.slice va vl vc) ∧ RowB w1 (.slice ka kl kc) P[i].1 ∧ RowB w1 (.slice va vl vc) P[i].2 := by
    rcases h3 with h3 | h3
    · have := HC.out; rw [h3] at this; simp at this
    · exact h3
  obtain ⟨ka, kl, kc, va, vl, vc, -, c1, -, r2⟩ := hcell c HC.out
  rw [HCC.out HC.out] at r2
  obtain ⟨-, -, -, t3⟩ := (HT.out.below HB1.out).cells
  have HCL := Lib.hid (bclone_any _ _ w1 r2 (Nat.le_trans HLV.out (by decide)))
  clear h3 hcell e r2
  go_wp2_with (first | (go_at_call 37; refine HCL.out.mono ?_; rintro e w2 ⟨o, rfl, ho, hb2⟩; obtain ⟨oa, oc, rfl⟩ := ho.shape; have HO := Lib.hid ho; have HB2 := Lib.hid hb2; clear ho hb2))
  exact bodyPost_ret (v := .tuple #[.slice oa _ oc, .bool true]) (by simp [results, Try.results17, go_sem]) rfl ⟨_, rfl, owns_mono HO.out HB1.out.size, HB1.out.trans (HB2.out.mono HB1.out.size)⟩
set_option maxRecDepth 100000 in
set_option maxHeartbeats 4000000 in
theorem get_no_vw {B5 : Nat} {w : World} {pt : Nat} {P : List (List Nat × List Nat)} (h : Vw B5 w pt P) {vk : Value} {key : List Nat} (hk : RowB w vk key) (hP : P.length ≤ 10000)
    (c : Nat) (hc : c ≤ P.length) (hm : ∀ i (h : i < P.length), decide (0 ≤ cmpL P[i].1 key) = decide (c ≤ i)) (he : decide (P[c]?.map (·.1) = some key) = false) :
    Calls Try.prog 17 #[.pointer (some ⟨pt, 0, none⟩), vk] w fun e w' => e = .returned (.tuple #[.slice none 0 0, .bool false]) ∧ Below w.heap.size w w' := by
  obtain ⟨lv, sec, cost, pv, ht, hv⟩ := h.parts
  have HPL := Lib.hid (place_any ht hv hk (by omega) c hc hm)
  rw [he] at HPL
  obtain ⟨sa, sl, sc, rfl, -⟩ := id hk
  clear h ht hv hk hm he hc
  go_enter Try.func17, Try.ntmps17
  go_wp2_with (first | (go_at_call 36; refine HPL.out.mono ?_; rintro e w1 ⟨rfl, hb1⟩; have HB1 := Lib.hid hb1; clear hb1))
  exact bodyPost_ret (v := .tuple #[.slice none 0 0, .bool false]) (by simp [results, Try.results17, go_sem]) rfl ⟨rfl, HB1.out⟩

/-- Scan of a table of one pair: where the iterator finds what it wants -/
theorem scan_vw {B5 : Nat} {w : World} {pt : Nat} {key val : List Nat} (h : Vw B5 w pt [(key, val)]) (hl : key.length ≤ 100000 ∧ val.length ≤ 100000) :
    Calls Try.prog 21 #[.pointer (some ⟨pt, 0, none⟩), .slice none 0 0, .slice none 0 0] w fun e w' => ∃ b g cap x, e = .returned (.func (.func 39) #[] #[.pointer (some ⟨b, 0, none⟩)]) ∧ ItS w' w'.heap.size b g cap [x] ∧ 1 ≤ cap ∧ x.key = key ∧ x.val = val ∧ Below w.heap.size w w' := by
  obtain ⟨lv, sec, cost, pv, L, ht, hr, h5, hm⟩ := h
  obtain ⟨x, rfl⟩ : ∃ x, L = [x] := by
    match L, hm with
    | [x], _ => exact ⟨x, rfl⟩
  have e1 : x.key = key ∧ x.val = val := by simpa [Pr.of] using hm
  refine (scan_any ht hr (by simp) (by simp)).mono ?_
  rintro e w' ⟨b, o, rfl, hb, ho, hwb, hbel⟩
  obtain ⟨g, cap, cur, rfl, hg, hh, hc, hmx, hs, htk⟩ : ∃ g cap cur, o = .slice (some ⟨g, 0, none⟩) 1 cap ∧ w.heap.size ≤ g ∧ w'.heap[g]? = some (.cells cur 79) ∧ 1 ≤ cap ∧ cap ≤ maxLen ∧ cur.size = cap * 2 ∧ cur.toList.take (1 * 2) = prC [x] := by
    rcases ho.2 with ⟨_, h1⟩ | h1
    · simp at h1
    · exact h1
  obtain ⟨o1, o2, o3, o4⟩ := hr.own x (by simp)
  have r1 := (o1.rowB o3).below hbel
  have r2 := (o2.rowB o4).below hbel
  have hcell : ∀ j v, j < 2 → (prC [x])[j]? = some v → w'.cell? ⟨g, j, none⟩ = some v := by
    intro j v hj hv
    rw [cell_of_row _ _ _ _ 79 (0, 0) hh]
    have : cur.toList[j]? = some v := by
      rw [← htk, List.getElem?_take_of_lt (by omega)] at hv
      exact hv
    simpa using this
  have hlow : ∀ {v : Value} {l : List Nat}, OwnB w 0 v l → ∀ k, v.ownBlock = some k → k < w'.heap.size := fun h k e => Nat.lt_of_lt_of_le (own_lt h k e) hbel.size
  refine ⟨b, g, cap, x, rfl, ⟨hb, ?_, ?_, ⟨lt_of_block hb, lt_of_block hh, Nat.le_refl _, ?_⟩, ?_⟩, hc, e1.1, e1.2, hbel⟩
  · intro i hi
    obtain rfl : i = 0 := by simp at hi; omega
    exact ⟨hcell 0 _ (by omega) rfl, hcell 1 _ (by omega) rfl⟩
  · intro i hi
    obtain rfl : i = 0 := by simp at hi; omega
    exact ⟨r1, r2⟩
  · intro i hi
    obtain rfl : i = 0 := by simp at hi; omega
    exact ⟨hlow o1, hlow o2⟩
  · intro i hi
    obtain rfl : i = 0 := by simp at hi; omega
    simp only [List.getElem_cons_zero]
    rw [e1.1, e1.2]
    exact hl
end
section
set_option linter.unusedVariables false
open Go.RowKit

theorem appRIn {F : Fence} {nn : Nat} {ops : Array Oper} {rest : List Oper} {o : Oper} {a : Act} {Q : Exit → Act → World → Prop} (hgd : o.guard = none) (s x : Operand)
    (ho : o.op = .call { callee := .builtin .append, args := #[s, x], argTypes := #[23, 23] })
    {wr : World} {B : Nat} {v vd : Value} {l d : List Nat} (hown : OwnB wr B v l) (hd : RowB wr vd d) (hB : B ≤ wr.heap.size)
    (hs : a.eval s = v) (hx : a.eval x = vd) (hlen : l.length + d.length ≤ 140737488355328)
    (h : ∀ ao co n w2, Hid ((l ++ d).length = n) → OwnB w2 B (.slice ao n co) (l ++ d) → Below B wr w2 → wpListIn F nn Try.prog ops Q rest (a.put o.dst (.slice ao n co)) w2) :
    wpListIn F nn Try.prog ops Q (o :: rest) a wr := by
  obtain ⟨i0, hi, hz0, hz1, hz2⟩ := info_parts Try.info5
  obtain ⟨ad, len, cap, rfl, hl, hc, hm, h256, hn, hcell⟩ := hd
  cases ad with
  | none =>
    obtain ⟨rfl, rfl⟩ := hn rfl
    obtain rfl : d = [] := List.eq_nil_of_length_eq_zero hl
    obtain ⟨ao, co, e⟩ := hown.shape
    have hrun := run_append_owned_none (P := Try.prog) (w := wr) B 23 o.type 5 i0 1 Try.underlying23 hi v l.length (u8s l) hown
    have hk := h ao co l.length wr (Lib.hid (by simp)) (by rw [← e, List.append_nil]; exact hown) (Below.refl _ _)
    rw [← e] at hk
    refine wpListIn_plain hgd fun K hK => ?_
    unfold Oper.wpIn
    refine ⟨?_, ?_⟩
    · simp [Oper.about, ho, resolve, Target.leads, Sem.run_pure]
    · rw [Oper.semAt_plain F _ _ (by rw [ho]; intro c hc'; cases hc')]
      simp [execOp, ho, resolve, invoke, builtin, hs, hx, hrun, Result.andThen]
      exact hK _ _ hk
  | some p =>
    refine wpListIn_append_own _ hgd s x 23 ho B 5 i0 (.int .u8 0) 1 1 Try.underlying23 hi hz0 hz1 hz2 rfl (by decide) v l.length (u8s l) hs hown p len cap (u8s d) hx (by simp [hl]) (fun j u hj => ?_) (by
      intro u hu
      simp only [u8s, List.mem_map] at hu
      obtain ⟨n, _, rfl⟩ := hu
      rfl) (by unfold maxLen; omega) (by omega) hB ?_
    · have hjl : j < d.length := by have := (List.getElem?_eq_some_iff.1 hj).1; simpa using this
      rw [u8s_get d j hjl] at hj
      cases hj
      exact hcell p rfl j hjl
    · intro o' w2 ho' hgr _
      rw [hl.symm] at ho'
      have ho2 : OwnB w2 B o' (l ++ d) := by
        unfold OwnB
        rw [List.length_append, u8s_append]
        exact ho'
      obtain ⟨ao, co, rfl⟩ := ho2.shape
      exact h ao co _ w2 (Lib.hid rfl) ho2 ((Below.refl B wr).grown hgr hB (fun k hk => hown.ownLe k hk))
theorem ownB_put {W : World} {D B : Nat} {r r' : Loop} {v : Value} {l : List Nat} (h : OwnB W B v l) (hb : Book W D r) : OwnB (W.putObj (D + 1) (.loop r')) B v l :=
  World.ownsRow.kept h (grownBy_putObj' W _ _) (.inr fun e => by
    rcases h.2 with ⟨e2, _⟩ | ⟨g, cap, cur, e2, hg, hh, _⟩
    · rw [e2] at e; cases e
    · rw [e2] at e
      obtain rfl : g = D + 1 := by simpa [Value.ownBlock] using e
      have := hb.1
      rw [hh] at this
      cases this)
theorem keepsFrom_beside {W W' : World} {own : Nat → Prop} (D : Nat) (hb : Beside own W W') (h : ∀ k, own k → ∃ cs t fr, W.heap[k]? = some (.cells cs t fr)) : KeepsFrom D W W' :=
  ⟨hb.size, fun k o _ hk ho => (hb.block k (Array.getElem?_eq_some_iff.1 hk).1 (fun hc => by
    obtain ⟨cs, t, fr, hh⟩ := h k hc
    rw [hk] at hh
    cases hh
    cases ho)).trans hk⟩
theorem own_cellsAt {w : World} {B : Nat} {v : Value} {l : List Nat} (h : OwnB w B v l) : ∀ k, v.ownBlock = some k → ∃ cs t fr, w.heap[k]? = some (.cells cs t fr) := by
  intro k hk
  rcases h.2 with ⟨e, _⟩ | ⟨g, cap, cur, e, hg, hh, _⟩
  · rw [e] at hk; cases hk
  · rw [e] at hk
    obtain rfl : g = k := by simpa [Value.ownBlock] using hk
    exact ⟨_, _, _, hh⟩
end
end Go.Proofs.Ytmnbkhgogogeiaa
