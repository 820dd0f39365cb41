/-
  Touch, Clean and Drop, whatever the shelf holds.
-/
import Derived.Test.YthmnbjdmbajhkaaRelM
import Derived.Test.YthmnbjdmbajhkaaSh
import Derived.Deep.RegionLaw
namespace Go.Proofs.Ythmnbjdmbajhkaa
set_option linter.unusedVariables false
open Go.RowKit
attribute [local go_sem] Oper.semAt_some

theorem eql_thing (w : World) : (binOp .eql 57 (.pointer none) (.pointer none)).run Try.prog w = .ok (.bool true) w := by kernel_rfl
theorem eql_thing_some (a : Addr) (w : World) : (binOp .eql 57 (.pointer (some a)) (.pointer none)).run Try.prog w = .ok (.bool false) w := by kernel_rfl

/-- each thing lies in a block of its own -/
theorem Sh.blk_inj {w : World} {p m c : Nat} {b : Int} {r : Option Addr} {cap : Nat} {E : List (Th × Nat)} {L : List Th} {H : List (Th × Bool)} (h : Sh w p m c b r cap E L H) {i k : Nat} (hi : i < H.length) (hk : k < H.length) (e : H[i].1.blk = H[k].1.blk) : i = k := by
  have hl := h.rel.len
  have hiE : i < E.length := by omega
  have hkE : k < E.length := by omega
  obtain ⟨p1, a1⟩ := h.thing (List.getElem_mem hiE)
  obtain ⟨p2, a2⟩ := h.thing (List.getElem_mem hkE)
  rw [h.rel.at i hi hiE] at a1
  rw [h.rel.at k hk hkE, ← e] at a2
  have := a1.symm.trans a2
  simp only [Option.some.injEq, Obj.cells.injEq, thC] at this
  have h0 := congrArg (fun a => a[0]?) this.1
  have h1 := congrArg (fun a => a[1]?) this.1
  simp at h0 h1
  exact ids_inj h.rel.good.ids hiE hkE (by rw [h.rel.at i hi hiE, h.rel.at k hk hkE]; exact h0) (by rw [h.rel.at i hi hiE, h.rel.at k hk hkE]; exact h1)
/-- where a thing lies, and its place in the order -/
theorem Sh.clean_at {w : World} {p m c : Nat} {b : Int} {r : Option Addr} {cap : Nat} {E : List (Th × Nat)} {L : List Th} {H : List (Th × Bool)} (h : Sh w p m c b r cap E L H) {i : Nat} (hi : i < H.length) (hq : H[i].2 = true) :
    ∃ og j, ∃ hj : j < L.length, r = some ⟨og, 0, none⟩ ∧ cap ≤ maxLen ∧ Ord w og cap L ∧ L[j] = H[i].1 ∧ At w H[i].1.blk (.cells (thC H[i].1 j) 60 (0, 0)) := by
  obtain ⟨j, hj, e⟩ := h.rel.place i hi hq
  rcases h.sh.ord with ⟨_, _, h0⟩ | ⟨og, hr, hm, hO⟩
  · subst h0; simp at hj
  · have := hO.th j hj
    rw [e] at this
    exact ⟨og, j, hj, hr, hm, hO, e, this⟩
/-- no thing is the shelf's row, its map or its order's row -/
theorem Sh.thing_not {w : World} {p m c : Nat} {b : Int} {r : Option Addr} {cap : Nat} {E : List (Th × Nat)} {L : List Th} {H : List (Th × Bool)} (h : Sh w p m c b r cap E L H) {i : Nat} (hi : i < H.length) : H[i].1.blk ≠ p ∧ H[i].1.blk ≠ m ∧ ∀ og, r = some ⟨og, 0, none⟩ → H[i].1.blk ≠ og := by
  have hl := h.rel.len
  have hiE : i < E.length := by omega
  obtain ⟨p1, a1⟩ := h.thing (List.getElem_mem hiE)
  rw [h.rel.at i hi hiE] at a1
  refine ⟨fun e => ?_, fun e => ?_, fun og hr e => ?_⟩
  · rw [e] at a1
    have := a1.symm.trans h.sh.row
    cases this
  · rw [e] at a1
    have := a1.symm.trans h.sh.map
    cases this
  · rcases h.sh.ord with ⟨h0, _, _⟩ | ⟨og', hr', _, hO⟩
    · rw [h0] at hr; cases hr
    · rw [hr'] at hr
      cases hr
      obtain ⟨cur', h1, -⟩ := hO.row
      rw [e] at a1
      have := a1.symm.trans h1
      cases this
theorem At.used {w : World} {t : Th} {pl : Int} (h : At w t.blk (.cells (thC t pl) 60 (0, 0))) (u : Int) : At (w.setCell ⟨t.blk, 3, none⟩ (.int .i64 u)) (used t u).blk (.cells (thC (used t u) pl) 60 (0, 0)) := h.set 3 (.int .i64 u)
theorem Ord.used {w : World} {og cap : Nat} {L : List Th} (h : Ord w og cap L) {j : Nat} (hj : j < L.length) (u : Int) : Ord (w.setCell ⟨L[j].blk, 3, none⟩ (.int .i64 u)) og cap (L.set j (used L[j] u)) := by
  obtain ⟨cur, h1, h2, h3, h4⟩ := h.row
  refine ⟨⟨cur, At.other h1 (fun e => h.ne j hj e.symm), h2, by simpa using h3, fun i hi => ?_⟩, fun i hi => ?_, fun a k ha hk e => ?_⟩
  · simp only [List.length_set] at hi
    rw [h4 i hi, List.getElem_set]
    split
    · rename_i e; subst e; rfl
    · rfl
  · simp only [List.length_set] at hi
    simp only [List.getElem_set]
    split
    · rename_i e; subst e
      exact At.used (h.th j hj) u
    · rename_i e
      exact At.other (h.th i hi) (fun e2 => e (h.nd i j hi hj e2).symm)
  · simp only [List.length_set] at ha hk
    have hb : ∀ i (hi : i < L.length), ((L.set j (Go.Proofs.Ythmnbjdmbajhkaa.used L[j] u))[i]'(by simpa using hi)).blk = L[i].blk := fun i hi => by
      rw [List.getElem_set]
      split
      · rename_i e2; subst e2; rfl
      · rfl
    rw [hb a ha, hb k hk] at e
    exact h.nd a k ha hk e

set_option maxRecDepth 100000 in
set_option maxHeartbeats 4000000 in
theorem touch_none {w : World} {p m c : Nat} {b : Int} {r : Option Addr} {cap : Nat} {E : List (Th × Nat)} {L : List Th} {H : List (Th × Bool)} (h : Sh w p m c b r cap E L H) (v u us : Int) (hq : at? E v u = none) :
    Calls Try.prog 10 #[.pointer (some ⟨p, 0, none⟩), key v u, .int .i64 us] w fun e w' => e = .returned (.bool false) ∧ Below w.heap.size w w' := by
  have HS := Lib.hid h
  have hpn := ptr_none hq
  have he := eql_thing
  clear h hq
  unfold key
  go_enter Try.func10, Try.ntmps10
  go_wp2_with fail
  have hb0 := (Below.refl w.heap.size w).alloc (Nat.le_refl _) (.cells #[.int .u32 v, .int .u32 u] 31)
  have HS0 := HS.out.below hb0
  refine (thing_any p m c E _ v u _ HS0.sh.row rfl HS0.sh.map).mono ?_
  rintro e w1 ⟨rfl, hb1⟩
  rw [hpn]
  have HB := Lib.hid (hb0.trans (hb1.mono (by simp)))
  clear hb0 hb1 HS0
  go_wp2_with fail
  go_ret
  exact ⟨rfl, HB.out⟩
set_option maxRecDepth 100000 in
set_option maxHeartbeats 4000000 in
theorem touch_some {w : World} {p m c : Nat} {b : Int} {r : Option Addr} {cap : Nat} {E : List (Th × Nat)} {L : List Th} {H : List (Th × Bool)} (h : Sh w p m c b r cap E L H) (us : Int) {i : Nat} (hi : i < H.length) :
    Calls Try.prog 10 #[.pointer (some ⟨p, 0, none⟩), key H[i].1.v H[i].1.u, .int .i64 us] w fun e w' => e = .returned (.bool true) ∧ ∃ E' L', Sh w' p m c b r cap E' L' (H.set i (used H[i].1 us, H[i].2)) ∧ Beside (shOwn p m r E) w w' ∧ (∀ k, shOwn p m r E' k → shOwn p m r E k) ∧ E'.length = E.length := by
  have hl := h.rel.len
  have hiE : i < E.length := by omega
  have hei := h.rel.at i hi hiE
  have hq : at? E H[i].1.v H[i].1.u = some (i, H[i].1) := by
    have := at_idx h.rel.good.ids i hiE
    rwa [hei] at this
  have hpn := ptr_some hq
  have he := eql_thing_some ⟨H[i].1.blk, 0, none⟩
  have HS := Lib.hid h
  have HEO : Hid (∀ k, shOwn p m r (E.set i (used E[i].1 us, E[i].2)) k → shOwn p m r E k) := Lib.hid (by
    rintro k (hk | hk | hk | ⟨y, hy, e⟩)
    · exact .inl hk
    · exact .inr (.inl hk)
    · exact .inr (.inr (.inl hk))
    · obtain ⟨a, ha, rfl⟩ := List.mem_iff_getElem.1 hy
      simp only [List.length_set] at ha
      rw [List.getElem_set] at e
      split at e
      · exact .inr (.inr (.inr ⟨E[i], List.getElem_mem hiE, e⟩))
      · exact .inr (.inr (.inr ⟨E[a], List.getElem_mem ha, e⟩)))
  have HEI := Lib.hid hei
  clear h hq hl hei
  generalize hv : H[i].1.v = v at *
  generalize hu : H[i].1.u = u at *
  unfold key
  go_enter Try.func10, Try.ntmps10
  go_wp2_with fail
  have hb0 := (Below.refl w.heap.size w).alloc (Nat.le_refl _) (.cells #[.int .u32 v, .int .u32 u] 31)
  have HS0 := HS.out.below hb0
  refine (thing_any p m c E _ v u _ HS0.sh.row rfl HS0.sh.map).mono ?_
  rintro e w1 ⟨rfl, hb1⟩
  rw [hpn]
  have hb01 := hb0.trans (hb1.mono (by simp))
  have HB := Lib.hid hb01
  have HS1 := Lib.hid (HS.out.below hb01)
  clear hb0 hb1 HS0 hb01
  obtain ⟨np, nm, no⟩ := HS1.out.thing_not hi
  have HNP := Lib.hid np
  have HNM := Lib.hid nm
  have HNO := Lib.hid no
  have hmem : H[i] ∈ H := List.getElem_mem hi
  have HBS : Hid (Beside (shOwn p m r E) w (w1.setCell ⟨H[i].1.blk, 3, none⟩ (.int .i64 us))) := Lib.hid ((Below.beside HB.out).setCell (p := ⟨H[i].1.blk, 3, none⟩) (.inl (.inr (.inr (.inr ⟨E[i], List.getElem_mem hiE, by rw [HEI.out]⟩)))) _)
  have HROW : Hid (At (w1.setCell ⟨H[i].1.blk, 3, none⟩ (.int .i64 us)) p (.cells #[.int .i64 b, .int .i64 (sumE (E.set i (used E[i].1 us, E[i].2))), .map (some m), .slice r L.length cap] 56 (0, 0))) := Lib.hid (by rw [sumE_used]; exact At.other HS1.out.sh.row (fun e => HNP.out e.symm))
  have HMAP : Hid (TMap (w1.setCell ⟨H[i].1.blk, 3, none⟩ (.int .i64 us)) m (E.set i (used E[i].1 us, E[i].2)) c) := Lib.hid (by unfold TMap; rw [ent_used]; exact At.other HS1.out.sh.map (fun e => HNM.out e.symm))
  have HIDLE : Hid (∀ k (hk : k < H.length), k ≠ i → H[k].2 = false → At (w1.setCell ⟨H[i].1.blk, 3, none⟩ (.int .i64 us)) H[k].1.blk (.cells (thC H[k].1 (-1)) 60 (0, 0))) := Lib.hid (fun k hk hki hkq => At.other (HS1.out.idle H[k] (List.getElem_mem hk) hkq) (fun e => hki (HS1.out.blk_inj hk hi e)))
  clear np nm no
  cases hcl : H[i].2 with
  | false =>
    have ht := HS1.out.idle H[i] hmem hcl
    have HU := Lib.hid (At.used ht us)
    obtain ⟨-, -, -, t3, t4, -, f3⟩ := thC_at ht
    obtain ⟨-, -, -, -, u4, -⟩ := thC_at HU.out
    have u4' : (w1.setCell ⟨H[i].1.blk, 3, none⟩ (.int .i64 us)).cell? ⟨H[i].1.blk, 4, none⟩ = some (.int .i64 (-1)) := u4
    have HREL := Lib.hid (HS1.out.rel.touch_idle hi hiE hcl us)
    have HORD : Hid (OrdS (w1.setCell ⟨H[i].1.blk, 3, none⟩ (.int .i64 us)) r cap L) := Lib.hid (HS1.out.sh.ord.beside (own := fun k => k = H[i].1.blk) ((Beside.refl (fun k => k = H[i].1.blk) w1).setCell (p := ⟨H[i].1.blk, 3, none⟩) (.inl rfl) _) (fun k hk e => by
      have := HS1.out.idle_not hmem hcl
      exact this (.inr (.inr (e ▸ hk)))))
    have HFIN : Hid (Sh (w1.setCell ⟨H[i].1.blk, 3, none⟩ (.int .i64 us)) p m c b r cap (E.set i (used E[i].1 us, E[i].2)) L (H.set i (used H[i].1 us, false))) := Lib.hid ⟨⟨HROW.out, HMAP.out, HORD.out⟩, HREL.out, fun x hx hxq => by
      obtain ⟨k, hk, rfl⟩ := List.mem_iff_getElem.1 hx
      simp only [List.length_set] at hk
      simp only [List.getElem_set] at hxq ⊢
      split
      · exact HU.out
      · rename_i hne
        rw [if_neg hne] at hxq
        exact HIDLE.out k hk (fun e => hne e.symm) hxq⟩
    have HLN : Hid ((E.set i (used E[i].1 us, E[i].2)).length = E.length) := Lib.hid (by simp)
    clear ht u4 hmem
    generalize H[i].1.blk = tb at *
    go_wp2_with fail
    go_ret
    exact ⟨rfl, _, _, by rw [hcl]; exact HFIN.out, HBS.out, HEO.out, HLN.out⟩
  | true =>
    obtain ⟨og, j, hj, hr, hcm, hO, hLj, ht⟩ := HS1.out.clean_at hi hcl
    have HU := Lib.hid (At.used ht us)
    obtain ⟨-, -, -, t3, t4, -, f3⟩ := thC_at ht
    obtain ⟨-, -, -, -, u4, -⟩ := thC_at HU.out
    have u4' : (w1.setCell ⟨H[i].1.blk, 3, none⟩ (.int .i64 us)).cell? ⟨H[i].1.blk, 4, none⟩ = some (.int .i64 j) := u4
    have HREL := Lib.hid (HS1.out.rel.touch hi hiE hj hcl hLj us)
    have hO2 := hO.used hj us
    rw [hLj] at hO2
    have hlen : (L.set j (used H[i].1 us)).length = L.length := by simp
    have hfl : (fixL (L.set j (used H[i].1 us)) j).length = L.length := by rw [(fixL_perm (L.set j (used H[i].1 us)) j (by simpa using hj)).length_eq]; simp
    have hown2 : ∀ k, ordOwn og (L.set j (used H[i].1 us)) k → sOwn r L k := by
      rintro k (rfl | ⟨x, hx, rfl⟩)
      · exact .inl ⟨_, hr, rfl⟩
      · obtain ⟨a, ha, rfl⟩ := List.mem_iff_getElem.1 hx
        simp only [List.length_set] at ha
        rw [List.getElem_set]
        split
        · exact .inr ⟨L[j], List.getElem_mem hj, by rw [hLj]; rfl⟩
        · exact .inr ⟨L[a], List.getElem_mem ha, rfl⟩
    have hl := HS1.out.lens
    have hFIX := Lib.hid (hfix_gen p 56 _ og cap j (L.set j (used H[i].1 us)) (w1.setCell ⟨H[i].1.blk, 3, none⟩ (.int .i64 us)).drew HROW.out (by rw [hlen, hr]; rfl) ⟨hO2.row, hO2.th, hO2.nd⟩ (by simpa using hj) (fun h => HS1.out.sh.not_p (hown2 _ h)) (by rw [hlen]; omega))
    have HOWN2 := Lib.hid hown2
    have HFL := Lib.hid hfl
    have HR := Lib.hid hr
    have HCM := Lib.hid hcm
    have HLN : Hid ((E.set i (used E[i].1 us, E[i].2)).length = E.length) := Lib.hid (by simp)
    have HSO : Hid (∀ k, sOwn r L k → shOwn p m r E k) := Lib.hid (fun k hk => HS1.out.own (.inr (.inr hk)))
    have hjn : ((j : Int) != -1) = true := by simp
    clear ht u4 hmem hO hO2 hlen hfl hown2 hl hr hcm
    generalize htb : H[i].1.blk = tb at *
    have HTB := Lib.hid htb
    clear htb
    go_wp2_with fail
    go_region_law ((go_simp; go_at_call 22; refine hFIX.out.mono ?_; rintro e w3 ⟨rfl, hp3, ho3, hb3⟩))
    all_goals
      go_wp2_with fail
      go_ret
      refine ⟨rfl, E.set i (used E[i].1 us, E[i].2), fixL (L.set j (used H[i].1 us)) j, ⟨⟨by rw [HFL.out]; exact hp3, ?_, .inr ⟨og, HR.out, HCM.out, ho3⟩⟩, by rw [hcl]; exact HREL.out, ?_⟩, HBS.out.trans ((Beside.refl _ _).drew.trans (hb3.mono (fun k _ h => HSO.out k (HOWN2.out k h)))), HEO.out, HLN.out⟩
      · exact At.beside (w := (w1.setCell ⟨tb, 3, none⟩ (.int .i64 us)).drew) HMAP.out hb3 (fun h => HS1.out.sh.not_m (HOWN2.out _ h))
      · intro x hx hxq
        obtain ⟨k, hk, rfl⟩ := List.mem_iff_getElem.1 hx
        simp only [List.length_set] at hk
        simp only [List.getElem_set] at hxq ⊢
        split
        · rename_i e
          rw [if_pos e, hcl] at hxq
          cases hxq
        · rename_i hne
          rw [if_neg hne] at hxq
          refine At.beside (w := (w1.setCell ⟨tb, 3, none⟩ (.int .i64 us)).drew) (HIDLE.out k hk (fun e => hne e.symm) hxq) hb3 (fun h => ?_)
          exact HS1.out.idle_not (List.getElem_mem hk) hxq (.inr (.inr (HOWN2.out _ h)))

set_option maxRecDepth 100000 in
set_option maxHeartbeats 4000000 in
theorem clean_none {w : World} {p m c : Nat} {b : Int} {r : Option Addr} {cap : Nat} {E : List (Th × Nat)} {L : List Th} {H : List (Th × Bool)} (h : Sh w p m c b r cap E L H) (v u : Int) (hq : at? E v u = none) :
    Calls Try.prog 11 #[.pointer (some ⟨p, 0, none⟩), key v u] w fun e w' => e = .returned (.bool false) ∧ Below w.heap.size w w' := by
  have HS := Lib.hid h
  have hpn := ptr_none hq
  have he := eql_thing
  clear h hq
  unfold key
  go_enter Try.func11, Try.ntmps11
  go_wp2_with fail
  have hb0 := (Below.refl w.heap.size w).alloc (Nat.le_refl _) (.cells #[.int .u32 v, .int .u32 u] 31)
  have HS0 := HS.out.below hb0
  refine (thing_any p m c E _ v u _ HS0.sh.row rfl HS0.sh.map).mono ?_
  rintro e w1 ⟨rfl, hb1⟩
  rw [hpn]
  have HB := Lib.hid (hb0.trans (hb1.mono (by simp)))
  clear hb0 hb1 HS0
  go_wp2_with fail
  go_ret
  exact ⟨rfl, HB.out⟩
set_option maxRecDepth 100000 in
set_option maxHeartbeats 4000000 in
theorem drop_none {w : World} {p m c : Nat} {b : Int} {r : Option Addr} {cap : Nat} {E : List (Th × Nat)} {L : List Th} {H : List (Th × Bool)} (h : Sh w p m c b r cap E L H) (v u : Int) (hq : at? E v u = none) :
    Calls Try.prog 12 #[.pointer (some ⟨p, 0, none⟩), key v u] w fun e w' => e = .returned (.bool false) ∧ Below w.heap.size w w' := by
  have HS := Lib.hid h
  have hpn := ptr_none hq
  have he := eql_thing
  clear h hq
  unfold key
  go_enter Try.func12, Try.ntmps12
  go_wp2_with fail
  have hb0 := (Below.refl w.heap.size w).alloc (Nat.le_refl _) (.cells #[.int .u32 v, .int .u32 u] 31)
  have HS0 := HS.out.below hb0
  refine (thing_any p m c E _ v u _ HS0.sh.row rfl HS0.sh.map).mono ?_
  rintro e w1 ⟨rfl, hb1⟩
  rw [hpn]
  have HB := Lib.hid (hb0.trans (hb1.mono (by simp)))
  clear hb0 hb1 HS0
  go_wp2_with fail
  go_ret
  exact ⟨rfl, HB.out⟩

set_option maxRecDepth 100000 in
set_option maxHeartbeats 4000000 in
theorem clean_some {w : World} {p m c : Nat} {b : Int} {r : Option Addr} {cap : Nat} {E : List (Th × Nat)} {L : List Th} {H : List (Th × Bool)} (h : Sh w p m c b r cap E L H) {i : Nat} (hi : i < H.length) :
    Calls Try.prog 11 #[.pointer (some ⟨p, 0, none⟩), key H[i].1.v H[i].1.u] w fun e w' => e = .returned (.bool true) ∧ ∃ r' cap' L', Sh w' p m c b r' cap' E L' (H.set i (H[i].1, true)) ∧ Beside (shOwn p m r E) w w' ∧ (∀ k, shOwn p m r' E k → shOwn p m r E k ∨ w.heap.size ≤ k) := by
  have hl := h.rel.len
  have hiE : i < E.length := by omega
  have hei := h.rel.at i hi hiE
  have hq : at? E H[i].1.v H[i].1.u = some (i, H[i].1) := by
    have := at_idx h.rel.good.ids i hiE
    rwa [hei] at this
  have hpn := ptr_some hq
  have he := eql_thing_some ⟨H[i].1.blk, 0, none⟩
  have HS := Lib.hid h
  have HEI := Lib.hid hei
  clear h hq hl hei
  generalize hv : H[i].1.v = v at *
  generalize hu : H[i].1.u = u at *
  unfold key
  go_enter Try.func11, Try.ntmps11
  go_wp2_with fail
  have hb0 := (Below.refl w.heap.size w).alloc (Nat.le_refl _) (.cells #[.int .u32 v, .int .u32 u] 31)
  have HS0 := HS.out.below hb0
  refine (thing_any p m c E _ v u _ HS0.sh.row rfl HS0.sh.map).mono ?_
  rintro e w1 ⟨rfl, hb1⟩
  rw [hpn]
  have hb01 := hb0.trans (hb1.mono (by simp))
  have HB := Lib.hid hb01
  have HS1 := Lib.hid (HS.out.below hb01)
  clear hb0 hb1 HS0 hb01
  have hmem : H[i] ∈ H := List.getElem_mem hi
  cases hcl : H[i].2 with
  | true =>
    obtain ⟨og, j, hj, hr, hcm, hO, hLj, ht⟩ := HS1.out.clean_at hi hcl
    obtain ⟨-, -, -, -, t4, -⟩ := thC_at ht
    have hjn : ((j : Int) == -1) = false := by simp
    have HFIN : Hid (Sh w1 p m c b r cap E L (H.set i (H[i].1, true))) := Lib.hid (by
      have : (H[i].1, true) = H[i] := by rw [← hcl]
      rw [this, set_same]
      exact HS1.out)
    clear ht hO hLj hmem hcm
    generalize H[i].1.blk = tb at *
    go_wp2_with fail
    go_ret
    exact ⟨rfl, _, _, _, HFIN.out, Below.beside HB.out, fun k hk => .inl hk⟩
  | false =>
    have ht := HS1.out.idle H[i] hmem hcl
    obtain ⟨-, -, -, -, t4, -⟩ := thC_at ht
    have hno := HS1.out.idle_not hmem hcl
    obtain ⟨np, nm, no⟩ := HS1.out.thing_not hi
    have hls := HS1.out.lens
    have HPUSH := Lib.hid (hpush_gen p 56 _ r cap L H[i].1 (-1) w1 HS1.out.sh.row rfl HS1.out.sh.ord ht (fun e => np e.symm) HS1.out.sh.not_p (fun h => hno (.inr (.inr h))) (by omega))
    have HREL := Lib.hid (HS1.out.rel.clean hi hcl)
    have HNM := Lib.hid nm
    have HSO : Hid (∀ k, sOwn r L k → shOwn p m r E k) := Lib.hid (fun k hk => HS1.out.own (.inr (.inr hk)))
    have HTO : Hid (shOwn p m r E H[i].1.blk) := Lib.hid (.inr (.inr (.inr ⟨E[i], List.getElem_mem hiE, by rw [HEI.out]⟩)))
    have hup : (upL (L ++ [H[i].1]) L.length).length = L.length + 1 := by
      have := (upL_perm (L ++ [H[i].1]) L.length (by simp)).length_eq
      simpa using this
    have HUP := Lib.hid hup
    clear ht hno np nm no hls hmem hup
    generalize htb : H[i].1.blk = tb at *
    have HTB := Lib.hid htb
    clear htb
    go_wp2_with fail
    refine HPUSH.out.mono ?_
    rintro e w3 ⟨rfl, og', cap', hp3, hcm3, ho3, -, -, hb3, hat3⟩
    have HB3 : Hid (Beside (shOwn p m r E) w w3) := Lib.hid ((Below.beside HB.out).trans (hb3.mono (fun k _ h => by
      rcases h with rfl | rfl | h
      · exact .inl rfl
      · exact HTO.out
      · exact HSO.out k h)))
    have HFIN : Hid (Sh w3 p m c b (some ⟨og', 0, none⟩) cap' E (upL (L ++ [H[i].1]) L.length) (H.set i (H[i].1, true))) := Lib.hid ⟨⟨by rw [HUP.out]; exact hp3, At.beside HS1.out.sh.map hb3 (by
        rintro (h | h | h)
        · have := HS1.out.sh.row
          rw [← h] at this
          have := this.symm.trans HS1.out.sh.map
          cases this
        · exact HNM.out h.symm
        · exact HS1.out.sh.not_m h), .inr ⟨og', rfl, hcm3, ho3⟩⟩, HREL.out, fun x hx hxq => by
        obtain ⟨k, hk, rfl⟩ := List.mem_iff_getElem.1 hx
        simp only [List.length_set] at hk
        simp only [List.getElem_set] at hxq ⊢
        split
        · rename_i e
          rw [if_pos e] at hxq
          cases hxq
        · rename_i hne
          rw [if_neg hne] at hxq
          have hid := HS1.out.idle H[k] (List.getElem_mem hk) hxq
          refine At.beside hid hb3 (fun h => ?_)
          rcases h with h | h | h
          · exact HS1.out.idle_not (List.getElem_mem hk) hxq (.inl h)
          · exact hne (HS1.out.blk_inj hi hk (HTB.out.trans h.symm))
          · exact HS1.out.idle_not (List.getElem_mem hk) hxq (.inr (.inr h))⟩
    have HAT : Hid (∀ k, shOwn p m (some ⟨og', 0, none⟩) E k → shOwn p m r E k ∨ w.heap.size ≤ k) := Lib.hid (by
      rintro k (hk | hk | ⟨og, e, rfl⟩ | hk)
      · exact .inl (.inl hk)
      · exact .inl (.inr (.inl hk))
      · cases e
        rcases hat3 with ⟨o, ho, rfl⟩ | h
        · exact .inl (.inr (.inr (.inl ⟨_, ho, rfl⟩)))
        · exact .inr (Nat.le_trans HB.out.size h)
      · exact .inl (.inr (.inr (.inr hk))))
    clear hp3 hcm3 ho3 hb3 hat3
    go_wp2_with fail
    go_ret
    exact ⟨rfl, _, _, _, HFIN.out, HB3.out, HAT.out⟩

theorem shOwn_erase {p m : Nat} {r : Option Addr} {E : List (Th × Nat)} {i k : Nat} (h : shOwn p m r (E.eraseIdx i) k) : shOwn p m r E k := by
  rcases h with hk | hk | hk | ⟨y, hy, e⟩
  · exact .inl hk
  · exact .inr (.inl hk)
  · exact .inr (.inr (.inl hk))
  · exact .inr (.inr (.inr ⟨y, (List.eraseIdx_sublist _ _).mem hy, e⟩))
set_option maxRecDepth 100000 in
set_option maxHeartbeats 4000000 in
theorem drop_some {w : World} {p m c : Nat} {b : Int} {r : Option Addr} {cap : Nat} {E : List (Th × Nat)} {L : List Th} {H : List (Th × Bool)} (h : Sh w p m c b r cap E L H) {i : Nat} (hi : i < H.length) :
    Calls Try.prog 12 #[.pointer (some ⟨p, 0, none⟩), key H[i].1.v H[i].1.u] w fun e w' => e = .returned (.bool true) ∧ ∃ L', Sh w' p m c b r cap (E.eraseIdx i) L' (H.eraseIdx i) ∧ Beside (shOwn p m r E) w w' := by
  have hl := h.rel.len
  have hiE : i < E.length := by omega
  have hei := h.rel.at i hi hiE
  have hq : at? E H[i].1.v H[i].1.u = some (i, H[i].1) := by
    have := at_idx h.rel.good.ids i hiE
    rwa [hei] at this
  have hpn := ptr_some hq
  have he := eql_thing_some ⟨H[i].1.blk, 0, none⟩
  have HS := Lib.hid h
  have HEI := Lib.hid hei
  have HQ := Lib.hid hq
  have HSE : Hid (sumE (E.eraseIdx i) = sumE E - H[i].1.size) := Lib.hid (by rw [sumE_erase hiE, hei])
  have HWR : Hid (IntKind.i64.wrap (sumE E - H[i].1.size) = sumE E - H[i].1.size) := Lib.hid (by
    have h1 := sumE_bound h.rel.good.rng
    have h2 := h.rel.good.rng E[i] (List.getElem_mem hiE)
    have h3 := h.rel.good.cnt
    rw [hei] at h2
    exact wrapS (by omega) (by omega))
  clear h hq hl hei
  have HV := Lib.hid (rfl : H[i].1.v = H[i].1.v)
  obtain ⟨v, hv⟩ : ∃ v, H[i].1.v = v := ⟨_, rfl⟩
  obtain ⟨u, hu⟩ : ∃ u, H[i].1.u = u := ⟨_, rfl⟩
  rw [hv, hu] at hpn ⊢
  clear HV hv hu
  unfold key
  go_enter Try.func12, Try.ntmps12
  go_wp2_with fail
  have hb0 := (Below.refl w.heap.size w).alloc (Nat.le_refl _) (.cells #[.int .u32 v, .int .u32 u] 31)
  have HS0 := HS.out.below hb0
  refine (thing_any p m c E _ v u _ HS0.sh.row rfl HS0.sh.map).mono ?_
  rintro e w1 ⟨rfl, hb1⟩
  rw [hpn]
  have hb01 := hb0.trans (hb1.mono (by simp))
  have HB := Lib.hid hb01
  have HS1 := Lib.hid (HS.out.below hb01)
  clear hb0 hb1 HS0 hb01
  have hmem : H[i] ∈ H := List.getElem_mem hi
  have HTO : Hid (shOwn p m r E H[i].1.blk) := Lib.hid (.inr (.inr (.inr ⟨E[i], List.getElem_mem hiE, by rw [HEI.out]⟩)))
  have hpm : p ≠ m := fun h => by
    have := HS1.out.sh.row
    rw [h] at this
    have := this.symm.trans HS1.out.sh.map
    cases this
  have HPM := Lib.hid hpm
  clear hpm
  cases hcl : H[i].2 with
  | false =>
    have ht := HS1.out.idle H[i] hmem hcl
    obtain ⟨-, -, -, -, t4, -⟩ := thC_at ht
    have HF := Lib.hid (forget_any p m c i b (sumE E) (-1) _ E H[i].1 H[i].1 w1 HS1.out.sh.row HS1.out.sh.map HQ.out ht HWR.out)
    have HREL := Lib.hid (HS1.out.rel.drop_idle hi hiE hcl)
    clear ht hmem
    generalize H[i].1.blk = tb at *
    go_wp2_with fail
    refine HF.out.mono ?_
    rintro e w3 ⟨rfl, hp3, hm3, hb3⟩
    have HB3 : Hid (Beside (shOwn p m r E) w w3) := Lib.hid ((Below.beside HB.out).trans (hb3.mono (fun k _ h => by
      rcases h with rfl | rfl
      · exact .inl rfl
      · exact .inr (.inl rfl))))
    have HFIN : Hid (Sh w3 p m c b r cap (E.eraseIdx i) L (H.eraseIdx i)) := Lib.hid ⟨⟨by rw [HSE.out]; exact hp3, hm3, HS1.out.sh.ord.beside hb3 (fun k hk h => by
        rcases h with rfl | rfl
        · exact HS1.out.sh.not_p hk
        · exact HS1.out.sh.not_m hk)⟩, HREL.out, fun x hx hxq => by
        have hxm := (List.eraseIdx_sublist _ _).mem hx
        refine At.beside (HS1.out.idle x hxm hxq) hb3 (fun h => HS1.out.idle_not hxm hxq ?_)
        rcases h with h | h
        · exact .inl h
        · exact .inr (.inl h)⟩
    clear hp3 hm3 hb3
    go_wp2_with fail
    go_ret
    exact ⟨rfl, _, HFIN.out, HB3.out⟩
  | true =>
    obtain ⟨og, j, hj, hr, hcm, hO, hLj, ht⟩ := HS1.out.clean_at hi hcl
    obtain ⟨-, -, -, -, t4, -⟩ := thC_at ht
    have hjn : ((j : Int) != -1) = true := by simp
    obtain ⟨n, hn⟩ : ∃ n, L.length = n + 1 := ⟨L.length - 1, by omega⟩
    have hls := HS1.out.lens
    have HSO : Hid (∀ k, ordOwn og L k → sOwn r L k) := Lib.hid (fun k hk => by rw [hr]; exact sOwn_some.2 hk)
    have hrow : At w1 p (.cells #[.int .i64 b, .int .i64 (sumE E), .map (some m), .slice (some ⟨og, 0, none⟩) L.length cap] 56 (0, 0)) := by rw [← hr]; exact HS1.out.sh.row
    have HREM := Lib.hid (hrem_gen p 56 n _ og cap j L w1.drew hrow rfl ⟨hO.row, hO.th, hO.nd⟩ hj hn (fun h => HS1.out.sh.not_p (HSO.out _ h)) (by omega))
    have HREL := Lib.hid (HS1.out.rel.drop hi hiE hj hcl hLj)
    have HRL := Lib.hid (removeL_parts L j hj).2.2
    have HLJ := Lib.hid hLj
    have HN := Lib.hid hn
    have HR := Lib.hid hr
    have HCM := Lib.hid hcm
    have HSH : Hid (∀ k, sOwn r L k → shOwn p m r E k) := Lib.hid (fun k hk => HS1.out.own (.inr (.inr hk)))
    have HNI : Hid (H[i].1.blk ≠ p ∧ H[i].1.blk ≠ m ∧ ∀ og, r = some ⟨og, 0, none⟩ → H[i].1.blk ≠ og) := Lib.hid (HS1.out.thing_not hi)
    have HFG := Lib.hid (fun (W : World) sl h1 h2 (h3 : At W (H[i]'hi).1.blk (.cells (thC (H[i]'hi).1 (-1)) 60 (0, 0))) => forget_any p m c i b (sumE E) (-1) sl E (H[i]'hi).1 (H[i]'hi).1 W h1 h2 HQ.out h3 HWR.out)
    have HRB : Hid (∀ k, ordOwn og (removeL L j) k → ordOwn og L k) := Lib.hid (fun k hk => by
      rcases hk with h | ⟨x, hx, h⟩
      · exact .inl h
      · have h1 := (removeL_parts L j hj).1
        have h2 := (removeL_parts L j hj).2.1
        refine .inr ⟨x, h2.mem_iff.1 ?_, h⟩
        rw [h1]
        exact List.mem_append_left _ hx)
    clear ht hmem hO hls hrow hLj hn hr hcm
    generalize htb : H[i].1.blk = tb at *
    have HTB := Lib.hid htb
    clear htb
    go_wp2_with fail
    go_region_law ((go_simp; go_at_call 24; refine HREM.out.mono ?_; rintro e w3 ⟨rfl, hp3, ho3, ht3, hb3⟩))
    all_goals
      rw [HLJ.out, HTB.out] at ht3
      have hm3 : TMap w3 m E c := At.beside (w := w1.drew) HS1.out.sh.map hb3 (by
        rintro (h | h)
        · exact HPM.out h.symm
        · exact HS1.out.sh.not_m (HSO.out _ h))
      have HF := Lib.hid (HFG.out w3 _ hp3 hm3 ht3)
      have HB3' := Lib.hid hb3
      have HO3 := Lib.hid ho3
      have HB3 : Hid (Beside (shOwn p m r E) w w3) := Lib.hid ((Below.beside HB.out).trans ((Beside.refl _ _).drew.trans (hb3.mono (fun k _ h => by
        rcases h with rfl | h
        · exact .inl rfl
        · exact HSH.out k (HSO.out k h)))))
      clear hp3 ht3 hm3 hb3 ho3
      go_wp2_with fail
      refine HF.out.mono ?_
      rintro e w4 ⟨rfl, hp4, hm4, hb4⟩
      have HB4 : Hid (Beside (shOwn p m r E) w w4) := Lib.hid (HB3.out.trans (hb4.mono (fun k _ h => by
        rcases h with rfl | rfl
        · exact .inl rfl
        · exact .inr (.inl rfl))))
      have HFIN : Hid (Sh w4 p m c b r cap (E.eraseIdx i) (removeL L j) (H.eraseIdx i)) := Lib.hid ⟨⟨by
          rw [HSE.out, HRL.out, HN.out, HR.out]; exact hp4, hm4, .inr ⟨og, HR.out, HCM.out, HO3.out.beside hb4 (fun k hk h => by
          have hk' := HSO.out k (HRB.out k hk)
          rcases h with rfl | rfl
          · exact HS1.out.sh.not_p hk'
          · exact HS1.out.sh.not_m hk')⟩⟩, HREL.out, fun x hx hxq => by
          have hxm := (List.eraseIdx_sublist _ _).mem hx
          have hno := HS1.out.idle_not hxm hxq
          refine At.beside (At.beside (w := w1.drew) (HS1.out.idle x hxm hxq) HB3'.out (fun h => hno ?_)) hb4 (fun h => hno ?_)
          · rcases h with h | h
            · exact .inl h
            · exact .inr (.inr (HSO.out _ h))
          · rcases h with h | h
            · exact .inl h
            · exact .inr (.inl h)⟩
      clear hp4 hm4 hb4
      go_wp2_with fail
      go_ret
      exact ⟨rfl, _, HFIN.out, HB4.out⟩
end Go.Proofs.Ythmnbjdmbajhkaa
