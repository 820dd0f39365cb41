/-
  The order's own Pop, and Swap of one with itself, whatever the order holds.
-/
import Derived.Test.YthmnbjdmbajhkaaHPush
import Derived.Test.YthmnbjdmbajhkaaPop
namespace Go.Proofs.Ythmnbjdmbajhkaa
set_option linter.unusedVariables false
open Go.RowKit
attribute [local go_sem] Oper.semAt_some

theorem swapL_same {L : List Th} {i : Nat} (hi : i < L.length) : swapL L i i = L := by
  rw [swapL_eq hi hi]
  simp

set_option maxRecDepth 100000 in
set_option maxHeartbeats 4000000 in
theorem swap_self (og i n cap b : Nat) (x : Int) (w : World) (hn : i < n) (hN : n ≤ 1000000) (hg : w.cell? ⟨og, i, none⟩ = some (.pointer (some ⟨b, 0, none⟩))) (hgf : w.frozen? ⟨og, i, none⟩ = false) (p4 : w.cell? ⟨b, 4, none⟩ = some (.int .i64 i)) (pf : w.frozen? ⟨b, 4, none⟩ = false) (hgt : og ≠ b) (hgl : og < w.heap.size) (htl : b < w.heap.size) :
    Calls Try.prog 50 #[.slice (some ⟨og, 0, none⟩) n cap, .int .i64 i, .int .i64 i] w fun e w' => e = .returned (.tuple #[]) ∧ ∃ n, w' = w.drewN n := by
  have hgt' : b ≠ og := hgt.symm
  have hii : (i : Int) < (n : Int) := by omega
  have id1 := setCell_id hg
  have id2 := setCell_id p4
  go_enter Try.func50, Try.ntmps50
  go_wp2_with fail
  go_region_held3 (fun w' => w'.cell? ⟨og, i, none⟩ = some (.pointer (some ⟨b, 0, none⟩))) (go_keep) (fail)
  all_goals
    go_wp2_with fail
    go_region_held3 (fun w' => w'.cell? ⟨og, i, none⟩ = some (.pointer (some ⟨b, 0, none⟩))) (go_keep) (fail)
    all_goals
      go_wp2_with fail
      exact bodyPost_end (v := .tuple #[]) (by simp [results, Try.results50, go_sem]) rfl ⟨rfl, 2, rfl⟩

theorem swap_all (og cap i j : Nat) (L : List Th) (w : World) (h : Ord w og cap L) (hi : i < L.length) (hj : j < L.length) (hL : L.length ≤ 1000000) :
    Calls Try.prog 50 #[.slice (some ⟨og, 0, none⟩) L.length cap, .int .i64 i, .int .i64 j] w fun e w' => e = .returned (.tuple #[]) ∧ Ord w' og cap (swapL L i j) ∧ Beside (ordOwn og L) w w' := by
  by_cases hij : i = j
  · subst hij
    obtain ⟨ci, fi⟩ := h.at i hi
    obtain ⟨-, -, -, -, a4, a5, -⟩ := thC_at (h.th i hi)
    refine (swap_self og i L.length cap L[i].blk 0 w hi hL ci fi a4 a5 (fun e => h.ne i hi e.symm) h.lt (h.th i hi).lt).mono ?_
    rintro e w' ⟨rfl, n, rfl⟩
    rw [swapL_same hi]
    exact ⟨rfl, h.beside (own := fun _ => False) ((Beside.refl _ w).drewN n) (fun _ _ h => h), (Beside.refl _ w).drewN n⟩
  · exact swap_any og cap i j L w h hi hj hij hL

set_option maxRecDepth 100000 in
set_option maxHeartbeats 4000000 in
theorem pop_any (p ty n : Nat) (cs : Array Value) (og cap : Nat) (L : List Th) (t : Th) (w : World) (hp : At w p (.cells cs ty (0, 0))) (hc : cs[3]? = some (.slice (some ⟨og, 0, none⟩) (n + 1) cap)) (hcap : n + 1 ≤ cap) (hO : Ord w og cap (L ++ [t])) (hn : L.length = n)
    (hpo : ¬ ordOwn og (L ++ [t]) p) (hL : n ≤ 999999) :
    Calls Try.prog 56 #[.pointer (some ⟨p, 3, none⟩)] w fun e w' => e = .returned (.iface 57 (.pointer (some ⟨t.blk, 0, none⟩))) ∧
      At w' p (.cells (cs.setIfInBounds 3 (.slice (some ⟨og, 0, none⟩) n cap)) ty (0, 0)) ∧ Ord w' og cap L ∧ At w' t.blk (.cells (thC t (-1)) 60 (0, 0)) ∧ Beside (fun k => k = p ∨ k = t.blk) w w' := by
  subst hn
  have cc := hp.cell 3 _ hc
  have cf := hp.froz 3
  have hlast : L.length < (L ++ [t]).length := by simp
  have hget : (L ++ [t])[L.length] = t := by simp
  obtain ⟨ci, fi⟩ := hO.at L.length hlast
  have hth := hO.th L.length hlast
  have hnt := hO.ne L.length hlast
  rw [hget] at ci hth hnt
  unfold thP at ci
  obtain ⟨-, -, -, -, t4, tf, -⟩ := thC_at hth
  have hpt : p ≠ t.blk := fun e => hpo (.inr ⟨t, by simp, e.symm⟩)
  have hpt' : t.blk ≠ p := hpt.symm
  have hpog : og ≠ p := fun e => hpo (.inl e.symm)
  have hpl := hp.lt
  have htl := hth.lt
  have HP := Lib.hid hp
  have HO := Lib.hid hO
  have HT := Lib.hid hth
  have HPO := Lib.hid hpo
  clear hp hO hth hpo hc hlast hget
  go_enter Try.func56, Try.ntmps56
  go_wp2_with fail
  go_ret
  have hps : ∀ i (hi : i < L.length), L[i].blk ≠ p := fun i hi e => HPO.out (.inr ⟨_, List.mem_append_left _ (List.getElem_mem hi), e⟩)
  have hts : ∀ i (hi : i < L.length), L[i].blk ≠ t.blk := fun i hi e => by
    have := HO.out.nd i L.length (by simp; omega) (by simp) (by rw [List.getElem_append_left hi]; simpa using e)
    omega
  refine ⟨rfl, (HP.out.set 3 _).other hpt, ?_, ?_, ?_⟩
  · obtain ⟨cur, h1, h2, h3, h4⟩ := HO.out.row
    refine ⟨⟨cur, (h1.other hpog).other (fun e => hnt e.symm), h2, by simp at h3; omega, fun i hi => ?_⟩, fun i hi => ?_, fun i j hi hj he => ?_⟩
    · have := h4 i (by simp; omega)
      rwa [List.getElem_append_left hi] at this
    · have := HO.out.th i (by simp; omega)
      rw [List.getElem_append_left hi] at this
      exact (this.other (hps i hi)).other (hts i hi)
    · exact HO.out.nd i j (by simp; omega) (by simp; omega) (by rw [List.getElem_append_left hi, List.getElem_append_left hj]; exact he)
  · have := (HT.out.other (j := 3) (v := .slice (some ⟨og, 0, none⟩) L.length cap) hpt').set 4 (.int .i64 (-1))
    rwa [thC_set] at this
  · exact ((Beside.refl _ w).setCell (p := ⟨p, 3, none⟩) (.inl (.inl rfl)) _).setCell (p := ⟨t.blk, 4, none⟩) (.inl (.inr rfl)) _
end Go.Proofs.Ythmnbjdmbajhkaa
