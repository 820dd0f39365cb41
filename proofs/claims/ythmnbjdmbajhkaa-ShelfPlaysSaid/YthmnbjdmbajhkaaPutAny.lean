/-
  Put of what is not there, whatever the shelf holds.
-/
import Derived.Test.YthmnbjdmbajhkaaForget
namespace Go.Proofs.Ythmnbjdmbajhkaa
set_option linter.unusedVariables false
open Go.RowKit
attribute [local go_sem] Oper.semAt_some

theorem len_mapE (m c : Nat) (E : List (Th × Nat)) (w : World) (h : TMap w m E c) : (Builtin.len_ #[52] 3 #[.map (some m)]).run Try.prog w = .ok (.int .i64 E.length) w := by
  have := len_map m _ _ w h
  rw [this]; simp
theorem ptr_none {E : List (Th × Nat)} {v u : Int} (h : at? E v u = none) : ptrOf E v u = .pointer none := by unfold ptrOf; rw [h]

/-- what Put has made of the shelf -/
def PutDone (p m c : Nat) (b S v u size used : Int) (clean : Bool) (r : Option Addr) (E : List (Th × Nat)) (L : List Th) (w w' : World) : Prop :=
  ∃ t cap' r', w.heap.size ≤ t ∧
      At w' p (.cells #[.int .i64 b, .int .i64 (S + size), .map (some m), .slice r' (L.length + (if clean then 1 else 0)) cap'] 56 (0, 0)) ∧ TMap w' m (E ++ [(⟨t, v, u, size, used⟩, c)]) (c + 1) ∧
      OrdS w' r' cap' (if clean then upL (L ++ [⟨t, v, u, size, used⟩]) L.length else L) ∧ (clean = false → At w' t (.cells (thC ⟨t, v, u, size, used⟩ (-1)) 60 (0, 0))) ∧
      Beside (fun k => k = p ∨ k = m ∨ sOwn r L k) w w' ∧ (∀ og, r' = some ⟨og, 0, none⟩ → (∃ o, r = some ⟨o, 0, none⟩ ∧ og = o) ∨ w.heap.size ≤ og)

set_option maxRecDepth 100000 in
set_option maxHeartbeats 8000000 in
theorem put_new (p m c : Nat) (b S v u size used : Int) (clean : Bool) (r : Option Addr) (cap : Nat) (E : List (Th × Nat)) (L : List Th) (w : World)
    (hr : At w p (.cells #[.int .i64 b, .int .i64 S, .map (some m), .slice r L.length cap] 56 (0, 0))) (hm : TMap w m E c) (hO : OrdS w r cap L)
    (hq : at? E v u = none) (h0 : ¬ size < 0) (h1 : ¬ size > 1048576) (hE : E.length < 65536) (hL : L.length ≤ 999999) (hw : IntKind.i64.wrap (S + size) = S + size)
    (hpo : ¬ sOwn r L p) (hmo : ¬ sOwn r L m) (hlt : ∀ k, sOwn r L k → k < w.heap.size) :
    Calls Try.prog 16 #[.pointer (some ⟨p, 0, none⟩), key v u, .int .i64 size, .int .i64 used, .bool clean] w fun e w' => e = .returned (.int .i64 0) ∧ PutDone p m c b S v u size used clean r E L w w' := by
  have hp := hr.lt
  have hml : m < w.heap.size := At.lt hm
  have HR := Lib.hid hr
  have HM := Lib.hid hm
  have HO := Lib.hid hO
  have HPO := Lib.hid hpo
  have HMO := Lib.hid hmo
  have HLT := Lib.hid hlt
  have he1 := eq_map m
  have he2 := neq_thing
  obtain ⟨n, hn⟩ : ∃ n : Int, (E.length : Int) = n := ⟨_, rfl⟩
  have hEi : n < 65536 := by omega
  have hEi2 : ¬ (n ≥ 65536) := by omega
  have hEi3 : ¬ (65536 ≤ n) := by omega
  have HN := Lib.hid hn
  have HLL := Lib.hid hL
  clear hE hL
  have hpn := ptr_none hq
  have HQ := Lib.hid hq
  clear hr hm hO hpo hmo hlt hq hn
  unfold key
  go_enter Try.func16, Try.ntmps16
  go_wp2_with fail
  have hb0 := (Below.refl w.heap.size w).alloc (Nat.le_refl _) (.cells #[.int .u32 v, .int .u32 u] 31)
  have HR0 := HR.out.below hb0 hp
  have HM0 : TMap _ m E c := At.below HM.out hb0 hml
  refine (thing_any p m c E _ v u _ HR0 rfl HM0).mono ?_
  rintro e w1 ⟨rfl, hb1⟩
  rw [hpn]
  have hs1 := hb1.size
  simp only [World.size_alloc] at hs1
  have HI1 : At w1 w.heap.size (.cells #[.int .u32 v, .int .u32 u] 31 (0, 0)) := At.below (heap_alloc_new w _) hb1 (by simp)
  have HI0 := Lib.hid HI1
  have HR1 := Lib.hid (HR0.below hb1 HR0.lt)
  have HM1 : Hid (TMap w1 m E c) := Lib.hid (At.below HM0 hb1 (At.lt HM0))
  have HB1 := Lib.hid (hb0.trans (hb1.mono (by simp)))
  have i0 := HI1.cell 0 (.int .u32 v) rfl
  have i1 := HI1.cell 1 (.int .u32 u) rfl
  have c1 := HR1.out.cell 1 (.int .i64 S) rfl
  have c2 := HR1.out.cell 2 (.map (some m)) rfl
  have f1 := HR1.out.froz 1
  have hlm := len_mapE m c E w1 HM1.out
  rw [HN.out] at hlm
  have n1 : w.heap.size ≠ w1.heap.size := by omega
  have n2 : p ≠ w1.heap.size := by omega
  have n3 : p < w1.heap.size := by omega
  have n4 : w.heap.size < w1.heap.size := by omega
  clear HI1 HR0 HM0 hb0 hb1
  go_wp2_with fail
  have hbT := (Below.refl w1.heap.size w1).alloc (Nat.le_refl _) (.cells #[.int .u32 v, .int .u32 u, .int .i64 size, .int .i64 used, .int .i64 (-1)] 60)
  have HRT := Lib.hid (HR1.out.below hbT HR1.out.lt)
  have HMT : Hid (TMap _ m E c) := Lib.hid (At.below HM1.out hbT (At.lt HM1.out))
  have HTT : Hid (At (w1.alloc (.cells #[.int .u32 v, .int .u32 u, .int .i64 size, .int .i64 used, .int .i64 (-1)] 60)) w1.heap.size (.cells (thC ⟨w1.heap.size, v, u, size, used⟩ (-1)) 60 (0, 0))) := Lib.hid (heap_alloc_new w1 (.cells #[.int .u32 v, .int .u32 u, .int .i64 size, .int .i64 used, .int .i64 (-1)] 60))
  have hput := run_put m c E ⟨w1.heap.size, v, u, size, used⟩ (w1.alloc (.cells #[.int .u32 v, .int .u32 u, .int .i64 size, .int .i64 used, .int .i64 (-1)] 60)).drew HMT.out HQ.out
  obtain ⟨A, hA⟩ : ∃ A, ((E ++ [((⟨w1.heap.size, v, u, size, used⟩ : Th), c)]).map ent).toArray = A := ⟨_, rfl⟩
  rw [hA] at hput
  have HA := Lib.hid hA
  clear hA
  unfold key thP at hput
  have t2 := HRT.out.cell 2 (.map (some m)) rfl
  have t0 : (w1.alloc (.cells #[.int .u32 v, .int .u32 u, .int .i64 size, .int .i64 used, .int .i64 (-1)] 60)).cell? ⟨w.heap.size, 0, none⟩ = some (.int .u32 v) := (hbT.cell (p := ⟨w.heap.size, 0, none⟩) n4).trans i0
  have t1 : (w1.alloc (.cells #[.int .u32 v, .int .u32 u, .int .i64 size, .int .i64 used, .int .i64 (-1)] 60)).cell? ⟨w.heap.size, 1, none⟩ = some (.int .u32 u) := (hbT.cell (p := ⟨w.heap.size, 1, none⟩) n4).trans i1
  have hpm : p ≠ m := by
    rintro rfl
    have h := HR.out.symm.trans HM.out
    cases h
  have hml1 : m < w1.heap.size := by omega
  have him : w.heap.size ≠ m := by omega
  have htm : w1.heap.size ≠ m := by omega
  have HI1 : At (w1.alloc (.cells #[.int .u32 v, .int .u32 u, .int .i64 size, .int .i64 used, .int .i64 (-1)] 60)) w.heap.size (.cells #[.int .u32 v, .int .u32 u] 31 (0, 0)) := HI0.out.below hbT n4
  have HRS : Hid (At (setMap (w1.alloc (.cells #[.int .u32 v, .int .u32 u, .int .i64 size, .int .i64 used, .int .i64 (-1)] 60)).drew m (.map A (c + 1))) p (.cells #[.int .i64 b, .int .i64 S, .map (some m), .slice r L.length cap] 56 (0, 0))) := Lib.hid (At.otherMap (w := (w1.alloc (.cells #[.int .u32 v, .int .u32 u, .int .i64 size, .int .i64 used, .int .i64 (-1)] 60)).drew) HRT.out hpm)
  have HIS : Hid (At (setMap (w1.alloc (.cells #[.int .u32 v, .int .u32 u, .int .i64 size, .int .i64 used, .int .i64 (-1)] 60)).drew m (.map A (c + 1))) w.heap.size (.cells #[.int .u32 v, .int .u32 u] 31 (0, 0))) := Lib.hid (At.otherMap (w := (w1.alloc (.cells #[.int .u32 v, .int .u32 u, .int .i64 size, .int .i64 used, .int .i64 (-1)] 60)).drew) HI1 him)
  have HTS : Hid (At (setMap (w1.alloc (.cells #[.int .u32 v, .int .u32 u, .int .i64 size, .int .i64 used, .int .i64 (-1)] 60)).drew m (.map A (c + 1))) w1.heap.size (.cells (thC ⟨w1.heap.size, v, u, size, used⟩ (-1)) 60 (0, 0))) := Lib.hid (At.otherMap (w := (w1.alloc (.cells #[.int .u32 v, .int .u32 u, .int .i64 size, .int .i64 used, .int .i64 (-1)] 60)).drew) HTT.out htm)
  have HMS0 : Hid (At (setMap (w1.alloc (.cells #[.int .u32 v, .int .u32 u, .int .i64 size, .int .i64 used, .int .i64 (-1)] 60)).drew m (.map A (c + 1))) m (.map A (c + 1))) := Lib.hid (At.putMap (w := (w1.alloc (.cells #[.int .u32 v, .int .u32 u, .int .i64 size, .int .i64 used, .int .i64 (-1)] 60)).drew) HMT.out)
  have HB2 : Hid (Beside (fun k => k = p ∨ k = m ∨ sOwn r L k) w (setMap (w1.alloc (.cells #[.int .u32 v, .int .u32 u, .int .i64 size, .int .i64 used, .int .i64 (-1)] 60)).drew m (.map A (c + 1)))) := Lib.hid (((((Below.beside HB1.out).alloc _).drew).setMap (.inl (.inr (.inl rfl))) _))
  have HNS : Hid (Beside (fun k => ¬ sOwn r L k) w (setMap (w1.alloc (.cells #[.int .u32 v, .int .u32 u, .int .i64 size, .int .i64 used, .int .i64 (-1)] 60)).drew m (.map A (c + 1)))) := Lib.hid (((((Below.beside HB1.out).alloc _).drew).setMap (.inl HMO.out) _))
  have s2 := HRS.out.cell 2 (.map (some m)) rfl
  have s0 := HIS.out.cell 0 (.int .u32 v) rfl
  have s1 := HIS.out.cell 1 (.int .u32 u) rfl
  have hSS : (setMap (w1.alloc (.cells #[.int .u32 v, .int .u32 u, .int .i64 size, .int .i64 used, .int .i64 (-1)] 60)).drew m (.map A (c + 1))).heap.size = w1.heap.size + 1 := by rw [setMap_size]; simp
  go_region_held3 (fun w' => w'.cell? ⟨p, 2, none⟩ = some (.map (some m)) ∧ w'.cell? ⟨w.heap.size, 0, none⟩ = some (.int .u32 v) ∧ w'.cell? ⟨w.heap.size, 1, none⟩ = some (.int .u32 u)) (first | with_reducible exact ⟨t2, t0, t1⟩ | with_reducible exact ⟨s2, s0, s1⟩ | go_keep) (fail)
  clear t2 t0 t1 s2 s0 s1 hput HRT HMT HTT HI1
  generalize (setMap (w1.alloc (.cells #[.int .u32 v, .int .u32 u, .int .i64 size, .int .i64 used, .int .i64 (-1)] 60)).drew m (.map A (c + 1))) = w2 at *
  have hpt : p ≠ w1.heap.size := n2
  have hp2 : p < w2.heap.size := by omega
  have ht2 : w1.heap.size < w2.heap.size := by omega
  have hm2 : m < w2.heap.size := by omega
  clear c1 c2 f1 i0 i1 HR1 HM1
  have c1 := HRS.out.cell 1 (.int .i64 S) rfl
  have f1 := HRS.out.froz 1
  have HR3 : Hid (At (w2.setCell ⟨p, 1, none⟩ (.int .i64 (S + size))) p (.cells #[.int .i64 b, .int .i64 (S + size), .map (some m), .slice r L.length cap] 56 (0, 0))) := Lib.hid (HRS.out.set 1 (.int .i64 (S + size)))
  have HT3 := Lib.hid (HTS.out.other (q := p) (j := 1) (v := .int .i64 (S + size)) hpt.symm)
  have HMS : Hid (TMap w2 m (E ++ [((⟨w1.heap.size, v, u, size, used⟩ : Th), c)]) (c + 1)) := Lib.hid (by unfold TMap; rw [HA.out]; exact HMS0.out)
  have HM3 : Hid (TMap (w2.setCell ⟨p, 1, none⟩ (.int .i64 (S + size))) m _ _) := Lib.hid (At.other HMS.out (q := p) (j := 1) (v := .int .i64 (S + size)) hpm.symm)
  have HB3 := Lib.hid (HB2.out.setCell (p := ⟨p, 1, none⟩) (.inl (.inl rfl)) (.int .i64 (S + size)))
  have hto : ¬ sOwn r L w1.heap.size := fun h => by have := HLT.out _ h; omega
  have HO3 : Hid (OrdS (w2.setCell ⟨p, 1, none⟩ (.int .i64 (S + size))) r cap L) := Lib.hid (HO.out.beside (own := fun k => ¬ sOwn r L k) (HNS.out.setCell (p := ⟨p, 1, none⟩) (.inl HPO.out) _) (fun k hk h => h hk))
  have hL := HLL.out
  have HP := Lib.hid (hpush_gen p 56 _ r cap L ⟨w1.heap.size, v, u, size, used⟩ (-1) _ HR3.out rfl HO3.out HT3.out hpt HPO.out hto hL)
  have HTO := Lib.hid hto
  clear hL hto
  generalize hTB : w1.heap.size = t at *
  have HWT : Hid (w.heap.size ≤ t) := Lib.hid (by omega)
  clear hTB
  cases clean
  · go_wp2_with fail
    go_ret
    exact ⟨rfl, t, cap, r, HWT.out, HR3.out, HM3.out, HO3.out, fun _ => HT3.out, HB3.out, fun og h => .inl ⟨og, h, rfl⟩⟩
  · go_wp2_with fail
    refine HP.out.mono ?_
    rintro e w5 ⟨rfl, og', cap', hp5, hx5, ho5, hl5, hm5, hb5, hat5⟩
    go_wp2_with fail
    go_ret
    have hmt : m ≠ t := htm.symm
    refine ⟨rfl, t, cap', some ⟨og', 0, none⟩, HWT.out, hp5, HM3.out.beside hb5 ?_, .inr ⟨og', rfl, hx5, ho5⟩, (fun h => by cases h), HB3.out.trans' hb5 ?_, ?_⟩
    · rintro (h | h | h)
      · exact hpm h.symm
      · exact hmt h
      · exact HMO.out h
    · rintro k hk (h | h | h)
      · exact .inl h
      · have := HWT.out
        have : k = t := h
        omega
      · exact .inr (.inr h)
    · intro og h
      cases h
      rcases hat5 with h | h
      · exact .inl h
      · right
        have h1 := HB3.out.size
        simp only [World.size_setCell] at h h1
        omega
end Go.Proofs.Ythmnbjdmbajhkaa
