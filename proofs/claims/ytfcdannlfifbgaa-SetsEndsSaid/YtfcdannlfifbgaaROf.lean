/-
  The contracts of the reference's Of.
-/
import Derived.Test.YtfcdannlfifbgaaOf
namespace Go.Proofs.Ytfcdannlfifbgaa
set_option linter.unusedVariables false
open Go.RowKit

/-- 'append(out, x)' of one range, in a region that draws its order -/
theorem step_appRd {ops : Array Oper} {o : Oper} {a : Act} {K : Act → World → Prop} {Q : Exit → Act → World → Prop} {E : Prop} (hgd : o.guard = none) (s x : Operand)
    (ho : o.op = .call { callee := .builtin .append, args := #[s, x], argTypes := #[22, 22] })
    {w wr : World} {B : Nat} {v : Value} {l : List (Int × Int)} {z y : Int} (hown : OwnR wr B v l) (hbel : Below B w wr) (hB : B ≤ wr.heap.size)
    (hs : a.eval s = v) (hx : a.eval x = .slice (some ⟨wr.heap.size, 0, none⟩) 1 1) (hlen : l.length + 1 ≤ 1000000)
    (h : ∀ o' w2, OwnR w2 B o' (l ++ [(z, y)]) → Below B w w2 → K (a.put o.dst o') w2) :
    if Region.wanted o (yielded ops a.tmps) = true then Oper.wp Try.prog o a (wr.alloc (.cells #[.int .u32 z, .int .u32 y] 33)).drew K Q else E := by
  have hw : Region.wanted o (yielded ops a.tmps) = true := by simp [Region.wanted, hgd]
  rw [if_pos hw]
  obtain ⟨i0, hi, hz0, hz1, hz2⟩ := info_parts Try.info33
  refine wp_append_own _ s x 22 ho B 33 i0 _ 2 8 Try.underlying22 hi hz0 hz1 hz2 rfl (by decide) v l.length (rngs l) hs (World.ownsRow.alloc hown _) ⟨wr.heap.size, 0, none⟩ 1 1 [.int .u32 z, .int .u32 y] hx rfl (two_new _ _ _ _) (by simp [Value.oneCell']) (by simp [maxLen]; omega) (by omega) (by simp; omega) ?_
  intro o' w2 ho' hgr _
  refine h o' w2 ?_ (((hbel.alloc hB _).drew).grown hgr (by simp; omega) (owns_le hown))
  unfold OwnR
  rw [rngs_append, List.length_append]
  exact ho'

set_option maxHeartbeats 1000000 in
theorem rof_any (v : Value) (l : List Int) (w : World) (hr : RowN w v l) (h1 : ∀ n ∈ l, 1 ≤ n) (hlen : l.length ≤ 1000) :
    Calls Try.prog 15 #[v] w fun e w' => ∃ o, e = .returned o ∧ OwnR w' w.heap.size o (ofL l) ∧ Below w.heap.size w w' := by
  obtain ⟨b, off, a, cap, rfl, hc, hm, ha, hcell⟩ := hr.shape
  have Ha := Lib.hid ha
  have Hc := Lib.hid hcell
  have HR := Lib.hid hr.2
  have H1 := Lib.hid h1
  clear ha hcell hr h1
  go_enter Try.func15, Try.ntmps15
  go_wp2_with fail
  go_loopw [3, 4] (fun o i wr => ∃ k : Nat, k ≤ l.length ∧ i = .int .i64 k ∧ OwnR wr w.heap.size o (ofL (l.take k)) ∧ Below w.heap.size w wr) (fun _ i _ => l.length - (intOf i).toNat)
  case atStart => exact ⟨0, by omega, rfl, owns_nil _ _ _ _, Below.refl _ _⟩
  case round =>
    obtain ⟨k, hk, rfl, hown, hb⟩ := hrel
    by_cases hlt : k < l.length
    · obtain ⟨rfl, hbl⟩ := Ha.out (by omega)
      have hq : wr.cell? ⟨b, off + k, none⟩ = some (.int .u32 l[k]) := (hb.cell (p := ⟨b, off + k, none⟩) hbl).trans (Hc.out k hlt)
      have hx := HR.out l[k] (List.getElem_mem hlt)
      have hx1 := H1.out l[k] (List.getElem_mem hlt)
      have HN := Lib.hid (ofL_snoc l k hlt)
      have hL := ofL_len l k
      have hRB := ofL_bd (l := l.take k) (fun n hn => HR.out n (List.mem_of_mem_take hn))
      have hB := hb.size
      have HQ0 := Lib.hid (Hc.out k hlt)
      generalize l[k] = x at *
      have HQ := HQ0
      generalize ofL (l.take k) = acc at *
      have HRB := Lib.hid hRB
      rcases List.eq_nil_or_concat acc with rfl | ⟨pre, p, rfl⟩
      · clear hRB
        obtain ⟨a, cap', rfl, hn', hm', ha', hx'⟩ := owns_shape hown
        simp only [List.length_nil] at *
        clear ha' hx'
        have HO := Lib.hid hown
        clear hown
        rw [ofStep_nil] at HN
        go_wp2_with fail
        go_quiet (fail)
        go_wp2_with fail
        go_region_held3 (fun w' => w'.cell? ⟨b, off + k, none⟩ = some (.int .u32 x)) (first | with_reducible exact hq | with_reducible exact kb | go_keep)
          ((refine step_appRd rfl (.tmp 39) (.tmp 49) rfl (wr := wr.drewN nq) HO.out (below_drewN hb nq) (by simp; omega) rfl rfl (by simp) ?_; intro o' w2 hown2 hb2; have kb : w2.cell? ⟨b, off + k, none⟩ = some (.int .u32 x) := (hb2.cell (p := ⟨b, off + k, none⟩) hbl).trans HQ.out))
        go_wp2_with fail
        go_roundw
        case rel => exact ⟨k + 1, by omega, by go_num, by rw [HN.out]; exact hown2, hb2⟩
        case measure => simp [intOf]; omega
      · obtain ⟨f, t⟩ := p
        rw [List.concat_eq_append] at *
        have hft0 := hRB (f, t) (by simp)
        clear hRB
        simp only at hft0
        obtain ⟨g, cap', rfl, hg0, hg1, hct, hft, hset⟩ := hown.last
        have hpl : pre.length + 1 ≤ 1000 := by have : (pre ++ [(f, t)]).length = pre.length + 1 := by simp
                                               omega
        have HS := Lib.hid hset
        have e1 : ((pre.length : Int) + 1 - 1).toNat = pre.length := by omega
        have HO := Lib.hid hown
        clear hset hown
        have hwx : IntKind.u32.wrap (x - 1) = x - 1 := IntWalk.u32_in _ (by omega)
        have hwi : IntKind.i64.wrap ((pre.length : Int) + 1 - 1) = pre.length := by rw [IntWalk.i64_in _ (by omega), Int.add_sub_cancel]
        have hdp : decide (0 < (pre.length : Int) + 1) = true := by simp
        have hi0 : 0 ≤ (pre.length : Int) := by omega
        have hi1 : (pre.length : Int) < (pre.length : Int) + 1 := by omega
        by_cases he : t + 1 = x
        · rw [ofStep_on _ _ _ _ he] at HN
          have hee : (t == x - 1) = true := by simp; omega
          have HHE := Lib.hid he
          clear he
          go_wp2_with fail
          go_quiet (fail)
          go_wp2_with fail
          go_roundw
          case rel => exact ⟨k + 1, by omega, by go_num, by rw [HN.out]; exact HS.out x, below_drewN (hb.setCell hg0 _) _⟩
          case measure => simp [intOf]; omega
        · rw [ofStep_new _ _ _ _ he] at HN
          have hee : (t == x - 1) = false := by simp; omega
          have HHE := Lib.hid he
          have hlim : (pre ++ [(f, t)]).length + 1 ≤ 1000000 := by simp; omega
          clear he
          go_wp2_with fail
          go_quiet (fail)
          go_wp2_with fail
          go_region_held3 (fun w' => w'.cell? ⟨b, off + k, none⟩ = some (.int .u32 x)) (first | with_reducible exact hq | with_reducible exact kb | go_keep)
            ((refine step_appRd rfl (.tmp 39) (.tmp 49) rfl (wr := wr.drewN nq) HO.out (below_drewN hb nq) (by simp; omega) rfl rfl hlim ?_; intro o' w2 hown2 hb2; have kb : w2.cell? ⟨b, off + k, none⟩ = some (.int .u32 x) := (hb2.cell (p := ⟨b, off + k, none⟩) hbl).trans HQ.out))
          go_wp2_with fail
          go_roundw
          case rel => exact ⟨k + 1, by omega, by go_num, by rw [HN.out]; exact hown2, hb2⟩
          case measure => simp [intOf]; omega
    · have HE := Lib.hid (show l.take k = l from List.take_of_length_le (by omega))
      rw [HE.out] at hown
      go_wp2_with fail
      go_ret
      exact ⟨_, rfl, hown, hb⟩
end Go.Proofs.Ytfcdannlfifbgaa
