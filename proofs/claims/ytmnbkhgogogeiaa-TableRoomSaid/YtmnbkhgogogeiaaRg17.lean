/-
  Several texts of one proof, each in a section of its own: CText, Rcd.
-/
import Derived.Test.YtmnbkhgogogeiaaRg2
import Derived.Test.YtmnbkhgogogeiaaRg16
import Derived.Laws.AppendOwnNone
namespace Go.Proofs.Ytmnbkhgogogeiaa
section
set_option linter.unusedVariables false
open Go.RowKit

/-- each byte as it is, a 0 with ff behind it -/
def esc (l : List Nat) : List Nat := l.flatMap fun n => if n = 0 then [0, 255] else [n]
/-- the bytes of a text -/
def txt (l : List Nat) : List Nat := esc l ++ [0, 1]

theorem esc_take_zero {l : List Nat} {k : Nat} (hk : k < l.length) (h : l[k] = 0) : esc (l.take (k + 1)) = esc (l.take k) ++ [0, 255] := by
  rw [List.take_succ_eq_append_getElem hk]
  simp [esc, h]
theorem esc_append (l m : List Nat) : esc (l ++ m) = esc l ++ esc m := by simp [esc]
theorem esc_take_more {l : List Nat} {k : Nat} (hk : k < l.length) (h : ¬ l[k] = 0) : esc (l.take (k + 1)) = esc (l.take k) ++ [l[k]] := by
  rw [List.take_succ_eq_append_getElem hk, esc_append]
  simp [esc, h]
theorem esc_len (l : List Nat) : (esc l).length ≤ 2 * l.length := by
  induction l with
  | nil => simp [esc]
  | cons a l ih =>
    rw [show a :: l = [a] ++ l from rfl, esc_append, List.length_append, List.length_append]
    have : (esc [a]).length ≤ 2 := by simp only [esc, List.flatMap_cons, List.flatMap_nil, List.append_nil]; split <;> simp
    simp only [List.length_cons, List.length_nil]
    omega
theorem esc_len_take (l : List Nat) (k : Nat) : (esc (l.take k)).length ≤ 2 * l.length := by
  have h1 := esc_len (l.take k)
  have h2 : (l.take k).length ≤ l.length := by simp; omega
  omega

set_option maxHeartbeats 800000 in
theorem text_any (v : Value) (l : List Nat) (w : World) (hr : RowB w v l) (hs : l.length ≤ 35184372088832) :
    Calls Try.prog 70 #[v] w fun e w' => ∃ o, e = .returned o ∧ OwnB w' w.heap.size o (txt l) ∧ Below w.heap.size w w' := by
  obtain ⟨i0, hi, hz0, hz1, hz2⟩ := info_parts Try.info5
  have HR := Lib.hid hr
  obtain ⟨a, len, cap, rfl, hl, hc, hm, hw, hn, hcell⟩ := hr
  have hsl : len ≤ 35184372088832 := by omega
  have Hl := Lib.hid hl
  clear hn hcell hl hs hw
  go_enter Try.func70, Try.ntmps70
  go_wp2_with (first
    | (at_make; go_loud (refine wpList_make_own _ rfl _ _ 23 rfl w.heap.size 5 i0 (.int .u8 0) 1 Try.underlying23 hi hz0 hz1 _ _ _ (len + 2) rfl rfl (by omega) (by rw [hz2]; omega) (by simp [maxLen]; omega) (Nat.le_refl _) ?_)))
  intro w1 hown1 hgr1
  have hb1 : Below w.heap.size w w1 := (Below.refl _ _).grown hgr1 (Nat.le_refl _) (by intro k hk; cases hk)
  have hO : OwnB w1 w.heap.size (Value.slice (some ⟨w.heap.size, 0, none⟩) 0 (len + 2)) [] := hown1
  have HO := Lib.hid hO
  clear hown1 hgr1 hO hi hz0 hz1 hz2
  go_wp2_with fail
  go_loopw [3, 12] (fun o i wr => ∃ k : Nat, k ≤ len ∧ i = .int .i64 k ∧ OwnB wr w.heap.size o (esc (l.take k)) ∧ Below w.heap.size w wr) (fun _ i _ => (len - intOf i).toNat)
  case atStart => exact ⟨0, by omega, rfl, HO.out, hb1⟩
  case round =>
    obtain ⟨k, hk, rfl, hown, hbel⟩ := hrel
    have hsz := hbel.size
    have hlen := esc_len_take l k
    rw [Hl.out] at hlen
    obtain ⟨ao, co, hsh⟩ := hown.shape
    subst hsh
    by_cases hlt : k < len
    · have hkl : k < l.length := by rw [Hl.out]; exact hlt
      rcases HR.out.shape with ⟨rfl, _⟩ | ⟨b, off, cap', e1, h1, h2, h3, cells⟩
      · simp at hkl
      · simp only [Value.slice.injEq] at e1
        obtain ⟨rfl, -, -⟩ := e1
        have hcc : wr.cell? ⟨b, off + k, none⟩ = some (.int .u8 (l[k] : Nat)) := by
          have h9 := cells k hkl
          rw [hbel.cell (World.block_lt_of_cell? w _ h9), h9]
        by_cases hz : l[k] = 0
        · rw [hz] at hcc
          simp only [Int.ofNat_zero] at hcc
          have he := Lib.hid (esc_take_zero hkl hz)
          clear cells hz h1 h2 h3
          go_wp2_with (at_builtin; go_loud (refine app1 rfl (.tmp 16) (.tmp 18) rfl hown hbel hsz rfl rfl (by omega) (n := 0) (Lib.hid rfl) ?_))
          intro o w2 hown2 hbel2
          obtain ⟨ao2, co2, hsh2⟩ := hown2.shape
          subst hsh2
          have hsz2 := hbel2.size
          clear hown hbel hcc
          go_wp2_with (at_builtin; go_loud (refine app1 rfl (.tmp 22) (.tmp 23) rfl hown2 hbel2 hsz2 rfl rfl (by simp; omega) (n := 255) (Lib.hid rfl) ?_))
          intro o3 w3 hown3 hbel3
          go_wp2_with fail
          go_roundw
          case rel => exact ⟨k + 1, by omega, by go_num, by rw [he.out]; exact hown3, hbel3⟩
          case measure => simp [intOf]; omega
        · have he := Lib.hid (esc_take_more hkl hz)
          have hz1 : (((l[k] : Nat) : Int) == 0) = false := by simp; omega
          clear cells hz h1 h2 h3
          go_wp2_with (at_builtin; go_loud (refine app1 rfl (.tmp 16) (.tmp 18) rfl hown hbel hsz rfl rfl (by omega) (n := l[k]) (Lib.hid rfl) ?_))
          intro o w2 hown2 hbel2
          go_wp2_with fail
          go_roundw
          case rel => exact ⟨k + 1, by omega, by go_num, by rw [he.out]; exact hown2, hbel2⟩
          case measure => simp [intOf]; omega
    · obtain rfl : k = len := by omega
      go_wp2_with (at_builtin; go_loud (refine app2 rfl (.tmp 26) (.tmp 27) rfl hown hbel hsz rfl rfl (by omega) (n := 0) (m := 1) (Lib.hid ⟨rfl, rfl⟩) ?_))
      intro o w2 hown2 hbel2
      go_wp2_with fail
      go_ret
      refine ⟨_, rfl, ?_, hbel2⟩
      have h9 := hown2
      rw [List.take_of_length_le (by rw [Hl.out]; exact Nat.le_refl _)] at h9
      exact h9
end
section
set_option linter.unusedVariables false
open Go.RowKit

/-- 'append(out, d...)' of a row that lies anywhere -/
theorem appR {ops : Array Oper} {rest : List Oper} {o : Oper} {a : Act} {Q : Exit → Act → World → Prop} (hgd : o.guard = none) (s x : Operand)
    (ho : o.op = .call { callee := .builtin .append, args := #[s, x], argTypes := #[23, 23] })
    {w wr : World} {B : Nat} {v vd : Value} {l d : List Nat} (hown : OwnB wr B v l) (hd : RowB wr vd d) (hbel : Below B w wr) (hB : B ≤ wr.heap.size)
    (hs : a.eval s = v) (hx : a.eval x = vd) (hlen : l.length + d.length ≤ 140737488355328)
    (h : ∀ ao co n D w2, Hid (D = l ++ d ∧ D.length = n) → OwnB w2 B (.slice ao n co) D → Below B w w2 → Hid ((∀ k, k < wr.heap.size → v.ownBlock ≠ some k → w2.heap[k]? = wr.heap[k]?) ∧ wr.heap.size ≤ w2.heap.size) → wpList Try.prog ops Q rest (a.put o.dst (.slice ao n co)) w2) :
    wpList Try.prog ops Q (o :: rest) a wr := by
  obtain ⟨i0, hi, hz0, hz1, hz2⟩ := info_parts Try.info5
  obtain ⟨ad, len, cap, rfl, hl, hc, hm, h256, hn, hcell⟩ := hd
  cases ad with
  | none =>
    obtain ⟨rfl, rfl⟩ := hn rfl
    obtain rfl : d = [] := List.eq_nil_of_length_eq_zero hl
    obtain ⟨ao, co, e⟩ := hown.shape
    refine wpList_append_own_none hgd s x 23 ho B 5 i0 1 Try.underlying23 hi v l.length (u8s l) hs hown hx ?_
    have := h ao co l.length l wr (Lib.hid ⟨by simp, rfl⟩) (by rw [← e]; exact hown) hbel (Lib.hid ⟨fun _ _ _ => rfl, Nat.le_refl _⟩)
    rw [← e] at this
    exact this
  | some p =>
    refine wpList_append_own _ hgd s x 23 ho B 5 i0 (.int .u8 0) 1 1 Try.underlying23 hi hz0 hz1 hz2 rfl (by decide) v l.length (u8s l) hs hown p len cap (u8s d) hx (by simp [hl]) (fun j u hj => ?_) (by
      intro u hu
      simp only [u8s, List.mem_map] at hu
      obtain ⟨n, _, rfl⟩ := hu
      rfl) (by unfold maxLen; omega) (by omega) hB ?_
    · have hjl : j < d.length := by have := (List.getElem?_eq_some_iff.1 hj).1; simpa using this
      rw [u8s_get d j hjl] at hj
      cases hj
      exact hcell p rfl j hjl
    · intro o' w2 ho' hgr _
      rw [hl.symm] at ho'
      have ho2 : OwnB w2 B o' (l ++ d) := by
        unfold OwnB
        rw [u8s_append, List.length_append]
        exact ho'
      obtain ⟨ao, co, e⟩ := ho2.shape
      subst e
      exact h ao co _ _ w2 (Lib.hid ⟨rfl, rfl⟩) ho2 (hbel.grown hgr hB hown.ownLe) (Lib.hid ⟨fun k hk hne => hgr.block k hk (fun e => hne e.symm), hgr.size⟩)
theorem numB_len (v : Nat) : (numB v).length ≤ 9 := by
  unfold numB
  have := digs_len v 8
  simp
  omega
theorem digs_lt (v k : Nat) : ∀ n ∈ digs v k, n < 256 := by
  induction k with
  | zero => intro n hn; simp [digs] at hn
  | succ k ih =>
    intro n hn
    rw [digs] at hn
    split at hn
    · exact ih n hn
    · rcases List.mem_append.1 hn with hn | hn
      · exact ih n hn
      · obtain rfl := List.mem_singleton.1 hn
        exact Nat.mod_lt _ (by decide)
theorem numB_lt (v : Nat) : ∀ n ∈ numB v, n < 256 := by
  intro n hn
  unfold numB at hn
  rcases List.mem_cons.1 hn with rfl | hn
  · have := digs_len v 8; omega
  · exact digs_lt v 8 n hn
theorem constB (w : World) (fr : Nat × Nat) (l : List Nat) (h : ∀ n ∈ l, n < 256) (hl : l.length ≤ 1000) : RowB (w.alloc (.cells (u8s l).toArray 5 fr)) (.slice (some ⟨w.heap.size, 0, none⟩) l.length l.length) l := by
  have hh := heap_alloc_new w (.cells (u8s l).toArray 5 fr)
  refine ⟨_, _, _, rfl, rfl, Nat.le_refl _, by unfold maxLen; omega, h, by simp, fun x hx i hi => ?_⟩
  obtain rfl := Option.some.inj hx
  rw [Addr.add_lit, cell_of_row _ _ _ _ 5 fr hh, Nat.zero_add]
  simpa using u8s_get l i hi
/-- the bytes of keys and values -/
def weigh (C : List Chg) : Nat := (C.map fun c => c.key.length + c.val.length).sum
theorem weigh_append (A B : List Chg) : weigh (A ++ B) = weigh A + weigh B := by simp [weigh]

set_option maxRecDepth 100000 in
set_option maxHeartbeats 4000000 in
theorem record_any {w : World} {v : Value} {C : List Chg} (hv : ChgV w v C) (hC : C.length ≤ 400) (hw : weigh C ≤ 61440) :
    Calls Try.prog 41 #[v] w fun e w' => ∃ o d, e = .returned o ∧ OwnB w' w.heap.size o d ∧ d.length ≤ 16 + 27 * C.length + weigh C ∧ (∀ n ∈ d, n < 256) ∧ Below w.heap.size w w' := by
  have HV := Lib.hid hv
  obtain ⟨a, cap, rfl, h1, h2, -⟩ := hv
  have HCW := Lib.hid (And.intro hC hw)
  have hcl : (C.length : Int) ≤ 400 := by omega
  have hcu : IntKind.u64.wrap (C.length : Int) = (C.length : Int) := wraps_u64 _ (by omega) (by omega)
  have HNC := Lib.hid (fun W => num_any C.length (by have := HCW.out.1; omega) W)
  clear hC hw h1 h2
  go_enter Try.func41, Try.ntmps41
  go_wp2_with fail
  have kc := Go.Joins.run_convert_bytes_const_at (P := Try.prog) w 23 5 #[.int .u8 116, .int .u8 97, .int .u8 98, .int .u8 108, .int .u8 101] 5 5 w.heap.size rfl Try.underlying23 Try.underlying5
  rw [kc]
  clear kc
  simp only [Result.andThen]
  rw [Oper.upon_value]
  have hA : Below w.heap.size w (w.alloc (.cells #[.int .u8 116, .int .u8 97, .int .u8 98, .int .u8 108, .int .u8 101] 5 (5, 6))) := (Below.refl _ _).alloc (Nat.le_refl _) _
  have HA := Lib.hid hA
  have HTX := Lib.hid (text_any (.slice (some ⟨w.heap.size, 0, none⟩) 5 5) [116, 97, 98, 108, 101] _ (constB w (5, 6) [116, 97, 98, 108, 101] (by decide) (by decide)) (by decide))
  clear hA
  go_wp2_with fail
  refine HTX.out.mono ?_
  rintro e w1 ⟨o1, rfl, ho1, hb1⟩
  obtain ⟨a1, c1, rfl⟩ := ho1.shape
  have HB1 := Lib.hid (HA.out.trans (hb1.mono HA.out.size))
  have HO1 : Hid (OwnB w1 w.heap.size (.slice a1 (txt [116, 97, 98, 108, 101]).length c1) (txt [116, 97, 98, 108, 101])) := Lib.hid (owns_mono ho1 HA.out.size)
  obtain ⟨d1, hd1⟩ : ∃ d, txt [116, 97, 98, 108, 101] = d := ⟨_, rfl⟩
  have HD1 : Hid (d1.length = 7 ∧ ∀ n ∈ d1, n < 256) := Lib.hid (by rw [← hd1]; decide)
  rw [hd1] at HO1
  rw [hd1]
  clear ho1 hb1 HTX hd1
  go_wp2_with (first
    | (go_at_call 71; refine (HNC.out _).mono ?_; rintro e w2 ⟨o2, rfl, ho2, hb2⟩
       obtain ⟨a2, c2, rfl⟩ := ho2.shape
       have HO2 := Lib.hid (ho2.rowB (numB_lt _))
       have HB2 := Lib.hid (HB1.out.trans (hb2.mono HB1.out.size))
       have HP2 := Lib.hid (ownsRow_below HO1.out hb2)
       clear ho2 hb2)
    | (at_builtin; refine appR rfl (.tmp 12) (.tmp 16) rfl HP2.out HO2.out HB2.out HB2.out.size rfl rfl (by have := numB_len C.length; have := HD1.out.1; omega) ?_))
  intro ao co n0 D0 w3 hD0 ho3 hb3 _
  have HO3 := Lib.hid ho3
  have HB3 := Lib.hid hb3
  have HD0 : Hid (D0.length ≤ 16 ∧ ∀ n ∈ D0, n < 256) := Lib.hid (by
    rw [hD0.out.1]
    refine ⟨?_, fun n hn => ?_⟩
    · have := numB_len C.length
      have := HD1.out.1
      rw [List.length_append]
      omega
    · rcases List.mem_append.1 hn with hn | hn
      · exact HD1.out.2 n hn
      · exact numB_lt _ n hn)
  clear ho3 hb3 hD0 HO1 HB1
  go_wp2_with fail
  go_loopw [20, 3] (fun i o wr => ∃ k D, k ≤ C.length ∧ i = .int .i64 (k : Nat) ∧ OwnB wr w.heap.size o D ∧ D.length ≤ 16 + 27 * k ∧ (∀ n ∈ D, n < 256) ∧ Below w.heap.size w wr) (fun i _ _ => C.length - (RowKit.intOf i).toNat)
  case atStart => exact ⟨0, D0, Nat.zero_le _, rfl, HO3.out, HD0.out.1, HD0.out.2, HB3.out⟩
  case round =>
    obtain ⟨k, D, hk, rfl, ho, hdl, hdt, hb⟩ := hrel
    obtain ⟨oa, oc, rfl⟩ := ho.shape
    have HO := Lib.hid ho
    have HB := Lib.hid hb
    have HDL := Lib.hid (And.intro hdl hdt)
    by_cases hkn : k < C.length
    · have hkz : (k : Int) < (C.length : Int) := by omega
      obtain ⟨a2, cap2, e, -, -, h3⟩ := HV.out.below hb
      obtain ⟨rfl, -, rfl⟩ := Value.slice.inj e
      obtain ⟨g, off, rfl, hcell⟩ : ∃ g off, a = some ⟨g, off, none⟩ ∧ ∀ i (h : i < C.length), ∃ ka kl kc va vl vc,
          wr.cell? ⟨g, off + i * 3, none⟩ = some (.slice ka kl kc) ∧ wr.cell? ⟨g, off + i * 3 + 1, none⟩ = some (.slice va vl vc) ∧ wr.cell? ⟨g, off + i * 3 + 2, none⟩ = some (.bool C[i].drop) ∧ RowB wr (.slice ka kl kc) C[i].key ∧ RowB wr (.slice va vl vc) C[i].val := by
        rcases h3 with h3 | h3
        · rw [h3] at hkn; simp at hkn
        · exact h3
      obtain ⟨ka, kl, kc, va, vl, vc, c0, c1, c2, r1, r2⟩ := hcell k hkn
      obtain ⟨d, hd⟩ : ∃ d, C[k] = d := ⟨_, rfl⟩
      rw [hd] at c2 r1 r2
      have hdw : d.key.length + d.val.length ≤ 61440 := by
        have h1 := List.take_append_drop k C
        have h2 : C.drop k = d :: C.drop (k + 1) := by rw [List.drop_eq_getElem_cons hkn, hd]
        have h3 := HCW.out.2
        rw [← h1, h2, weigh_append] at h3
        simp [weigh] at h3
        omega
      have hkl : kl = d.key.length := by obtain ⟨_, _, _, e, h, _⟩ := r1; obtain ⟨-, rfl, -⟩ := Value.slice.inj e; exact h.symm
      have hvl : vl = d.val.length := by obtain ⟨_, _, _, e, h, _⟩ := r2; obtain ⟨-, rfl, -⟩ := Value.slice.inj e; exact h.symm
      have hk1 : kl ≤ 61440 := by omega
      have hv1 : vl ≤ 61440 := by omega
      have HK := Lib.hid hkn
      obtain ⟨dk, dv, dd⟩ := d
      simp only at c2
      have HNK := Lib.hid (fun W => num_any kl (by omega) W)
      have HNV := Lib.hid (fun W => num_any vl (by omega) W)
      have HKV := Lib.hid (And.intro hk1 hv1)
      clear ho hdl hdt hb h3 hcell e hd hdw hkl hvl r1 r2
      go_upto_if 25 with (fail)
      have HX5 := Lib.hid (heap_alloc_new wr (.cells #[.slice ka kl kc, .slice va vl vc, .bool dd] 35))
      have hA5 : Below wr.heap.size wr (wr.alloc (.cells #[.slice ka kl kc, .slice va vl vc, .bool dd] 35)) := (Below.refl _ _).alloc (Nat.le_refl _) _
      have HB5 := Lib.hid (HB.out.trans (hA5.mono HB.out.size))
      have HO5 := Lib.hid (ownsRow_below HO.out hA5)
      have HDL5 : Hid (D.length ≤ 16 + 27 * k + 0 ∧ ∀ n ∈ D, n < 256) := Lib.hid HDL.out
      have hku : IntKind.u64.wrap (kl : Int) = (kl : Int) := wraps_u64 _ (by omega) (by have := HKV.out.1; omega)
      have hvu : IntKind.u64.wrap (vl : Int) = (vl : Int) := wraps_u64 _ (by omega) (by have := HKV.out.2; omega)
      clear c0 c1 c2 hA5 HO HB
      generalize wr.alloc (.cells #[.slice ka kl kc, .slice va vl vc, .bool dd] 35) = w5 at *
      generalize wr.heap.size = b5 at *
      go_cut [6] (fun u wx => wx = w5 ∧ ∃ x : Nat, u = .int .u64 (x : Nat) ∧ x ≤ 1)
      case first =>
        cases dd
        · go_wp2_with fail
          go_meet
          exact ⟨rfl, 0, rfl, by decide⟩
        · go_wp2_with fail
          go_meet
          exact ⟨rfl, 1, rfl, by decide⟩
      case rest =>
        obtain ⟨hwx, x, rfl, hx1⟩ := hcut
        subst hwx
        rename World => w5
        have HNX := Lib.hid (fun W => num_any x (by omega) W)
        go_wp2_with (first
          | (go_at_call 71; refine (HNX.out _).mono ?_; rintro e w6 ⟨o2, rfl, ho2, hb2⟩
             obtain ⟨a6, c6, rfl⟩ := ho2.shape
             have HN6 := Lib.hid (ho2.rowB (numB_lt _))
             have HB6 := Lib.hid (HB5.out.trans (hb2.mono HB5.out.size))
             have HO6 := Lib.hid (ownsRow_below HO5.out hb2)
             have HX6 := Lib.hid ((hb2.block b5 (lt_of_block HX5.out)).trans HX5.out)
             clear ho2 hb2)
          | (at_builtin; refine appR rfl (.tmp 26) (.tmp 28) rfl HO6.out HN6.out HB6.out HB6.out.size rfl rfl (by have := numB_len x; have := HDL5.out.1; have := HK.out; have := HCW.out.1; omega) ?_))
        intro oa7 oc7 n7 D7 w7 hD ho hb hkp
        have HO7 : Hid (OwnB w7 w.heap.size (.slice oa7 n7 oc7) D7) := Lib.hid ho
        have HB7 := Lib.hid hb
        have HX7 := Lib.hid ((hkp.out.1 b5 (lt_of_block HX6.out) (OwnB.ne HO6.out HX6.out (by decide))).trans HX6.out)
        have HDL7 : Hid (D7.length ≤ 16 + 27 * k + 9 ∧ ∀ n ∈ D7, n < 256) := Lib.hid (by
          rw [hD.out.1]
          have := numB_len x
          have h2 := HDL5.out
          refine ⟨by rw [List.length_append]; omega, fun n hn => ?_⟩
          rcases List.mem_append.1 hn with hn | hn
          · exact h2.2 n hn
          · exact numB_lt _ n hn)
        have HNL7 : Hid (D7.length = n7) := Lib.hid hD.out.2
        clear hD ho hb hkp
        have y7 := cell_of_row w7 b5 0 _ _ _ HX7.out
        simp only [List.getElem?_toArray, List.getElem?_cons_zero] at y7
        go_wp2_with (first
          | (go_at_call 71; refine (HNK.out _).mono ?_; rintro e w8 ⟨o2, rfl, ho2, hb2⟩
             obtain ⟨a8, c8, rfl⟩ := ho2.shape
             have HN8 := Lib.hid (ho2.rowB (numB_lt _))
             have HB8 := Lib.hid (HB7.out.trans (hb2.mono HB7.out.size))
             have HO8 := Lib.hid (ownsRow_below HO7.out hb2)
             have HX8 := Lib.hid ((hb2.block b5 (lt_of_block HX7.out)).trans HX7.out)
             clear ho2 hb2)
          | (at_builtin; refine appR rfl (.tmp 30) (.tmp 35) rfl HO8.out HN8.out HB8.out HB8.out.size rfl rfl (by have := numB_len kl; have := HDL7.out.1; have := HK.out; have := HCW.out.1; omega) ?_))
        intro oa9 oc9 n9 D9 w9 hD ho hb hkp
        have HO9 : Hid (OwnB w9 w.heap.size (.slice oa9 n9 oc9) D9) := Lib.hid ho
        have HB9 := Lib.hid hb
        have HX9 := Lib.hid ((hkp.out.1 b5 (lt_of_block HX8.out) (OwnB.ne HO8.out HX8.out (by decide))).trans HX8.out)
        have HDL9 : Hid (D9.length ≤ 16 + 27 * k + 18 ∧ ∀ n ∈ D9, n < 256) := Lib.hid (by
          rw [hD.out.1]
          have := numB_len kl
          have h2 := HDL7.out
          refine ⟨by rw [List.length_append]; omega, fun n hn => ?_⟩
          rcases List.mem_append.1 hn with hn | hn
          · exact h2.2 n hn
          · exact numB_lt _ n hn)
        have HNL9 : Hid (D9.length = n9) := Lib.hid hD.out.2
        clear hD ho hb hkp
        have y9 := cell_of_row w9 b5 1 _ _ _ HX9.out
        simp only [List.getElem?_toArray, List.getElem?_cons_zero, List.getElem?_cons_succ] at y9
        go_wp2_with (first
          | (go_at_call 71; refine (HNV.out _).mono ?_; rintro e w10 ⟨o2, rfl, ho2, hb2⟩
             obtain ⟨a10, c10, rfl⟩ := ho2.shape
             have HN10 := Lib.hid (ho2.rowB (numB_lt _))
             have HB10 := Lib.hid (HB9.out.trans (hb2.mono HB9.out.size))
             have HO10 := Lib.hid (ownsRow_below HO9.out hb2)
             have HX10 := Lib.hid ((hb2.block b5 (lt_of_block HX9.out)).trans HX9.out)
             clear ho2 hb2)
          | (at_builtin; refine appR rfl (.tmp 37) (.tmp 42) rfl HO10.out HN10.out HB10.out HB10.out.size rfl rfl (by have := numB_len vl; have := HDL9.out.1; have := HK.out; have := HCW.out.1; omega) ?_))
        intro oa11 oc11 n11 D11 w11 hD ho hb hkp
        have HO11 : Hid (OwnB w11 w.heap.size (.slice oa11 n11 oc11) D11) := Lib.hid ho
        have HB11 := Lib.hid hb
        have HX11 := Lib.hid ((hkp.out.1 b5 (lt_of_block HX10.out) (OwnB.ne HO10.out HX10.out (by decide))).trans HX10.out)
        have HDL11 : Hid (D11.length ≤ 16 + 27 * k + 27 ∧ ∀ n ∈ D11, n < 256) := Lib.hid (by
          rw [hD.out.1]
          have := numB_len vl
          have h2 := HDL9.out
          refine ⟨by rw [List.length_append]; omega, fun n hn => ?_⟩
          rcases List.mem_append.1 hn with hn | hn
          · exact h2.2 n hn
          · exact numB_lt _ n hn)
        have HNL11 : Hid (D11.length = n11) := Lib.hid hD.out.2
        clear hD ho hb hkp
        go_wp2_with fail
        go_roundw
        case rel => exact ⟨k + 1, D11, HK.out, by go_num, HO11.out, by have := HDL11.out.1; omega, HDL11.out.2, HB11.out⟩
        case measure => simp [intOf]; omega
    · obtain rfl : k = C.length := by omega
      clear ho hdl hdt hb
      go_wp2_with fail
      go_loopw [47, 3] (fun i o wr => ∃ k D, k ≤ C.length ∧ i = .int .i64 (k : Nat) ∧ OwnB wr w.heap.size o D ∧ D.length ≤ 16 + 27 * C.length + weigh (C.take k) ∧ (∀ n ∈ D, n < 256) ∧ Below w.heap.size w wr) (fun i _ _ => C.length - (RowKit.intOf i).toNat)
      case atStart => exact ⟨0, D, Nat.zero_le _, rfl, HO.out, by have := HDL.out.1; simp [weigh]; omega, HDL.out.2, HB.out⟩
      case round =>
        clear HO HB HDL
        obtain ⟨k, D, hk, rfl, ho, hdl, hdt, hb⟩ := hrel
        obtain ⟨oa, oc, rfl⟩ := ho.shape
        have HO := Lib.hid ho
        have HB := Lib.hid hb
        have HDL := Lib.hid (And.intro hdl hdt)
        by_cases hkn : k < C.length
        · have hkz : (k : Int) < (C.length : Int) := by omega
          obtain ⟨a2, cap2, e, -, -, h3⟩ := HV.out
          obtain ⟨rfl, -, rfl⟩ := Value.slice.inj e
          obtain ⟨g, off, rfl, hcell⟩ : ∃ g off, a = some ⟨g, off, none⟩ ∧ ∀ i (h : i < C.length), ∃ ka kl kc va vl vc,
              w.cell? ⟨g, off + i * 3, none⟩ = some (.slice ka kl kc) ∧ w.cell? ⟨g, off + i * 3 + 1, none⟩ = some (.slice va vl vc) ∧ w.cell? ⟨g, off + i * 3 + 2, none⟩ = some (.bool C[i].drop) ∧ RowB w (.slice ka kl kc) C[i].key ∧ RowB w (.slice va vl vc) C[i].val := by
            rcases h3 with h3 | h3
            · rw [h3] at hkn; simp at hkn
            · exact h3
          obtain ⟨ka, kl, kc, va, vl, vc, c0, c1, c2, r1, r2⟩ := hcell k hkn
          rw [← hb.cell (World.block_lt_of_cell? w _ c0)] at c0
          rw [← hb.cell (World.block_lt_of_cell? w _ c1)] at c1
          rw [← hb.cell (World.block_lt_of_cell? w _ c2)] at c2
          obtain ⟨d, hd⟩ : ∃ d, C[k] = d := ⟨_, rfl⟩
          rw [hd] at c2 r1 r2
          have hkl : d.key.length = kl := by obtain ⟨_, _, _, e, h, _⟩ := r1; obtain ⟨-, rfl, -⟩ := Value.slice.inj e; exact h
          have hvl : d.val.length = vl := by obtain ⟨_, _, _, e, h, _⟩ := r2; obtain ⟨-, rfl, -⟩ := Value.slice.inj e; exact h
          have HNX : Hid (weigh (C.take (k + 1)) = weigh (C.take k) + (kl + vl)) := Lib.hid (by
            rw [List.take_succ_eq_append_getElem hkn, weigh_append, hd]
            simp [weigh, hkl, hvl])
          have HK := Lib.hid hkn
          have HR1 := Lib.hid r1
          have HR2 := Lib.hid r2
          have hdw : weigh (C.take k) + (kl + vl) ≤ 61440 := by
            have h1 := List.take_append_drop k C
            have h2 : C.drop k = d :: C.drop (k + 1) := by rw [List.drop_eq_getElem_cons hkn, hd]
            have h3 := HCW.out.2
            rw [← h1, h2, weigh_append] at h3
            simp [weigh] at h3
            have h4 : weigh (C.take k) = (List.map (fun c : Chg => c.key.length + c.val.length) (C.take k)).sum := rfl
            rw [h4]
            simp only [List.map_take]
            omega
          have HLE : Hid (d.key.length = kl ∧ d.val.length = vl ∧ weigh (C.take k) + (kl + vl) ≤ 61440) := Lib.hid ⟨hkl, hvl, hdw⟩
          obtain ⟨dk, dv, dd⟩ := d
          simp only at c2
          clear ho hdl hdt hb h3 hcell e hd hkl hvl r1 r2 hdw
          go_upto_region 16 with (fail)
          have HX5 := Lib.hid (heap_alloc_new wr (.cells #[.slice ka kl kc, .slice va vl vc, .bool dd] 35))
          have hA5 : Below wr.heap.size wr (wr.alloc (.cells #[.slice ka kl kc, .slice va vl vc, .bool dd] 35)) := (Below.refl _ _).alloc (Nat.le_refl _) _
          have HB5 := Lib.hid (HB.out.trans (hA5.mono HB.out.size))
          have HO5 := Lib.hid (ownsRow_below HO.out hA5)
          have HDL5 : Hid (D.length ≤ 16 + 27 * C.length + weigh (C.take k) ∧ ∀ n ∈ D, n < 256) := Lib.hid HDL.out
          clear c0 c1 c2 hA5 HO HB
          generalize wr.alloc (.cells #[.slice ka kl kc, .slice va vl vc, .bool dd] 35) = w5 at *
          generalize hb5 : wr.heap.size = b5 at *
          have y5 := cell_of_row w5 b5 0 _ _ _ HX5.out
          simp only [List.getElem?_toArray, List.getElem?_cons_zero] at y5
          have HN5 := Lib.hid (HR1.out.below HB5.out)
          go_wp2_with (first
            | (at_builtin; refine appR rfl (.tmp 51) (.tmp 53) rfl HO5.out HN5.out HB5.out HB5.out.size rfl rfl (by have := HDL5.out.1; have := HK.out; have := HCW.out; have := HLE.out; omega) ?_))
          intro oa7 oc7 n7 D7 w7 hD ho hb hkp
          have HO7 : Hid (OwnB w7 w.heap.size (.slice oa7 n7 oc7) D7) := Lib.hid (by exact ho)
          have HB7 := Lib.hid hb
          have HX7 := Lib.hid ((hkp.out.1 b5 (lt_of_block HX5.out) (OwnB.ne HO5.out HX5.out (by decide))).trans HX5.out)
          have HDL7 : Hid (D7.length ≤ 16 + 27 * C.length + weigh (C.take k) + (kl) ∧ ∀ n ∈ D7, n < 256) := Lib.hid (by
            rw [hD.out.1]
            have h2 := HDL5.out
            have h3 := HLE.out
            refine ⟨by rw [List.length_append]; omega, fun n hn => ?_⟩
            rcases List.mem_append.1 hn with hn | hn
            · exact h2.2 n hn
            · exact HR1.out.lt n hn)
          clear hD ho hb hkp
          have y7 := cell_of_row w7 b5 1 _ _ _ HX7.out
          simp only [List.getElem?_toArray, List.getElem?_cons_zero, List.getElem?_cons_succ] at y7
          have HN7 := Lib.hid (HR2.out.below HB7.out)
          go_wp2_with (first
            | (at_builtin; refine appR rfl (.tmp 55) (.tmp 57) rfl HO7.out HN7.out HB7.out HB7.out.size rfl rfl (by have := HDL7.out.1; have := HK.out; have := HCW.out; have := HLE.out; omega) ?_))
          intro oa9 oc9 n9 D9 w9 hD ho hb hkp
          have HO9 : Hid (OwnB w9 w.heap.size (.slice oa9 n9 oc9) D9) := Lib.hid (by exact ho)
          have HB9 := Lib.hid hb
          have HX9 := Lib.hid ((hkp.out.1 b5 (lt_of_block HX7.out) (OwnB.ne HO7.out HX7.out (by decide))).trans HX7.out)
          have HDL9 : Hid (D9.length ≤ 16 + 27 * C.length + weigh (C.take k) + (kl + vl) ∧ ∀ n ∈ D9, n < 256) := Lib.hid (by
            rw [hD.out.1]
            have h2 := HDL7.out
            have h3 := HLE.out
            refine ⟨by rw [List.length_append]; omega, fun n hn => ?_⟩
            rcases List.mem_append.1 hn with hn | hn
            · exact h2.2 n hn
            · exact HR2.out.lt n hn)
          clear hD ho hb hkp
          go_wp2_with fail
          go_roundw
          case rel => exact ⟨k + 1, D9, HK.out, by go_num, HO9.out, by rw [HNX.out]; have := HDL9.out.1; omega, HDL9.out.2, HB9.out⟩
          case measure => simp [intOf]; omega
        · obtain rfl : k = C.length := by omega
          clear ho hdl hdt hb
          go_wp2_with fail
          go_ret
          exact ⟨_, D, rfl, HO.out, by have := HDL.out.1; rwa [List.take_length] at this, HDL.out.2, HB.out⟩
end
end Go.Proofs.Ytmnbkhgogogeiaa
