/-
  The contracts of Of, of the program and of the reference.
-/
import Derived.Test.YtfcdannlfifbgaaOwn
namespace Go.Proofs.Ytfcdannlfifbgaa
set_option linter.unusedVariables false
open Go.RowKit

/-- one number more -/
def ofStep (acc : List (Int × Int)) (n : Int) : List (Int × Int) :=
  match acc.getLast? with
  | some p => if p.2 + 1 = n then acc.dropLast ++ [(p.1, n)] else acc ++ [(n, n)]
  | none => [(n, n)]
/-- the fewest ranges that have just these numbers -/
def ofL (l : List Int) : List (Int × Int) := l.foldl ofStep []

theorem ofStep_nil (n : Int) : ofStep [] n = [(n, n)] := rfl
theorem ofStep_on (pre : List (Int × Int)) (f t n : Int) (h : t + 1 = n) : ofStep (pre ++ [(f, t)]) n = pre ++ [(f, n)] := by
  unfold ofStep; simp [h]
theorem ofStep_new (pre : List (Int × Int)) (f t n : Int) (h : ¬ t + 1 = n) : ofStep (pre ++ [(f, t)]) n = pre ++ [(f, t)] ++ [(n, n)] := by
  unfold ofStep; simp [h]
theorem ofL_snoc (l : List Int) (k : Nat) (h : k < l.length) : ofL (l.take (k + 1)) = ofStep (ofL (l.take k)) l[k] := by
  unfold ofL
  rw [List.take_succ_eq_append_getElem h, List.foldl_append]; rfl
theorem ofStep_len (acc : List (Int × Int)) (n : Int) : (ofStep acc n).length ≤ acc.length + 1 := by
  rcases List.eq_nil_or_concat acc with rfl | ⟨pre, p, rfl⟩
  · simp [ofStep_nil]
  · obtain ⟨f, t⟩ := p
    rw [List.concat_eq_append]
    by_cases h : t + 1 = n
    · rw [ofStep_on _ _ _ _ h]; simp
    · rw [ofStep_new _ _ _ _ h]; simp
theorem ofL_len (l : List Int) (k : Nat) : (ofL (l.take k)).length ≤ l.length := by
  induction k with
  | zero => simp [ofL]
  | succ k ih =>
    by_cases h : k < l.length
    · have h1 : ∀ j, j ≤ l.length → (ofL (l.take j)).length ≤ j := by
        intro j
        induction j with
        | zero => intro _; simp [ofL]
        | succ j ihj =>
          intro hj
          rw [ofL_snoc l j (by omega)]
          have := ofStep_len (ofL (l.take j)) l[j]
          have := ihj (by omega)
          omega
      exact Nat.le_trans (h1 _ (by omega)) (by omega)
    · rw [List.take_of_length_le (by omega)]
      rw [List.take_of_length_le (by omega)] at ih
      exact ih

def RBd (l : List (Int × Int)) : Prop := ∀ p ∈ l, (0 ≤ p.1 ∧ p.1 < 4294967296) ∧ (0 ≤ p.2 ∧ p.2 < 4294967296)
theorem ofStep_bd {acc : List (Int × Int)} {n : Int} (h : RBd acc) (hn : 0 ≤ n ∧ n < 4294967296) : RBd (ofStep acc n) := by
  rcases List.eq_nil_or_concat acc with rfl | ⟨pre, p, rfl⟩
  · intro p hp; simp [ofStep_nil] at hp; subst hp; exact ⟨hn, hn⟩
  · obtain ⟨f, t⟩ := p
    rw [List.concat_eq_append] at *
    have hpre : RBd pre := fun p hp => h p (by simp [hp])
    have hft := h (f, t) (by simp)
    by_cases he : t + 1 = n
    · rw [ofStep_on _ _ _ _ he]
      intro p hp
      rcases List.mem_append.1 hp with hp | hp
      · exact hpre p hp
      · simp at hp; subst hp; exact ⟨hft.1, hn⟩
    · rw [ofStep_new _ _ _ _ he]
      intro p hp
      rcases List.mem_append.1 hp with hp | hp
      · exact h p hp
      · simp at hp; subst hp; exact ⟨hn, hn⟩
theorem ofL_bd {l : List Int} (h : ∀ n ∈ l, 0 ≤ n ∧ n < 4294967296) : RBd (ofL l) := by
  unfold ofL
  have : ∀ (l : List Int) (acc : List (Int × Int)), RBd acc → (∀ n ∈ l, 0 ≤ n ∧ n < 4294967296) → RBd (l.foldl ofStep acc) := by
    intro l
    induction l with
    | nil => intro acc ha _; exact ha
    | cons x l ih => intro acc ha hl; exact ih _ (ofStep_bd ha (hl x (by simp))) (fun n hn => hl n (by simp [hn]))
  exact this l [] (by intro p hp; simp at hp) h

theorem rngs_snoc (pre : List (Int × Int)) (f t : Int) : rngs (pre ++ [(f, t)]) = rngs pre ++ [.int .u32 f, .int .u32 t] := by rw [rngs_append]; rfl

/-- the last range of a row that a call owns -/
theorem OwnR.last {w : World} {B : Nat} {v : Value} {pre : List (Int × Int)} {f t : Int} (h : OwnR w B v (pre ++ [(f, t)])) :
    ∃ g cap, v = .slice (some ⟨g, 0, none⟩) (pre.length + 1) cap ∧ B ≤ g ∧ g < w.heap.size ∧ w.cell? ⟨g, pre.length * 2 + 1, none⟩ = some (.int .u32 t) ∧ w.frozen? ⟨g, pre.length * 2 + 1, none⟩ = false ∧
      ∀ n : Int, OwnR (w.setCell ⟨g, pre.length * 2 + 1, none⟩ (.int .u32 n)) B v (pre ++ [(f, n)]) := by
  unfold OwnR at h
  have h' := h
  obtain ⟨a, cap, rfl, hn, hm, ha, hx⟩ := owns_shape h
  cases a with
  | none => have := (ha rfl).1; simp at this
  | some x =>
    obtain ⟨b, off, spot⟩ := x
    obtain ⟨h1, h2, h3, h4⟩ := hx _ rfl
    simp only at h1 h2
    subst h1 h2
    refine ⟨b, cap, by simp, h3, h4, ?_, World.ownsRow.frozenAt h _, fun n => ?_⟩
    · rw [World.ownsRow.cellAt h _ (by simp; omega), rngs_snoc]
      rw [List.getElem?_append_right (by simp)]
      simp
    · have hs := (World.ownsRow.stored h (pre.length * 2 + 1) (.int .u32 n)).1
      unfold OwnR
      rw [rngs_snoc] at hs ⊢
      rw [List.set_append_right _ _ (by simp)] at hs
      simp only [rngs_length] at hs
      rw [show pre.length * 2 + 1 - pre.length * 2 = 1 by omega] at hs
      simpa using hs

set_option maxHeartbeats 1000000 in
theorem of_any (v : Value) (l : List Int) (w : World) (hr : RowN w v l) (h1 : ∀ n ∈ l, 1 ≤ n) (hlen : l.length ≤ 1000) :
    Calls Try.prog 14 #[v] w fun e w' => ∃ o, e = .returned o ∧ OwnR w' w.heap.size o (ofL l) ∧ Below w.heap.size w w' := by
  obtain ⟨b, off, a, cap, rfl, hc, hm, ha, hcell⟩ := hr.shape
  have Ha := Lib.hid ha
  have Hc := Lib.hid hcell
  have HR := Lib.hid hr.2
  have H1 := Lib.hid h1
  clear ha hcell hr h1
  go_enter Try.func14, Try.ntmps14
  go_wp2_with fail
  go_loopw [3, 9] (fun o i wr => ∃ k : Nat, k ≤ l.length ∧ i = .int .i64 k ∧ OwnR wr w.heap.size o (ofL (l.take k)) ∧ Below w.heap.size w wr) (fun _ i _ => l.length - (intOf i).toNat)
  case atStart => exact ⟨0, by omega, rfl, owns_nil _ _ _ _, Below.refl _ _⟩
  case round =>
    obtain ⟨k, hk, rfl, hown, hb⟩ := hrel
    by_cases hlt : k < l.length
    · obtain ⟨rfl, hbl⟩ := Ha.out (by omega)
      have hq : wr.cell? ⟨b, off + k, none⟩ = some (.int .u32 l[k]) := (hb.cell (p := ⟨b, off + k, none⟩) hbl).trans (Hc.out k hlt)
      have hx := HR.out l[k] (List.getElem_mem hlt)
      have hx1 := H1.out l[k] (List.getElem_mem hlt)
      have HN := Lib.hid (ofL_snoc l k hlt)
      have hL := ofL_len l k
      have hRB := ofL_bd (l := l.take k) (fun n hn => HR.out n (List.mem_of_mem_take hn))
      have hB := hb.size
      generalize l[k] = x at *
      generalize ofL (l.take k) = acc at *
      have HRB := Lib.hid hRB
      rcases List.eq_nil_or_concat acc with rfl | ⟨pre, p, rfl⟩
      · clear hRB
        obtain ⟨a, cap', rfl, hn', hm', ha', hx'⟩ := owns_shape hown
        simp only [List.length_nil] at *
        clear ha' hx'
        have HO := Lib.hid hown
        clear hown
        rw [ofStep_nil] at HN
        go_wp2_with (at_builtin; go_loud (refine appR rfl (.tmp 42) (.tmp 46) rfl HO.out hb (by omega) rfl rfl (by simp) ?_); intro o' w2 hown2 hb2)
        go_roundw
        case rel => exact ⟨k + 1, by omega, by go_num, by rw [HN.out]; exact hown2, hb2⟩
        case measure => simp [intOf]; omega
      · obtain ⟨f, t⟩ := p
        rw [List.concat_eq_append] at *
        have hft0 := hRB (f, t) (by simp)
        clear hRB
        simp only at hft0
        obtain ⟨g, cap', rfl, hg0, hg1, hct, hft, hset⟩ := hown.last
        have hpl : pre.length + 1 ≤ 1000 := by have : (pre ++ [(f, t)]).length = pre.length + 1 := by simp
                                               omega
        have HS := Lib.hid hset
        have e1 : ((pre.length : Int) + 1 - 1).toNat = pre.length := by omega
        have HO := Lib.hid hown
        clear hset hown
        by_cases he : t + 1 = x
        · rw [ofStep_on _ _ _ _ he] at HN
          have hgt : decide (t < x) = true := by simp; omega
          have hsub : x - t = 1 := by omega
          have HHE := Lib.hid he
          clear he
          go_wp2_with fail
          go_roundw
          case rel => exact ⟨k + 1, by omega, by go_num, by rw [HN.out]; exact HS.out x, hb.setCell hg0 _⟩
          case measure => simp [intOf]; omega
        · rw [ofStep_new _ _ _ _ he] at HN
          have HHE := Lib.hid he
          have hlim : (pre ++ [(f, t)]).length + 1 ≤ 1000000 := by simp; omega
          by_cases hgt : t < x
          · have hsub : (x - t == 1) = false := by simp; omega
            have ht0 : 0 ≤ x - t := by omega
            clear he
            go_wp2_with (at_builtin; go_loud (refine appR rfl (.tmp 42) (.tmp 46) rfl HO.out hb hB rfl rfl hlim ?_); intro o' w2 hown2 hb2)
            go_roundw
            case rel => exact ⟨k + 1, by omega, by go_num, by rw [HN.out]; exact hown2, hb2⟩
            case measure => simp [intOf]; omega
          · clear he
            go_wp2_with (at_builtin; go_loud (refine appR rfl (.tmp 42) (.tmp 46) rfl HO.out hb hB rfl rfl hlim ?_); intro o' w2 hown2 hb2)
            go_roundw
            case rel => exact ⟨k + 1, by omega, by go_num, by rw [HN.out]; exact hown2, hb2⟩
            case measure => simp [intOf]; omega
    · have HE := Lib.hid (show l.take k = l from List.take_of_length_le (by omega))
      rw [HE.out] at hown
      go_wp2_with fail
      go_ret
      exact ⟨_, rfl, hown, hb⟩
end Go.Proofs.Ytfcdannlfifbgaa
