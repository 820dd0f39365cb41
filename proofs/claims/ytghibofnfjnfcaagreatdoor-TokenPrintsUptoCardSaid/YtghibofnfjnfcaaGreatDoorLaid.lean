/-
  What the rows list, and what a walk has of it: the library's variable ErrRange, the table of powers of ten; tokens among the arguments, opened; an input that fits.
-/
import Derived.Test.YtghibofnfjnfcaaGreatDoorTie
import Derived.Test.YtghibofnfjnfcaaGreatDoorShort
import Derived.PinnedBridge
import Derived.Stop.LaidErr
import Derived.Lib.LaidIn
import Derived.Lib.LaidU8T
import Derived.ProofKit
import Derived.OpenShut
import Derived.LaidMore
import Derived.Lay
import Derived.SevenTiedAt
import Derived.Stop.Joined
import Derived.Stop.ErrReads
import Derived.Deep.SlicePairs
import Derived.Deep.DeepHandedRow
namespace Go.Proofs.YtghibofnfjnfcaaGreatDoor
set_option linter.unusedVariables false
open Go.ChangeShapes Go.WideShapes Go.ChangeAt Go.RowKit Go.Deep

theorem star9 : "*" ++ "errors.errorString" = "*errors.errorString" := by decide
theorem row164 (u : TypeId) (h : Tryz.prog.typeName? 3 u = some "*errors.errorString") : u = 164 :=
  typeName_ptr_named (nm := "errors.errorString") (by rw [star9]; kernel_rfl) (by kernel_rfl) (by decide) u (by rw [star9]; exact h)
theorem gR : Tryz.prog.globalNamed "strconv.ErrRange" = some 5 := by kernel_rfl
theorem gRType : (Tryz.prog.globals[5]?).map (·.type) = some 128 := by kernel_rfl
def laidL : List (String × DataW Unit) := [("math/bits.deBruijn32tab", Rows.laid_math_bits_deBruijn32tab), ("math/bits.deBruijn64tab", Rows.laid_math_bits_deBruijn64tab), ("internal/strconv.uint64pow10", Rows.laid_internal_strconv_uint64pow10), ("strconv.ErrRange", Rows.laid_strconv_ErrRange), ("strconv.ErrSyntax", Rows.laid_strconv_ErrSyntax)]
theorem rng_of (W : World) (h : laidMetH Tryz.prog laidL W) : RngV W := by
  rw [MakeChecks.laidMetH_plain _ _ _ (by kernel_rfl)] at h
  obtain ⟨a, s, hv, _⟩ := laid_sentinel (laidMet.tail (laidMet.tail (laidMet.tail h))) gR gRType Tryz.underlying128 row164 Tryz.underlying164 Tryz.underlying166 rfl rfl Tryz.underlying9 (by kernel_rfl) (by kernel_rfl)
  exact ⟨164, _, by simpa using World.var?_cell gR hv 0⟩
theorem laid_pow : (Rows.laid_internal_strconv_uint64pow10 : DataW Unit) = Lib.tabData .u64 Lib.pow10Tab := by kernel_rfl
theorem tabIs_of_reads {P : Program} {W : World} {name : String} {k : IntKind} {zs : List Int} {g : Nat} {t e : TypeId} {n : Nat}
    (hg : P.globalNamed name = some g) (hty : (P.globals[g]?).map (·.type) = some t) (ht : P.underlying t = some (.array n e)) (he : P.underlying e = some (.int k)) (hce : P.cellsOf e = 1) (hct : P.cellsOf t = n)
    (h : Lib.VarReads P W name (Lib.tabData k zs)) : Lib.TabIs P W name k zs := by
  obtain ⟨g', t', cs, fuel, p, hg', ht', hvar, hd⟩ := h
  obtain rfl := Option.some.inj (hg.symm.trans hg')
  obtain rfl := Option.some.inj (hty.symm.trans ht')
  unfold Lib.TabIs
  rw [hvar, ← Lib.cells_of_tab ht he hce hct hd]
theorem tab_of (W : World) (h : laidMetH Tryz.prog laidL W) : TabV W := by
  rw [MakeChecks.laidMetH_plain _ _ _ (by kernel_rfl)] at h
  have h1 := Lib.laidMet.reads h (.tail _ (.tail _ (.head _)))
  rw [laid_pow] at h1
  exact tabIs_of_reads (g := 1) (t := 123) (by kernel_rfl) (by kernel_rfl) Tryz.underlying123 Tryz.underlying45 (by kernel_rfl) (by kernel_rfl) h1
theorem own : ownKnob Tryz.prog.godebug = none := by kernel_rfl
theorem laidOut : laidOutB Tryz.prog = true := by kernel_rfl

theorem listOf {α : Type} (Q : Nat → α → Prop) : ∀ n, (∀ i, i < n → ∃ a, Q i a) → ∃ l : List α, l.length = n ∧ ∀ i (h : i < l.length), Q i l[i] := by
  intro n
  induction n with
  | zero => intro _; exact ⟨[], rfl, fun i h => absurd h (by simp)⟩
  | succ n ih =>
    intro h
    obtain ⟨l, hl, hq⟩ := ih fun i hi => h i (by omega)
    obtain ⟨a, ha⟩ := h n (by omega)
    refine ⟨l ++ [a], by simp [hl], fun i hi => ?_⟩
    rcases Nat.lt_or_ge i n with h2 | h2
    · rw [List.getElem_append_left (by omega)]
      exact hq i (by omega)
    · have hi' : i < n + 1 := by simpa [hl] using hi
      obtain rfl : i = n := by omega
      have : (l ++ [a])[i] = a := by
        rw [List.getElem_append_right (by omega)]
        simp [hl]
      rw [this]
      exact ha
theorem bulkAll_map {H : Type} (f : Nat → DataW H) : ∀ l : List Nat, Rows.uptoBulkAll (l.map f) = (l.map fun i => Rows.uptoBulk (f i)).sum := by
  intro l
  induction l with
  | nil => rfl
  | cons a l ih => rw [List.map_cons, List.map_cons, List.sum_cons, Rows.uptoBulkAll, ih]
theorem bytes_nat (s : ByteArray) : strN (s.data.toList.map UInt8.toNat) = s := by
  apply ByteArray.ext
  apply Array.ext'
  show (List.map UInt8.ofNat (List.map UInt8.toNat s.data.toList)).toArray.toList = _
  rw [List.toList_toArray, List.map_map]
  conv => rhs; rw [← List.map_id s.data.toList]
  refine List.map_congr_left fun c _ => ?_
  simp

/-- a slice of tokens among the arguments, opened -/
theorem open_tks {H : Type} {enc : TypeId × Value → H} {w : World} {a : Option Addr} {len cap : Nat} {d : DataW H} {p : List MemPlace}
    (h : DataW.Trod enc Tryz.prog w 0 (fun _ => true) true 22 (.slice a len cap) d p) : ∃ L : List TkI, TkIn w (.slice a len cap) L ∧ (∀ t ∈ L, ∀ c ∈ t.2, c < 256) ∧ wgt L ≤ Rows.uptoBulk d := by
  obtain ⟨fuel, hf⟩ := h
  rcases open_slice_pairs Tryz.underlying22 Tryz.underlying26 (by kernel_rfl) (by kernel_rfl) (by kernel_rfl) (by kernel_rfl) (by kernel_rfl) hf with ⟨hcs, _⟩ | ⟨x, l, c, m, n, V0, V1, D0, D1, P0, P1, hcs, _, hl, hm, hmm, hx, hcell⟩
  · simp [Value.cells] at hcs
    obtain ⟨rfl, rfl, rfl⟩ := hcs
    exact ⟨[], .inl ⟨rfl, _, _, rfl⟩, (fun _ h => by cases h), by simp [wgt]⟩
  · simp [Value.cells] at hcs
    obtain ⟨rfl, rfl, rfl⟩ := hcs
    obtain ⟨rfl, rfl⟩ := Prod.mk.inj hx
    have hlm : len ≤ m := by simp at hmm; omega
    obtain ⟨L, hL, hp⟩ := listOf (fun i (q : TkI) => w.cell? (x.add (i * 2)) = some (.int .i64 q.1) ∧ w.cell? (x.add (i * 2 + 1)) = some (.string (strN q.2)) ∧ (∀ c ∈ q.2, c < 256) ∧ Rows.uptoBulk (.agg [D0 i, D1 i]) = q.2.length + 3) len (fun i hi => by
      obtain ⟨h0, h1, t0, t1⟩ := hcell i (by omega)
      obtain ⟨s0, e0, d0, w0⟩ := DataW.trod_int Tryz.underlying3 t0
      obtain ⟨s1, e1, d1, w1⟩ := DataW.trod_string Tryz.underlying9 t1
      simp only [List.cons.injEq, and_true] at e0 e1
      have hd0 : D0 i = .lit (.int .i64 s0) := congrArg Prod.fst d0
      have hd1 : D1 i = .lit (.string s1.data.toList) := congrArg Prod.fst d1
      refine ⟨(s0, s1.data.toList.map UInt8.toNat), by rw [h0, e0], by rw [h1, e1, bytes_nat], fun c hc => ?_, ?_⟩
      · obtain ⟨b, _, rfl⟩ := List.mem_map.1 hc
        exact b.toNat_lt
      · rw [hd0, hd1]
        simp only [Rows.uptoBulk, Rows.uptoBulkAll, List.length_map]
        omega)
    refine ⟨L, ?_, fun t ht => ?_, ?_⟩
    · by_cases h0 : len = 0
      · subst h0
        exact .inl ⟨List.eq_nil_of_length_eq_zero hL, _, _, rfl⟩
      · right
        obtain ⟨b, off, spot⟩ := x
        have hc0 := (hp 0 (by omega)).1
        have hspot : spot = none := by simpa [Addr.add] using World.cell?_spot hc0
        subst hspot
        refine ⟨b, off, cap, by rw [hL], ?_, fun i hi => ?_⟩
        · have := World.block_lt_of_cell? w _ hc0
          simpa [Addr.add] using this
        · obtain ⟨h1, h2, _, _⟩ := hp i hi
          rw [Addr.add_lit] at h1 h2
          exact ⟨h1, by rw [Nat.add_assoc]; exact h2⟩
    · obtain ⟨i, hi, rfl⟩ := List.mem_iff_getElem.1 ht
      exact (hp i hi).2.2.1
    · have e : wgt L = Rows.uptoBulkAll ((List.range len).map fun i => .agg [D0 i, D1 i]) := by
        rw [bulkAll_map]
        unfold wgt
        congr 1
        apply List.ext_getElem
        · simp [hL]
        · intro i h1 h2
          simp only [List.getElem_map, List.getElem_range]
          exact (hp i (by simpa using h1)).2.2.2.symm
      rw [e]
      simp only [Rows.uptoBulk]
      omega

/-- an input that fits a row that lists variables, where the specification has a condition -/
theorem witness_row_shaped {H : Type} {enc : TypeId × Value → H} {C : Checked} {os : Os} {f : FuncId} {fn : Func} {s : OpenSpec} {conds : List PathCond} {apart : Bool} {laid : List (String × DataW Unit)} (modest : Bool) (w0 : World) (args : Array Value) (hos : w0.os = os)
    (hsh : (w0.forCall (fun _ _ => 0) ⟨#[], args, []⟩).Shaped C.prog)
    (hok : Input.okWideB C.prog (w0.forCall (fun _ _ => 0) ⟨#[], args, []⟩) f ⟨#[], args, []⟩ = true)
    (hrow : s.preRow enc C.prog fn conds apart laid (w0.forCall (fun _ _ => 0) ⟨#[], args, []⟩).memory args) :
    ∃ (w : World) (tape : Tape) (i : Input), w.os = os ∧ (w.forCall tape i).Shaped C.prog ∧ i.vars = [] ∧ Input.okWide C.prog (w.forCall tape i) .any w.heap.size f i ∧
      s.preRow enc C.prog fn conds apart laid (w.forCall tape i).memory i.args ∧ ({ modest := modest } : Assume).holds C.prog (lone (Frame.enter C.prog f i.args .normal) [] (w.forCall tape i)) :=
  ⟨w0, fun _ _ => 0, ⟨#[], args, []⟩, hos, hsh, (Input.okWide_of_okWideB (base := 0) hok).1, (Input.okWide_of_okWideB hok).2, hrow, by
    simp only [Assume.holds]
    exact ⟨by simp, by simp, fun _ => Modest.zero, by simp, by simp⟩⟩
end Go.Proofs.YtghibofnfjnfcaaGreatDoor
