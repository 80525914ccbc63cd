/- What the cards of layer 5 share: the library's variables as the rows list them, and a world that holds them. -/
import Derived.Test.YtbjipcpoiiegkaaGreatDoorCards
import Derived.Test.YtbjipcpoiiegkaaGreatDoorTie
import Derived.Test.YtbjipcpoiiegkaaGreatDoorVA
import Derived.Test.YtbjipcpoiiegkaaGreatDoorAH
import Derived.Test.YtbjipcpoiiegkaaGreatDoorCOB
import Derived.Test.YtbjipcpoiiegkaaGreatDoorBulk
import Derived.ProofKit
import Derived.OpenShut
import Derived.Deep.DeepHandedRow
import Derived.Lib.LaidTab
import Derived.Lib.SmallJoins
import Derived.SizedLaws
import Derived.Deep.SlicePairs
import Derived.ChangeMaps5
import Derived.Stop.LaidErr
namespace Go.Proofs.YtbjipcpoiiegkaaGreatDoor
set_option maxRecDepth 100000
open Go.ChangeShapes Go.WideShapes Go.ChangeAt Go.RowKit

def laidList5 : List (String × DataW Unit) := [("math/bits.deBruijn32tab", Rows.laid_math_bits_deBruijn32tab), ("math/bits.deBruijn64tab", Rows.laid_math_bits_deBruijn64tab), ("internal/strconv.uint64pow10", Rows.laid_internal_strconv_uint64pow10), ("unicode/utf8.acceptRanges", Rows.laid_unicode_utf8_acceptRanges), ("strconv.ErrRange", Rows.laid_strconv_ErrRange), ("strconv.ErrSyntax", Rows.laid_strconv_ErrSyntax), ("weighhouse/asm.marks", Rows.laid_weighhouse_asm_marks), ("unicode/utf8.first", Rows.laid_unicode_utf8_first)]
theorem rowErr5 : ∀ u, Tryz.prog.typeName? 3 u = some "*errors.errorString" → u = 155 :=
  fun u hu => typeName_ptr_named (nm := "errors.errorString") (by kernel_rfl) (by kernel_rfl) (by decide) u hu
/-- What the row's list gives. -/
theorem cells_of_strs {H : Type} {enc : TypeId × Value → H} {P : Program} {w : World} {base : Nat} {sp : Nat → Bool} {held : Bool} {fuel : Nat} {t e : TypeId} {n : Nat} {cs : List Value} {zs : List (List UInt8)} {p : List MemPlace}
    (ht : P.underlying t = some (.array n e)) (he : P.underlying e = some .string) (hce : P.cellsOf e = 1) (hct : P.cellsOf t = n)
    (h : DataW.trod enc P w base sp held fuel t cs = some (.agg (zs.map fun z => .lit (.string z)), p)) : cs = zs.map fun z => Value.string ⟨z.toArray⟩ := by
  cases fuel with
  | zero => simp [DataW.trod] at h
  | succ fuel =>
    simp only [DataW.trod, ht, hce, hct, Nat.mul_one] at h
    split at h
    · rename_i hl
      obtain ⟨xs, hm, hx⟩ := Option.map_eq_some_iff.1 h
      have hxs : xs.map (·.1) = zs.map fun z => (DataW.lit (.string z) : DataW H) := by
        have := congrArg Prod.fst hx
        simpa using this
      have hxl : xs.length = n := by simpa using Lib.mapM_length hm
      have hzl : zs.length = n := by
        have := congrArg List.length hxs
        simp at this
        omega
      apply List.ext_getElem?
      intro i
      by_cases hi : i < n
      · obtain ⟨b, hb, hf⟩ := Lib.mapM_at hm i i (by simp [hi])
        obtain ⟨z, hc, rfl, _⟩ := DataW.trod_string he hf
        have h1 : cs[i]? = some (.string z) := by
          have := congrArg (·[0]?) hc
          simpa [List.getElem?_take, List.getElem?_drop] using this
        have h2 : (xs.map (·.1))[i]? = some (DataW.lit (.string z.data.toList) : DataW H) := by simp [hb]
        rw [hxs] at h2
        simp only [List.getElem?_map, Option.map_eq_some_iff, DataW.lit.injEq, Lit.string.injEq] at h2
        obtain ⟨z', hz', rfl⟩ := h2
        simp [h1, hz']
      · rw [List.getElem?_eq_none (by omega), List.getElem?_eq_none (by simp; omega)]
    · cases h
theorem marks_of {W : World} (h : laidMetH Tryz.prog laidList5 W) : Marks W := by
  have h : laidMet Tryz.prog laidList5 W := h
  have h7 := h.tail.tail.tail.tail.tail.tail
  obtain ⟨ps, ⟨g', t', cs, fuel, p, q, hg', ht', hvar, hd, _, _⟩, _⟩ := h7
  obtain rfl := Option.some.inj ((show Tryz.prog.globalNamed "weighhouse/asm.marks" = some 0 by kernel_rfl).symm.trans hg')
  obtain rfl := Option.some.inj ((show (Tryz.prog.globals[0]?).map (·.type) = some 66 by kernel_rfl).symm.trans ht')
  have hc := cells_of_strs (zs := [[102, 117, 110, 99], [45, 62], [59]]) Tryz.underlying66 Tryz.underlying9 (by kernel_rfl) (by kernel_rfl) hd
  have hcell := fun i => World.var?_cell (show Tryz.prog.globalNamed "weighhouse/asm.marks" = some 0 by kernel_rfl) hvar i
  have hl : ∀ i, cs[i]? = cs.toList[i]? := fun i => Array.getElem?_toList.symm
  exact ⟨by rw [hcell, hl, hc]; rfl, by rw [hcell, hl, hc]; rfl, by rw [hcell, hl, hc]; rfl⟩
theorem laid_of05 {W : World} (h : laidMetH Tryz.prog laidList5 W) : Laid W := by
  have h : laidMet Tryz.prog laidList5 W := h
  have h3 := h.tail.tail
  have h5 := h3.tail.tail
  have T : Lib.TabIs Tryz.prog W "internal/strconv.uint64pow10" .u64 Lib.pow10Tab :=
    Lib.tabIs_of_head (show Tryz.prog.globalNamed "internal/strconv.uint64pow10" = some 4 by kernel_rfl) (show (Tryz.prog.globals[4]?).map (·.type) = some 144 by kernel_rfl) Tryz.underlying144 Tryz.underlying87 (by kernel_rfl) (by kernel_rfl) h3
  obtain ⟨a1, s1, hv1, _⟩ := laid_sentinel h5 (show Tryz.prog.globalNamed "strconv.ErrRange" = some 6 by kernel_rfl) (show (Tryz.prog.globals[6]?).map (·.type) = some 95 by kernel_rfl) Tryz.underlying95 rowErr5 Tryz.underlying155 Tryz.underlying157 rfl rfl Tryz.underlying9 (by kernel_rfl) (by kernel_rfl)
  obtain ⟨a2, s2, hv2, _⟩ := laid_sentinel h5.tail (show Tryz.prog.globalNamed "strconv.ErrSyntax" = some 5 by kernel_rfl) (show (Tryz.prog.globals[5]?).map (·.type) = some 95 by kernel_rfl) Tryz.underlying95 rowErr5 Tryz.underlying155 Tryz.underlying157 rfl rfl Tryz.underlying9 (by kernel_rfl) (by kernel_rfl)
  exact ⟨T, ⟨_, _, hv2⟩, ⟨_, _, hv1⟩⟩
theorem laid_of5 {W : World} (h : laidMetH Tryz.prog laidList5 W) : Laid W ∧ Marks W := ⟨laid_of05 h, marks_of h⟩
noncomputable def low5 : Nat := (World.holding Tryz.prog default ⟨#[], #[], []⟩).heap.size
def litsOf5 : DataW Unit → Array Value
  | .agg l => (l.map fun
    | .lit (.int k z) => [Value.int k z]
    | .agg r => r.map fun
      | .lit (.int k z) => Value.int k z
      | _ => undef
    | _ => []).flatten.toArray
  | _ => #[]
def putVar5 (cs : Array Value) : Obj → Obj
  | .cells _ t frozen => .cells cs t frozen
  | o => o
/-- A world for the witness: the settled one, the variables holding what their initialisers lay. -/
noncomputable def laidWorld5 (os : Os) : World :=
  let w0 := World.holding Tryz.prog os ⟨#[.cells #[.string ⟨#[118, 97, 108, 117, 101, 32, 111, 117, 116, 32, 111, 102, 32, 114, 97, 110, 103, 101]⟩] 157, .cells #[.string ⟨#[105, 110, 118, 97, 108, 105, 100, 32, 115, 121, 110, 116, 97, 120]⟩] 157], #[], []⟩
  { w0 with heap := (((((((w0.heap.modify 7 (putVar5 (litsOf5 Rows.laid_math_bits_deBruijn32tab))).modify 8 (putVar5 (litsOf5 Rows.laid_math_bits_deBruijn64tab))).modify 4 (putVar5 (litsOf5 Rows.laid_internal_strconv_uint64pow10))).modify 3 (putVar5 (litsOf5 Rows.laid_unicode_utf8_acceptRanges))).modify 6 (putVar5 #[.iface 155 (.pointer (some ⟨low5, 0, none⟩))])).modify 5 (putVar5 #[.iface 155 (.pointer (some ⟨low5 + 1, 0, none⟩))])).modify 0 (putVar5 #[.string ⟨#[102, 117, 110, 99]⟩, .string ⟨#[45, 62]⟩, .string ⟨#[59]⟩])).modify 2 (putVar5 (litsOf5 Rows.laid_unicode_utf8_first)) }
theorem laid_met5 (os : Os) (args : Array Value) : laidMet Tryz.prog laidList5 ((laidWorld5 os).forCall (fun _ _ => 0) ⟨#[], args, []⟩).memory :=
  laidMet_of_run' 20 (by kernel_rfl) (by kernel_rfl)
theorem open_ins5 {H : Type} {enc : TypeId × Value → H} {W : World} {base : Nat} {v : Value} {d : DataW H} {ps : List MemPlace} (hval : Value.okWide Tryz.prog W .any base 23 v) (h : DataW.Trod enc Tryz.prog W 0 (fun _ => true) true 23 v d ps) :
    ∃ o a : Int, v = .agg #[.int .i64 o, .int .i64 a] ∧ (-9223372036854775808 ≤ o ∧ o ≤ 9223372036854775807) ∧ (-9223372036854775808 ≤ a ∧ a ≤ 9223372036854775807) := by
  obtain ⟨v0, v1, y0, y1, n, rfl, rfl, _, h0, h1⟩ := Go.Joins.open_agg2 Tryz.underlying23 (by kernel_rfl) (by kernel_rfl) hval h
  obtain ⟨a, ha, _, hwa⟩ := DataW.trod_int Tryz.underlying3 h0
  obtain ⟨b, hb, _, hwb⟩ := DataW.trod_int Tryz.underlying3 h1
  cases ha
  cases hb
  exact ⟨a, b, rfl, int_wf hwa, int_wf hwb⟩
theorem open_txt_upto5 {H : Type} {enc : TypeId × Value → H} {W : World} {base : Nat} {v : Value} {d : DataW H} {ps : List MemPlace} (hval : Value.okWide Tryz.prog W .any base 9 v) (hd : DataW.Trod enc Tryz.prog W 0 (fun _ => true) true 9 v d ps) {l : List (DataW H)} (hb : Rows.uptoBulkAll l ≤ 1048576) (hm : d ∈ l) : ∃ s : List UInt8, v = .string ⟨s.toArray⟩ ∧ s.length ≤ 1048576 := by
  obtain ⟨s, rfl, rfl, rfl, hs⟩ := Go.ChangeMaps.open_string Tryz.underlying9 hval hd
  obtain ⟨⟨l'⟩⟩ := s
  have h := bulks.within hm
  simp only [Rows.uptoBulk] at h
  exact ⟨l', rfl, by first | omega | (simp at h; omega)⟩
end Go.Proofs.YtbjipcpoiiegkaaGreatDoor
