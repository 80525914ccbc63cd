/- The check 'knows' that every law of layer 1 ends with answers true. What the rows of layer 1 share: the table of sums as the rows list it, a world that holds it, and how a byte slice that came in is read. -/
import Derived.Test.YticihfbhnbkjjaaDoorWE
import Derived.Test.YticihfbhnbkjjaaDoorWG
import Derived.Test.YticihfbhnbkjjaaDoorCards
import Derived.Test.YticihfbhnbkjjaaDoorTie
import Derived.ProofKit
import Derived.OpenShut
import Derived.Deep.DeepHandedRow
import Derived.Lib.LaidTab
import Derived.Lib.SmallJoins
import Derived.SizedLaws
namespace Go.Proofs.YticihfbhnbkjjaaDoor
open Go.RowKit

theorem run_str {w : World} {ao : Option Addr} {bs : List UInt8} (h : Bs w ao bs) (cap : Nat) : (convert 42 9 (.slice ao bs.length cap)).run Tryd.prog w = .ok (.string ⟨bs.toArray⟩) w := by
  have nums : ∀ l : List UInt8, strOfNums (l.map fun b => (b.toNat : Int)) = ⟨l.toArray⟩ := fun l => by
    unfold strOfNums
    rw [List.map_map]
    congr 2
    conv => rhs; rw [← List.map_id l]
    apply List.map_congr_left
    intro b _
    simp
  rcases h with rfl | ⟨b, off, rfl, hc⟩
  · cases ao with
    | none => exact run_convert_bytes_nil w 42 5 Tryd.underlying42 Tryd.underlying5 0 cap 9 Tryd.underlying9
    | some a =>
      rw [run_convert_bytes_string w 42 9 5 _ _ cap Tryd.underlying42 Tryd.underlying5 Tryd.underlying9]
      exact (run_bytesToString w a 0 cap [] (by simp [loadCells, loadCellsFrom])).trans rfl
  · rw [run_convert_bytes_arg w 42 5 Tryd.underlying42 Tryd.underlying5 b off bs.length cap (bs.map fun b => (b.toNat : Int)) (by simp) (fun i hi => by rw [hc i hi]; simp [List.getD, hi]) 9 Tryd.underlying9, nums]

theorem Own.chg {w w' : World} {base : Nat} {e : TypeId} {v : Value} {xs : List Value} {S : Nat → Prop} (h : Own w base e v xs) (k : Chg w w' S) (hv : ∀ g, v.ownBlock = some g → ¬ S g) : Own w' base e v xs := by
  refine ⟨h.1, ?_⟩
  rcases h.2 with h2 | ⟨g, cap, cur, rfl, hg, hh, r⟩
  · exact .inl h2
  · exact .inr ⟨g, cap, cur, rfl, hg, by rw [k.block g (lt_of_block hh) (hv g rfl)]; exact hh, r⟩
theorem WStep.below {h : Nat} {w w' : World} {v v' : Value} (s : WStep h w v w' v') {B : Nat} (hB : B ≤ w.heap.size) (hh : B ≤ h) (hv : ∀ k, v.ownBlock = some k → B ≤ k) : Below B w w' :=
  s.1.below hB (fun i hi => by rcases hi with e | e
                               · omega
                               · exact hv i e)

/-- A call with one int, one text. -/
theorem int_one (p h base B : Nat) (v : Value) (bs : List UInt8) (x : Int) (w : World) (hB : w.heap.size = B) (H : WrE w p h v 0) (hO : OwnB w base v bs) (hbase : base ≤ w.heap.size) (hroom : bs.length + 8 ≤ 1048576) :
    Calls Tryd.prog 48 #[.pointer (some ⟨p, 0, none⟩), .slice (some ⟨B, 0, none⟩) 1 1] (w.alloc (.cells #[.int .i64 x] 3)) fun e w' => ∃ v', e = .returned (.int .i64 0) ∧ WrE w' p h v' 0 ∧ OwnB w' base v' (bs ++ be64 x) ∧ WStep h w v w' v' := by
  subst hB
  have hnew : ¬ WSet h v w.heap.size := fun e => by
    rcases e with e | e
    · have := lt_of_block H.hh; omega
    · have := (hO.lt _ e).2; omega
  refine (int_ok p h base v bs (some ⟨w.heap.size, 0, none⟩) 1 1 [x] _ (H.chg (Chg.alloc w _ (fun _ => False)) id id) (Own.alloc hO _) (by simp; omega) (by omega) rfl (fun w' hc => .inr ⟨w.heap.size, 0, rfl, fun j hj => ?_⟩) (by omega)).mono ?_
  · obtain rfl : j = 0 := by simp at hj; omega
    exact hc.cell (new_cell w _ _ 0 _ rfl) hnew
  · rintro e w' ⟨v', rfl, H', hO', hs⟩
    refine ⟨v', rfl, H', ?_, (WStep.alloc h w v _).trans hs⟩
    have e : ints [x] = be64 x := by simp [ints]
    rw [← e]; exact hO'
theorem text_one (p h base B : Nat) (v : Value) (bs : List UInt8) (x : List UInt8) (w : World) (hB : w.heap.size = B) (H : WrE w p h v 0) (hO : OwnB w base v bs) (hbase : base ≤ w.heap.size) (hx : x.length ≤ 65535) (hroom : bs.length + (2 + x.length) ≤ 1048576) :
    Calls Tryd.prog 50 #[.pointer (some ⟨p, 0, none⟩), .slice (some ⟨B, 0, none⟩) 1 1] (w.alloc (.cells #[.string ⟨x.toArray⟩] 9)) fun e w' => ∃ v', e = .returned (.int .i64 0) ∧ WrE w' p h v' 0 ∧ OwnB w' base v' (bs ++ text x) ∧ WStep h w v w' v' := by
  subst hB
  have hnew : ¬ WSet h v w.heap.size := fun e => by
    rcases e with e | e
    · have := lt_of_block H.hh; omega
    · have := (hO.lt _ e).2; omega
  have e : texts [x] = text x := by simp [texts]
  refine (text_ok p h base v bs (some ⟨w.heap.size, 0, none⟩) 1 1 [x] _ (H.chg (Chg.alloc w _ (fun _ => False)) id id) (Own.alloc hO _) (by simp; omega) (by omega) rfl (by decide) (fun w' hc => .inr ⟨w.heap.size, 0, rfl, fun j hj => ?_⟩) (fun j hj => ?_) (by rw [e, text_length]; omega)).mono ?_
  · obtain rfl : j = 0 := by simp at hj; omega
    exact hc.cell (new_cell w _ _ 0 _ rfl) hnew
  · obtain rfl : j = 0 := by simp at hj; omega
    exact hx
  · rintro e' w' ⟨v', rfl, H', hO', hs⟩
    refine ⟨v', rfl, H', ?_, (WStep.alloc h w v _).trans hs⟩
    rw [← e]; exact hO'

theorem firstOf_empty : firstOf (frameOf []) = some [] := by decide +kernel
theorem framesOf_empty : framesOf (frameOf []) = ([[]], 8) := by
  rw [framesOf_some firstOf_empty]
  have e : (frameOf []).drop (8 + ([] : List UInt8).length) = [] := List.drop_eq_nil_of_le (by simp [frameOf, be_length])
  rw [e, framesOf_none (by rfl)]
  rfl

end Go.Proofs.YticihfbhnbkjjaaDoor
namespace Go.Proofs.YticihfbhnbkjjaaDoor
open Go.ChangeShapes Go.WideShapes Go.ChangeAt Go.RowKit

theorem own : ownKnob Tryd.prog.godebug = none := by kernel_rfl
theorem laidOut : laidOutB Tryd.prog = true := by kernel_rfl
theorem gTab : Tryd.prog.globalNamed "weighhouse/wire.sums" = some 0 := by kernel_rfl
theorem gTabType : (Tryd.prog.globals[0]?).map (·.type) = some 126 := by kernel_rfl
theorem cellsTab : Tryd.prog.cellsOf 126 = 16 := by kernel_rfl
theorem cells32 : Tryd.prog.cellsOf 72 = 1 := by kernel_rfl

/-- What the row's list gives: the table's cells hold its sixteen numbers. -/
theorem tab_of_laid {W : World} (h : laidMetH Tryd.prog [("weighhouse/wire.sums", Rows.laid_weighhouse_wire_sums)] W) : Tab W := by
  have T : Lib.TabIs Tryd.prog W "weighhouse/wire.sums" .u32 (tabL.map fun (n : Nat) => (n : Int)) :=
    Lib.tabIs_of_head (rest := []) gTab gTabType Tryd.underlying126 Tryd.underlying72 cells32 cellsTab h
  intro j hj
  have := T.cell gTab j (by simpa [tabL] using hj)
  rw [this]
  unfold tab
  have : j < tabL.length := by simpa [tabL] using hj
  simp [List.getD, List.getElem?_eq_getElem this]

/-- A world for the witness: the settled one, the table holding what its initialiser lays. -/
noncomputable def laidWorld (os : Os) : World :=
  { World.holding Tryd.prog os ⟨#[], #[], []⟩ with heap := (World.holding Tryd.prog os ⟨#[], #[], []⟩).heap.modify 0 fun
      | .cells _ t frozen => .cells #[.int .u32 0, .int .u32 498536548, .int .u32 997073096, .int .u32 651767980, .int .u32 1994146192, .int .u32 1802195444, .int .u32 1303535960, .int .u32 1342533948, .int .u32 3988292384, .int .u32 4027552580, .int .u32 3604390888, .int .u32 3412177804, .int .u32 2607071920, .int .u32 2262029012, .int .u32 2685067896, .int .u32 3183342108] t frozen
      | o => o }
theorem laid_met (os : Os) (args : Array Value) : laidMet Tryd.prog [("weighhouse/wire.sums", Rows.laid_weighhouse_wire_sums)] ((laidWorld os).forCall (fun _ _ => 0) ⟨#[], args, []⟩).memory :=
  laidMet_of_run' 20 (by kernel_rfl) (by kernel_rfl)

theorem byte_wf {x : Int} (h : (Lit.int .u8 x).wf = true) : 0 ≤ x ∧ x < 256 := by
  have h1 : IntKind.u8.min = 0 := rfl
  have h2 : IntKind.u8.max = 255 := rfl
  simp only [Lit.wf, Bool.and_eq_true, decide_eq_true_eq] at h
  omega
theorem byte_of {n : Int} (h : (Lit.int .u8 n).wf = true) : ∃ x : UInt8, n = ((x.toNat : Nat) : Int) := by
  obtain ⟨h1, h2⟩ := byte_wf h
  exact ⟨UInt8.ofNat n.toNat, by rw [UInt8.toNat_ofNat']; omega⟩
/-- A byte slice that came in: its bytes, where they lie, and its size as the reading tells it. -/
theorem open_bytes {H : Type} {enc : TypeId × Value → H} {W : World} {a0 : Option Addr} {len cap : Nat} {d0 : DataW H} {p0 : List MemPlace} (h : DataW.Trod enc Tryd.prog W 0 (fun _ => true) true 42 (.slice a0 len cap) d0 p0) :
    ∃ bs : List UInt8, bs.length = len ∧ len ≤ cap ∧ cap ≤ maxLen ∧ Bs W a0 bs ∧ ((d0 = .nil ∧ cap = 0) ∨ ∃ el sp, d0 = .slice el sp ∧ el.length + sp.length = cap) := by
  obtain ⟨fuel, hf⟩ := h
  rcases open_ints Tryd.underlying42 Tryd.underlying5 (by kernel_rfl) hf with ⟨hcs, hx⟩ | ⟨x, l, c, zs, hcs, _, hl, hm, hz, hx, hcell, hwz⟩
  · simp [Value.cells] at hcs
    obtain ⟨rfl, rfl, rfl⟩ := hcs
    simp only [Prod.mk.injEq] at hx
    exact ⟨[], rfl, Nat.le_refl _, Nat.zero_le _, .inl rfl, .inl ⟨hx.1, rfl⟩⟩
  · simp [Value.cells] at hcs
    obtain ⟨rfl, rfl, rfl⟩ := hcs
    simp only [Prod.mk.injEq] at hx
    simp only [if_true] at hz
    refine ⟨(zs.take len).map fun z => UInt8.ofNat z.toNat, by simp; omega, hl, hm, ?_, .inr ⟨_, _, hx.1, by simp [lits]; omega⟩⟩
    by_cases h0 : len = 0
    · left; subst h0; rfl
    · obtain ⟨b, off, rfl, hc⟩ := ints_at hcell (by omega)
      refine .inr ⟨b, off, rfl, fun j hj => ?_⟩
      have hjl : j < len := by simp at hj; omega
      have hjz : j < zs.length := by omega
      rw [hc j hjz]
      have hw := byte_wf (hwz zs[j] (List.getElem_mem hjz))
      simp only [List.getD, List.getElem?_eq_getElem hjz, Option.getD_some, List.getElem_map, List.getElem_take, UInt8.toNat_ofNat']
      congr 2
      omega
theorem bytes_u8 : Tryd.prog.bytesOf 5 = 1 := by kernel_rfl
/-- The size of a byte slice that came in. -/
theorem bytes_size {H : Type} {ts : List TypeId} {ds : List (DataW H)} (hsz : (DataW.weightsEach Tryd.prog ts ds).all (· ≤ reachBytes) = true) {j cap : Nat} {d0 : DataW H} (ht : ts[j]? = some 42) (hd : ds[j]? = some d0)
    (h : (d0 = .nil ∧ cap = 0) ∨ ∃ el sp, d0 = .slice el sp ∧ el.length + sp.length = cap) : cap ≤ 140737488351232 := by
  rcases h with ⟨_, rfl⟩ | ⟨el, sp, rfl, rfl⟩
  · exact Nat.zero_le _
  · have := sized_slice hsz ht hd Tryd.underlying42
    rw [bytes_u8, Nat.mul_one] at this
    exact this

end Go.Proofs.YticihfbhnbkjjaaDoor
