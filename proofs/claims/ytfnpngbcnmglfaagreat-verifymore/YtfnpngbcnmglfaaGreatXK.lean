/- Layer 8: places, straight, Deep. Layer 8: IndexFunc, ContainsFunc; line's closures. -/
import Derived.Test.YtfnpngbcnmglfaaGreatXJ
import Derived.Test.YtfnpngbcnmglfaaGreatXG
namespace Go.Proofs.YtfnpngbcnmglfaaGreat
open Go.RowKit
def PlacesEnd (n : Nat) (w : World) (e : Ending) (w' : World) : Prop := e = .returned (.slice (some ⟨w.heap.size, 0, none⟩) n n) ∧ Fill w' w.heap.size 3 n (fun j => .int .i64 j) ∧ Below w.heap.size w w'
set_option maxRecDepth 100000 in
set_option maxHeartbeats 1000000 in
theorem places_any (ga : Option Addr) (n gc : Nat) (hn : n ≤ 100000) (w : World) : Calls Tryz.prog 86 #[.slice ga n gc] w (PlacesEnd n w) := by
  obtain ⟨w2, hm2, F2, b2⟩ := made8 w 28 3 (.int .i64 0) 8 n Tryz.underlying28 (by kernel_rfl) rfl (by omega) hn
  have HF := hid7 (And.intro F2 b2)
  clear F2 b2
  go_enter Tryz.func86, Tryz.ntmps86
  go_wp2_with fail
  go_loopw [10] (fun iv wr => ∃ k : Nat, iv = .int .i64 k ∧ k ≤ n ∧ Hid (Fill wr w.heap.size 3 n (fun j => .int .i64 (if j < k then (j : Int) else 0)) ∧ Below w.heap.size w wr)) (fun iv _ => n - (intOf iv).toNat)
  case atStart => exact ⟨0, rfl, Nat.zero_le _, hid7 ⟨HF.out.1.congr fun j _ => by simp, HF.out.2⟩⟩
  case round =>
    obtain ⟨k, rfl, hk, HL⟩ := hrel
    clear HF
    by_cases hlt : k < n
    · have g1 := HL.out.1.cell hlt
      have g2 := HL.out.1.frozen k
      rw [if_neg (by omega)] at g1
      have L4 : Hid (Fill (wr.setCell ⟨w.heap.size, k, none⟩ (.int .i64 k)) w.heap.size 3 n (fun j => .int .i64 (if j < k + 1 then (j : Int) else 0)) ∧ Below w.heap.size w (wr.setCell ⟨w.heap.size, k, none⟩ (.int .i64 k))) := hid7 ⟨(HL.out.1.set k _).congr fun j _ => by
        by_cases e : j = k
        · subst e; simp
        · rw [if_neg e]
          by_cases e2 : j < k
          · rw [if_pos e2, if_pos (by omega)]
          · rw [if_neg e2, if_neg (by omega)], HL.out.2.setCell (p := ⟨w.heap.size, k, none⟩) (Nat.le_refl _) _⟩
      clear HL
      go_wp2_with fail
      exact ⟨⟨k + 1, by go_num, by omega, L4⟩, by simp [intOf]; omega⟩
    · obtain rfl : k = n := by omega
      have HE : Hid (PlacesEnd k w (.returned (.slice (some ⟨w.heap.size, 0, none⟩) k k)) wr) := hid7 ⟨rfl, HL.out.1.congr fun j hj => by rw [if_pos hj], HL.out.2⟩
      clear HL
      go_wp2_with fail
      go_ret
      exact HE.out
def gF (s : Scr) : Nat → List Nat := gOf (graphS s)
theorem graph_inn (s : Scr) : Inn s.funcs.length (gF s) ∧ (∀ x c, c ∈ gF s x → x < s.funcs.length) ∧ (∀ l ∈ graphS s, l.length ≤ s.funcs.length) ∧ (graphS s).length = s.funcs.length := by
  have h0 : ∀ x c, c ∈ gF s x → x < s.funcs.length ∧ c < s.funcs.length := fun x c hc => by
    unfold gF gOf at hc
    rw [List.getD_eq_getElem?_getD] at hc
    by_cases hx : x < (graphS s).length
    · have hx2 : x < s.funcs.length := by simpa [graphS] using hx
      rw [List.getElem?_eq_getElem hx] at hc
      simp only [graphS, List.getElem_map, Option.getD_some, gRow, List.mem_filter, List.mem_range] at hc
      exact ⟨hx2, hc.1⟩
    · rw [List.getElem?_eq_none (by omega)] at hc
      cases hc
  refine ⟨fun x hx c hc => (h0 x c hc).2, fun x c hc => (h0 x c hc).1, fun l hl => ?_, by simp [graphS]⟩
  obtain ⟨f, _, rfl⟩ := List.mem_map.1 hl
  unfold gRow
  exact Nat.le_trans (List.length_filter_le _ _) (by simp)
/-- What straight answers. -/
def StrEnd (s : Scr) (w : World) (e : Ending) (w' : World) : Prop :=
  Below w.heap.size w w' ∧ if s.right = true then (if (ordS s.funcs.length (gF s)).isNone = true then e = .returned (.tuple #[.slice none 0 0, .map none, .int .i64 34])
    else ∃ ga gc mb m, e = .returned (.tuple #[.slice ga s.funcs.length gc, .map (some mb), .int .i64 0]) ∧ RsAt w'.cell? ga (rowsI (graphS s)) ∧ MapN w' mb s.funcs.length (2 * s.funcs.length) m ∧ Wlk (gF s) (List.range s.funcs.length) m false)
  else e = .returned (.tuple #[.slice none 0 0, .map none, .int .i64 30])
theorem fill_ns {w : World} {b n : Nat} (h : Fill w b 3 n (fun j => .int .i64 j)) : NsAt w.cell? (some ⟨b, 0, none⟩) (rowI (List.range n)) := by
  refine .inr ⟨b, 0, rfl, fun j hj => ?_⟩
  have hj2 : j < n := by simpa [rowI] using hj
  rw [Nat.zero_add, h.cell hj2]
  simp [rowI]
theorem nat_ns {w w' : World} {a : Option Addr} {ns : List Int} (h : NsAt w.cell? a ns) (hb : Below w.heap.size w w') : NsAt w'.cell? a ns := h.keep (below_keep hb)
set_option maxRecDepth 100000 in
set_option maxHeartbeats 1000000 in
theorem straight_any (s : Scr) (V0 V1 : Value) (w : World) (hs : ScIs w.cell? s V0 V1) (hsf : s.fits) : Calls Tryz.prog 45 #[.agg #[V0, V1]] w (StrEnd s w) := by
  obtain ⟨⟨a0, c0, rfl, n0⟩, ⟨a1, c1, rfl, n1⟩⟩ := hs
  have b1 := (Below.refl _ w).alloc (Nat.le_refl _) (.cells #[.slice a0 s.consts.length c0, .slice a1 s.funcs.length c1] 27)
  have hG := graph_any s _ _ (w.alloc (.cells #[.slice a0 s.consts.length c0, .slice a1 s.funcs.length c1] 27)) ⟨⟨a0, c0, rfl, n0.keep (below_keep b1)⟩, ⟨a1, c1, rfl, n1.keep (below_keep b1)⟩⟩ hsf
  by_cases hr : s.right = true
  · obtain ⟨r1, r2, r3⟩ := right_calls hr
    obtain ⟨i1, i2, i3, i4⟩ := graph_inn s
    have HG : Hid (Calls Tryz.prog 28 #[.agg #[.slice a0 s.consts.length c0, .slice a1 s.funcs.length c1]] (w.alloc (.cells #[.slice a0 s.consts.length c0, .slice a1 s.funcs.length c1] 27)) fun e w1 => ∃ ga gc, e = .returned (.tuple #[.slice ga s.funcs.length gc, .int .i64 0]) ∧ Hid (RsAt w1.cell? ga (rowsI (graphS s)) ∧ Below w.heap.size w w1)) := hid7 (hG.mono fun e w1 ⟨h1, h2⟩ => by
      rw [if_pos hr] at h1
      obtain ⟨ga, gc, e1, h3⟩ := h1
      exact ⟨ga, gc, e1, hid7 ⟨h3, b1.trans (h2.mono b1.size)⟩⟩)
    have HW : Hid (∀ ga gc w1 w2, RsAt w1.cell? ga (rowsI (graphS s)) → PlacesEnd s.funcs.length w1 (.returned (.slice (some ⟨w1.heap.size, 0, none⟩) s.funcs.length s.funcs.length)) w2 → Calls Tryz.prog 85 #[.slice ga s.funcs.length gc, .slice (some ⟨w1.heap.size, 0, none⟩) s.funcs.length s.funcs.length] w2 (WalkEnd8 (graphS s) (List.range s.funcs.length) s.funcs.length w2)) := hid7 fun ga gc w1 w2 h1 h2 => walk8_any (graphS s) s.funcs.length gc ga i4 (by omega) i1 (fun l hl => by have := i3 l hl; omega) (List.range s.funcs.length) _ _ _ (by simp) (by omega) (by simp) w2 (h1.keep (below_keep h2.2.2)) (fill_ns h2.2.1)
    have HE1 : Hid (∀ ga gc mb m r w1 w2 w3, Below w.heap.size w w1 → RsAt w1.cell? ga (rowsI (graphS s)) → Below w1.heap.size w1 w2 → Below w2.heap.size w2 w3 → Wlk (gF s) (List.range s.funcs.length) m r → MapN w3 mb s.funcs.length (2 * s.funcs.length) m → StrEnd s w (.returned (.tuple (if r = true then #[.slice none 0 0, .map none, .int .i64 34] else #[.slice ga s.funcs.length gc, .map (some mb), .int .i64 0]))) w3) := hid7 fun ga gc mb m r w1 w2 w3 h1 h2 h3 h4 h5 h6 => by
      have b3 := h3.trans (h4.mono h3.size)
      refine ⟨h1.trans (b3.mono h1.size), ?_⟩
      rw [if_pos hr, ← wlk_ord i1 i2 h5]
      cases r with
      | true => rw [if_pos rfl, if_pos rfl]
      | false =>
        rw [if_neg (by simp), if_neg (by simp)]
        exact ⟨ga, gc, mb, m, rfl, h2.keep (below_keep b3), h6, h5⟩
    obtain ⟨fl, hfe⟩ : ∃ fl, fl = s.funcs.length := ⟨_, rfl⟩
    rw [← hfe] at HG HW HE1 r1 ⊢
    generalize s.consts.length = cl at HG ⊢
    clear hG hr r2 r3 i1 i2 i3 i4 n0 n1 hsf hfe b1
    go_enter Tryz.func45, Tryz.ntmps45
    go_wp2_with (first
      | (go_at_call 28; refine HG.out.mono ?_; clear HG; rintro e w1 ⟨ga, gc, rfl, K1⟩)
      | (go_at_call 86; refine (places_any ga fl gc (by omega) w1).mono ?_; rintro e w2 hP2; obtain rfl := hP2.1; have K2 := hid7 hP2; clear hP2)
      | (go_at_call 85; refine (HW.out ga gc w1 w2 K1.out.1 K2.out).mono ?_; clear HW; rintro e w3 ⟨mb, m, r, rfl, h1, h2, h3, h4⟩; have K3 := hid7 (HE1.out ga gc mb m r w1 w2 w3 K1.out.2 K1.out.1 K2.out.2.2 h4 h1 h2); clear HE1 h1 h2 h3 h4)
      | fail)
    · rename_i hr3
      go_ret3
      have := K3.out
      rw [if_pos hr3] at this
      exact this
    · rename_i hr3
      go_ret3
      have := K3.out
      rw [if_neg (by rw [hr3]; simp)] at this
      exact this
  · have HG : Hid (Calls Tryz.prog 28 #[.agg #[.slice a0 s.consts.length c0, .slice a1 s.funcs.length c1]] (w.alloc (.cells #[.slice a0 s.consts.length c0, .slice a1 s.funcs.length c1] 27)) fun e w1 => e = .returned (.tuple #[.slice none 0 0, .int .i64 30]) ∧ Hid (StrEnd s w (.returned (.tuple #[.slice none 0 0, .map none, .int .i64 30])) w1)) := hid7 (hG.mono fun e w1 ⟨h1, h2⟩ => by
      rw [if_neg hr] at h1
      refine ⟨h1, hid7 ⟨b1.trans (h2.mono b1.size), ?_⟩⟩
      rw [if_neg hr])
    clear hG hr n0 n1 hsf b1
    generalize s.consts.length = cl at HG ⊢
    generalize s.funcs.length = fl at HG ⊢
    go_enter Tryz.func45, Tryz.ntmps45
    go_wp2_with (first
      | (go_at_call 28; refine HG.out.mono ?_; clear HG; rintro e w1 ⟨rfl, K1⟩)
      | fail)
    go_ret3
    exact K1.out
/-- What Deep answers. -/
def deepL (s : Scr) (d : Nat → Nat) : List Int := (List.range s.funcs.length).map fun x => (d x : Int)
def DeepEnd (s : Scr) (w : World) (e : Ending) (w' : World) : Prop :=
  Below w.heap.size w w' ∧ if s.right = true then (if (ordS s.funcs.length (gF s)).isNone = true then e = .returned (.tuple #[.slice none 0 0, .int .i64 34])
    else ∃ la lc d, e = .returned (.tuple #[.slice la s.funcs.length lc, .int .i64 0]) ∧ NsAt w'.cell? la (deepL s d) ∧ DeepIs s.funcs.length (gF s) d ∧ ∀ x < s.funcs.length, d x ≤ 1000)
  else e = .returned (.tuple #[.slice none 0 0, .int .i64 30])
set_option maxRecDepth 100000 in
set_option maxHeartbeats 1000000 in
theorem deep_new (s : Scr) (V0 V1 : Value) (w : World) (hs : ScIs w.cell? s V0 V1) (hsf : s.fits) : Calls Tryz.prog 69 #[.agg #[V0, V1]] w fun e w' => DeepEnd s w e w' ∧ FreshE w e := by
  obtain ⟨⟨a0, c0, rfl, n0⟩, ⟨a1, c1, rfl, n1⟩⟩ := hs
  have b1 := (Below.refl _ w).alloc (Nat.le_refl _) (.cells #[.slice a0 s.consts.length c0, .slice a1 s.funcs.length c1] 27)
  have hG := straight_any s _ _ (w.alloc (.cells #[.slice a0 s.consts.length c0, .slice a1 s.funcs.length c1] 27)) ⟨⟨a0, c0, rfl, n0.keep (below_keep b1)⟩, ⟨a1, c1, rfl, n1.keep (below_keep b1)⟩⟩ hsf
  by_cases hx : s.right = true ∧ ¬ (ordS s.funcs.length (gF s)).isNone = true
  · obtain ⟨hr, ho⟩ := hx
    obtain ⟨r1, r2, r3⟩ := right_calls hr
    obtain ⟨i1, i2, i3, i4⟩ := graph_inn s
    have HG : Hid (Calls Tryz.prog 45 #[.agg #[.slice a0 s.consts.length c0, .slice a1 s.funcs.length c1]] (w.alloc (.cells #[.slice a0 s.consts.length c0, .slice a1 s.funcs.length c1] 27)) fun e w1 => ∃ ga gc mb m, e = .returned (.tuple #[.slice ga s.funcs.length gc, .map (some mb), .int .i64 0]) ∧ Hid (Below w.heap.size w w1 ∧ MapN w1 mb s.funcs.length (2 * s.funcs.length) m ∧ DeepIs s.funcs.length (gF s) (fun x => (m x).getD 0))) := hid7 (hG.mono fun e w1 ⟨h1, h2⟩ => by
      rw [if_pos hr, if_neg ho] at h2
      obtain ⟨ga, gc, mb, m, e1, h3, h4, h5⟩ := h2
      exact ⟨ga, gc, mb, m, e1, hid7 ⟨b1.trans (h1.mono b1.size), h4, wlk_deep i1 h5⟩⟩)
    have HEnd : Hid (∀ W lb (d : Nat → Nat), Below w.heap.size w W → DeepIs s.funcs.length (gF s) d → (∀ x < s.funcs.length, d x ≤ 1000) → Fill W lb 3 s.funcs.length (fun j => .int .i64 (d j : Nat)) → DeepEnd s w (.returned (.tuple #[.slice (some ⟨lb, 0, none⟩) s.funcs.length s.funcs.length, .int .i64 0])) W) := hid7 fun W lb d h1 h2 h3 h4 => by
      refine ⟨h1, ?_⟩
      rw [if_pos hr, if_neg ho]
      refine ⟨_, _, d, rfl, .inr ⟨lb, 0, rfl, fun j hj => ?_⟩, h2, h3⟩
      have hj2 : j < s.funcs.length := by simpa [deepL] using hj
      rw [Nat.zero_add, h4.cell hj2]
      simp [deepL]
    obtain ⟨fl, hfe⟩ : ∃ fl, fl = s.funcs.length := ⟨_, rfl⟩
    rw [← hfe] at HG HEnd r1 ⊢
    have HMk : Hid (∀ W : World, ∃ W2, (Instr.makeSlice 28 (.int .i64 (fl : Int)) (.int .i64 (fl : Int))).run Tryz.prog W = .ok (.slice (some ⟨W.heap.size, 0, none⟩) fl fl) W2 ∧ Fill W2 W.heap.size 3 fl (fun _ => .int .i64 0) ∧ Below W.heap.size W W2) := hid7 fun W => made8 W 28 3 (.int .i64 0) 8 fl Tryz.underlying28 (by kernel_rfl) rfl (by omega) (by omega)
    generalize s.consts.length = cl at HG ⊢
    clear hG hr ho r2 r3 i1 i2 i3 i4 n0 n1 hsf hfe b1
    go_enter Tryz.func69, Tryz.ntmps69
    go_wp2_with (first
      | (go_at_call 45; refine HG.out.mono ?_; clear HG; rintro e w1 ⟨ga, gc, mb, m, rfl, H1⟩; obtain ⟨w2, hm2, F2, b2⟩ := HMk.out w1; have hF2 := hid7 (And.intro F2 b2); clear HMk F2 b2)
      | fail)
    clear hm2
    go_loopw [23] (fun iv wr => ∃ k : Nat, iv = .int .i64 k ∧ k ≤ fl ∧ Hid (Fill wr w1.heap.size 3 fl (fun j => .int .i64 (if j < k then ((m j).getD 0 : Nat) else (0 : Int))) ∧ Below w1.heap.size w1 wr)) (fun iv _ => fl - (intOf iv).toNat)
    case atStart => exact ⟨0, rfl, Nat.zero_le _, hid7 ⟨hF2.out.1.congr fun j _ => by simp, hF2.out.2⟩⟩
    case round =>
      obtain ⟨k, rfl, hk, HL⟩ := hrel
      clear hF2
      by_cases hlt : k < fl
      · have g1 := HL.out.1.cell hlt
        have g2 := HL.out.1.frozen k
        rw [if_neg (by omega)] at g1
        have hl := (H1.out.2.1.keep (HL.out.2.block _ H1.out.2.1.lt)).at k (by omega)
        have L4 : Hid (Fill (wr.setCell ⟨w1.heap.size, k, none⟩ (.int .i64 ((m k).getD 0 : Nat))) w1.heap.size 3 fl (fun j => .int .i64 (if j < k + 1 then ((m j).getD 0 : Nat) else (0 : Int))) ∧ Below w1.heap.size w1 (wr.setCell ⟨w1.heap.size, k, none⟩ (.int .i64 ((m k).getD 0 : Nat)))) := hid7 ⟨(HL.out.1.set k _).congr fun j _ => by
          by_cases e : j = k
          · subst e; simp
          · rw [if_neg e]
            by_cases e2 : j < k
            · rw [if_pos e2, if_pos (by omega)]
            · rw [if_neg e2, if_neg (by omega)], HL.out.2.setCell (p := ⟨w1.heap.size, k, none⟩) (Nat.le_refl _) _⟩
        generalize (m k).getD 0 = mk at hl L4
        clear HL H1 HEnd
        go_wp2_with fail
        exact ⟨⟨k + 1, by go_num, by omega, L4⟩, by simp [intOf]; omega⟩
      · obtain rfl : k = fl := by omega
        obtain ⟨q1, q2, q3⟩ := H1.out
        have HE := hid7 (HEnd.out wr w1.heap.size (fun x => (m x).getD 0) (q1.trans (HL.out.2.mono q1.size)) q3 (fun x _ => by
          obtain ⟨D, N, _, _, _, _, q4⟩ := q2
          cases e : m x with
          | none => simp
          | some v => have := (q4 x v e).2.1; simp; omega) (HL.out.1.congr fun j hj => by rw [if_pos hj]))
        have HFr : Hid (FreshE w (.returned (.tuple #[.slice (some ⟨w1.heap.size, 0, none⟩) k k, .int .i64 0]))) := hid7 (fresh_at q1.size)
        clear HL H1 HEnd q1 q2 q3
        go_wp2_with fail
        go_ret2
        exact ⟨HE.out, HFr.out⟩
  · have HG : Hid (Calls Tryz.prog 45 #[.agg #[.slice a0 s.consts.length c0, .slice a1 s.funcs.length c1]] (w.alloc (.cells #[.slice a0 s.consts.length c0, .slice a1 s.funcs.length c1] 27)) fun e w1 => ∃ c : Int, (c != 0) = true ∧ e = .returned (.tuple #[.slice none 0 0, .map none, .int .i64 c]) ∧ Hid (DeepEnd s w (.returned (.tuple #[.slice none 0 0, .int .i64 c])) w1)) := hid7 (hG.mono fun e w1 ⟨h1, h2⟩ => by
      have bb := b1.trans (h1.mono b1.size)
      by_cases hr : s.right = true
      · rw [if_pos hr] at h2
        have ho : (ordS s.funcs.length (gF s)).isNone = true := by
          cases e : (ordS s.funcs.length (gF s)).isNone with
          | true => rfl
          | false => exact absurd ⟨hr, by rw [e]; simp⟩ hx
        rw [if_pos ho] at h2
        exact ⟨34, by decide, h2, hid7 ⟨bb, by rw [if_pos hr, if_pos ho]⟩⟩
      · rw [if_neg hr] at h2
        exact ⟨30, by decide, h2, hid7 ⟨bb, by rw [if_neg hr]⟩⟩)
    clear hG hx n0 n1 hsf b1
    generalize s.consts.length = cl at HG ⊢
    generalize s.funcs.length = fl at HG ⊢
    go_enter Tryz.func69, Tryz.ntmps69
    go_wp2_with (first
      | (go_at_call 45; refine HG.out.mono ?_; clear HG; rintro e w1 ⟨c, hc, rfl, K1⟩)
      | fail)
    go_ret2
    exact ⟨K1.out, fresh_nil _ _ _ _⟩
theorem deep_any (s : Scr) (V0 V1 : Value) (w : World) (hs : ScIs w.cell? s V0 V1) (hsf : s.fits) : Calls Tryz.prog 69 #[.agg #[V0, V1]] w (DeepEnd s w) := (deep_new s V0 V1 w hs hsf).mono fun _ _ h => h.1
end Go.Proofs.YtfnpngbcnmglfaaGreat
namespace Go.Proofs.YtfnpngbcnmglfaaGreat
open Go.RowKit
/-- The first place that p holds at, or -1. -/
def idxI (p : Int → Bool) (zs : List Int) : Int := match zs.findIdx? p with | some i => (i : Int) | none => -1
theorem idxI_none {p : Int → Bool} {zs : List Int} (h : ∀ j (hj : j < zs.length), p zs[j] = false) : idxI p zs = -1 := by
  have : zs.findIdx? p = none := by
    rw [List.findIdx?_eq_none_iff]
    intro x hx
    obtain ⟨j, hj, rfl⟩ := List.mem_iff_getElem.1 hx
    exact h j hj
  rw [idxI, this]
theorem idxI_some {p : Int → Bool} {zs : List Int} {k : Nat} (hk : k < zs.length) (h : ∀ j (hj : j < zs.length), j < k → p zs[j] = false) (hp : p zs[k] = true) : idxI p zs = k := by
  have : zs.findIdx? p = some k := by
    rw [List.findIdx?_eq_some_iff_getElem]
    exact ⟨hk, hp, fun j hj => by rw [h j (by omega) hj]; simp⟩
  rw [idxI, this]
/-- The function value F tells p of the members of zs, and changes nothing. -/
def Tells (F : Nat) (fr : Array Value) (W : World) (zs : List Int) (p : Int → Bool) : Prop := ∀ x ∈ zs, ∀ q, Calls Tryz.prog F (#[.int .i64 x] ++ fr) (W.drewN q) fun e w' => e = .returned (.bool (p x)) ∧ ∃ q', w' = W.drewN q'
set_option maxRecDepth 100000 in
set_option maxHeartbeats 1000000 in
theorem indexF_any (zs : List Int) (a : Option Addr) (n c : Nat) (hn : zs.length = n) (bn : n ≤ 100000) (W : World) (F : Nat) (fr : Array Value) (eF : ∀ args w, (callFunc F args).run Tryz.prog w = .ok (.enter F args) w) (p : Int → Bool) (hz : NsAt W.cell? a zs) (hF : Tells F fr W zs p) :
    Calls Tryz.prog 90 #[.slice a n c, .func (.func F) #[] fr] W fun e w' => e = .returned (.int .i64 (idxI p zs)) ∧ ∃ q, w' = W.drewN q := by
  have HN := hid7 hn
  have HZ := hid7 hz
  have HF := hid7 hF
  clear hn hz hF
  go_enter Tryz.func90, Tryz.ntmps90
  go_wp2_with fail
  go_loopw [8] (fun iv wr => ∃ k q : Nat, iv = .int .i64 k ∧ k ≤ n ∧ wr = W.drewN q ∧ Hid (∀ j (hj : j < zs.length), j < k → p zs[j] = false)) (fun iv _ => n - (intOf iv).toNat)
  case atStart => exact ⟨0, 0, rfl, Nat.zero_le _, rfl, hid7 fun j _ h => by omega⟩
  case round =>
    obtain ⟨k, q, rfl, hk, rfl, HP⟩ := hrel
    by_cases hlt : k < n
    · have hkl : k < zs.length := by rw [HN.out]; exact hlt
      obtain ⟨zb, zo, e1, z1⟩ : ∃ zb zo, a = some ⟨zb, zo, none⟩ ∧ (W.drewN q).cell? ⟨zb, zo + k, none⟩ = some (.int .i64 zs[k]) := by
        rcases HZ.out with h | ⟨b, o, e, h⟩
        · rw [h] at hkl; cases hkl
        · exact ⟨b, o, e, h k hkl⟩
      subst e1
      have HC := hid7 (HF.out zs[k] (List.getElem_mem hkl) q)
      cases hp : p zs[k] with
      | true =>
        have HE := hid7 (idxI_some hkl HP.out hp)
        rw [hp] at HC
        generalize zs[k] = z at *
        clear HP HF HZ hp
        go_wp2_with (first | (go_at_fn F; refine HC.out.mono ?_; clear HC; rintro e w4 ⟨rfl, q4, w4e⟩; rw [w4e]; clear w4e) | fail)
        go_ret
        exact ⟨by rw [HE.out]; rfl, q4, rfl⟩
      | false =>
        have HP2 : Hid (∀ j (hj : j < zs.length), j < k + 1 → p zs[j] = false) := hid7 fun j hj hjk => by
          by_cases e : j = k
          · subst e; exact hp
          · exact HP.out j hj (by omega)
        rw [hp] at HC
        generalize zs[k] = z at *
        clear HP HF HZ hp
        go_wp2_with (first | (go_at_fn F; refine HC.out.mono ?_; clear HC; rintro e w4 ⟨rfl, q4, w4e⟩; rw [w4e]; clear w4e) | fail)
        exact ⟨⟨k + 1, q4, by go_num, by omega, rfl, HP2⟩, by simp [intOf]; omega⟩
    · obtain rfl : k = n := by omega
      have HE : Hid (idxI p zs = -1) := hid7 (idxI_none fun j hj => HP.out j hj (by rw [← HN.out]; exact hj))
      clear HP HF HZ
      go_wp2_with fail
      go_ret
      exact ⟨by rw [HE.out]; rfl, q, rfl⟩
theorem idxI_nonneg (p : Int → Bool) (zs : List Int) : decide (0 ≤ idxI p zs) = zs.any p := by
  unfold idxI
  cases e : zs.findIdx? p with
  | none =>
    rw [List.findIdx?_eq_none_iff] at e
    have : zs.any p = false := by rw [List.any_eq_false]; intro x hx; rw [e x hx]; simp
    rw [this]; rfl
  | some i =>
    rw [List.findIdx?_eq_some_iff_getElem] at e
    obtain ⟨h, h1, _⟩ := e
    have : zs.any p = true := List.any_eq_true.2 ⟨_, List.getElem_mem h, h1⟩
    rw [this]; simp
set_option maxRecDepth 100000 in
set_option maxHeartbeats 1000000 in
theorem containsF_any (zs : List Int) (a : Option Addr) (n c : Nat) (hn : zs.length = n) (bn : n ≤ 100000) (W : World) (F : Nat) (fr : Array Value) (eF : ∀ args w, (callFunc F args).run Tryz.prog w = .ok (.enter F args) w) (p : Int → Bool) (hz : NsAt W.cell? a zs) (hF : Tells F fr W zs p) :
    Calls Tryz.prog 89 #[.slice a n c, .func (.func F) #[] fr] W fun e w' => e = .returned (.bool (zs.any p)) ∧ ∃ q, w' = W.drewN q := by
  have HI := hid7 (indexF_any zs a n c hn bn W F fr eF p hz hF)
  have e6 : ∀ args w, (callFunc 90 args).run Tryz.prog w = .ok (.enter 90 args) w := enters_of Tryz.func90 (by kernel_rfl) rfl
  rw [← idxI_nonneg]
  generalize idxI p zs = i at HI ⊢
  clear hn hz hF
  go_enter Tryz.func89, Tryz.ntmps89
  go_wp2_with (first | (go_at_fn 90; refine HI.out.mono ?_; clear HI; rintro e w' ⟨rfl, q, rfl⟩) | fail)
  go_ret
  exact ⟨rfl, q, rfl⟩
set_option maxRecDepth 100000 in
set_option maxHeartbeats 1000000 in
theorem waits_any (pt mb n S : Nat) (m : Nat → Option Nat) (f : Nat) (hf : f ≤ 100000) (w : World) (ct : w.cell? ⟨pt, 0, none⟩ = some (.map (some mb))) (hm : MapN w mb n S m) :
    Calls Tryz.prog 87 #[.int .i64 (f : Nat), .pointer (some ⟨pt, 0, none⟩)] w fun e w' => e = .returned (.bool (((m f).getD 0 : Nat) == 0)) ∧ ∃ q, w' = w.drewN q := by
  have hl := hm.at f hf
  generalize (m f).getD 0 = v at hl ⊢
  go_enter Tryz.func87, Tryz.ntmps87
  go_wp2_with fail
  go_ret
  refine ⟨?_, 0, rfl⟩
  show Ending.returned (.bool (((v : Nat) : Int) == 0)) = _
  congr 2
  rw [Bool.eq_iff_iff]
  simp
set_option maxRecDepth 100000 in
set_option maxHeartbeats 1000000 in
theorem ready_any (B pg pt pw mb n gc S : Nat) (ga : Option Addr) (G : List (List Nat)) (hG : G.length = n) (hI : Inn n (gOf G)) (hr : ∀ l ∈ G, l.length ≤ 1000) (hn : n ≤ 1000) (m : Nat → Option Nat) (f : Nat) (hf : f < n) (w : World) (cg : w.cell? ⟨pg, 0, none⟩ = some (.slice ga n gc)) (ct : w.cell? ⟨pt, 0, none⟩ = some (.map (some mb)))
    (cw : w.cell? ⟨pw, 0, none⟩ = some (.func (.func 87) #[] #[.pointer (some ⟨pt, 0, none⟩)])) (hg : RsAt (lowC B w) ga (rowsI G)) (hm : MapN w mb n S m) :
    Calls Tryz.prog 88 #[.int .i64 (f : Nat), .pointer (some ⟨pg, 0, none⟩), .pointer (some ⟨pw, 0, none⟩)] w fun e w' => e = .returned (.bool ((gOf G f).all fun c => !((m c).getD 0 == 0))) ∧ ∃ q, w' = w.drewN q := by
  obtain ⟨gb, go, aj, cj, ega, hgb, hrow, hns⟩ := row_at hg (by rw [hG]; exact hf)
  have hl : (gOf G f).length ≤ 1000 := by
    unfold gOf
    rw [List.getD_eq_getElem?_getD, List.getElem?_eq_getElem (by rw [hG]; exact hf)]
    exact hr _ (List.getElem_mem _)
  have eW : ∀ args w, (callFunc 87 args).run Tryz.prog w = .ok (.enter 87 args) w := enters_of Tryz.func87 (by kernel_rfl) rfl
  have hdd : ∀ k', w.drew.drewN k' = w.drewN (1 + k') := fun k' => by rw [← World.drewN_drewN]; rfl
  have HC : Hid (Calls Tryz.prog 89 #[.slice aj (gOf G f).length cj, .func (.func 87) #[] #[.pointer (some ⟨pt, 0, none⟩)]] w.drew fun e w' => e = .returned (.bool ((rowI (gOf G f)).any fun x => ((m x.toNat).getD 0 : Nat) == 0)) ∧ ∃ q, w' = w.drewN q) := hid7 ((containsF_any (rowI (gOf G f)) aj (gOf G f).length cj (by simp [rowI]) (by omega) w.drew 87 #[.pointer (some ⟨pt, 0, none⟩)] eW (fun x => ((m x.toNat).getD 0 : Nat) == 0) (hns.keep fun x v hx => (lowC_of hx).2) (fun x hx q => by
    obtain ⟨c, hc, rfl⟩ := List.mem_map.1 hx
    have := waits_any pt mb n S m c (by have := hI f hf c hc; omega) (w.drew.drewN q) ct hm
    refine this.mono fun e w' ⟨h1, q', h2⟩ => ⟨h1, q + q', by rw [h2, World.drewN_drewN]⟩)).mono fun e w' ⟨h1, q, h2⟩ => ⟨h1, _, h2.trans (hdd q)⟩)
  have he : (rowI (gOf G f)).any (fun x => ((m x.toNat).getD 0 : Nat) == 0) = !(gOf G f).all fun c => !((m c).getD 0 == 0) := by
    rw [rowI, List.any_map, List.not_all_eq_any_not]
    congr 1
    funext c
    simp
  rw [he] at HC
  generalize (gOf G f).all (fun c => !((m c).getD 0 == 0)) = r at HC ⊢
  generalize (gOf G f).length = gl at HC hrow
  subst ega
  clear hns hg hm hr hI hG he ct hdd
  go_enter Tryz.func88, Tryz.ntmps88
  go_wp2_with fail
  go_region_with (first | (go_at_call 89; refine HC.out.mono ?_; clear HC; rintro e w' ⟨rfl, q, w4e⟩; rw [w4e]; clear w4e) | fail)
  all_goals
    go_wp2
    go_ret
    exact ⟨by cases r <;> rfl, q, rfl⟩
end Go.Proofs.YtfnpngbcnmglfaaGreat
