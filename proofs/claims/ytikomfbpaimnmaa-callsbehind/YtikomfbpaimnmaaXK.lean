/- Layer 8: places, straight, Deep. -/
import Derived.Test.YtikomfbpaimnmaaXJ
import Derived.Test.YtikomfbpaimnmaaXG
namespace Go.Proofs.Ytikomfbpaimnmaa
open Go.RowKit
def PlacesEnd (n : Nat) (w : World) (e : Ending) (w' : World) : Prop := e = .returned (.slice (some ⟨w.heap.size, 0, none⟩) n n) ∧ Fill w' w.heap.size 3 n (fun j => .int .i64 j) ∧ Below w.heap.size w w'
set_option maxRecDepth 100000 in
set_option maxHeartbeats 1000000 in
theorem places_any (ga : Option Addr) (n gc : Nat) (hn : n ≤ 100000) (w : World) : Calls Try.prog 41 #[.slice ga n gc] w (PlacesEnd n w) := by
  obtain ⟨w2, hm2, F2, b2⟩ := made8 w 36 3 (.int .i64 0) 8 n Try.underlying36 (by kernel_rfl) rfl (by omega) hn
  have HF := hid7 (And.intro F2 b2)
  clear F2 b2
  go_enter Try.func41, Try.ntmps41
  go_wp2_with fail
  go_loopw [10] (fun iv wr => ∃ k : Nat, iv = .int .i64 k ∧ k ≤ n ∧ Hid (Fill wr w.heap.size 3 n (fun j => .int .i64 (if j < k then (j : Int) else 0)) ∧ Below w.heap.size w wr)) (fun iv _ => n - (intOf iv).toNat)
  case atStart => exact ⟨0, rfl, Nat.zero_le _, hid7 ⟨HF.out.1.congr fun j _ => by simp, HF.out.2⟩⟩
  case round =>
    obtain ⟨k, rfl, hk, HL⟩ := hrel
    clear HF
    by_cases hlt : k < n
    · have g1 := HL.out.1.cell hlt
      have g2 := HL.out.1.frozen k
      rw [if_neg (by omega)] at g1
      have L4 : Hid (Fill (wr.setCell ⟨w.heap.size, k, none⟩ (.int .i64 k)) w.heap.size 3 n (fun j => .int .i64 (if j < k + 1 then (j : Int) else 0)) ∧ Below w.heap.size w (wr.setCell ⟨w.heap.size, k, none⟩ (.int .i64 k))) := hid7 ⟨(HL.out.1.set k _).congr fun j _ => by
        by_cases e : j = k
        · subst e; simp
        · rw [if_neg e]
          by_cases e2 : j < k
          · rw [if_pos e2, if_pos (by omega)]
          · rw [if_neg e2, if_neg (by omega)], HL.out.2.setCell (p := ⟨w.heap.size, k, none⟩) (Nat.le_refl _) _⟩
      clear HL
      go_wp2_with fail
      exact ⟨⟨k + 1, by go_num, by omega, L4⟩, by simp [intOf]; omega⟩
    · obtain rfl : k = n := by omega
      have HE : Hid (PlacesEnd k w (.returned (.slice (some ⟨w.heap.size, 0, none⟩) k k)) wr) := hid7 ⟨rfl, HL.out.1.congr fun j hj => by rw [if_pos hj], HL.out.2⟩
      clear HL
      go_wp2_with fail
      go_ret
      exact HE.out
def gF (s : Scr) : Nat → List Nat := gOf (graphS s)
theorem graph_inn (s : Scr) : Inn s.funcs.length (gF s) ∧ (∀ x c, c ∈ gF s x → x < s.funcs.length) ∧ (∀ l ∈ graphS s, l.length ≤ s.funcs.length) ∧ (graphS s).length = s.funcs.length := by
  have h0 : ∀ x c, c ∈ gF s x → x < s.funcs.length ∧ c < s.funcs.length := fun x c hc => by
    unfold gF gOf at hc
    rw [List.getD_eq_getElem?_getD] at hc
    by_cases hx : x < (graphS s).length
    · have hx2 : x < s.funcs.length := by simpa [graphS] using hx
      rw [List.getElem?_eq_getElem hx] at hc
      simp only [graphS, List.getElem_map, Option.getD_some, gRow, List.mem_filter, List.mem_range] at hc
      exact ⟨hx2, hc.1⟩
    · rw [List.getElem?_eq_none (by omega)] at hc
      cases hc
  refine ⟨fun x hx c hc => (h0 x c hc).2, fun x c hc => (h0 x c hc).1, fun l hl => ?_, by simp [graphS]⟩
  obtain ⟨f, _, rfl⟩ := List.mem_map.1 hl
  unfold gRow
  exact Nat.le_trans (List.length_filter_le _ _) (by simp)
/-- What straight answers. -/
def StrEnd (s : Scr) (w : World) (e : Ending) (w' : World) : Prop :=
  Below w.heap.size w w' ∧ if s.right = true then (if (ordS s.funcs.length (gF s)).isNone = true then e = .returned (.tuple #[.slice none 0 0, .map none, .int .i64 34])
    else ∃ ga gc mb m, e = .returned (.tuple #[.slice ga s.funcs.length gc, .map (some mb), .int .i64 0]) ∧ RsAt w'.cell? ga (rowsI (graphS s)) ∧ MapN w' mb s.funcs.length (2 * s.funcs.length) m ∧ Wlk (gF s) (List.range s.funcs.length) m false)
  else e = .returned (.tuple #[.slice none 0 0, .map none, .int .i64 30])
theorem fill_ns {w : World} {b n : Nat} (h : Fill w b 3 n (fun j => .int .i64 j)) : NsAt w.cell? (some ⟨b, 0, none⟩) (rowI (List.range n)) := by
  refine .inr ⟨b, 0, rfl, fun j hj => ?_⟩
  have hj2 : j < n := by simpa [rowI] using hj
  rw [Nat.zero_add, h.cell hj2]
  simp [rowI]
theorem nat_ns {w w' : World} {a : Option Addr} {ns : List Int} (h : NsAt w.cell? a ns) (hb : Below w.heap.size w w') : NsAt w'.cell? a ns := h.keep (below_keep hb)
set_option maxRecDepth 100000 in
set_option maxHeartbeats 1000000 in
theorem straight_any (s : Scr) (V0 V1 : Value) (w : World) (hs : ScIs w.cell? s V0 V1) (hsf : s.fits) : Calls Try.prog 31 #[.agg #[V0, V1]] w (StrEnd s w) := by
  obtain ⟨⟨a0, c0, rfl, n0⟩, ⟨a1, c1, rfl, n1⟩⟩ := hs
  have b1 := (Below.refl _ w).alloc (Nat.le_refl _) (.cells #[.slice a0 s.consts.length c0, .slice a1 s.funcs.length c1] 25)
  have hG := graph_any s _ _ (w.alloc (.cells #[.slice a0 s.consts.length c0, .slice a1 s.funcs.length c1] 25)) ⟨⟨a0, c0, rfl, n0.keep (below_keep b1)⟩, ⟨a1, c1, rfl, n1.keep (below_keep b1)⟩⟩ hsf
  by_cases hr : s.right = true
  · obtain ⟨r1, r2, r3⟩ := right_calls hr
    obtain ⟨i1, i2, i3, i4⟩ := graph_inn s
    have HG : Hid (Calls Try.prog 9 #[.agg #[.slice a0 s.consts.length c0, .slice a1 s.funcs.length c1]] (w.alloc (.cells #[.slice a0 s.consts.length c0, .slice a1 s.funcs.length c1] 25)) fun e w1 => ∃ ga gc, e = .returned (.tuple #[.slice ga s.funcs.length gc, .int .i64 0]) ∧ Hid (RsAt w1.cell? ga (rowsI (graphS s)) ∧ Below w.heap.size w w1)) := hid7 (hG.mono fun e w1 ⟨h1, h2⟩ => by
      rw [if_pos hr] at h1
      obtain ⟨ga, gc, e1, h3⟩ := h1
      exact ⟨ga, gc, e1, hid7 ⟨h3, b1.trans (h2.mono b1.size)⟩⟩)
    have HW : Hid (∀ ga gc w1 w2, RsAt w1.cell? ga (rowsI (graphS s)) → PlacesEnd s.funcs.length w1 (.returned (.slice (some ⟨w1.heap.size, 0, none⟩) s.funcs.length s.funcs.length)) w2 → Calls Try.prog 26 #[.slice ga s.funcs.length gc, .slice (some ⟨w1.heap.size, 0, none⟩) s.funcs.length s.funcs.length] w2 (WalkEnd8 (graphS s) (List.range s.funcs.length) s.funcs.length w2)) := hid7 fun ga gc w1 w2 h1 h2 => walk8_any (graphS s) s.funcs.length gc ga i4 (by omega) i1 (fun l hl => by have := i3 l hl; omega) (List.range s.funcs.length) _ _ _ (by simp) (by omega) (by simp) w2 (h1.keep (below_keep h2.2.2)) (fill_ns h2.2.1)
    have HE1 : Hid (∀ ga gc mb m r w1 w2 w3, Below w.heap.size w w1 → RsAt w1.cell? ga (rowsI (graphS s)) → Below w1.heap.size w1 w2 → Below w2.heap.size w2 w3 → Wlk (gF s) (List.range s.funcs.length) m r → MapN w3 mb s.funcs.length (2 * s.funcs.length) m → StrEnd s w (.returned (.tuple (if r = true then #[.slice none 0 0, .map none, .int .i64 34] else #[.slice ga s.funcs.length gc, .map (some mb), .int .i64 0]))) w3) := hid7 fun ga gc mb m r w1 w2 w3 h1 h2 h3 h4 h5 h6 => by
      have b3 := h3.trans (h4.mono h3.size)
      refine ⟨h1.trans (b3.mono h1.size), ?_⟩
      rw [if_pos hr, ← wlk_ord i1 i2 h5]
      cases r with
      | true => rw [if_pos rfl, if_pos rfl]
      | false =>
        rw [if_neg (by simp), if_neg (by simp)]
        exact ⟨ga, gc, mb, m, rfl, h2.keep (below_keep b3), h6, h5⟩
    obtain ⟨fl, hfe⟩ : ∃ fl, fl = s.funcs.length := ⟨_, rfl⟩
    rw [← hfe] at HG HW HE1 r1 ⊢
    generalize s.consts.length = cl at HG ⊢
    clear hG hr r2 r3 i1 i2 i3 i4 n0 n1 hsf hfe b1
    go_enter Try.func31, Try.ntmps31
    go_wp2_with (first
      | (go_at_call 9; refine HG.out.mono ?_; clear HG; rintro e w1 ⟨ga, gc, rfl, K1⟩)
      | (go_at_call 41; refine (places_any ga fl gc (by omega) w1).mono ?_; rintro e w2 hP2; obtain rfl := hP2.1; have K2 := hid7 hP2; clear hP2)
      | (go_at_call 26; refine (HW.out ga gc w1 w2 K1.out.1 K2.out).mono ?_; clear HW; rintro e w3 ⟨mb, m, r, rfl, h1, h2, h3, h4⟩; have K3 := hid7 (HE1.out ga gc mb m r w1 w2 w3 K1.out.2 K1.out.1 K2.out.2.2 h4 h1 h2); clear HE1 h1 h2 h3 h4)
      | fail)
    · rename_i hr3
      go_ret3
      have := K3.out
      rw [if_pos hr3] at this
      exact this
    · rename_i hr3
      go_ret3
      have := K3.out
      rw [if_neg (by rw [hr3]; simp)] at this
      exact this
  · have HG : Hid (Calls Try.prog 9 #[.agg #[.slice a0 s.consts.length c0, .slice a1 s.funcs.length c1]] (w.alloc (.cells #[.slice a0 s.consts.length c0, .slice a1 s.funcs.length c1] 25)) fun e w1 => e = .returned (.tuple #[.slice none 0 0, .int .i64 30]) ∧ Hid (StrEnd s w (.returned (.tuple #[.slice none 0 0, .map none, .int .i64 30])) w1)) := hid7 (hG.mono fun e w1 ⟨h1, h2⟩ => by
      rw [if_neg hr] at h1
      refine ⟨h1, hid7 ⟨b1.trans (h2.mono b1.size), ?_⟩⟩
      rw [if_neg hr])
    clear hG hr n0 n1 hsf b1
    generalize s.consts.length = cl at HG ⊢
    generalize s.funcs.length = fl at HG ⊢
    go_enter Try.func31, Try.ntmps31
    go_wp2_with (first
      | (go_at_call 9; refine HG.out.mono ?_; clear HG; rintro e w1 ⟨rfl, K1⟩)
      | fail)
    go_ret3
    exact K1.out
/-- What Deep answers. -/
def deepL (s : Scr) (d : Nat → Nat) : List Int := (List.range s.funcs.length).map fun x => (d x : Int)
def DeepEnd (s : Scr) (w : World) (e : Ending) (w' : World) : Prop :=
  Below w.heap.size w w' ∧ if s.right = true then (if (ordS s.funcs.length (gF s)).isNone = true then e = .returned (.tuple #[.slice none 0 0, .int .i64 34])
    else ∃ la lc d, e = .returned (.tuple #[.slice la s.funcs.length lc, .int .i64 0]) ∧ NsAt w'.cell? la (deepL s d) ∧ DeepIs s.funcs.length (gF s) d ∧ ∀ x < s.funcs.length, d x ≤ 1000)
  else e = .returned (.tuple #[.slice none 0 0, .int .i64 30])
set_option maxRecDepth 100000 in
set_option maxHeartbeats 1000000 in
theorem deep_any (s : Scr) (V0 V1 : Value) (w : World) (hs : ScIs w.cell? s V0 V1) (hsf : s.fits) : Calls Try.prog 20 #[.agg #[V0, V1]] w (DeepEnd s w) := by
  obtain ⟨⟨a0, c0, rfl, n0⟩, ⟨a1, c1, rfl, n1⟩⟩ := hs
  have b1 := (Below.refl _ w).alloc (Nat.le_refl _) (.cells #[.slice a0 s.consts.length c0, .slice a1 s.funcs.length c1] 25)
  have hG := straight_any s _ _ (w.alloc (.cells #[.slice a0 s.consts.length c0, .slice a1 s.funcs.length c1] 25)) ⟨⟨a0, c0, rfl, n0.keep (below_keep b1)⟩, ⟨a1, c1, rfl, n1.keep (below_keep b1)⟩⟩ hsf
  by_cases hx : s.right = true ∧ ¬ (ordS s.funcs.length (gF s)).isNone = true
  · obtain ⟨hr, ho⟩ := hx
    obtain ⟨r1, r2, r3⟩ := right_calls hr
    obtain ⟨i1, i2, i3, i4⟩ := graph_inn s
    have HG : Hid (Calls Try.prog 31 #[.agg #[.slice a0 s.consts.length c0, .slice a1 s.funcs.length c1]] (w.alloc (.cells #[.slice a0 s.consts.length c0, .slice a1 s.funcs.length c1] 25)) fun e w1 => ∃ ga gc mb m, e = .returned (.tuple #[.slice ga s.funcs.length gc, .map (some mb), .int .i64 0]) ∧ Hid (Below w.heap.size w w1 ∧ MapN w1 mb s.funcs.length (2 * s.funcs.length) m ∧ DeepIs s.funcs.length (gF s) (fun x => (m x).getD 0))) := hid7 (hG.mono fun e w1 ⟨h1, h2⟩ => by
      rw [if_pos hr, if_neg ho] at h2
      obtain ⟨ga, gc, mb, m, e1, h3, h4, h5⟩ := h2
      exact ⟨ga, gc, mb, m, e1, hid7 ⟨b1.trans (h1.mono b1.size), h4, wlk_deep i1 h5⟩⟩)
    have HEnd : Hid (∀ W lb (d : Nat → Nat), Below w.heap.size w W → DeepIs s.funcs.length (gF s) d → (∀ x < s.funcs.length, d x ≤ 1000) → Fill W lb 3 s.funcs.length (fun j => .int .i64 (d j : Nat)) → DeepEnd s w (.returned (.tuple #[.slice (some ⟨lb, 0, none⟩) s.funcs.length s.funcs.length, .int .i64 0])) W) := hid7 fun W lb d h1 h2 h3 h4 => by
      refine ⟨h1, ?_⟩
      rw [if_pos hr, if_neg ho]
      refine ⟨_, _, d, rfl, .inr ⟨lb, 0, rfl, fun j hj => ?_⟩, h2, h3⟩
      have hj2 : j < s.funcs.length := by simpa [deepL] using hj
      rw [Nat.zero_add, h4.cell hj2]
      simp [deepL]
    obtain ⟨fl, hfe⟩ : ∃ fl, fl = s.funcs.length := ⟨_, rfl⟩
    rw [← hfe] at HG HEnd r1 ⊢
    have HMk : Hid (∀ W : World, ∃ W2, (Instr.makeSlice 36 (.int .i64 (fl : Int)) (.int .i64 (fl : Int))).run Try.prog W = .ok (.slice (some ⟨W.heap.size, 0, none⟩) fl fl) W2 ∧ Fill W2 W.heap.size 3 fl (fun _ => .int .i64 0) ∧ Below W.heap.size W W2) := hid7 fun W => made8 W 36 3 (.int .i64 0) 8 fl Try.underlying36 (by kernel_rfl) rfl (by omega) (by omega)
    generalize s.consts.length = cl at HG ⊢
    clear hG hr ho r2 r3 i1 i2 i3 i4 n0 n1 hsf hfe b1
    go_enter Try.func20, Try.ntmps20
    go_wp2_with (first
      | (go_at_call 31; refine HG.out.mono ?_; clear HG; rintro e w1 ⟨ga, gc, mb, m, rfl, H1⟩; obtain ⟨w2, hm2, F2, b2⟩ := HMk.out w1; have hF2 := hid7 (And.intro F2 b2); clear HMk F2 b2)
      | fail)
    clear hm2
    go_loopw [23] (fun iv wr => ∃ k : Nat, iv = .int .i64 k ∧ k ≤ fl ∧ Hid (Fill wr w1.heap.size 3 fl (fun j => .int .i64 (if j < k then ((m j).getD 0 : Nat) else (0 : Int))) ∧ Below w1.heap.size w1 wr)) (fun iv _ => fl - (intOf iv).toNat)
    case atStart => exact ⟨0, rfl, Nat.zero_le _, hid7 ⟨hF2.out.1.congr fun j _ => by simp, hF2.out.2⟩⟩
    case round =>
      obtain ⟨k, rfl, hk, HL⟩ := hrel
      clear hF2
      by_cases hlt : k < fl
      · have g1 := HL.out.1.cell hlt
        have g2 := HL.out.1.frozen k
        rw [if_neg (by omega)] at g1
        have hl := (H1.out.2.1.keep (HL.out.2.block _ H1.out.2.1.lt)).at k (by omega)
        have L4 : Hid (Fill (wr.setCell ⟨w1.heap.size, k, none⟩ (.int .i64 ((m k).getD 0 : Nat))) w1.heap.size 3 fl (fun j => .int .i64 (if j < k + 1 then ((m j).getD 0 : Nat) else (0 : Int))) ∧ Below w1.heap.size w1 (wr.setCell ⟨w1.heap.size, k, none⟩ (.int .i64 ((m k).getD 0 : Nat)))) := hid7 ⟨(HL.out.1.set k _).congr fun j _ => by
          by_cases e : j = k
          · subst e; simp
          · rw [if_neg e]
            by_cases e2 : j < k
            · rw [if_pos e2, if_pos (by omega)]
            · rw [if_neg e2, if_neg (by omega)], HL.out.2.setCell (p := ⟨w1.heap.size, k, none⟩) (Nat.le_refl _) _⟩
        generalize (m k).getD 0 = mk at hl L4
        clear HL H1 HEnd
        go_wp2_with fail
        exact ⟨⟨k + 1, by go_num, by omega, L4⟩, by simp [intOf]; omega⟩
      · obtain rfl : k = fl := by omega
        obtain ⟨q1, q2, q3⟩ := H1.out
        have HE := hid7 (HEnd.out wr w1.heap.size (fun x => (m x).getD 0) (q1.trans (HL.out.2.mono q1.size)) q3 (fun x _ => by
          obtain ⟨D, N, _, _, _, _, q4⟩ := q2
          cases e : m x with
          | none => simp
          | some v => have := (q4 x v e).2.1; simp; omega) (HL.out.1.congr fun j hj => by rw [if_pos hj]))
        clear HL H1 HEnd q1 q2 q3
        go_wp2_with fail
        go_ret2
        exact HE.out
  · have HG : Hid (Calls Try.prog 31 #[.agg #[.slice a0 s.consts.length c0, .slice a1 s.funcs.length c1]] (w.alloc (.cells #[.slice a0 s.consts.length c0, .slice a1 s.funcs.length c1] 25)) fun e w1 => ∃ c : Int, (c != 0) = true ∧ e = .returned (.tuple #[.slice none 0 0, .map none, .int .i64 c]) ∧ Hid (DeepEnd s w (.returned (.tuple #[.slice none 0 0, .int .i64 c])) w1)) := hid7 (hG.mono fun e w1 ⟨h1, h2⟩ => by
      have bb := b1.trans (h1.mono b1.size)
      by_cases hr : s.right = true
      · rw [if_pos hr] at h2
        have ho : (ordS s.funcs.length (gF s)).isNone = true := by
          cases e : (ordS s.funcs.length (gF s)).isNone with
          | true => rfl
          | false => exact absurd ⟨hr, by rw [e]; simp⟩ hx
        rw [if_pos ho] at h2
        exact ⟨34, by decide, h2, hid7 ⟨bb, by rw [if_pos hr, if_pos ho]⟩⟩
      · rw [if_neg hr] at h2
        exact ⟨30, by decide, h2, hid7 ⟨bb, by rw [if_neg hr]⟩⟩)
    clear hG hx n0 n1 hsf b1
    generalize s.consts.length = cl at HG ⊢
    generalize s.funcs.length = fl at HG ⊢
    go_enter Try.func20, Try.ntmps20
    go_wp2_with (first
      | (go_at_call 31; refine HG.out.mono ?_; clear HG; rintro e w1 ⟨c, hc, rfl, K1⟩)
      | fail)
    go_ret2
    exact K1.out
end Go.Proofs.Ytikomfbpaimnmaa
