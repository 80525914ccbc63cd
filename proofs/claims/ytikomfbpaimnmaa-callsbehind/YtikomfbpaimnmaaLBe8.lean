/- The law CallsBehind. -/
import Derived.Test.YtikomfbpaimnmaaXW
import Derived.Test.YtikomfbpaimnmaaLOr8
namespace Go.Proofs.Ytikomfbpaimnmaa
open Go.RowKit
theorem mx_set {m : Nat → Option Nat} {l l' : List Nat} (h : ∀ x, x ∈ l ↔ x ∈ l') : mx m l = mx m l' := by
  apply Nat.le_antisymm
  · exact mx_le l 0 (Nat.zero_le _) fun c hc => le_mx ((h c).1 hc)
  · exact mx_le l' 0 (Nat.zero_le _) fun c hc => le_mx ((h c).2 hc)
/-- The functions that the first k instructions call. -/
def callNat (cs : List (Int × Int)) (k : Nat) : List Nat := (callL (cs.take k)).map Int.toNat
theorem callNat_succ {cs : List (Int × Int)} {k : Nat} (h : k < cs.length) : callNat cs (k + 1) = callNat cs k ++ if cs[k].1 == 53 then [cs[k].2.toNat] else [] := by
  unfold callNat
  rw [callL_take h, List.map_append]
  congr 1
  split <;> rfl
theorem gF_row {s : Scr} {f : Nat} (hf : f < s.funcs.length) : gF s f = gRow s.funcs.length (s.funcs[f]).code := by
  unfold gF gOf
  rw [List.getD_eq_getElem?_getD, List.getElem?_eq_getElem (by simpa [graphS] using hf)]
  simp [graphS]
theorem callNat_mem {s : Scr} (hr : s.right = true) {f : Nat} (hf : f < s.funcs.length) (x : Nat) : x ∈ callNat (s.funcs[f]).code (s.funcs[f]).code.length ↔ x ∈ gF s f := by
  have h3 := ((right_calls hr).2.2 _ (List.getElem_mem hf)).2
  rw [gF_row hf]
  unfold callNat gRow
  rw [List.take_length, List.mem_map, List.mem_filter, List.mem_range, callsS_iff]
  constructor
  · rintro ⟨y, hy, rfl⟩
    have hy2 := hy
    obtain ⟨z, hz, e⟩ := List.mem_map.1 hy
    obtain ⟨hz1, hz2⟩ := List.mem_filter.1 hz
    obtain ⟨q1, q2⟩ := h3 z hz1 (by simpa using hz2)
    rw [e] at q1 q2
    refine ⟨by omega, ?_⟩
    rw [show ((y.toNat : Nat) : Int) = y by omega]
    exact hy2
  · rintro ⟨_, h⟩
    exact ⟨_, h, by simp⟩
/-- A call of a function: it is one of those that its row names. -/
theorem call_in {s : Scr} (hr : s.right = true) {f : Nat} (hf : f < s.funcs.length) {k : Nat} (hk : k < (s.funcs[f]).code.length) (h53 : ((s.funcs[f]).code[k]).1 = 53) : ∃ A : Nat, ((s.funcs[f]).code[k]).2 = A ∧ A < s.funcs.length ∧ A ∈ gF s f := by
  obtain ⟨q1, q2⟩ := ((right_calls hr).2.2 _ (List.getElem_mem hf)).2 _ (List.getElem_mem hk) h53
  refine ⟨((s.funcs[f]).code[k]).2.toNat, by omega, by omega, ?_⟩
  rw [← callNat_mem hr hf]
  unfold callNat
  rw [List.take_length]
  exact List.mem_map.2 ⟨_, List.mem_map.2 ⟨_, List.mem_filter.2 ⟨List.getElem_mem hk, by simp [h53]⟩, rfl⟩, rfl⟩
set_option maxRecDepth 100000 in
set_option maxHeartbeats 2000000 in
theorem behind8_err (s : Scr) (V0 V1 : Value) (w : World) (hs : ScIs w.cell? s V0 V1) (hsf : s.fits) (he : ¬ ordE s = 0) :
    Calls Try.prog 5 #[.agg #[V0, V1]] w fun e w' => e = .returned (.bool true) ∧ Below w.heap.size w w' := by
  obtain ⟨⟨a0, c0, rfl, n0⟩, ⟨a1, c1, rfl, n1⟩⟩ := hs
  have hs : ScIs w.cell? s (.slice a0 s.consts.length c0) (.slice a1 s.funcs.length c1) := ⟨⟨a0, c0, rfl, n0⟩, ⟨a1, c1, rfl, n1⟩⟩
  have b1 := (Below.refl _ w).alloc (Nat.le_refl _) (.cells #[.slice a0 s.consts.length c0, .slice a1 s.funcs.length c1] 25)
  have e0 := heap_alloc_new w (.cells #[.slice a0 s.consts.length c0, .slice a1 s.funcs.length c1] 25)
  have hol : (ordL s).length = 0 := by
    unfold ordL
    by_cases hr : s.right = true
    · rw [if_pos hr]
      cases ho : ordS s.funcs.length (gF s) with
      | none => rfl
      | some o => exact absurd (by rw [ordE, if_pos hr, ho]; rfl) he
    · rw [if_neg hr]; rfl
  have HC : Hid (Calls Try.prog 8 #[.agg #[.slice a0 s.consts.length c0, .slice a1 s.funcs.length c1]] (w.alloc (.cells #[.slice a0 s.consts.length c0, .slice a1 s.funcs.length c1] 25)) fun e w2 => ∃ b0 d0 b1 d1, e = .returned (.agg #[.slice b0 s.consts.length d0, .slice b1 s.funcs.length d1]) ∧
      Hid (Calls Try.prog 18 #[.agg #[.slice b0 s.consts.length d0, .slice b1 s.funcs.length d1]] w2 fun e w3 => ∃ oa oc, e = .returned (.tuple #[.slice oa 0 oc, .int .i64 (ordE s)]) ∧ (w3.cell? ⟨w.heap.size, 0, none⟩ = some (.slice a0 s.consts.length c0) ∧ w3.cell? ⟨w.heap.size, 1, none⟩ = some (.slice a1 s.funcs.length c1)) ∧ Hid (Below w.heap.size w w3))) := hid7 ((clone_at hs hsf _ b1).mono fun e w2 ⟨b0, d0, b1', d1, h1, h2⟩ => ⟨b0, d0, b1', d1, h1, hid7 ((order_any s _ _ _ h2.out.1 hsf).mono fun e w3 h3 => by
    obtain ⟨oa, oc, h4, _, h5⟩ := ord_end h3
    rw [hol] at h4
    have bb := h2.out.2.trans (h5.mono h2.out.2.size)
    have e3 := (bb.block _ (heap_lt e0)).trans e0
    exact ⟨oa, oc, h4, ⟨Lib.cell_of_heap e3 0, Lib.cell_of_heap e3 1⟩, hid7 (b1.trans (bb.mono b1.size))⟩)⟩)
  have HC2 : Hid (∀ W, Below w.heap.size w W → Calls Try.prog 8 #[.agg #[.slice a0 s.consts.length c0, .slice a1 s.funcs.length c1]] W fun e w2 => ∃ b0 d0 b1 d1, e = .returned (.agg #[.slice b0 s.consts.length d0, .slice b1 s.funcs.length d1]) ∧
      Hid (Calls Try.prog 20 #[.agg #[.slice b0 s.consts.length d0, .slice b1 s.funcs.length d1]] w2 fun e w3 => ∃ oa oc, e = .returned (.tuple #[.slice oa 0 oc, .int .i64 (ordE s)]) ∧ Hid (Below w.heap.size w w3))) := hid7 fun W hW => (clone_at hs hsf _ hW).mono fun e w2 ⟨b0, d0, b1', d1, h1, h2⟩ => ⟨b0, d0, b1', d1, h1, hid7 ((deep_any s _ _ _ h2.out.1 hsf).mono fun e w3 h3 => by
    obtain ⟨oa, oc, d, h4, _, _, h5⟩ := deep_end h3
    have hd0 : (dpL s d).length = 0 := by rw [dpL, if_neg he]; rfl
    rw [hd0] at h4
    exact ⟨oa, oc, h4, hid7 ((hW.trans (h2.out.2.mono hW.size)).trans (h5.mono (Nat.le_trans hW.size h2.out.2.size)))⟩)⟩
  have t1 : (ordE s != 0) = true := by simpa using he
  have t2 : (ordE s == ordE s) = true := by simp
  generalize ordE s = er at *
  clear hs n0 n1 hsf b1 e0 he hol
  generalize s.funcs.length = fl at HC HC2 ⊢
  generalize s.consts.length = cl at HC HC2 ⊢
  go_enter Try.func5, Try.ntmps5
  go_wp2_with (first
    | (go_at_call 8; refine HC.out.mono ?_; clear HC; rintro e w2 ⟨b0, d0, b1, d1, rfl, H2⟩)
    | (go_at_call 18; refine H2.out.mono ?_; clear H2; rintro e w3 ⟨oa, oc, rfl, ⟨s0, s1⟩, B3⟩; have HC3 := hid7 (HC2.out w3 B3.out); clear HC2)
    | (go_at_call 8; refine HC3.out.mono ?_; clear HC3; rintro e w4 ⟨b2, d2, b3, d3, rfl, H4⟩)
    | (go_at_call 20; refine H4.out.mono ?_; clear H4; rintro e w5 ⟨da, dc, rfl, B5⟩)
    | (go_at_call 12; refine (num8_any _ _).mono ?_; rintro e w10 ⟨rfl, w10e⟩; rw [w10e]; clear w10e)
    | (go_at_call 17; refine (knows8_any _).mono ?_; rintro e w11 ⟨rfl, b11⟩)
    | fail)
  go_ret
  exact ⟨by simp, B5.out.trans (b11.mono B5.out.size)⟩
theorem ordE_zero {s : Scr} (he : ordE s = 0) : s.right = true ∧ ∃ o, ordS s.funcs.length (gF s) = some o ∧ ordL s = o := by
  unfold ordE at he
  by_cases hr : s.right = true
  · rw [if_pos hr] at he
    cases ho : ordS s.funcs.length (gF s) with
    | none => rw [ho] at he; simp at he
    | some o => exact ⟨hr, o, rfl, by rw [ordL, if_pos hr, ho]; rfl⟩
  · rw [if_neg hr] at he; cases he
set_option maxRecDepth 100000 in
set_option maxHeartbeats 2000000 in
theorem behind8_ok (s : Scr) (V0 V1 : Value) (w : World) (hs : ScIs w.cell? s V0 V1) (hsf : s.fits) (he : ordE s = 0) :
    Calls Try.prog 5 #[.agg #[V0, V1]] w fun e w' => e = .returned (.bool true) ∧ Below w.heap.size w w' := by
  obtain ⟨⟨a0, c0, rfl, n0⟩, ⟨a1, c1, rfl, n1⟩⟩ := hs
  have hs : ScIs w.cell? s (.slice a0 s.consts.length c0) (.slice a1 s.funcs.length c1) := ⟨⟨a0, c0, rfl, n0⟩, ⟨a1, c1, rfl, n1⟩⟩
  have b1 := (Below.refl _ w).alloc (Nat.le_refl _) (.cells #[.slice a0 s.consts.length c0, .slice a1 s.funcs.length c1] 25)
  have e0 := heap_alloc_new w (.cells #[.slice a0 s.consts.length c0, .slice a1 s.funcs.length c1] 25)
  obtain ⟨hr, o, ho, hoL⟩ := ordE_zero he
  obtain ⟨hol, hot⟩ := ord_told ho
  have r1 := (right_calls hr).1
  have HC : Hid (Calls Try.prog 8 #[.agg #[.slice a0 s.consts.length c0, .slice a1 s.funcs.length c1]] (w.alloc (.cells #[.slice a0 s.consts.length c0, .slice a1 s.funcs.length c1] 25)) fun e w2 => ∃ b0 d0 b1 d1, e = .returned (.agg #[.slice b0 s.consts.length d0, .slice b1 s.funcs.length d1]) ∧
      Hid (Calls Try.prog 18 #[.agg #[.slice b0 s.consts.length d0, .slice b1 s.funcs.length d1]] w2 fun e w3 => ∃ oa oc, e = .returned (.tuple #[.slice oa s.funcs.length oc, .int .i64 0]) ∧ (w3.cell? ⟨w.heap.size, 0, none⟩ = some (.slice a0 s.consts.length c0) ∧ w3.cell? ⟨w.heap.size, 1, none⟩ = some (.slice a1 s.funcs.length c1)) ∧ Hid (Below w.heap.size w w3 ∧ NsAt w3.cell? oa (rowI o)))) := hid7 ((clone_at hs hsf _ b1).mono fun e w2 ⟨b0, d0, b1', d1, h1, h2⟩ => ⟨b0, d0, b1', d1, h1, hid7 ((order_any s _ _ _ h2.out.1 hsf).mono fun e w3 h3 => by
    obtain ⟨oa, oc, h4, h6, h5⟩ := ord_end h3
    rw [he, hoL, hol] at h4
    rw [hoL] at h6
    have bb := h2.out.2.trans (h5.mono h2.out.2.size)
    have e3 := (bb.block _ (heap_lt e0)).trans e0
    exact ⟨oa, oc, h4, ⟨Lib.cell_of_heap e3 0, Lib.cell_of_heap e3 1⟩, hid7 ⟨b1.trans (bb.mono b1.size), h6⟩⟩)⟩)
  have HC2 : Hid (∀ W, Below w.heap.size w W → Calls Try.prog 8 #[.agg #[.slice a0 s.consts.length c0, .slice a1 s.funcs.length c1]] W fun e w2 => ∃ b0 d0 b1 d1, e = .returned (.agg #[.slice b0 s.consts.length d0, .slice b1 s.funcs.length d1]) ∧
      Hid (Calls Try.prog 20 #[.agg #[.slice b0 s.consts.length d0, .slice b1 s.funcs.length d1]] w2 fun e w3 => ∃ da dc d, e = .returned (.tuple #[.slice da s.funcs.length dc, .int .i64 0]) ∧ Hid (Below W.heap.size W w3 ∧ NsAt w3.cell? da (deepL s d) ∧ DeepIs s.funcs.length (gF s) d ∧ ∀ x < s.funcs.length, d x ≤ 1000))) := hid7 fun W hW => (clone_at hs hsf _ hW).mono fun e w2 ⟨b0, d0, b1', d1, h1, h2⟩ => ⟨b0, d0, b1', d1, h1, hid7 ((deep_any s _ _ _ h2.out.1 hsf).mono fun e w3 h3 => by
    obtain ⟨da, dc, d, h4, h6, h7, h5⟩ := deep_end h3
    rw [he, dpL, if_pos he] at h4
    rw [dpL, if_pos he] at h6
    have hdl : (deepL s d).length = s.funcs.length := by simp [deepL]
    rw [hdl] at h4
    exact ⟨da, dc, d, h4, hid7 ⟨h2.out.2.trans (h5.mono h2.out.2.size), h6, h7 he⟩⟩)⟩
  have HFs : Hid (∀ W, Below w.heap.size w W → ∀ f (hf : f < s.funcs.length), ∃ fb fo, a1 = some ⟨fb, fo, none⟩ ∧ ∃ x3 c3, W.cell? ⟨fb, fo + f * 4 + 3, none⟩ = some (.slice x3 (s.funcs[f]).code.length c3) ∧ IsAt W.cell? x3 (s.funcs[f]).code) := hid7 fun W hW f hf => by
    rcases n1.keep (below_keep hW) with h | ⟨fb, fo, e, h⟩
    · rw [h] at hf; cases hf
    · obtain ⟨v0, v1, v2, v3, _, _, _, h4, h5⟩ := h f hf
      obtain ⟨_, _, _, a3, c3, e3, i3⟩ := h5
      exact ⟨fb, fo, e, a3, c3, by rw [h4, e3], i3⟩
  have HR := hid7 (And.intro hr (And.intro hol hot))
  have hmk : ∀ W : World, (Instr.makeMap 46 none).run Try.prog W = .ok (.map (some W.heap.size)) (W.alloc (.map #[] 0)) := fun W => by kernel_rfl
  obtain ⟨n, hfe⟩ : ∃ fl, fl = s.funcs.length := ⟨_, rfl⟩
  have HFe := hid7 hfe
  rw [← hfe] at HC HC2 r1 ⊢
  generalize s.consts.length = cl at HC HC2 ⊢
  clear hs n0 n1 hsf b1 e0 he hol hot hr ho hoL hfe
  go_enter Try.func5, Try.ntmps5
  go_wp2_with (first
    | (go_at_call 8; refine HC.out.mono ?_; clear HC; rintro e w2 ⟨b0, d0, b1, d1, rfl, H2⟩)
    | (go_at_call 18; refine H2.out.mono ?_; clear H2; rintro e w3 ⟨oa, oc, rfl, ⟨s0, s1⟩, B3⟩; have HC3 := hid7 (HC2.out w3 B3.out.1); clear HC2)
    | (go_at_call 8; refine HC3.out.mono ?_; clear HC3; rintro e w4 ⟨b2, d2, b3, d3, rfl, H4⟩)
    | (go_at_call 20; refine H4.out.mono ?_; clear H4; rintro e w5 ⟨da, dc, d, rfl, B5⟩; have z1 := (B5.out.1.cell (World.block_lt_of_cell? w3 _ s1)).trans s1)
    | (go_at_call 12; refine (num8_any _ _).mono ?_; rintro e w10 ⟨rfl, w10e⟩; rw [w10e]; clear w10e)
    | fail)
  obtain ⟨hrt, hol, hot⟩ := HR.out
  have Bw5 := B3.out.1.trans (B5.out.1.mono B3.out.1.size)
  have HOr : Hid (∀ W, Below w5.heap.size w5 W → ∀ i (hi : i < o.length), ∃ ob oo, oa = some ⟨ob, oo, none⟩ ∧ W.cell? ⟨ob, oo + i, none⟩ = some (.int .i64 (o[i] : Nat))) := hid7 fun W hW i hi => by
    rcases B3.out.2.keep (below_keep B5.out.1) with h | ⟨b, oo, e, h⟩
    · rw [rowI, List.map_eq_nil_iff] at h; rw [h] at hi; cases hi
    · refine ⟨b, oo, e, ?_⟩
      have := h i (by simpa [rowI] using hi)
      have h2 := (hW.cell (World.block_lt_of_cell? w5 _ this)).trans this
      rw [h2]
      simp [rowI]
  have HDr : Hid (∀ W, Below w5.heap.size w5 W → ∀ x < n, ∃ db dd, da = some ⟨db, dd, none⟩ ∧ W.cell? ⟨db, dd + x, none⟩ = some (.int .i64 (d x : Nat))) := hid7 fun W hW x hx => by
    rcases B5.out.2.1 with h | ⟨b, dd, e, h⟩
    · have : n = 0 := by have := congrArg List.length h; rw [HFe.out]; simpa [deepL] using this
      omega
    · refine ⟨b, dd, e, ?_⟩
      have := h x (by simp [deepL]; rw [← HFe.out]; exact hx)
      have h2 := (hW.cell (World.block_lt_of_cell? w5 _ this)).trans this
      rw [h2]
      simp [deepL]
  have HSb : Hid (∀ W, Below w5.heap.size w5 W → W.cell? ⟨w.heap.size, 1, none⟩ = some (.slice a1 n c1)) := hid7 fun W hW => (hW.cell (World.block_lt_of_cell? w5 _ z1)).trans z1
  have HBw : Hid (∀ W, Below w5.heap.size w5 W → Below w.heap.size w W) := hid7 fun W hW => Bw5.trans (hW.mono Bw5.size)
  have HD := hid7 B5.out.2.2
  have hM0 : Hid (MapB (w5.alloc (.map #[] 0)) w5.heap.size n (fun x => (o.take 0).contains x) ∧ Below w5.heap.size w5 (w5.alloc (.map #[] 0))) := hid7 ⟨(MapB.new w5 n (by omega)).congr fun x => by simp, (Below.refl _ w5).alloc (Nat.le_refl _) _⟩
  clear B3 B5 s0 s1 z1 hmk Bw5 HR
  have HR := hid7 (And.intro hrt (And.intro hol hot))
  clear hrt hol hot
  go_loopw [8] (fun iv wr => ∃ i : Nat, iv = .int .i64 i ∧ i ≤ n ∧ Hid (MapB wr w5.heap.size n (fun x => (o.take i).contains x) ∧ Below w5.heap.size w5 wr)) (fun iv _ => n - (intOf iv).toNat)
  case atStart => exact ⟨0, rfl, Nat.zero_le _, hM0⟩
  case round =>
    obtain ⟨i, rfl, hi, HL⟩ := hrel
    clear hM0
    by_cases hin : i < n
    · have hio : i < o.length := by rw [HR.out.2.1, ← HFe.out]; exact hin
      obtain ⟨ob, oo, eoa, hof⟩ := HOr.out wr HL.out.2 i hio
      obtain ⟨tf, tn, tc⟩ := HR.out.2.2 i hio
      have tf2 : o[i] < s.funcs.length := tf
      rw [← HFe.out] at tf
      obtain ⟨db, dd, eda, hdf⟩ := HDr.out wr HL.out.2 o[i] tf
      have hDall : Hid (∀ x < n, wr.cell? ⟨db, dd + x, none⟩ = some (.int .i64 (d x : Nat))) := hid7 fun x hx => by
        obtain ⟨db', dd', e', h⟩ := HDr.out wr HL.out.2 x hx
        rw [eda] at e'
        cases e'
        exact h
      obtain ⟨fb, fo, ea1, x3, c3, hcode, hIs⟩ := HFs.out wr (HBw.out wr HL.out.2) o[i] tf2
      have hs1 := HSb.out wr HL.out.2
      have hlk := MapB.at (w := wr.drew) HL.out.1 o[i] (by omega)
      have hnt : (o.take i).contains o[i] = false := by rw [← Bool.not_eq_true, List.contains_iff_mem]; exact tn
      rw [hnt] at hlk
      have hDe := HD.out.1 o[i] tf
      have hDb := HD.out.2
      have HMx : Hid (mx (fun c => some (d c)) (callNat (s.funcs[o[i]]).code (s.funcs[o[i]]).code.length) + 1 = d o[i]) := hid7 (by rw [hDe, mx_set (callNat_mem HR.out.1 tf2)])
      have HCall : Hid (∀ k (hk : k < (s.funcs[o[i]]).code.length), ((s.funcs[o[i]]).code[k]).1 = 53 → ∃ A : Nat, ((s.funcs[o[i]]).code[k]).2 = A ∧ A < n ∧ (o.take i).contains A = true ∧ d A ≤ 1000) := hid7 fun k hk h53 => by
        obtain ⟨A, h1, h2, h3⟩ := call_in HR.out.1 tf2 hk h53
        exact ⟨A, h1, by rw [HFe.out]; exact h2, List.contains_iff_mem.2 (tc A h3), hDb A (by rw [HFe.out]; exact h2)⟩
      have hdo : d o[i] ≤ 1000 := hDb _ tf
      have hcl : (s.funcs[o[i]]).code.length ≤ 256 := ((right_calls HR.out.1).2.2 _ (List.getElem_mem tf2)).1
      have HPut : Hid (∀ W : World, W.heap = wr.heap → Below w5.heap.size w5 W → ∃ W2, (Instr.mapUpdate 46 (.map (some w5.heap.size)) (.int .i64 (o[i] : Nat)) (.bool true)).run Try.prog W = .ok () W2 ∧ Hid (MapB W2 w5.heap.size n (fun x => (o.take (i + 1)).contains x) ∧ Below w5.heap.size w5 W2)) := hid7 fun W hW hWb => by
        have hM : MapB W w5.heap.size n (fun x => (o.take i).contains x) := HL.out.1.keep (by rw [hW])
        obtain ⟨W2, q1, q2, q3, q4⟩ := hM.put o[i] tf
        refine ⟨W2, q1, hid7 ⟨q2.congr fun x => ?_, hWb.grown q3 hWb.size (fun q hq => by cases hq; exact Nat.le_refl _)⟩⟩
        rw [List.take_succ_eq_append_getElem hio, Bool.eq_iff_iff]
        simp only [bput, Bool.or_eq_true, beq_iff_eq, List.contains_iff_mem, List.mem_append, List.mem_singleton]
        exact Or.comm
      generalize (s.funcs[o[i]]).code = cs at *
      generalize o[i] = f at *
      subst eoa eda ea1
      clear HD HR HFs HDr HOr tn tc hDe hDb hnt tf2
      have t1 : decide ((f : Int) < 0) = false := by simp
      have t2 : decide (n ≤ f) = false := by simp; omega
      go_wp2_with fail
      go_region
      go_wp2_with fail
      go_region
      have HW2 : Hid (∃ W2, W2 = wr.drew.drew ∧ W2.heap = wr.heap ∧ Below w5.heap.size w5 W2 ∧ MapB W2 w5.heap.size n (fun x => (o.take i).contains x) ∧ IsAt W2.cell? x3 cs ∧ (∀ x < n, W2.cell? ⟨db, dd + x, none⟩ = some (.int .i64 (d x : Nat))) ∧ W2.cell? ⟨ob, oo + i, none⟩ = some (.int .i64 (f : Nat))) := hid7 ⟨_, rfl, rfl, HL.out.2.drew.drew, HL.out.1, hIs, fun x hx => hDall.out x hx, hof⟩
      obtain ⟨W2, hW2, e2, B2, M2, I2, D2, O2⟩ := HW2.out
      rw [← hW2]
      obtain ⟨w7, hu7, L7⟩ := HPut.out W2 e2 B2
      have hdf2 := D2 f tf
      obtain ⟨N, hN⟩ : ∃ N, N = cs.length := ⟨_, rfl⟩
      rw [← hN] at hcl hcode ⊢
      have HN := hid7 hN
      have HI2 := hid7 I2
      have HD2 := hid7 D2
      have HM2 := hid7 M2
      clear hW2 HW2 hlk hof hdf hs1 hDall hIs HL HPut t1 t2 I2 D2 M2 e2 hN hcode
      go_wp2_with fail
      go_loopw [9, 11] (fun nv kv wr => ∃ (k nn : Nat), nv = .int .i64 nn ∧ kv = .int .i64 k ∧ k ≤ N ∧ nn ≤ 1000 ∧ Hid (nn = mx (fun c => some (d c)) (callNat cs k)) ∧ W2 = wr) (fun _ kv _ => N - (intOf kv).toNat)
      case atStart => exact ⟨0, 0, rfl, rfl, Nat.zero_le _, by omega, hid7 (by simp [callNat, callL, mx]), rfl⟩
      case round =>
        obtain ⟨k, nn, rfl, rfl, hk, hnn, Hn, rfl⟩ := hrel
        by_cases hkN : k < N
        · have hkl : k < cs.length := by rw [← HN.out]; exact hkN
          have hS := callNat_succ hkl
          obtain ⟨b3, o3, e3, y0, y1⟩ : ∃ b3 o3, x3 = some ⟨b3, o3, none⟩ ∧ W2.cell? ⟨b3, o3 + k * 2, none⟩ = some (.int .i64 cs[k].1) ∧ W2.cell? ⟨b3, o3 + k * 2 + 1, none⟩ = some (.int .i64 cs[k].2) := by
            rcases HI2.out with h0 | ⟨b, off, e, h⟩
            · rw [h0] at hkl; cases hkl
            · exact ⟨b, off, e, h k hkl⟩
          subst e3
          by_cases h53 : cs[k].1 = 53
          · obtain ⟨A, hA1, hA2, hA3, hA4⟩ := HCall.out k hkl h53
            have hlA := MapB.at HM2.out A (by omega)
            rw [hA3] at hlA
            have hdA := HD2.out A hA2
            have HS : Hid (max nn (d A) = mx (fun c => some (d c)) (callNat cs (k + 1))) := hid7 (by
              rw [hS, h53, hA1]
              simp only [beq_self_eq_true, if_pos, Int.toNat_natCast]
              rw [mx_snoc, ← Hn.out]
              rfl)
            rw [h53] at y0
            rw [hA1] at y1
            generalize d A = dA at *
            clear hS HI2 HCall HM2 HD2 Hn hA1 hA3 HMx
            go_wp2_with fail
            exact ⟨⟨k + 1, max nn dA, by congr 1; omega, by go_num, by omega, by omega, HS, trivial⟩, by simp [intOf]; omega⟩
          · have HS : Hid (nn = mx (fun c => some (d c)) (callNat cs (k + 1))) := hid7 (by
              rw [hS, if_neg (by simpa using h53), List.append_nil]
              exact Hn.out)
            have t1 : (cs[k].1 != 53) = true := by simpa using h53
            generalize cs[k].1 = op1 at *
            generalize cs[k].2 = op2 at *
            clear hS HI2 HCall HM2 HD2 Hn HMx h53
            go_wp2_with fail
            exact ⟨⟨k + 1, nn, rfl, by go_num, by omega, hnn, HS, trivial⟩, by simp [intOf]; omega⟩
        · obtain rfl : k = N := by omega
          have hn2 : d f = nn + 1 := by rw [← HMx.out, Hn.out, HN.out]
          rw [hn2] at hdf2
          have hdf3 : W2.cell? ⟨db, dd + f, none⟩ = some (.int .i64 ((nn : Int) + 1)) := hdf2
          clear HI2 HCall HM2 HD2 Hn HMx hdf2 hn2
          go_wp2_with fail
          exact ⟨⟨i + 1, by go_num, by omega, L7⟩, by simp [intOf]; omega⟩
    · obtain rfl : i = n := by omega
      have HB := hid7 (HBw.out wr HL.out.2)
      clear HL HD HR HFs HDr HOr HBw HSb
      go_wp2_with (first
        | (go_at_call 17; refine (knows8_any _).mono ?_; rintro e w11 ⟨rfl, b11⟩)
        | fail)
      go_ret
      exact ⟨rfl, HB.out.trans (b11.mono HB.out.size)⟩
theorem behind8_law (s : Scr) (V0 V1 : Value) (w : World) (hs : ScIs w.cell? s V0 V1) (hsf : s.fits) :
    Calls Try.prog 5 #[.agg #[V0, V1]] w fun e w' => e = .returned (.bool true) ∧ Below w.heap.size w w' := by
  by_cases he : ordE s = 0
  · exact behind8_ok s V0 V1 w hs hsf he
  · exact behind8_err s V0 V1 w hs hsf he
end Go.Proofs.Ytikomfbpaimnmaa
