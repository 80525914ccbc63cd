/- code.Right. asm.Print: its parts, plain and as calls. value.readBytes, guess, readWord. -/
import Derived.Test.YtbjipcpoiiegkaaGreatDoorAP
import Derived.Test.YtbjipcpoiiegkaaGreatDoorVTd
namespace Go.Proofs.YtbjipcpoiiegkaaGreatDoor
open Go.RowKit
set_option maxRecDepth 100000 in
set_option maxHeartbeats 2000000 in
theorem right4_any (s : Scr) (V0 V1 : Value) (w : World) (hs : ScIs w.cell? s V0 V1) (hsf : s.fits) : Calls Tryz.prog 44 #[.agg #[V0, V1]] w fun e w' => e = .returned (.bool s.right) ∧ Below w.heap.size w w' := by
  have hRL : ∀ (f : Fn) v0 v1 v2 v3 (W : World), FnIs W.cell? f v0 v1 v2 v3 → f.fits → Calls Tryz.prog 64 #[.agg #[v0, v1, v2, v3]] W fun e w' => e = .returned (.bool f.lists) ∧ Below W.heap.size W w' := fun f v0 v1 v2 v3 W h h' => rightLists_any f v0 v1 v2 v3 W h h'
  have hRC : ∀ (f : Fn) v0 v1 v2 v3 (W : World), (∀ a v, w.cell? a = some v → W.cell? a = some v) → FnIs W.cell? f v0 v1 v2 v3 → f.fits → Calls Tryz.prog 65 #[.agg #[V0, V1], .agg #[v0, v1, v2, v3]] W fun e w' => e = .returned (.bool (f.code.all (insOk s.consts.length s.funcs.length (f.p.length + f.l.length)))) ∧ Below W.heap.size W w' := fun f v0 v1 v2 v3 W hk h h' => rightCode_any s f V0 V1 v0 v1 v2 v3 W (hs.keep hk) h hsf h'
  obtain ⟨⟨A0, C0, rfl, h0⟩, ⟨A1, C1, rfl, h1⟩⟩ := hs
  obtain ⟨z0, z1, z2, z3⟩ := hsf
  obtain ⟨nc, hnc⟩ : ∃ n, n = s.consts.length := ⟨_, rfl⟩
  obtain ⟨nf, hnf⟩ : ∃ n, n = s.funcs.length := ⟨_, rfl⟩
  have HR : Hid (s.right = (decide (nc ≤ 32) && decide (1 ≤ nf) && decide (nf ≤ 16) && s.consts.all (fun c => decide (c.length ≤ 256)) && s.funcs.all (Fn.right nc nf))) := hid (by rw [hnc, hnf]; rfl)
  rw [← hnc] at z0 hRC ⊢
  rw [← hnf] at z1 hRC ⊢
  have HC := hid hnc
  have HF := hid hnf
  clear hnc hnf
  obtain ⟨W2, hW2⟩ : ∃ W2, W2 = w.alloc (.cells #[.slice A0 nc C0, .slice A1 nf C1] 39) := ⟨_, rfl⟩
  have hb2 : Below w.heap.size w W2 := by rw [hW2]; exact (Below.refl _ w).alloc (Nat.le_refl _) _
  have bA : W2.heap[w.heap.size]? = some (.cells #[.slice A0 nc C0, .slice A1 nf C1] 39 (0, 0)) := by rw [hW2]; exact heap_alloc_new w _
  have lA := (Array.getElem?_eq_some_iff.1 bA).1
  have pA0 : W2.cell? ⟨w.heap.size, 0, none⟩ = some (.slice A0 nc C0) := by rw [Lib.cell_of_heap bA]; rfl
  have pA1 : W2.cell? ⟨w.heap.size, 1, none⟩ = some (.slice A1 nf C1) := by rw [Lib.cell_of_heap bA]; rfl
  replace h0 := h0.keep (below_keep hb2)
  replace h1 := h1.keep (below_keep hb2)
  by_cases d0 : nc ≤ 32
  · by_cases d1 : 1 ≤ nf
    · by_cases d2 : nf ≤ 16
      · have HR' : Hid (s.right = (s.consts.all (fun c => decide (c.length ≤ 256)) && s.funcs.all (Fn.right nc nf))) := hid (by rw [HR.out]; simp [d0, d1, d2])
        clear HR
        go_enter Tryz.func44, Tryz.ntmps44
        go_wp2_with fail
        rw [← hW2]
        clear hW2
        go_loopw [26] (fun i wr => ∃ k : Nat, k ≤ nc ∧ i = .int .i64 k ∧ Hid (∀ (j : Nat) (h : j < s.consts.length), j < k → decide (s.consts[j].length ≤ 256) = true) ∧ wr = W2) (fun i _ => nc - (intOf i).toNat)
        case atStart => exact ⟨0, Nat.zero_le _, rfl, hid (by omega), rfl⟩
        case round =>
          obtain ⟨k, hk, rfl, hr, hw⟩ := hrel
          replace hw := hw.symm
          subst hw
          by_cases hlt : k < nc
          · rcases h0 with hz | ⟨x0, o0, rfl, hc0⟩
            · have := HC.out; rw [hz] at this; simp at this; omega
            have kl : k < s.consts.length := by have := HC.out; omega
            have q0 := hc0 k kl
            have hzz := z3 s.consts[k] (by simp)
            have HS : Hid (decide (s.consts[k].length ≤ 256) = false → s.right = false) := hid fun h => by rw [HR'.out, all_stop (p := fun (c : List UInt8) => decide (c.length ≤ 256)) kl h]; rfl
            have HT : Hid (decide (s.consts[k].length ≤ 256) = true → ∀ (j : Nat) (h : j < s.consts.length), j < k + 1 → decide (s.consts[j].length ≤ 256) = true) := hid fun h j h1 hjk => by
              rcases Nat.lt_or_ge j k with h3 | h3
              · exact hr.out j h1 h3
              · obtain rfl : j = k := by omega
                exact h
            generalize s.consts[k] = x at q0 HS HT hzz
            clear hc0
            by_cases hx : x.length ≤ 256
            · have HE := hid (HT.out (decide_eq_true hx))
              clear HS HT
              go_wp2_with fail
              exact ⟨⟨k + 1, by omega, by go_num, HE, by first | rfl | trivial⟩, by simp [intOf]; omega⟩
            · have hx' : 256 < x.length := by omega
              have HE := hid (HS.out (decide_eq_false hx))
              clear HS HT
              go_wp2_with fail
              go_ret
              exact ⟨by rw [HE.out]; rfl, hb2⟩
          · have HA : Hid (s.right = s.funcs.all (Fn.right nc nf)) := hid (by
              have : s.consts.all (fun c => decide (c.length ≤ 256)) = true := List.all_eq_true.2 fun z hz => by
                obtain ⟨i, hi, rfl⟩ := List.getElem_of_mem hz
                exact hr.out i hi (by have := HC.out; omega)
              rw [HR'.out, this]
              rfl)
            clear hr HR'
            go_wp2_with fail
            go_loopw [37] (fun i w5 => ∃ k : Nat, k ≤ nf ∧ i = .int .i64 k ∧ Hid (∀ (j : Nat) (h : j < s.funcs.length), j < k → Fn.right nc nf s.funcs[j] = true) ∧ Below W2.heap.size W2 w5) (fun i _ => nf - (intOf i).toNat)
            case atStart => exact ⟨0, Nat.zero_le _, rfl, hid (by omega), Below.refl _ _⟩
            case round =>
              obtain ⟨k, hk, rfl, hr, hbr⟩ := hrel
              have hbw := hb2.trans (hbr.mono hb2.size)
              by_cases hlt : k < nf
              · rcases h1 with hz | ⟨x0, o0, rfl, hc0⟩
                · have := HF.out; rw [hz] at this; simp at this; omega
                have kl : k < s.funcs.length := by have := HF.out; omega
                obtain ⟨v0, v1, v2, v3, q0, q1, q2, q3, hfn⟩ := hc0 k kl
                have ff := z2 s.funcs[k] (by simp)
                have HS : Hid (Fn.right nc nf s.funcs[k] = false → s.right = false) := hid fun h => by rw [HA.out, all_stop kl h]
                have HT : Hid (Fn.right nc nf s.funcs[k] = true → ∀ (j : Nat) (h : j < s.funcs.length), j < k + 1 → Fn.right nc nf s.funcs[j] = true) := hid fun h j h1 hjk => by
                  rcases Nat.lt_or_ge j k with h3 | h3
                  · exact hr.out j h1 h3
                  · obtain rfl : j = k := by omega
                    exact h
                generalize s.funcs[k] = f at hfn HS HT ff
                have hkp := below_keep hbr
                replace q0 := hkp _ _ q0
                replace q1 := hkp _ _ q1
                replace q2 := hkp _ _ q2
                replace q3 := hkp _ _ q3
                replace hfn := hfn.keep hkp
                clear hc0 hkp
                obtain ⟨⟨fa0, fc0, rfl, F0⟩, ⟨fa1, fc1, rfl, F1⟩, ⟨fa2, fc2, rfl, F2⟩, ⟨fa3, fc3, rfl, F3⟩⟩ := hfn
                have HFR : Hid (Fn.right nc nf f = (f.lists && f.code.all (insOk nc nf (f.p.length + f.l.length)))) := hid rfl
                obtain ⟨W4, hW4⟩ : ∃ W4, W4 = wr.alloc (.cells #[.slice fa0 f.p.length fc0, .slice fa1 f.r.length fc1, .slice fa2 f.l.length fc2, .slice fa3 f.code.length fc3] 32) := ⟨_, rfl⟩
                have hb4 : Below wr.heap.size wr W4 := by rw [hW4]; exact (Below.refl _ wr).alloc (Nat.le_refl _) _
                have b4 : W4.heap[wr.heap.size]? = some (.cells #[.slice fa0 f.p.length fc0, .slice fa1 f.r.length fc1, .slice fa2 f.l.length fc2, .slice fa3 f.code.length fc3] 32 (0, 0)) := by rw [hW4]; exact heap_alloc_new wr _
                have l4 := (Array.getElem?_eq_some_iff.1 b4).1
                have bA4 := (hb4.block _ (Nat.lt_of_lt_of_le lA hbr.size)).trans ((hbr.block _ lA).trans bA)
                have hFn4 : FnIs W4.cell? f (.slice fa0 f.p.length fc0) (.slice fa1 f.r.length fc1) (.slice fa2 f.l.length fc2) (.slice fa3 f.code.length fc3) := FnIs.keep ⟨⟨fa0, fc0, rfl, F0⟩, ⟨fa1, fc1, rfl, F1⟩, ⟨fa2, fc2, rfl, F2⟩, ⟨fa3, fc3, rfl, F3⟩⟩ (below_keep hb4)
                have hL := hRL f _ _ _ _ W4 hFn4 ff
                have hbW4 : Below w.heap.size w W4 := hbw.trans (hb4.mono hbw.size)
                have hbR4 : Below W2.heap.size W2 W4 := hbr.trans (hb4.mono hbr.size)
                have hC : ∀ W, Below W4.heap.size W4 W → Calls Tryz.prog 65 #[.agg #[.slice A0 nc C0, .slice (some ⟨x0, o0, none⟩) nf C1], .agg #[.slice fa0 f.p.length fc0, .slice fa1 f.r.length fc1, .slice fa2 f.l.length fc2, .slice fa3 f.code.length fc3]] W fun e w' => e = .returned (.bool (f.code.all (insOk nc nf (f.p.length + f.l.length)))) ∧ Below W.heap.size W w' := fun W hW => hRC f _ _ _ _ W (below_keep (hbW4.trans (hW.mono hbW4.size))) (hFn4.keep (below_keep hW)) ff
                clear hRC hRL
                generalize f.code.all (insOk nc nf (f.p.length + f.l.length)) = r2 at hC HFR
                generalize f.lists = r1 at hL HFR
                generalize f.p.length = n0 at *
                generalize f.r.length = n1 at *
                generalize f.l.length = n2 at *
                generalize f.code.length = n3 at *
                have hcells : ∀ W, Below W4.heap.size W4 W → (W.cell? ⟨wr.heap.size, 0, none⟩ = some (.slice fa0 n0 fc0) ∧ W.cell? ⟨wr.heap.size, 1, none⟩ = some (.slice fa1 n1 fc1) ∧ W.cell? ⟨wr.heap.size, 2, none⟩ = some (.slice fa2 n2 fc2) ∧ W.cell? ⟨wr.heap.size, 3, none⟩ = some (.slice fa3 n3 fc3)) ∧ W.cell? ⟨w.heap.size, 0, none⟩ = some (.slice A0 nc C0) ∧ W.cell? ⟨w.heap.size, 1, none⟩ = some (.slice (some ⟨x0, o0, none⟩) nf C1) := fun W hW => by
                  have e4 := (hW.block _ l4).trans b4
                  have eA := (hW.block _ (Array.getElem?_eq_some_iff.1 bA4).1).trans bA4
                  exact ⟨⟨by rw [Lib.cell_of_heap e4]; rfl, by rw [Lib.cell_of_heap e4]; rfl, by rw [Lib.cell_of_heap e4]; rfl, by rw [Lib.cell_of_heap e4]; rfl⟩, by rw [Lib.cell_of_heap eA]; rfl, by rw [Lib.cell_of_heap eA]; rfl⟩
                obtain ⟨⟨k0, k1, k2, k3⟩, k4, k5⟩ := hcells W4 (Below.refl _ _)
                go_upto_region 12 with fail
                rw [← hW4]
                clear hW4 q0 q1 q2 q3
                cases r1 with
                | false =>
                  have HE := hid (HS.out (by rw [HFR.out]; rfl))
                  go_wp2_with (go_at_call 64; refine hL.mono ?_; rintro e w6 ⟨rfl, hb6⟩)
                  go_ret
                  exact ⟨by rw [HE.out]; rfl, hbW4.trans (hb6.mono hbW4.size)⟩
                | true =>
                  cases r2 with
                  | false =>
                    have HE := hid (HS.out (by rw [HFR.out]; rfl))
                    go_wp2_with (first | (go_at_call 64; refine hL.mono ?_; rintro e w6 ⟨rfl, hb6⟩; obtain ⟨⟨j0, j1, j2, j3⟩, j4, j5⟩ := hcells w6 hb6) | (go_at_call 65; refine (hC _ hb6).mono ?_; rintro e w7 ⟨rfl, hb7⟩))
                    go_ret
                    exact ⟨by rw [HE.out]; rfl, (hbW4.trans (hb6.mono hbW4.size)).trans (hb7.mono (Nat.le_trans hbW4.size hb6.size))⟩
                  | true =>
                    have HE := hid (HT.out (by rw [HFR.out]; rfl))
                    go_wp2_with (first | (go_at_call 64; refine hL.mono ?_; rintro e w6 ⟨rfl, hb6⟩; obtain ⟨⟨j0, j1, j2, j3⟩, j4, j5⟩ := hcells w6 hb6) | (go_at_call 65; refine (hC _ hb6).mono ?_; rintro e w7 ⟨rfl, hb7⟩))
                    exact ⟨⟨k + 1, by omega, by go_num, HE, (hbR4.trans (hb6.mono hbR4.size)).trans (hb7.mono (Nat.le_trans hbR4.size hb6.size))⟩, by simp [intOf]; omega⟩
              · have HE : Hid (s.right = true) := hid (by
                  rw [HA.out]
                  exact List.all_eq_true.2 fun z hz => by
                    obtain ⟨i, hi, rfl⟩ := List.getElem_of_mem hz
                    exact hr.out i hi (by have := HF.out; omega))
                go_wp2_with fail
                go_ret
                exact ⟨by rw [HE.out]; rfl, hbw⟩
      · have HE : Hid (s.right = false) := hid (by rw [HR.out]; simp [d2])
        go_enter Tryz.func44, Tryz.ntmps44
        go_wp2_with fail
        go_ret
        exact ⟨by rw [HE.out]; rfl, by rw [← hW2]; exact hb2⟩
    · have HE : Hid (s.right = false) := hid (by rw [HR.out]; simp [d1])
      have d1' : (nf : Int) < 1 := by omega
      go_enter Tryz.func44, Tryz.ntmps44
      go_wp2_with fail
      go_ret
      exact ⟨by rw [HE.out]; rfl, by rw [← hW2]; exact hb2⟩
  · have HE : Hid (s.right = false) := hid (by rw [HR.out]; simp [d0])
    go_enter Tryz.func44, Tryz.ntmps44
    go_wp2_with fail
    go_ret
    exact ⟨by rw [HE.out]; rfl, by rw [← hW2]; exact hb2⟩
end Go.Proofs.YtbjipcpoiiegkaaGreatDoor
namespace Go.Proofs.YtbjipcpoiiegkaaGreatDoor
open Go.RowKit
theorem oth_alloc {b : Nat} {w : World} (o : Obj) {w' : World} (h : Oth b (w.alloc o) w') : Oth b w w' := fun k x hk h1 h2 => h k x ((Below.heap_alloc w o k (lt_of_block hk)).trans hk) h1 h2
theorem put_one (B b : Nat) (bs x : List UInt8) (w : World) (hB : Bl B b bs w) (hBw : B ≤ w.heap.size) (hx : x.length ≤ 100000) (hbs : bs.length ≤ 1000000) :
    Calls Tryz.prog 46 #[.pointer (some ⟨b, 0, none⟩), .slice (some ⟨w.heap.size, 0, none⟩) 1 1] (w.alloc (.cells #[.string ⟨x.toArray⟩] 9)) fun e w' => e = .returned (.tuple #[]) ∧ Bl B b (bs ++ (x ++ [10])) w' ∧ Below B w w' ∧ Oth b w w' := by
  have hc := heap_alloc_new w (.cells #[.string ⟨x.toArray⟩] 9)
  have ha := (Below.refl _ w).alloc (Nat.le_refl _) (.cells #[.string ⟨x.toArray⟩] 9)
  have hj : Lib.join [x] [32] = x := by simp [Lib.join]
  have h := putLine_any B b bs w.heap.size 1 1 [x] rfl _ (hB.below ha) (Nat.le_trans hBw ha.size) (by
    intro j hj
    rw [Lib.cell_of_heap hc j]
    rcases j with _ | j
    · rfl
    · simp at hj) (lt_of_block hc) (by omega) (by omega) (by rw [hj]; omega) (by omega)
  rw [hj] at h
  refine h.mono ?_
  rintro e w' ⟨rfl, h1, h2, h3⟩
  exact ⟨rfl, by rw [← List.append_assoc]; exact h1, (ha.mono hBw).trans h2, oth_alloc _ h3⟩
theorem put_two (B b : Nat) (bs y x : List UInt8) (w : World) (hB : Bl B b bs w) (hBw : B ≤ w.heap.size) (hy : y.length ≤ 100000) (hx : x.length ≤ 100000) (hbs : bs.length ≤ 1000000) :
    Calls Tryz.prog 46 #[.pointer (some ⟨b, 0, none⟩), .slice (some ⟨w.heap.size, 0, none⟩) 2 2] (w.alloc (.cells #[.string ⟨y.toArray⟩, .string ⟨x.toArray⟩] 9)) fun e w' => e = .returned (.tuple #[]) ∧ Bl B b (bs ++ (y ++ 32 :: x ++ [10])) w' ∧ Below B w w' ∧ Oth b w w' := by
  have hc := heap_alloc_new w (.cells #[.string ⟨y.toArray⟩, .string ⟨x.toArray⟩] 9)
  have ha := (Below.refl _ w).alloc (Nat.le_refl _) (.cells #[.string ⟨y.toArray⟩, .string ⟨x.toArray⟩] 9)
  have h := putLine_any B b bs w.heap.size 2 2 [y, x] rfl _ (hB.below ha) (Nat.le_trans hBw ha.size) (by
    intro j hj
    rw [Lib.cell_of_heap hc j]
    rcases j with _ | _ | j
    · rfl
    · rfl
    · simp at hj; omega) (lt_of_block hc) (by omega) (by omega) (by rw [join_pair]; simp; omega) (by omega)
  rw [join_pair] at h
  refine h.mono ?_
  rintro e w' ⟨rfl, h1, h2, h3⟩
  exact ⟨rfl, by rw [← List.append_assoc]; exact h1, (ha.mono hBw).trans h2, oth_alloc _ h3⟩
/-- The lines of a constant, an instruction, a function; a script's text. -/
def constT (c : List UInt8) : List UInt8 := [99, 111, 110, 115, 116] ++ 32 :: hexWord c ++ [10]
def lineT (x : Int × Int) : List UInt8 := lineS x ++ [10]
def fnT (f : Fn) : List UInt8 := headS f ++ [10] ++ f.code.flatMap lineT
def printT (s : Scr) : List UInt8 := s.consts.flatMap constT ++ s.funcs.flatMap fnT
def printS (s : Scr) : List UInt8 := if s.right = true then printT s else []
theorem flat_le {α : Type} {g : α → List UInt8} {M : Nat} : ∀ {l : List α}, (∀ x ∈ l, (g x).length ≤ M) → (l.flatMap g).length ≤ l.length * M
  | [], _ => by simp
  | a :: r, h => by
    have h1 := h a (by simp)
    have h2 := flat_le (l := r) fun x hx => h x (List.mem_cons_of_mem _ hx)
    simp only [List.flatMap_cons, List.length_append, List.length_cons, Nat.succ_mul]
    omega
theorem flat_snoc {α : Type} (g : α → List UInt8) (l : List α) (k : Nat) (h : k < l.length) : (l.take (k + 1)).flatMap g = (l.take k).flatMap g ++ g l[k] := by
  rw [List.take_add_one, List.getElem?_eq_getElem h, List.flatMap_append]
  simp
structure SmallF (f : Fn) : Prop where
  p : f.p.length ≤ 8
  r : f.r.length ≤ 8
  l : f.l.length ≤ 16
  c : f.code.length ≤ 256
  x : ∀ x ∈ f.code, -9223372036854775808 ≤ x.2 ∧ x.2 ≤ 9223372036854775807
structure Small (s : Scr) : Prop where
  c : s.consts.length ≤ 32
  f : s.funcs.length ≤ 16
  cs : ∀ c ∈ s.consts, c.length ≤ 256
  fs : ∀ f ∈ s.funcs, SmallF f
theorem ins_range {nc nf sl : Nat} {x : Int × Int} (h1 : nc ≤ 32) (h2 : nf ≤ 16) (h3 : sl ≤ 16) (h : insOk nc nf sl x = true) : -9223372036854775808 ≤ x.2 ∧ x.2 ≤ 9223372036854775807 := by
  simp only [insOk, Bool.and_eq_true, decide_eq_true_eq] at h
  obtain ⟨⟨⟨_, _⟩, ha⟩, hb⟩ := h
  revert ha hb
  unfold boundsN
  repeat' split
  all_goals (intro ha hb; simp only at ha hb; omega)
theorem small_of {s : Scr} (h : s.right = true) : Small s := by
  simp only [Scr.right, Bool.and_eq_true, decide_eq_true_eq, List.all_eq_true] at h
  obtain ⟨⟨⟨⟨h1, _⟩, h2⟩, h3⟩, h4⟩ := h
  refine ⟨h1, h2, fun c hc => h3 c hc, fun f hf => ?_⟩
  have := h4 f hf
  simp only [Fn.right, Fn.lists, Bool.and_eq_true, decide_eq_true_eq, List.all_eq_true] at this
  obtain ⟨⟨⟨⟨⟨a1, a2⟩, a3⟩, a4⟩, _⟩, a5⟩ := this
  exact ⟨a1, a2, by omega, a4, fun x hx => ins_range h1 h2 a3 (a5 x hx)⟩
theorem hexWord_len (c : List UInt8) : (hexWord c).length = 2 * c.length + 3 := by
  have := hex_length c
  simp only [hexWord, List.length_append, List.length_cons, List.length_nil]
  omega
theorem constT_le {c : List UInt8} (h : c.length ≤ 256) : (constT c).length ≤ 600 := by simp [constT, hexWord_len]; omega
theorem lineT_le {x : Int × Int} (h : -9223372036854775808 ≤ x.2 ∧ x.2 ≤ 9223372036854775807) : (lineT x).length ≤ 43 := by
  have := lineS_len x h.1 h.2
  simp [lineT]; omega
theorem headS_le {f : Fn} (h : SmallF f) : (headS f).length ≤ 300 := by
  have h0 := rowW_len f.p
  have h1 := rowW_len f.r
  have h2 := rowW_len f.l
  have := h.p; have := h.r; have := h.l
  unfold headS
  split
  · simp [headW]; omega
  · simp
theorem fnT_le {f : Fn} (h : SmallF f) : (fnT f).length ≤ 12000 := by
  have h0 := headS_le h
  have h1 := flat_le (l := f.code) (g := lineT) (M := 43) fun x hx => lineT_le (h.x x hx)
  have := h.c
  simp only [fnT, List.length_append, List.length_cons, List.length_nil]
  omega
theorem print_text {c : List UInt8} (h : c.length ≤ 256) : printOf [⟨2, 0, c⟩] = hexWord c := by simp [printOf, printList, Lib.join, Val.right, wordOf, h]
end Go.Proofs.YtbjipcpoiiegkaaGreatDoor
namespace Go.Proofs.YtbjipcpoiiegkaaGreatDoor
open Go.RowKit Go.Shelf
attribute [local go_sem high] eq_val eq_val0
/-- The bytes whose digits these are. -/
def unhex : List UInt8 → Option (List UInt8)
  | [] => some []
  | [_] => none
  | a :: b :: r => if Lib.indexByte hexDigits a < 0 ∨ Lib.indexByte hexDigits b < 0 then none else (unhex r).map (UInt8.ofNat (16 * (Lib.indexByte hexDigits a).toNat + (Lib.indexByte hexDigits b).toNat) :: ·)
/-- What readBytes reads. -/
def readB (s : List UInt8) : Option Val := if Lib.hasSuffix s [39] && (Lib.trimSuffix s [39]).length % 2 == 0 then (unhex (Lib.trimSuffix s [39])).map (⟨2, 0, ·⟩) else none

def ReadEnd (r : Option Val) (w : World) (e : Ending) (w' : World) : Prop := e = .returned (.tuple #[(r.getD ⟨0, 0, []⟩).v, .bool r.isSome]) ∧ Below w.heap.size w w'
theorem results_mixed {fn : Func} {t u : Tmp} {ty : TypeId} (h : fn.results = #[.cell t ty, .tmp u]) (tmps : Array Value) (P : Program) (w : World) (a : Addr) (v : Value) (ha : tmps[t]?.getD undef = .pointer (some a)) (hl : (loadVar ty a).run P w = .ok v w) :
    (results fn tmps).run P w = .ok (.tuple #[v, tmps[u]?.getD undef]) w := by
  simp [results, h, ha, asAddr, hl]
theorem ret_read {fn : Func} {R : Ending → World → Prop} {a : Act} {t u : Tmp} {w : World} {b : Nat} {x : Val} {ok : Bool} (h : fn.results = #[.cell t 54, .tmp u]) (ha : a.tmps[t]?.getD undef = .pointer (some ⟨b, 0, none⟩)) (hd : a.defers = []) (hu : a.tmps[u]?.getD undef = .bool ok) (hv : ValAt w b x) (hR : R (.returned (.tuple #[x.v, .bool ok])) w) : bodyPost Tryz.prog fn R .ret a w :=
  bodyPost_ret (by rw [results_mixed h _ _ _ _ _ ha (load_val hv), hu]) hd hR

/-- The result's box, still empty. -/
def Boxed3 (w : World) (b : Nat) : Prop := w.heap[b]? = some (Val.box ⟨0, 0, []⟩)
end Go.Proofs.YtbjipcpoiiegkaaGreatDoor
