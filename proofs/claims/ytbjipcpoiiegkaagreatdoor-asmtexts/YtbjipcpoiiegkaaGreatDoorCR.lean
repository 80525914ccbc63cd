/- code.Right. The document's Name, Takes. What op's reckonings of numbers come to. value.Fits, Compare; op's fault, number, text, truth, answer. -/
import Derived.Test.YtbjipcpoiiegkaaGreatDoorCB
import Derived.Test.YtbjipcpoiiegkaaGreatDoorOT
import Derived.Deep.QuietTactic
import Derived.BigQuiet
import Derived.Deep.RegionWith
import Derived.Test.YtbjipcpoiiegkaaGreatDoorChecked
import Derived.WalkKit
import Derived.WalkSpells
import Derived.WalkLawsBesides
import Derived.Laws.BitsLemmas
import Derived.Handy
import Derived.Test.YtbjipcpoiiegkaaGreatDoorVA
namespace Go.Proofs.YtbjipcpoiiegkaaGreatDoor
open Go.RowKit
/-- Which number an operation takes. -/
def takesN (n : Int) : Int := if n = 1 then 1 else if n = 2 then 2 else if n = 9 then 3 else if n = 10 then 3 else if n = 51 then 4 else if n = 53 then 5 else 0
def boundsN (t : Int) (nc nf sl : Nat) : Int × Int := if t = 1 then (-9223372036854775808, 9223372036854775807) else if t = 2 then (0, (nc : Int) - 1) else if t = 3 then (0, (sl : Int) - 1) else if t = 4 then (1, 64) else if t = 5 then (0, (nf : Int) - 1) else (0, 0)
def kindOk (k : Int) : Bool := decide (1 ≤ k) && decide (k ≤ 3)
def insOk (nc nf sl : Nat) (x : Int × Int) : Bool := decide (1 ≤ x.1) && decide (x.1 ≤ 53) && decide ((boundsN (takesN x.1) nc nf sl).1 ≤ x.2) && decide (x.2 ≤ (boundsN (takesN x.1) nc nf sl).2)
def Fn.lists (f : Fn) : Bool := decide (f.p.length ≤ 8) && decide (f.r.length ≤ 8) && decide (f.p.length + f.l.length ≤ 16) && decide (f.code.length ≤ 256) && (f.p.all kindOk && f.r.all kindOk && f.l.all kindOk)
def Fn.right (nc nf : Nat) (f : Fn) : Bool := f.lists && f.code.all (insOk nc nf (f.p.length + f.l.length))
def Scr.right (s : Scr) : Bool := decide (s.consts.length ≤ 32) && decide (1 ≤ s.funcs.length) && decide (s.funcs.length ≤ 16) && s.consts.all (fun c => decide (c.length ≤ 256)) && s.funcs.all (Fn.right s.consts.length s.funcs.length)
set_option maxRecDepth 100000 in
theorem slotCount_any (f : Fn) (v0 v1 v2 v3 : Value) (w : World) (hf : FnIs w.cell? f v0 v1 v2 v3) (hfit : f.fits) : Calls Tryz.prog 82 #[.agg #[v0, v1, v2, v3]] w fun e w' => e = .returned (.int .i64 ((f.p.length + f.l.length : Nat) : Int)) ∧ Below w.heap.size w w' := by
  obtain ⟨⟨a0, c0, rfl, _⟩, ⟨a1, c1, rfl, _⟩, ⟨a2, c2, rfl, _⟩, ⟨a3, c3, rfl, _⟩⟩ := hf
  obtain ⟨z0, _, z2, _⟩ := hfit
  generalize f.p.length = n0 at *
  generalize f.l.length = n2 at *
  go_enter Tryz.func82, Tryz.ntmps82
  go_wp2
  go_ret
  exact ⟨by show Ending.returned (Value.int _ _) = _; congr 2, (Below.refl _ w).alloc (Nat.le_refl _) _⟩
set_option maxRecDepth 100000 in
theorem takes_all (n : Int) (w : World) : Calls Tryz.prog 26 #[.int .i64 n] w fun e w' => e = .returned (.int .i64 (takesN n)) ∧ w' = w := by
  unfold takesN
  go_enter Tryz.func26, Tryz.ntmps26
  go_wp2
  all_goals (go_ret; refine ⟨?_, rfl⟩; simp_all)
set_option maxRecDepth 100000 in
set_option maxHeartbeats 1000000 in
theorem bounds_any (t : Int) (s : Scr) (f : Fn) (V0 V1 v0 v1 v2 v3 : Value) (w : World) (hs : ScIs w.cell? s V0 V1) (hf : FnIs w.cell? f v0 v1 v2 v3) (hsf : s.fits) (hff : f.fits) : Calls Tryz.prog 84 #[.int .i64 t, .agg #[V0, V1], .agg #[v0, v1, v2, v3]] w fun e w' => e = .returned (.tuple #[.int .i64 (boundsN t s.consts.length s.funcs.length (f.p.length + f.l.length)).1, .int .i64 (boundsN t s.consts.length s.funcs.length (f.p.length + f.l.length)).2]) ∧ Below w.heap.size w w' := by
  have hSl := fun W (hk : ∀ a v, w.cell? a = some v → W.cell? a = some v) => slotCount_any f v0 v1 v2 v3 W (hf.keep hk) hff
  have hslots : f.p.length + f.l.length ≤ 35184372088832 := by have := hff.1; have := hff.2.2.1; omega
  obtain ⟨sl, hsl⟩ : ∃ sl, sl = f.p.length + f.l.length := ⟨_, rfl⟩
  rw [← hsl] at hSl hslots ⊢
  obtain ⟨⟨a0, c0, rfl, _⟩, ⟨a1, c1, rfl, _⟩, ⟨a2, c2, rfl, _⟩, ⟨a3, c3, rfl, _⟩⟩ := hf
  obtain ⟨⟨A0, C0, rfl, _⟩, ⟨A1, C1, rfl, _⟩⟩ := hs
  have z0 := hsf.1
  have z1 := hsf.2.1
  clear hsf hff hsl
  generalize s.consts.length = nc at *
  generalize s.funcs.length = nf at *
  generalize f.p.length = n0 at *
  generalize f.r.length = n1 at *
  generalize f.l.length = n2 at *
  generalize f.code.length = n3 at *
  have hb : ∀ (X Y : Obj), Below w.heap.size w ((w.alloc X).alloc Y) := fun X Y => ((Below.refl _ w).alloc (Nat.le_refl _) _).alloc (by simp) _
  by_cases h3 : t = 3
  · subst h3
    rw [show boundsN 3 nc nf sl = (0, (sl : Int) - 1) from rfl]
    go_enter Tryz.func84, Tryz.ntmps84
    go_wp2_with (go_at_call 82; refine (hSl _ (fun a v h => keepA _ _ _ _ (keepA _ _ _ _ h))).mono ?_; rintro e w' ⟨rfl, hb'⟩)
    go_ret2
    exact ⟨rfl, (hb _ _).trans (hb'.mono (by simp; omega))⟩
  clear hSl
  by_cases h1 : t = 1
  · subst h1
    rw [show boundsN 1 nc nf sl = (-9223372036854775808, 9223372036854775807) from rfl]
    go_enter Tryz.func84, Tryz.ntmps84
    go_wp2
    go_ret2
    exact ⟨rfl, hb _ _⟩
  by_cases h2 : t = 2
  · subst h2
    rw [show boundsN 2 nc nf sl = (0, (nc : Int) - 1) from rfl]
    go_enter Tryz.func84, Tryz.ntmps84
    go_wp2
    go_quiet (fail)
    go_wp2
    go_ret2
    exact ⟨rfl, below_draws2 (hb _ _) _⟩
  by_cases h4 : t = 4
  · subst h4
    rw [show boundsN 4 nc nf sl = (1, 64) from rfl]
    go_enter Tryz.func84, Tryz.ntmps84
    go_wp2
    go_ret2
    exact ⟨rfl, hb _ _⟩
  by_cases h5 : t = 5
  · subst h5
    rw [show boundsN 5 nc nf sl = (0, (nf : Int) - 1) from rfl]
    go_enter Tryz.func84, Tryz.ntmps84
    go_wp2
    go_quiet (fail)
    go_wp2
    go_ret2
    exact ⟨rfl, below_draws2 (hb _ _) _⟩
  have e1 : (t == 1) = false := by simp [h1]
  have e2 : (t == 2) = false := by simp [h2]
  have e3 : (t == 3) = false := by simp [h3]
  have e4 : (t == 4) = false := by simp [h4]
  have e5 : (t == 5) = false := by simp [h5]
  rw [show boundsN t nc nf sl = (0, 0) by simp [boundsN, h1, h2, h3, h4, h5]]
  go_enter Tryz.func84, Tryz.ntmps84
  go_wp2
  go_ret2
  exact ⟨rfl, hb _ _⟩
theorem all_stop {α : Type} {l : List α} {p : α → Bool} {k : Nat} (h : k < l.length) (hp : p l[k] = false) : l.all p = false := by
  cases ha : l.all p with
  | false => rfl
  | true => rw [List.all_eq_true.1 ha l[k] (by simp)] at hp; cases hp
set_option maxRecDepth 100000 in
set_option maxHeartbeats 1000000 in
theorem allTypes_any (b : Nat) (n : Nat) (X : List (List Int)) (hn : X.length = n) (hn' : n ≤ 1000) (w : World) (hX : ∀ k (h : k < X.length), ∃ a c, w.cell? ⟨b, k, none⟩ = some (.slice a X[k].length c) ∧ NsAt w.cell? a X[k] ∧ X[k].length ≤ 17592186044416) : Calls Tryz.prog 83 #[.slice (some ⟨b, 0, none⟩) n n] w fun e w' => e = .returned (.bool (X.all fun l => l.all kindOk)) ∧ w' = w := by
  go_enter Tryz.func83, Tryz.ntmps83
  go_wp2
  go_loopw [9] (fun i wr => ∃ k : Nat, k ≤ n ∧ i = .int .i64 k ∧ Hid (∀ (j : Nat) (h : j < X.length), j < k → X[j].all kindOk = true) ∧ wr = w) (fun i _ => n - (intOf i).toNat)
  case atStart => exact ⟨0, Nat.zero_le _, rfl, hid (by omega), rfl⟩
  case round =>
    obtain ⟨k, hk, rfl, hr, rfl⟩ := hrel
    by_cases hlt : k < n
    · obtain ⟨a, c, q, hN, hz⟩ := hX k (by omega)
      have HS : Hid (X[k].all kindOk = false → (X.all fun l => l.all kindOk) = false) := hid fun h => all_stop (l := X) (p := fun (l : List Int) => l.all kindOk) (k := k) (by omega) h
      have HT : Hid (X[k].all kindOk = true → ∀ j (h : j < X.length), j < k + 1 → X[j].all kindOk = true) := hid fun h j h1 hjk => by
        rcases Nat.lt_or_ge j k with h3 | h3
        · exact hr.out j h1 h3
        · obtain rfl : j = k := by omega
          exact h
      generalize X[k] = x at q hN hz HS HT
      obtain ⟨m, hm⟩ : ∃ m, m = x.length := ⟨_, rfl⟩
      rw [← hm] at q hz
      have HM := hid hm
      clear hX hm
      go_wp2
      go_loopw [15] (fun i w5 => ∃ j : Nat, j ≤ m ∧ i = .int .i64 j ∧ Hid (∀ (i : Nat) (h : i < x.length), i < j → kindOk x[i] = true) ∧ w5 = wr) (fun i _ => m - (intOf i).toNat)
      case atStart => exact ⟨0, Nat.zero_le _, rfl, hid (by omega), rfl⟩
      case round =>
        obtain ⟨j, hj, rfl, hrj, rfl⟩ := hrel
        by_cases hjl : j < m
        · rcases hN with hz' | ⟨bb, off, rfl, hc⟩
          · have := HM.out; rw [hz'] at this; simp at this; omega
          have jl : j < x.length := by have := HM.out; omega
          have c0 := hc j jl
          have HS' : Hid (kindOk x[j] = false → (X.all fun l => l.all kindOk) = false) := hid fun h => HS.out (all_stop jl h)
          have HT' : Hid (kindOk x[j] = true → ∀ i (h : i < x.length), i < j + 1 → kindOk x[i] = true) := hid fun h i h1 hij => by
            rcases Nat.lt_or_ge i j with h3 | h3
            · exact hrj.out i h1 h3
            · obtain rfl : i = j := by omega
              exact h
          generalize x[j] = y at c0 HS' HT'
          clear hc
          by_cases y1 : 1 ≤ y
          · by_cases y3 : y ≤ 3
            · go_wp2
              refine ⟨⟨j + 1, by omega, by go_num, hid (HT'.out (by simp [kindOk, y1, y3])), by first | rfl | trivial⟩, by simp [intOf]; omega⟩
            · have y3' : 3 < y := by omega
              go_wp2
              go_ret
              exact ⟨by rw [HS'.out (by simp [kindOk, y3])]; rfl, rfl⟩
          · have y1' : y < 1 := by omega
            go_wp2
            go_ret
            exact ⟨by rw [HS'.out (by simp [kindOk]; omega)]; rfl, rfl⟩
        · have HE : Hid (∀ j (h : j < X.length), j < k + 1 → X[j].all kindOk = true) := hid (HT.out (List.all_eq_true.2 fun z hz => by
            obtain ⟨i, hi, rfl⟩ := List.getElem_of_mem hz
            exact hrj.out i hi (by have := HM.out; omega)))
          go_wp2
          refine ⟨⟨k + 1, by omega, by go_num, HE, by first | rfl | trivial⟩, by simp [intOf]; omega⟩
    · have HE : Hid ((X.all fun l => l.all kindOk) = true) := hid (List.all_eq_true.2 fun z hz => by
        obtain ⟨i, hi, rfl⟩ := List.getElem_of_mem hz
        exact hr.out i hi (by omega))
      go_wp2
      go_ret
      exact ⟨by rw [HE.out]; rfl, rfl⟩
set_option maxRecDepth 100000 in
set_option maxHeartbeats 1000000 in
theorem rightLists_any (f : Fn) (v0 v1 v2 v3 : Value) (w : World) (hf : FnIs w.cell? f v0 v1 v2 v3) (hfit : f.fits) : Calls Tryz.prog 64 #[.agg #[v0, v1, v2, v3]] w fun e w' => e = .returned (.bool f.lists) ∧ Below w.heap.size w w' := by
  have hSl := fun W (hk : ∀ a v, w.cell? a = some v → W.cell? a = some v) => slotCount_any f v0 v1 v2 v3 W (hf.keep hk) hfit
  have hslots : f.p.length + f.l.length ≤ 35184372088832 := by have := hfit.1; have := hfit.2.2.1; omega
  obtain ⟨⟨a0, c0, rfl, g0⟩, ⟨a1, c1, rfl, g1⟩, ⟨a2, c2, rfl, g2⟩, ⟨a3, c3, rfl, _⟩⟩ := hf
  obtain ⟨z0, z1, z2, z3⟩ := hfit
  have hAT : ∀ W : World, (∀ a v, w.cell? a = some v → W.cell? a = some v) → Calls Tryz.prog 83 #[.slice (some ⟨W.heap.size, 0, none⟩) 3 3] (W.alloc (.cells #[.slice a0 f.p.length c0, .slice a1 f.r.length c1, .slice a2 f.l.length c2] 29)) fun e w' => e = .returned (.bool (f.p.all kindOk && f.r.all kindOk && f.l.all kindOk)) ∧ w' = W.alloc (.cells #[.slice a0 f.p.length c0, .slice a1 f.r.length c1, .slice a2 f.l.length c2] 29) := fun W hk => by
    have hn := heap_alloc_new W (.cells #[.slice a0 f.p.length c0, .slice a1 f.r.length c1, .slice a2 f.l.length c2] 29)
    have hkW := keepA W (.cells #[.slice a0 f.p.length c0, .slice a1 f.r.length c1, .slice a2 f.l.length c2] 29)
    have := allTypes_any W.heap.size 3 [f.p, f.r, f.l] rfl (by decide) (W.alloc (.cells #[.slice a0 f.p.length c0, .slice a1 f.r.length c1, .slice a2 f.l.length c2] 29)) (fun k h => by
      match k, h with
      | 0, _ => exact ⟨a0, c0, by rw [Lib.cell_of_heap hn]; rfl, (g0.keep hk).keep hkW, z0⟩
      | 1, _ => exact ⟨a1, c1, by rw [Lib.cell_of_heap hn]; rfl, (g1.keep hk).keep hkW, z1⟩
      | 2, _ => exact ⟨a2, c2, by rw [Lib.cell_of_heap hn]; rfl, (g2.keep hk).keep hkW, z2⟩
      | k + 3, h => simp at h; omega)
    simpa [Bool.and_assoc] using this
  have HL : Hid (f.lists = (decide (f.p.length ≤ 8) && decide (f.r.length ≤ 8) && decide (f.p.length + f.l.length ≤ 16) && decide (f.code.length ≤ 256) && (f.p.all kindOk && f.r.all kindOk && f.l.all kindOk))) := hid rfl
  generalize (f.p.all kindOk && f.r.all kindOk && f.l.all kindOk) = T at hAT HL
  generalize f.p.length = n0 at *
  generalize f.r.length = n1 at *
  generalize f.l.length = n2 at *
  generalize f.code.length = n3 at *
  have hb : ∀ (X : Obj), Below w.heap.size w (w.alloc X) := fun X => (Below.refl _ w).alloc (Nat.le_refl _) _
  by_cases d0 : n0 ≤ 8
  · by_cases d1 : n1 ≤ 8
    · by_cases d2 : n0 + n2 ≤ 16
      · by_cases d3 : n3 ≤ 256
        · have HL' : Hid (f.lists = T) := hid (by rw [HL.out]; simp [d0, d1, d2, d3])
          have d2' : (n0 : Int) + (n2 : Int) ≤ 16 := by omega
          go_enter Tryz.func64, Tryz.ntmps64
          go_wp2_with (first | (go_at_call 82; refine (hSl _ (fun a v h => keepA _ _ _ _ h)).mono ?_; rintro e w' ⟨rfl, hb'⟩; have hbw := (hb (.cells #[.slice a0 n0 c0, .slice a1 n1 c1, .slice a2 n2 c2, .slice a3 n3 c3] 32)).trans (hb'.mono (by simp)); have hbx := heap_alloc_new w (.cells #[.slice a0 n0 c0, .slice a1 n1 c1, .slice a2 n2 c2, .slice a3 n3 c3] 32); have hbx' := (hb'.block _ (by simp)).trans hbx; have k0 : w'.cell? ⟨w.heap.size, 0, none⟩ = some (.slice a0 n0 c0) := (by rw [Lib.cell_of_heap hbx']; rfl); have k1 : w'.cell? ⟨w.heap.size, 1, none⟩ = some (.slice a1 n1 c1) := (by rw [Lib.cell_of_heap hbx']; rfl); have k2 : w'.cell? ⟨w.heap.size, 2, none⟩ = some (.slice a2 n2 c2) := (by rw [Lib.cell_of_heap hbx']; rfl); have k3 : w'.cell? ⟨w.heap.size, 3, none⟩ = some (.slice a3 n3 c3) := (by rw [Lib.cell_of_heap hbx']; rfl)) | (go_at_call 83; refine (hAT _ (below_keep hbw)).mono ?_; rintro e w'' ⟨rfl, rfl⟩))
          go_ret
          exact ⟨by rw [HL'.out]; rfl, hbw.alloc hbw.size _⟩
        · have HL' : Hid (f.lists = false) := hid (by rw [HL.out]; simp [d3])
          have d2' : (n0 : Int) + (n2 : Int) ≤ 16 := by omega
          go_enter Tryz.func64, Tryz.ntmps64
          go_wp2_with (first | (go_at_call 82; refine (hSl _ (fun a v h => keepA _ _ _ _ h)).mono ?_; rintro e w' ⟨rfl, hb'⟩; have hbw := (hb (.cells #[.slice a0 n0 c0, .slice a1 n1 c1, .slice a2 n2 c2, .slice a3 n3 c3] 32)).trans (hb'.mono (by simp)); have hbx := heap_alloc_new w (.cells #[.slice a0 n0 c0, .slice a1 n1 c1, .slice a2 n2 c2, .slice a3 n3 c3] 32); have hbx' := (hb'.block _ (by simp)).trans hbx; have k3 : w'.cell? ⟨w.heap.size, 3, none⟩ = some (.slice a3 n3 c3) := (by rw [Lib.cell_of_heap hbx']; rfl)))
          go_ret
          exact ⟨by rw [HL'.out]; rfl, hbw⟩
      · have HL' : Hid (f.lists = false) := hid (by rw [HL.out]; simp [d2])
        have d2' : (16 : Int) < (n0 : Int) + (n2 : Int) := by omega
        go_enter Tryz.func64, Tryz.ntmps64
        go_wp2_with (first | (go_at_call 82; refine (hSl _ (fun a v h => keepA _ _ _ _ h)).mono ?_; rintro e w' ⟨rfl, hb'⟩; have hbw := (hb (.cells #[.slice a0 n0 c0, .slice a1 n1 c1, .slice a2 n2 c2, .slice a3 n3 c3] 32)).trans (hb'.mono (by simp))))
        go_ret
        exact ⟨by rw [HL'.out]; rfl, hbw⟩
    · have HL' : Hid (f.lists = false) := hid (by rw [HL.out]; simp [d1])
      go_enter Tryz.func64, Tryz.ntmps64
      go_wp2_with fail
      go_ret
      exact ⟨by rw [HL'.out]; rfl, hb _⟩
  · have HL' : Hid (f.lists = false) := hid (by rw [HL.out]; simp [d0])
    go_enter Tryz.func64, Tryz.ntmps64
    go_wp2_with fail
    go_ret
    exact ⟨by rw [HL'.out]; rfl, hb _⟩
end Go.Proofs.YtbjipcpoiiegkaaGreatDoor
namespace Go.Proofs.YtbjipcpoiiegkaaGreatDoor
open Go.RowKit
theorem cell_name4 (w : World) (k : Nat) (hk : k < 54) : (w.alloc (.cells #[.string ⟨#[]⟩, .string ⟨#[105, 110, 116]⟩, .string ⟨#[99, 111, 110, 115, 116]⟩, .string ⟨#[116, 114, 117, 101]⟩, .string ⟨#[102, 97, 108, 115, 101]⟩, .string ⟨#[100, 114, 111, 112]⟩, .string ⟨#[100, 117, 112]⟩, .string ⟨#[115, 119, 97, 112]⟩, .string ⟨#[111, 118, 101, 114]⟩, .string ⟨#[103, 101, 116]⟩, .string ⟨#[115, 101, 116]⟩, .string ⟨#[97, 100, 100]⟩, .string ⟨#[115, 117, 98]⟩, .string ⟨#[109, 117, 108]⟩, .string ⟨#[100, 105, 118]⟩, .string ⟨#[114, 101, 109]⟩, .string ⟨#[110, 101, 103]⟩, .string ⟨#[97, 110, 100]⟩, .string ⟨#[111, 114]⟩, .string ⟨#[120, 111, 114]⟩, .string ⟨#[105, 110, 118]⟩, .string ⟨#[115, 104, 108]⟩, .string ⟨#[115, 104, 114]⟩, .string ⟨#[101, 113]⟩, .string ⟨#[110, 101]⟩, .string ⟨#[108, 116]⟩, .string ⟨#[108, 101]⟩, .string ⟨#[103, 116]⟩, .string ⟨#[103, 101]⟩, .string ⟨#[98, 111, 116, 104]⟩, .string ⟨#[101, 105, 116, 104, 101, 114]⟩, .string ⟨#[110, 111, 116]⟩, .string ⟨#[108, 101, 110]⟩, .string ⟨#[106, 111, 105, 110]⟩, .string ⟨#[99, 117, 116]⟩, .string ⟨#[97, 116]⟩, .string ⟨#[115, 97, 109, 101]⟩, .string ⟨#[108, 101, 115, 115]⟩, .string ⟨#[112, 97, 99, 107]⟩, .string ⟨#[117, 110, 112, 97, 99, 107]⟩, .string ⟨#[111, 110, 101]⟩, .string ⟨#[108, 111, 97, 100]⟩, .string ⟨#[104, 97, 115]⟩, .string ⟨#[115, 97, 118, 101]⟩, .string ⟨#[119, 105, 112, 101]⟩, .string ⟨#[110, 101, 120, 116]⟩, .string ⟨#[101, 109, 105, 116]⟩, .string ⟨#[97, 98, 111, 114, 116]⟩, .string ⟨#[105, 102]⟩, .string ⟨#[101, 108, 115, 101]⟩, .string ⟨#[101, 110, 100]⟩, .string ⟨#[108, 111, 111, 112]⟩, .string ⟨#[108, 101, 97, 118, 101]⟩, .string ⟨#[99, 97, 108, 108]⟩] 9)).cell? ⟨w.heap.size, k, none⟩ = some (.string ⟨(nameTab.getD k []).toArray⟩) := by
  rw [cell_of_row _ _ k _ _ (0, 0) (heap_alloc_new w _)]
  have e : (#[.string ⟨#[]⟩, .string ⟨#[105, 110, 116]⟩, .string ⟨#[99, 111, 110, 115, 116]⟩, .string ⟨#[116, 114, 117, 101]⟩, .string ⟨#[102, 97, 108, 115, 101]⟩, .string ⟨#[100, 114, 111, 112]⟩, .string ⟨#[100, 117, 112]⟩, .string ⟨#[115, 119, 97, 112]⟩, .string ⟨#[111, 118, 101, 114]⟩, .string ⟨#[103, 101, 116]⟩, .string ⟨#[115, 101, 116]⟩, .string ⟨#[97, 100, 100]⟩, .string ⟨#[115, 117, 98]⟩, .string ⟨#[109, 117, 108]⟩, .string ⟨#[100, 105, 118]⟩, .string ⟨#[114, 101, 109]⟩, .string ⟨#[110, 101, 103]⟩, .string ⟨#[97, 110, 100]⟩, .string ⟨#[111, 114]⟩, .string ⟨#[120, 111, 114]⟩, .string ⟨#[105, 110, 118]⟩, .string ⟨#[115, 104, 108]⟩, .string ⟨#[115, 104, 114]⟩, .string ⟨#[101, 113]⟩, .string ⟨#[110, 101]⟩, .string ⟨#[108, 116]⟩, .string ⟨#[108, 101]⟩, .string ⟨#[103, 116]⟩, .string ⟨#[103, 101]⟩, .string ⟨#[98, 111, 116, 104]⟩, .string ⟨#[101, 105, 116, 104, 101, 114]⟩, .string ⟨#[110, 111, 116]⟩, .string ⟨#[108, 101, 110]⟩, .string ⟨#[106, 111, 105, 110]⟩, .string ⟨#[99, 117, 116]⟩, .string ⟨#[97, 116]⟩, .string ⟨#[115, 97, 109, 101]⟩, .string ⟨#[108, 101, 115, 115]⟩, .string ⟨#[112, 97, 99, 107]⟩, .string ⟨#[117, 110, 112, 97, 99, 107]⟩, .string ⟨#[111, 110, 101]⟩, .string ⟨#[108, 111, 97, 100]⟩, .string ⟨#[104, 97, 115]⟩, .string ⟨#[115, 97, 118, 101]⟩, .string ⟨#[119, 105, 112, 101]⟩, .string ⟨#[110, 101, 120, 116]⟩, .string ⟨#[101, 109, 105, 116]⟩, .string ⟨#[97, 98, 111, 114, 116]⟩, .string ⟨#[105, 102]⟩, .string ⟨#[101, 108, 115, 101]⟩, .string ⟨#[101, 110, 100]⟩, .string ⟨#[108, 111, 111, 112]⟩, .string ⟨#[108, 101, 97, 118, 101]⟩, .string ⟨#[99, 97, 108, 108]⟩] : Array Value) = (nameTab.map fun x => .string ⟨x.toArray⟩).toArray := rfl
  rw [e]
  have hl : k < nameTab.length := hk
  simp [List.getD, hl]
set_option maxHeartbeats 1000000 in
theorem rname4 (n : Int) (w : World) : Calls Tryz.prog 35 #[.int .i64 n] w fun e w' => e = .returned (.string ⟨(nameT n).toArray⟩) ∧ Below w.heap.size w w' := by
  by_cases h1 : n < 1
  · rw [show nameT n = [] from rowOf_none _ _ n (.inl h1)]
    go_enter Tryz.func35, Tryz.ntmps35
    go_wp2
    go_ret
    exact ⟨rfl, (Below.refl _ w).alloc (Nat.le_refl _) _⟩
  by_cases h2 : 53 < n
  · rw [show nameT n = [] from rowOf_none _ _ n (.inr h2)]
    go_enter Tryz.func35, Tryz.ntmps35
    go_wp2
    go_ret
    exact ⟨rfl, (Below.refl _ w).alloc (Nat.le_refl _) _⟩
  obtain ⟨k, rfl⟩ : ∃ k : Nat, n = k := ⟨n.toNat, by omega⟩
  have hk : k < 54 := by omega
  have hc := cell_name4 w k hk
  rw [show nameT k = nameTab.getD k [] from by unfold nameT rowOf; rw [if_pos (by omega)]; simp]
  generalize nameTab.getD k [] = r at *
  go_enter Tryz.func35, Tryz.ntmps35
  go_wp2
  go_ret
  exact ⟨rfl, (Below.refl _ w).alloc (Nat.le_refl _) _⟩
set_option maxHeartbeats 1000000 in
theorem rtakes_of4 (n t : Int) (r : List UInt8) (w : World) (hN : Calls Tryz.prog 35 #[.int .i64 n] w fun e w' => e = .returned (.string ⟨r.toArray⟩) ∧ Below w.heap.size w w') (hr : (r = [105, 110, 116] ∧ t = 1) ∨ (r = [99, 111, 110, 115, 116] ∧ t = 2) ∨ (r = [103, 101, 116] ∧ t = 3) ∨ (r = [115, 101, 116] ∧ t = 3) ∨ (r = [108, 111, 111, 112] ∧ t = 4) ∨ (r = [99, 97, 108, 108] ∧ t = 5) ∨ (t = 0 ∧ r ≠ [105, 110, 116] ∧ r ≠ [99, 111, 110, 115, 116] ∧ r ≠ [103, 101, 116] ∧ r ≠ [115, 101, 116] ∧ r ≠ [108, 111, 111, 112] ∧ r ≠ [99, 97, 108, 108])) : Calls Tryz.prog 36 #[.int .i64 n] w fun e w' => e = .returned (.int .i64 t) ∧ Below w.heap.size w w' := by
  rcases hr with ⟨rfl, rfl⟩ | ⟨rfl, rfl⟩ | ⟨rfl, rfl⟩ | ⟨rfl, rfl⟩ | ⟨rfl, rfl⟩ | ⟨rfl, rfl⟩ | ⟨rfl, h1, h2, h3, h4, h5, h6⟩
  iterate 6
    · as_aux_lemma =>
      go_enter Tryz.func36, Tryz.ntmps36
      go_wp2_with (go_at_call 35; refine hN.mono ?_; rintro e w2 ⟨rfl, hb2⟩)
      go_ret
      exact ⟨rfl, hb2⟩
  · rw [← beq_eq_false_iff_ne] at h1 h2 h3 h4 h5 h6
    go_enter Tryz.func36, Tryz.ntmps36
    go_wp2_with (go_at_call 35; refine hN.mono ?_; rintro e w2 ⟨rfl, hb2⟩)
    go_ret
    exact ⟨rfl, hb2⟩
theorem rtakes4 (n : Int) (w : World) : Calls Tryz.prog 36 #[.int .i64 n] w fun e w' => e = .returned (.int .i64 (takesT n)) ∧ Below w.heap.size w w' := by
  refine rtakes_of4 n _ _ w (rname4 n w) ?_
  by_cases h : n < 1 ∨ 53 < n
  · rw [show takesT n = 0 from rowOf_none _ _ n h, show nameT n = [] from rowOf_none _ _ n h]
    simp
  · obtain ⟨k, rfl⟩ : ∃ k : Nat, n = k := ⟨n.toNat, by omega⟩
    have hk : k < 54 := by omega
    have ht : takesT k = takesTab.getD k 0 := by unfold takesT rowOf; rw [if_pos (by omega)]; simp
    have hm : nameT k = nameTab.getD k [] := by unfold nameT rowOf; rw [if_pos (by omega)]; simp
    rw [ht, hm]
    have H : ∀ k : Fin 54, k.1 = 0 ∨ ((nameTab.getD k.1 [] = [105, 110, 116] ∧ takesTab.getD k.1 0 = 1) ∨ (nameTab.getD k.1 [] = [99, 111, 110, 115, 116] ∧ takesTab.getD k.1 0 = 2) ∨ (nameTab.getD k.1 [] = [103, 101, 116] ∧ takesTab.getD k.1 0 = 3) ∨ (nameTab.getD k.1 [] = [115, 101, 116] ∧ takesTab.getD k.1 0 = 3) ∨ (nameTab.getD k.1 [] = [108, 111, 111, 112] ∧ takesTab.getD k.1 0 = 4) ∨ (nameTab.getD k.1 [] = [99, 97, 108, 108] ∧ takesTab.getD k.1 0 = 5) ∨ (takesTab.getD k.1 0 = 0 ∧ nameTab.getD k.1 [] ≠ [105, 110, 116] ∧ nameTab.getD k.1 [] ≠ [99, 111, 110, 115, 116] ∧ nameTab.getD k.1 [] ≠ [103, 101, 116] ∧ nameTab.getD k.1 [] ≠ [115, 101, 116] ∧ nameTab.getD k.1 [] ≠ [108, 111, 111, 112] ∧ nameTab.getD k.1 [] ≠ [99, 97, 108, 108])) := by decide +kernel
    rcases H ⟨k, hk⟩ with h0 | h0
    · simp only at h0; omega
    · exact h0
theorem takes_same (n : Int) : takesT n = takesN n := by
  unfold takesT rowOf
  by_cases h : 1 ≤ n ∧ n ≤ 53
  · rw [if_pos h]
    have H : ∀ k : Fin 54, takesTab.getD k.1 0 = takesN (k.1 : Int) := by decide +kernel
    have := H ⟨n.toNat, by omega⟩
    simp only at this
    rw [this, show ((n.toNat : Nat) : Int) = n by omega]
  · rw [if_neg h]
    unfold takesN
    rw [if_neg (by omega), if_neg (by omega), if_neg (by omega), if_neg (by omega), if_neg (by omega), if_neg (by omega)]
end Go.Proofs.YtbjipcpoiiegkaaGreatDoor
namespace Go.Proofs.YtbjipcpoiiegkaaGreatDoor
open Go.RowKit

theorem and63 (n : Int) : bits .and .i64 n 63 = n % 64 := by
  have h63 : (BitVec.ofInt 64 63).toNat = 2 ^ 6 - 1 := by decide
  have key : (BitVec.ofInt 64 n &&& BitVec.ofInt 64 63).toNat = (n % ((2 ^ 64 : Nat) : Int)).toNat % 2 ^ 6 := by
    rw [BitVec.toNat_and, BitVec.toNat_ofInt, h63, Nat.and_two_pow_sub_one_eq_mod]
  show IntKind.i64.wrap ((BitVec.ofInt 64 n &&& BitVec.ofInt 64 63).toNat : Nat) = n % 64
  rw [key, IntKind.wrap_i64]
  omega
/-- What calculate answers. -/
def calcV (n a b : Int) : Int :=
  if n = 11 then wrap64 (a + b) else if n = 12 then wrap64 (a + wrap64 (-b)) else if n = 13 then wrap64 (a * b) else if n = 14 then wrap64 (a.tdiv b) else if n = 15 then a.tmod b else
  if n = 17 then bits .and .i64 a b else if n = 18 then bits .or .i64 a b else if n = 19 then bits .xor .i64 a b else if n = 21 then wrap64 (a * 2 ^ (b % 64).toNat) else a / 2 ^ (b % 64).toNat
def CalcOp (n b : Int) : Prop := n = 11 ∨ n = 12 ∨ n = 13 ∨ (n = 14 ∧ b ≠ 0) ∨ (n = 15 ∧ b ≠ 0) ∨ n = 17 ∨ n = 18 ∨ n = 19 ∨ n = 21 ∨ n = 22
/-- What holds answers. -/
def holdsV (n c : Int) : Bool := if n = 23 ∨ n = 36 then c == 0 else if n = 25 ∨ n = 37 then decide (c < 0) else if n = 24 then c != 0 else if n = 26 then decide (c ≤ 0) else if n = 27 then decide (0 < c) else decide (0 ≤ c)
def HoldOp (n : Int) : Prop := n = 23 ∨ n = 24 ∨ n = 25 ∨ n = 26 ∨ n = 27 ∨ n = 28 ∨ n = 36 ∨ n = 37
theorem hidC {p : Prop} (h : p) : Hid p := h
/-- A number's eight bytes, the highest first. -/
def packV (n : Int) : List UInt8 := [n / 72057594037927936 % 256, n / 281474976710656 % 256, n / 1099511627776 % 256, n / 4294967296 % 256, n / 16777216 % 256, n / 65536 % 256, n / 256 % 256, n % 256].map fun x => UInt8.ofNat x.toNat
theorem nums_bytes (l : List Int) : strOfNums l = ⟨(l.map fun x => UInt8.ofNat x.toNat).toArray⟩ := by
  unfold strOfNums
  congr 2
theorem conv8 (w : World) (x0 x1 x2 x3 x4 x5 x6 x7 : Int) (t : TypeId) :
    (convert 73 9 (.slice (some ⟨w.heap.size, 0, none⟩) 8 8)).run Tryz.prog (w.alloc (.cells #[.int .u8 x0, .int .u8 x1, .int .u8 x2, .int .u8 x3, .int .u8 x4, .int .u8 x5, .int .u8 x6, .int .u8 x7] t)) = .ok (.string (strOfNums [x0, x1, x2, x3, x4, x5, x6, x7])) (w.alloc (.cells #[.int .u8 x0, .int .u8 x1, .int .u8 x2, .int .u8 x3, .int .u8 x4, .int .u8 x5, .int .u8 x6, .int .u8 x7] t)) := by
  have h := heap_alloc_new w (.cells #[.int .u8 x0, .int .u8 x1, .int .u8 x2, .int .u8 x3, .int .u8 x4, .int .u8 x5, .int .u8 x6, .int .u8 x7] t)
  rw [run_convert_bytes_arg _ 73 5 Tryz.underlying73 Tryz.underlying5 w.heap.size 0 8 8 [x0, x1, x2, x3, x4, x5, x6, x7] rfl (fun i hi => ?_) 9 Tryz.underlying9]
  rw [cell_of_row _ _ (0 + i) _ _ (0, 0) h]
  have : i = 0 ∨ i = 1 ∨ i = 2 ∨ i = 3 ∨ i = 4 ∨ i = 5 ∨ i = 6 ∨ i = 7 := by omega
  rcases this with rfl | rfl | rfl | rfl | rfl | rfl | rfl | rfl <;> rfl
theorem byte64 (x : UInt8) : wrap64 (x.toNat : Int) = (x.toNat : Int) := by
  have := x.toNat_lt
  unfold wrap64
  omega
/-- What unpack answers. -/
def unpackV (s : List UInt8) : Int := s.foldl (fun n x => bits .or .i64 (wrap64 (n * 256)) (x.toNat : Int)) 0
theorem unpack_snoc (s : List UInt8) (k : Nat) (h : k < s.length) : unpackV (s.take (k + 1)) = bits .or .i64 (wrap64 (unpackV (s.take k) * 256)) (s[k].toNat : Int) := by
  rw [List.take_succ_eq_append_getElem h]
  simp only [unpackV, List.foldl_append, List.foldl_cons, List.foldl_nil]
end Go.Proofs.YtbjipcpoiiegkaaGreatDoor
namespace Go.Proofs.YtbjipcpoiiegkaaGreatDoor
open Go.RowKit
attribute [local go_sem high] eq_val eq_val0

def fitsB (L : List Val) (ts : List Int) : Bool := decide (L.map Val.t = ts) && L.all Val.right
def IntsAt (w : World) (a : Option Addr) (ts : List Int) : Prop := ts = [] ∨ ∃ b off, a = some ⟨b, off, none⟩ ∧ ∀ j (h : j < ts.length), w.cell? ⟨b, off + j, none⟩ = some (.int .i64 ts[j])
theorem IntsAt.keep {w w' : World} {a : Option Addr} {L : List Int} (h : IntsAt w a L) (hb : Below w.heap.size w w') : IntsAt w' a L := by
  rcases h with h | ⟨b, off, e, hc⟩
  · exact .inl h
  · exact .inr ⟨b, off, e, fun j hj => cell_below (hc j hj) hb⟩
theorem below_draws {B : Nat} {a w : World} (h : Below B a w) (m : Nat) : Below B a (w.drewN m) := ⟨h.os, h.tape, h.output, h.size, h.block⟩
theorem map_t_ne {L : List Val} {ts : List Int} {k : Nat} (h1 : k < L.length) (h2 : k < ts.length) (h : L[k].t ≠ ts[k]) : L.map Val.t ≠ ts := by
  intro e
  subst e
  simp at h
set_option maxHeartbeats 1000000 in
theorem fits_any (a : Option Addr) (n c : Nat) (L : List Val) (hn : L.length = n) (b : Option Addr) (m d : Nat) (ts : List Int) (hm : ts.length = m) (w : World) (hV : Vs w a L) (hT : IntsAt w b ts) (hF : Fair L) (hl : n ≤ 140737488351232) :
    Calls Tryz.prog 54 #[.slice a n c, .slice b m d] w fun e w' => e = .returned (.bool (fitsB L ts)) ∧ Below w.heap.size w w' := by
  by_cases hnm : n = m
  · subst hnm
    go_enter Tryz.func54, Tryz.ntmps54
    go_wp2
    go_loopw [14] (fun i wr => ∃ k : Nat, k ≤ n ∧ i = .int .i64 k ∧ (∀ j (h : j < L.length) (h' : j < ts.length), j < k → L[j].t = ts[j]) ∧ Below w.heap.size w wr) (fun i _ => n - (intOf i).toNat)
    case atStart => exact ⟨0, Nat.zero_le _, rfl, by omega, Below.refl _ _⟩
    case round =>
      obtain ⟨k, hk, rfl, hr, hb⟩ := hrel
      by_cases hlt : k < n
      · rcases hV.keep hb with h0 | ⟨b0, off, hao, hc⟩
        · subst h0; simp at hn; omega
        rcases hT.keep hb with h0 | ⟨b1, off1, hao1, hc1⟩
        · subst h0; simp at hm; omega
        subst hao
        subst hao1
        obtain ⟨c0, c1, c2⟩ := hc k (by omega)
        have d0 := hc1 k (by omega)
        have HF : Hid (L[k].t ≠ ts[k] → fitsB L ts = false) := hidV fun h => by
          unfold fitsB
          rw [decide_eq_false (map_t_ne (by omega) (by omega) h), Bool.false_and]
        have HT : Hid (L[k].t = ts[k] → ∀ j (h : j < L.length) (h' : j < ts.length), j < k + 1 → L[j].t = ts[j]) := hidV fun h j hj hj' hjk => by
          rcases Nat.lt_or_ge j k with h1 | h1
          · exact hr j hj hj' h1
          · obtain rfl : j = k := by omega
            exact h
        generalize L[k] = x at c0 c1 c2 HF HT
        generalize ts[k] = y at d0 HF HT
        obtain ⟨xt, xn, xb⟩ := x
        simp only at c0 c1 c2 HF HT
        have hz := hb.size
        have d1 : (wr.alloc (.cells #[.int .i64 xt, .int .i64 xn, .string ⟨xb.toArray⟩] 54)).cell? ⟨b1, off1 + k, none⟩ = some (.int .i64 y) := keep_alloc _ _ _ _ d0
        clear hc hV hF hc1 hT hr d0
        by_cases hxy : xt = y
        · subst hxy
          go_wp2
          go_quiet (fail)
          go_wp2
          refine ⟨⟨k + 1, by omega, by go_num, HT.out trivial, below_draws (hb.alloc hb.size _) _⟩, by simp [intOf]; omega⟩
        · have hne : (xt != y) = true := by simp [hxy]
          go_wp2
          go_quiet (fail)
          go_wp2
          go_ret
          exact ⟨by rw [HF.out hxy]; rfl, below_draws (hb.alloc hb.size _) _⟩
      · have hE : L.map Val.t = ts := by
          apply List.ext_getElem (by simp; omega)
          intro j h1 h2
          simp only [List.length_map] at h1
          rw [List.getElem_map]
          exact hr j h1 h2 (by omega)
        have hA := allRight_any a n c L hn wr (hV.keep hb) hF hl
        have hE2 : Hid (fitsB L ts = L.all Val.right) := hidV (by unfold fitsB; rw [decide_eq_true hE, Bool.true_and])
        clear hE
        go_wp2_with (go_at_call 60; refine hA.mono ?_; rintro e w2 ⟨rfl, hb2⟩)
        go_ret
        exact ⟨by rw [hE2.out]; rfl, hb.trans (hb2.mono hb.size)⟩
  · have hE : fitsB L ts = false := by
      unfold fitsB
      rw [decide_eq_false (fun e => hnm (by rw [← hn, ← hm, ← e]; simp)), Bool.false_and]
    rw [hE]
    have hne : ((n : Int) != (m : Int)) = true := by simp; omega
    go_enter Tryz.func54, Tryz.ntmps54
    go_wp2
    go_ret
    exact ⟨rfl, Below.refl _ _⟩
def lessV (x y : Val) : Bool := if x.t = y.t then (if x.n = y.n then Op.bytesLess x.b y.b else decide (x.n < y.n)) else decide (x.t < y.t)
def cmpV (x y : Val) : Int := if x = y then 0 else if lessV x y then -1 else 1
end Go.Proofs.YtbjipcpoiiegkaaGreatDoor
