/- asm.readLines. -/
import Derived.Test.YtbjipcpoiiegkaaGreatDoorBA
import Derived.Test.YtbjipcpoiiegkaaGreatDoorOU
import Derived.WalkMore
namespace Go.Proofs.YtbjipcpoiiegkaaGreatDoor
open Go.RowKit Go.Shelf
def wFunc : List UInt8 := [102, 117, 110, 99]
def wConst : List UInt8 := [99, 111, 110, 115, 116]
def addLast (fs : List Fn) (x : Int × Int) : List Fn := fs.dropLast ++ [(fs.getLast?.getD noFn).add x]
/-- One line more. -/
def rlStep (S : Scr) (line : List UInt8) : Option Scr :=
  if (cutAt line 32).1 = wFunc then (headOf (pieces line)).map fun f => ⟨S.consts, S.funcs ++ [f]⟩
  else if S.funcs ≠ [] then (insS line).map fun x => ⟨S.consts, addLast S.funcs x⟩
  else if (cutAt line 32).1 = wConst then (oneV (cutAt line 32).2.1 2).map fun v => ⟨S.consts ++ [v.b], S.funcs⟩
  else none
/-- The lines of a text, from the k-th on. -/
def rlRun : Nat → Nat → Scr → List UInt8 → Scr × Int
  | 0, _, S, _ => (S, 0)
  | n + 1, k, S, t => if t = [] then (S, 0) else if (cutAt t 10).2.2 = false then (noScr, k) else match rlStep S (cutAt t 10).1 with
    | none => (noScr, k)
    | some S' => rlRun n (k + 1) S' (cutAt t 10).2.1
theorem rlRun_nil (n k : Nat) (S : Scr) : rlRun n k S [] = (S, 0) := by
  cases n <;> simp [rlRun]
theorem cutAt_ended {t : List UInt8} {c : UInt8} (h : (cutAt t c).2.2 = true) : (cutAt t c).1.length + 1 + (cutAt t c).2.1.length = t.length := by
  unfold cutAt at h ⊢
  rcases idx_any t c with hi | ⟨o, hi⟩
  · rw [if_pos hi] at h
    cases h
  · rw [if_neg (by omega), hi]
    have := idx_lt hi
    simp only [Int.toNat_natCast, List.length_take, List.length_drop]
    omega
def strOf : Value → Nat
  | .string b => b.size
  | _ => 0
theorem addLast_map {L : List (Fn × FV)} {f : Fn} {y z : FV} {x : Int × Int} : addLast ((L ++ [(f, y)]).map (·.1)) x = (L ++ [(f.add x, z)]).map (·.1) := by
  simp [addLast]
/-- How many there may be. -/
structure Few (k : Nat) (cs : List (List UInt8)) (L : List (Fn × FV)) : Prop where
  c : cs.length ≤ k
  f : L.length ≤ k
  i : ∀ x ∈ L, x.1.code.length ≤ k
theorem head_code {xs : List (List UInt8)} {f : Fn} (h : headOf xs = some f) : f.code = [] := by
  unfold headOf at h
  cases hr : hRun hBeg xs with
  | none => rw [hr] at h; cases h
  | some g =>
    rw [hr] at h
    simp only [Option.bind_some] at h
    split at h
    · cases h; rfl
    · cases h
theorem row_slice {w : World} {base n size : Nat} {e : TypeId} {v : Value} {xs : List Value} (h : w.ownsRow base e size v n xs) : ∃ y m d, v = .slice y m d := by
  obtain ⟨a, c, rfl, _⟩ := row_form h
  exact ⟨_, _, _, rfl⟩
theorem RL.last {B g cap : Nat} {cs : List (List UInt8)} {L : List (Fn × FV)} {f : Fn} {y : FV} {v0 : Value} {W : World} (h : RL B cs (L ++ [(f, y)]) v0 (.slice (some ⟨g, 0, none⟩) (L.length + 1) cap) W) : W.cell? ⟨g, L.length * 4 + 3, none⟩ = some y.c ∧ W.frozen? ⟨g, L.length * 4 + 3, none⟩ = false ∧ g < W.heap.size := by
  obtain ⟨a, c, e, _, _, hc⟩ := row_form h.rf
  rcases hc with ⟨rfl, h0, _⟩ | ⟨g', rfl, hg, hl, hcell⟩
  · cases e
  · simp only [Value.slice.injEq, Option.some.injEq, Addr.mk.injEq] at e
    obtain ⟨⟨rfl, _⟩, _⟩ := e
    refine ⟨hcell _ _ ?_, ?_, hl⟩
    · have e1 : cellsF (L ++ [(f, y)]) = cellsF L ++ y.cs := by simp [cellsF]
      rw [e1, List.getElem?_append_right (by rw [cellsF_len]; omega), cellsF_len, Nat.add_sub_cancel_left]
      rfl
    · rcases h.rf.2 with ⟨q, _⟩ | ⟨g', cap', cur, q, _, hh, _⟩
      · cases q
      · simp only [Value.slice.injEq, Option.some.injEq, Addr.mk.injEq] at q
        obtain ⟨⟨rfl, _⟩, _⟩ := q
        simp [World.frozen?, hh]
theorem RL.lastStep {B g cap : Nat} {cs : List (List UInt8)} {L : List (Fn × FV)} {f : Fn} {y : FV} {v0 c' : Value} {W W2 : World} (h : RL B cs (L ++ [(f, y)]) v0 (.slice (some ⟨g, 0, none⟩) (L.length + 1) cap) W) (hs : Step W y.c W2 c') : W2.cell? ⟨g, L.length * 4 + 3, none⟩ = some y.c ∧ W2.frozen? ⟨g, L.length * 4 + 3, none⟩ = false := by
  obtain ⟨h1, h2, _⟩ := h.last
  have c1 := ChgT.step (h.each (f, y) (by simp)).2 hs
  rcases h.rf.2 with ⟨q, _⟩ | ⟨g', cap', cur, q, _, hh, _⟩
  · cases q
  · simp only [Value.slice.injEq, Option.some.injEq, Addr.mk.injEq] at q
    obtain ⟨⟨rfl, _⟩, _⟩ := q
    have e := (c1 g cur _ _ (by decide) hh).trans hh.symm
    exact ⟨(cell_heap e).trans h1, (frozen_heap e).trans h2⟩
theorem fOwn_head {B1 B2 : Nat} {f : Fn} {a b l : Value} {W : World} (h : HeadRows B2 f a b l W) (hc : f.code = []) (hB : B1 ≤ B2) : FOwn B1 f ⟨a, b, l, .slice none 0 0⟩ W := by
  refine ⟨⟨row_lower5 h.1 hB, row_lower5 h.2.1 hB, row_lower5 h.2.2 hB⟩, ?_⟩
  rw [hc]
  exact World.ownsRow_nil _ _ _ _
theorem Few.func {k : Nat} {cs : List (List UInt8)} {L : List (Fn × FV)} {f : Fn} {y : FV} (h : Few k cs L) (hc : f.code = []) : Few (k + 1) cs (L ++ [(f, y)]) :=
  ⟨by have := h.c; omega, by have := h.f; simp; omega, fun x hx => by
    rcases List.mem_append.1 hx with hx | hx
    · have := h.i x hx; omega
    · obtain rfl : x = (f, y) := by simpa using hx
      simp [hc]⟩
theorem Few.const {k : Nat} {cs : List (List UInt8)} {L : List (Fn × FV)} {s : List UInt8} (h : Few k cs L) : Few (k + 1) (cs ++ [s]) L :=
  ⟨by have := h.c; simp; omega, by have := h.f; omega, fun x hx => by have := h.i x hx; omega⟩
theorem Few.instr {k : Nat} {cs : List (List UInt8)} {L : List (Fn × FV)} {f : Fn} {y z : FV} {i : Int × Int} (h : Few k cs (L ++ [(f, y)])) : Few (k + 1) cs (L ++ [(f.add i, z)]) :=
  ⟨by have := h.c; omega, by have := h.f; simp at this ⊢; omega, fun x hx => by
    rcases List.mem_append.1 hx with hx | hx
    · have := h.i x (List.mem_append_left _ hx); omega
    · obtain rfl : x = (f.add i, z) := by simpa using hx
      have := h.i (f, y) (by simp)
      simp [Fn.add] at this ⊢
      omega⟩
theorem bad_end {fn : Func} {r0 : Scr × Int} {k : Int} {w W : World} {a : Act} {t u : Tmp} {v0 v1 : Value} (bx : W.heap[w.heap.size]? = some (.cells #[v0, v1] 39 (0, 0))) (hB : Below w.heap.size w W) (h : fn.results = #[.cell t 39, .tmp u]) (ha : a.tmps[t]?.getD undef = .pointer (some ⟨w.heap.size, 0, none⟩)) (hd : a.defers = []) (hu : a.tmps[u]?.getD undef = .int .i64 k) (hr : r0 = (noScr, k)) :
    bodyPost Tryz.prog fn (ScrEnd r0 w) .ret a ((W.setCell ⟨w.heap.size, 0, none⟩ (.slice none 0 0)).setCell ⟨w.heap.size, 1, none⟩ (.slice none 0 0)) :=
  ret_scr5 (v0 := .slice none 0 0) (v1 := .slice none 0 0) (by simp [World.setCell, Array.getElem?_modify, bx]) ((hB.setCell (p := ⟨w.heap.size, 0, none⟩) (Nat.le_refl _) _).setCell (p := ⟨w.heap.size, 1, none⟩) (Nat.le_refl _) _) h ha hd hu (noScr_is _) _ hr
set_option maxRecDepth 100000 in
set_option maxHeartbeats 4000000 in
theorem readLines_any (t : List UInt8) (ht : t.length ≤ 65536) (w : World) (hM : Marks w) (hLd : Laid w) : Calls Tryz.prog 43 #[.string ⟨t.toArray⟩] w (ScrEnd (rlRun t.length 1 noScr t) w) := by
  have hN := RL.new w
  have hb1 : Below w.heap.size w (w.alloc (.cells #[.slice none 0 0, .slice none 0 0] 39)) := (Below.refl _ w).alloc (Nat.le_refl _) _
  generalize hr0 : rlRun t.length 1 noScr t = r0
  go_enter Tryz.func43, Tryz.ntmps43
  go_wp2_with fail
  go_step3
  go_wp2_with fail
  go_step3
  go_wp2_with fail
  go_loopw [0, 4] (fun tx num wr => ∃ (n k : Nat) (rest : List UInt8) (cs : List (List UInt8)) (L : List (Fn × FV)) (v0 v1 : Value), tx = .string ⟨rest.toArray⟩ ∧ num = .int .i64 k ∧ rest.length ≤ n ∧ k + rest.length ≤ 65537 ∧ Few k cs L ∧ Hid (r0 = rlRun n k ⟨cs, L.map (·.1)⟩ rest) ∧ RL w.heap.size cs L v0 v1 wr ∧ Below w.heap.size w wr) (fun tx _ _ => strOf tx)
  case atStart => exact ⟨t.length, 1, t, [], [], _, _, rfl, rfl, Nat.le_refl _, by omega, ⟨by simp, by simp, fun x hx => (by cases hx)⟩, hid hr0.symm, hN, hb1⟩
  case round =>
    clear hN hb1 hr0
    obtain ⟨n, k, rest, cs, L, v0, v1, rfl, rfl, hn, hk, few, HR, R, hB⟩ := hrel
    by_cases h0 : rest = []
    · subst h0
      have HE : Hid (r0 = (⟨cs, L.map (·.1)⟩, 0)) := hid (by rw [HR.out, rlRun_nil])
      obtain ⟨p0, p1, z0, z1⟩ := cells2 R.box
      obtain ⟨a0, c0, e0, _⟩ := row_form R.rc
      obtain ⟨a1, c1, e1, _⟩ := row_form R.rf
      have hS := R.is
      have b2 := R.box
      subst e0 e1
      clear R HR few
      generalize cs.length = n0 at *
      generalize L.length = n1 at *
      go_wp2_with fail
      refine ret_scr5 (v0 := .slice a0 n0 c0) (v1 := .slice a1 n1 c1) (s := ⟨cs, L.map (·.1)⟩) (by simp [World.setCell, Array.getElem?_modify, b2]) ((hB.setCell (p := ⟨w.heap.size, 0, none⟩) (Nat.le_refl _) _).setCell (p := ⟨w.heap.size, 1, none⟩) (Nat.le_refl _) _) rfl rfl rfl rfl ?_ _ HE.out
      exact hS.keep (upF_keep (Nat.le_succ _) fun x v hx hc => by rw [cell_other (by show x.block ≠ w.heap.size; omega), cell_other (by show x.block ≠ w.heap.size; omega)]; exact hc)
    · have hq : (rest == []) = false := by simpa using h0
      obtain ⟨n', rfl⟩ : ∃ n', n = n' + 1 := ⟨n - 1, by have : rest.length ≠ 0 := fun e => h0 (List.eq_nil_of_length_eq_zero e); omega⟩
      have HU : Hid (r0 = if (cutAt rest 10).2.2 = false then (noScr, (k : Int)) else match rlStep ⟨cs, L.map (·.1)⟩ (cutAt rest 10).1 with | none => (noScr, (k : Int)) | some S' => rlRun n' (k + 1) S' (cutAt rest 10).2.1) := hid (by rw [HR.out, rlRun, if_neg h0])
      clear HR
      have hC1 := cut_any rest 10 (by omega) wr
      have hl1 := cutAt_len rest 10
      have hE1 : (cutAt rest 10).2.2 = true → (cutAt rest 10).1.length + 1 + (cutAt rest 10).2.1.length = rest.length := cutAt_ended
      generalize cutAt rest 10 = cr at hC1 hl1 hE1 HU
      obtain ⟨line, behind, ended⟩ := cr
      simp only at hC1 hl1 hE1 HU
      have hC2 := fun W => cut_any line 32 (by omega) W
      have hl2 := cutAt_len line 32
      have HST : Hid (∀ S, rlStep S line = if (cutAt line 32).1 = wFunc then (headOf (pieces line)).map fun f => ⟨S.consts, S.funcs ++ [f]⟩
        else if S.funcs ≠ [] then (insS line).map fun x => ⟨S.consts, addLast S.funcs x⟩
        else if (cutAt line 32).1 = wConst then (oneV (cutAt line 32).2.1 2).map fun v => ⟨S.consts ++ [v.b], S.funcs⟩
        else none) := hid (fun S => rfl)
      generalize cutAt line 32 = cl at hC2 hl2 HST
      obtain ⟨word, wrest, more⟩ := cl
      simp only at hC2 hl2 HST
      have hbad : ∀ W, Below wr.heap.size wr W → W.heap[w.heap.size]? = some (.cells #[v0, v1] 39 (0, 0)) ∧ Below w.heap.size w W := fun W hW => ⟨(hW.block _ (lt_of_block R.box)).trans R.box, hB.trans (hW.mono hB.size)⟩
      cases ended with
      | false =>
        have HE : Hid (r0 = (noScr, (k : Int))) := hid (by rw [HU.out]; rfl)
        clear HU HST hE1
        go_wp2_with (first
          | (go_at_call 24; refine hC1.mono ?_; rintro e w1 ⟨rfl, hb1⟩; clear hC1)
          | (go_at_call 24; refine (hC2 _).mono ?_; rintro e w2 ⟨rfl, hb2⟩; clear hC2; have hb02 := hb1.trans (hb2.mono hb1.size); obtain ⟨bx, hB2⟩ := hbad w2 hb02; obtain ⟨p0, p1, z0, z1⟩ := cells2 bx; have hr2 := R.keep hb02)
          | fail)
        rw [Exit.noGoto_ret]
        exact bad_end bx hB2 rfl rfl rfl rfl HE.out
      | true =>
        have HU2 : Hid (r0 = match rlStep ⟨cs, L.map (·.1)⟩ line with | none => (noScr, (k : Int)) | some S' => rlRun n' (k + 1) S' behind) := hid (by rw [HU.out]; rfl)
        have hlen := hE1 rfl
        clear HU hE1
        have few1 : ∀ j, k ≤ j → Few j cs L := fun j hj => ⟨by have := few.c; omega, by have := few.f; omega, fun x hx => by have := few.i x hx; omega⟩
        by_cases hf : word = wFunc
        · have q1 : (word == [102, 117, 110, 99]) = true := by rw [hf]; rfl
          have hH := fun W (hW : Below w.heap.size w W) => readHead_any line W (by omega) (hM.keep hW)
          have HS1 : Hid (∀ S, rlStep S line = (headOf (pieces line)).map fun f => ⟨S.consts, S.funcs ++ [f]⟩) := hid (fun S => by rw [HST.out, if_pos hf])
          clear HST hf
          cases ho : headOf (pieces line) with
          | none =>
            rw [ho] at hH
            have HE : Hid (r0 = (noScr, (k : Int))) := hid (by rw [HU2.out, HS1.out, ho]; rfl)
            clear HU2 HS1
            go_wp2_with (first
          | (go_at_call 24; refine hC1.mono ?_; rintro e w1 ⟨rfl, hb1⟩; clear hC1)
          | (go_at_call 24; refine (hC2 _).mono ?_; rintro e w2 ⟨rfl, hb2⟩; clear hC2; have hb02 := hb1.trans (hb2.mono hb1.size); obtain ⟨bx, hB2⟩ := hbad w2 hb02; obtain ⟨p0, p1, z0, z1⟩ := cells2 bx; have hr2 := R.keep hb02)
              | (go_at_call 13; refine (hH _ hB2).mono ?_; rintro e w3 ⟨x0, x1, x2, rfl, hx, hb3⟩; obtain ⟨y0, m0, d0, rfl⟩ := row_slice hx.1; obtain ⟨y1, m1, d1, rfl⟩ := row_slice hx.2.1; obtain ⟨y2, m2, d2, rfl⟩ := row_slice hx.2.2; have hbA : Below w2.heap.size w2 (w3.alloc (.cells #[.slice y0 m0 d0, .slice y1 m1 d1, .slice y2 m2 d2, .slice none 0 0] 32)) := hb3.alloc hb3.size _; obtain ⟨bx3, hB3⟩ := hbad _ (hb02.trans (hbA.mono hb02.size)); obtain ⟨k0, k1, k2, k3⟩ := cells2 bx3)
              | fail)
            rw [Exit.noGoto_ret]
            exact bad_end bx3 hB3 rfl rfl rfl rfl HE.out
          | some f =>
            rw [ho] at hH
            have hcode := head_code ho
            have HE : Hid (r0 = rlRun n' (k + 1) ⟨cs, L.map (·.1) ++ [f]⟩ behind) := hid (by rw [HU2.out, HS1.out, ho]; rfl)
            clear HU2 HS1
            have fL := few.f
            go_wp2_with (first
          | (go_at_call 24; refine hC1.mono ?_; rintro e w1 ⟨rfl, hb1⟩; clear hC1)
          | (go_at_call 24; refine (hC2 _).mono ?_; rintro e w2 ⟨rfl, hb2⟩; clear hC2; have hb02 := hb1.trans (hb2.mono hb1.size); obtain ⟨bx, hB2⟩ := hbad w2 hb02; obtain ⟨p0, p1, z0, z1⟩ := cells2 bx; have hr2 := R.keep hb02)
              | (go_at_call 13; refine (hH _ hB2).mono ?_; rintro e w3 ⟨x0, x1, x2, rfl, hx, hb3⟩; obtain ⟨y0, m0, d0, rfl⟩ := row_slice hx.1; obtain ⟨y1, m1, d1, rfl⟩ := row_slice hx.2.1; obtain ⟨y2, m2, d2, rfl⟩ := row_slice hx.2.2; have hbA : Below w2.heap.size w2 (w3.alloc (.cells #[.slice y0 m0 d0, .slice y1 m1 d1, .slice y2 m2 d2, .slice none 0 0] 32)) := hb3.alloc hb3.size _; obtain ⟨bx3, hB3⟩ := hbad _ (hb02.trans (hbA.mono hb02.size)); obtain ⟨k0, k1, k2, k3⟩ := cells2 bx3; have r3 := hr2.keep hb3; have sz3 : w.heap.size + 1 ≤ w3.heap.size := lt_of_block r3.box; have bx5 := (((Below.refl _ w3).alloc (Nat.le_refl _) (.cells #[.slice y0 m0 d0, .slice y1 m1 d1, .slice y2 m2 d2, .slice none 0 0] 32)).alloc (by simp) (.cells #[.slice y0 m0 d0, .slice y1 m1 d1, .slice y2 m2 d2, .slice none 0 0] 32)))
              | (at_builtin; refine wpList_appN _ rfl _ _ 36 rfl elemN_fn (w.heap.size + 1) v1 L.length (cellsF L) rfl (r3.keep bx5).rf _ rfl 1 [.slice y0 m0 d0, .slice y1 m1 d1, .slice y2 m2 d2, .slice none 0 0] (.inr ⟨⟨_, 0, none⟩, 1, rfl, cells_new5 _ [.slice y0 m0 d0, .slice y1 m1 d1, .slice y2 m2 d2, .slice none 0 0] 32 _ (World.size_alloc _ _)⟩) rfl (by simp [Value.oneCell']) (by unfold maxLen; omega) (by omega) (by simp; omega) ?_; intro v' w6 hr6 hs6; have bx6 := ChgT.step (r3.keep bx5).rf hs6 _ _ _ _ (by decide) (r3.keep bx5).box; obtain ⟨j0, j1, j2, j3⟩ := cells2 bx6; obtain ⟨vy, vm, vd, rfl⟩ := row_slice hr6)
              | fail)
            have R6 := (r3.keep bx5).func (f := f) ((fOwn_head hx hcode (lt_of_block hr2.box)).chg (ChgT.below bx5 9) (by decide) (by decide)) rfl hr6 hs6
            have hb6 := ((hB2.trans (hb3.mono hB2.size)).trans (bx5.mono (by omega))).trans ((hs6.below (B := w.heap.size + 1) (by simp; omega) fun g e => ((r3.keep bx5).rf.lt g e).1).mono (by omega))
            exact ⟨⟨n', k + 1, behind, cs, L ++ [(f, ⟨.slice y0 m0 d0, .slice y1 m1 d1, .slice y2 m2 d2, .slice none 0 0⟩)], _, _, rfl, by go_num, by omega, by omega, few.func hcode, hid (by rw [HE.out]; simp), R6, hb6.setCell (p := ⟨w.heap.size, 1, none⟩) (Nat.le_refl _) _⟩, by simp [strOf, ByteArray.size]; omega⟩
        · have q1 : (word == [102, 117, 110, 99]) = false := by simpa [wFunc] using hf
          have HS1 : Hid (∀ S, rlStep S line = if S.funcs ≠ [] then (insS line).map fun x => ⟨S.consts, addLast S.funcs x⟩
            else if word = wConst then (oneV wrest 2).map fun v => ⟨S.consts ++ [v.b], S.funcs⟩
            else none) := hid (fun S => by rw [HST.out, if_neg hf])
          clear HST hf
          by_cases hL : L = []
          · subst hL
            obtain ⟨a1, c1, e1, _⟩ := row_form R.rf
            subst e1
            simp only [List.length_nil] at *
            by_cases hc : word = wConst
            · have q2 : (word == [99, 111, 110, 115, 116]) = true := by rw [hc]; rfl
              have hV := fun W (hW : Below w.heap.size w W) => single_any wrest 2 (by omega) W (hLd.keep hW)
              have HS2 : Hid (rlStep ⟨cs, []⟩ line = (oneV wrest 2).map fun v => ⟨cs ++ [v.b], []⟩) := hid (by rw [HS1.out, if_neg (by simp), if_pos hc])
              clear HS1 hc
              cases ho : oneV wrest 2 with
              | none =>
                rw [ho] at hV
                have HE : Hid (r0 = (noScr, (k : Int))) := hid (by rw [HU2.out]; simp only [List.map_nil]; rw [HS2.out, ho]; rfl)
                clear HU2 HS2
                go_wp2_with (first
            | (go_at_call 24; refine hC1.mono ?_; rintro e w1 ⟨rfl, hb1⟩; clear hC1)
            | (go_at_call 24; refine (hC2 _).mono ?_; rintro e w2 ⟨rfl, hb2⟩; clear hC2; have hb02 := hb1.trans (hb2.mono hb1.size); obtain ⟨bx, hB2⟩ := hbad w2 hb02; obtain ⟨p0, p1, z0, z1⟩ := cells2 bx; have hr2 := R.keep hb02)
                  | (go_at_call 27; refine (hV _ hB2).mono ?_; rintro e w3 ⟨rfl, hb3⟩; simp only [Val.v, Option.getD_none]; have hbA : Below w2.heap.size w2 (w3.alloc (.cells #[.int .i64 0, .int .i64 0, .string ⟨#[]⟩] 54)) := hb3.alloc hb3.size _; obtain ⟨bx3, hB3⟩ := hbad _ (hb02.trans (hbA.mono hb02.size)); obtain ⟨k0, k1, k2, k3⟩ := cells2 bx3)
                  | fail)
                rw [Exit.noGoto_ret]
                exact bad_end bx3 hB3 rfl rfl rfl rfl HE.out
              | some v =>
                rw [ho] at hV
                obtain ⟨vt, vn, vb⟩ := v
                have HE : Hid (r0 = rlRun n' (k + 1) ⟨cs ++ [vb], []⟩ behind) := hid (by rw [HU2.out]; simp only [List.map_nil]; rw [HS2.out, ho]; rfl)
                clear HU2 HS2
                have fc := few.c
                go_wp2_with (first
            | (go_at_call 24; refine hC1.mono ?_; rintro e w1 ⟨rfl, hb1⟩; clear hC1)
            | (go_at_call 24; refine (hC2 _).mono ?_; rintro e w2 ⟨rfl, hb2⟩; clear hC2; have hb02 := hb1.trans (hb2.mono hb1.size); obtain ⟨bx, hB2⟩ := hbad w2 hb02; obtain ⟨p0, p1, z0, z1⟩ := cells2 bx; have hr2 := R.keep hb02)
                  | (go_at_call 27; refine (hV _ hB2).mono ?_; rintro e w3 ⟨rfl, hb3⟩; simp only [Val.v, Option.getD_some]; have r3 := hr2.keep hb3; have sz3 : w.heap.size + 1 ≤ w3.heap.size := lt_of_block r3.box; have bx5 := (((Below.refl _ w3).alloc (Nat.le_refl _) (.cells #[.int .i64 vt, .int .i64 vn, .string ⟨vb.toArray⟩] 54)).alloc (by simp) (.cells #[.string ⟨vb.toArray⟩] 9)); obtain ⟨k0, k1, k2, k3⟩ := cells2 ((r3.keep ((Below.refl _ w3).alloc (Nat.le_refl _) (.cells #[.int .i64 vt, .int .i64 vn, .string ⟨vb.toArray⟩] 54))).box))
                  | (at_builtin; refine wpList_appN _ rfl _ _ 37 rfl elemN_str (w.heap.size + 1) v0 cs.length (cellsS cs) rfl (r3.keep bx5).rc _ rfl 1 [.string ⟨vb.toArray⟩] (.inr ⟨⟨_, 0, none⟩, 1, rfl, cells_new5 _ [.string ⟨vb.toArray⟩] 9 _ (World.size_alloc _ _)⟩) rfl (by simp [Value.oneCell']) (by unfold maxLen; omega) (by omega) (by simp; omega) ?_; intro v' w6 hr6 hs6; have bx6 := ChgT.step (r3.keep bx5).rc hs6 _ _ _ _ (by decide) (r3.keep bx5).box; obtain ⟨j0, j1, j2, j3⟩ := cells2 bx6; obtain ⟨vy, vm, vd, rfl⟩ := row_slice hr6)
                  | fail)
                have R6 := (r3.keep bx5).const hr6 hs6
                have hb6 := ((hB2.trans (hb3.mono hB2.size)).trans (bx5.mono (by omega))).trans ((hs6.below (B := w.heap.size + 1) (by simp; omega) fun g e => ((r3.keep bx5).rc.lt g e).1).mono (by omega))
                exact ⟨⟨n', k + 1, behind, cs ++ [vb], [], _, _, rfl, by go_num, by omega, by omega, few.const, hid (by rw [HE.out]; simp), R6, hb6.setCell (p := ⟨w.heap.size, 0, none⟩) (Nat.le_refl _) _⟩, by simp [strOf, ByteArray.size]; omega⟩
            · have q2 : (word == [99, 111, 110, 115, 116]) = false := by simpa [wConst] using hc
              have HE : Hid (r0 = (noScr, (k : Int))) := hid (by rw [HU2.out]; simp only [List.map_nil]; rw [HS1.out, if_neg (by simp), if_neg hc])
              clear HU2 HS1 hc
              go_wp2_with (first
            | (go_at_call 24; refine hC1.mono ?_; rintro e w1 ⟨rfl, hb1⟩; clear hC1)
            | (go_at_call 24; refine (hC2 _).mono ?_; rintro e w2 ⟨rfl, hb2⟩; clear hC2; have hb02 := hb1.trans (hb2.mono hb1.size); obtain ⟨bx, hB2⟩ := hbad w2 hb02; obtain ⟨p0, p1, z0, z1⟩ := cells2 bx; have hr2 := R.keep hb02)
                | fail)
              rw [Exit.noGoto_ret]
              exact bad_end bx hB2 rfl rfl rfl rfl HE.out
          · obtain ⟨L', ⟨f, y⟩, hLc⟩ := List.eq_nil_or_concat L |>.resolve_left hL
            rw [List.concat_eq_append] at hLc
            subst hLc
            have HS2 : Hid (rlStep ⟨cs, (L' ++ [(f, y)]).map (·.1)⟩ line = (insS line).map fun x => ⟨cs, addLast ((L' ++ [(f, y)]).map (·.1)) x⟩) := hid (by rw [HS1.out, if_pos (by simp)])
            clear HS1 hL
            have hRd := fun W (hW : Below w.heap.size w W) => read_any line (by omega) W (hLd.keep hW)
            have fI := few.i (f, y) (by simp)
            have fL : L'.length + 1 ≤ k := by have := few.f; simpa using this
            obtain ⟨a1, c1, e1, _, _, hc⟩ := row_form R.rf
            rw [show (L' ++ [(f, y)]).length = L'.length + 1 by simp] at e1 hc
            obtain ⟨g, rfl, hgB⟩ : ∃ g, a1 = some ⟨g, 0, none⟩ ∧ w.heap.size + 1 ≤ g := by
              rcases hc with ⟨_, h0, _⟩ | ⟨g, h, h2, _⟩
              · omega
              · exact ⟨g, h, h2⟩
            clear hc
            subst e1
            have HLast := hid (fun W (h : RL w.heap.size cs (L' ++ [(f, y)]) v0 (.slice (some ⟨g, 0, none⟩) (L'.length + 1) c1) W) => h.last)
            cases ho : insS line with
            | none =>
              rw [ho] at hRd
              have HE : Hid (r0 = (noScr, (k : Int))) := hid (by rw [HU2.out, HS2.out, ho]; rfl)
              clear HU2 HS2 HLast
              generalize L'.length = n1 at *
              go_wp2_with (first
              | (go_at_call 24; refine hC1.mono ?_; rintro e w1 ⟨rfl, hb1⟩; clear hC1)
              | (go_at_call 24; refine (hC2 _).mono ?_; rintro e w2 ⟨rfl, hb2⟩; clear hC2; have hb02 := hb1.trans (hb2.mono hb1.size); obtain ⟨bx, hB2⟩ := hbad w2 hb02; obtain ⟨p0, p1, z0, z1⟩ := cells2 bx; have hr2 := R.keep hb02)
                | (go_at_call 8; refine (hRd _ hB2).mono ?_; rintro e w3 ⟨rfl, hb3⟩; simp only [Option.getD_none]; have hbA : Below w2.heap.size w2 (w3.alloc (.cells #[.int .i64 0, .int .i64 0] 23)) := hb3.alloc hb3.size _; obtain ⟨bx3, hB3⟩ := hbad _ (hb02.trans (hbA.mono hb02.size)); obtain ⟨k0, k1, k2, k3⟩ := cells2 bx3)
                | fail)
              rw [Exit.noGoto_ret]
              exact bad_end bx3 hB3 rfl rfl rfl rfl HE.out
            | some x =>
              rw [ho] at hRd
              obtain ⟨xo, xa⟩ := x
              have HE : Hid (∀ z : FV, r0 = rlRun n' (k + 1) ⟨cs, (L' ++ [(f.add (xo, xa), z)]).map (·.1)⟩ behind) := hid (fun z => by rw [HU2.out, HS2.out, ho]; simp only [Option.map_some]; rw [addLast_map (z := z)])
              clear HU2 HS2
              go_wp2_with (first
              | (go_at_call 24; refine hC1.mono ?_; rintro e w1 ⟨rfl, hb1⟩; clear hC1)
              | (go_at_call 24; refine (hC2 _).mono ?_; rintro e w2 ⟨rfl, hb2⟩; clear hC2; have hb02 := hb1.trans (hb2.mono hb1.size); obtain ⟨bx, hB2⟩ := hbad w2 hb02; obtain ⟨p0, p1, z0, z1⟩ := cells2 bx; have hr2 := R.keep hb02)
                | (go_at_call 8; refine (hRd _ hB2).mono ?_; rintro e w3 ⟨rfl, hb3⟩; simp only [Option.getD_some]; have r3 := hr2.keep hb3; have sz3 : w.heap.size + 1 ≤ w3.heap.size := lt_of_block r3.box; have bx4 := (Below.refl _ w3).alloc (Nat.le_refl _) (.cells #[.int .i64 xo, .int .i64 xa] 23); have r4 := r3.keep bx4; obtain ⟨k0, k1, k2, k3⟩ := cells2 r4.box; obtain ⟨l0, l1, l2⟩ := HLast.out _ r3)
                | fail)
              have bx5 := (Below.refl _ (w3.alloc (.cells #[.int .i64 xo, .int .i64 xa] 23))).drew.alloc (Nat.le_refl _) (.cells #[.int .i64 xo, .int .i64 xa] 23)
              have r5 := r4.keep bx5
              have hrc := (r5.each (f, y) (by simp)).2
              go_region_law (first
                | (refine step_appN _ (by rfl) (.tmp 75) (.tmp 77) 30 (by rfl) elemN_ins (w.heap.size + 1) y.c f.code.length (cellsI f.code) (by rfl) hrc _ (by rfl) 1 [.int .i64 xo, .int .i64 xa] (.inr ⟨⟨_, 0, none⟩, 1, rfl, cells_new5 _ [.int .i64 xo, .int .i64 xa] 23 _ (World.size_alloc _ _)⟩) rfl (by simp [Value.oneCell']) (by unfold maxLen; omega) (by omega) (by simp; omega) ?_; intro v' w6 hr6 hs6; obtain ⟨i0, i1⟩ := r5.lastStep hs6; obtain ⟨vy, vm, vd, rfl⟩ := row_slice hr6))
              all_goals
                have R6 := r5.instr (x := (xo, xa)) hr6 hs6
                have hb6 := (((hB2.trans (hb3.mono hB2.size)).trans (bx4.mono (by omega))).trans (bx5.mono (by simp; omega))).trans ((hs6.below (B := w.heap.size + 1) (by simp; omega) fun g e => (hrc.lt g e).1).mono (by omega))
                go_wp2_with fail
                exact ⟨⟨n', k + 1, behind, cs, L' ++ [(f.add (xo, xa), { y with c := .slice vy vm vd })], _, _, rfl, by go_num, by omega, by omega, few.instr, hid (HE.out _), R6, hb6.setCell (p := ⟨g, L'.length * 4 + 3, none⟩) (by show w.heap.size ≤ g; have := hgB; omega) _⟩, by simp [strOf, ByteArray.size]; omega⟩
end Go.Proofs.YtbjipcpoiiegkaaGreatDoor
