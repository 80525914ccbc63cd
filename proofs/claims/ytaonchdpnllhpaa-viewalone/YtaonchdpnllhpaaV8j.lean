/- Layer 18: a turn's state: what lies where, and what relog, tell and rise leave of it. Layer 18: a turn: request. -/
import Derived.Test.YtaonchdpnllhpaaV8i
namespace Go.Proofs.Ytaonchdpnllhpaa
open Go.RowKit
/-- What of a turn does not change: its box, the part's, from where on its own rows lie, and the part's; the block of the log ahead of the call; the votes. -/
structure TC where
  tb : Nat
  pb : Nat
  wb : Nat
  base : Nat
  lo : Option Nat
  mb : Nat
  mc : Nat
  sv : Value
  dv : Value
def TC.S (T : TC) (k : Nat) : Prop := T.wb ≤ k ∨ k = T.pb ∨ T.lo = some k ∨ k = T.mb
structure TS (T : TC) (w0 : World) (x : Pt) (mt : List Nat) (la : Option Addr) (ln lc : Nat) (L : List Ent) (a0 : Option Addr) (m ac : Nat) (xs : List Value) (d0 : Option Addr) (dk dc : Nat) (W : World) : Prop where
  t : TnAt T.tb T.pb (.slice a0 m ac) (.slice d0 dk dc) W
  p : PtAt T.pb x (.slice la ln lc) T.sv T.dv (.slice (some ⟨T.mb, 0, none⟩) x.n T.mc) W
  r : W.ownsRow T.wb 85 5 (.slice a0 m ac) m xs
  d : ∃ ys, W.ownsRow T.wb 41 8 (.slice d0 dk dc) dk ys
  l : W.ownsRow T.base 56 2 (.slice la ln lc) ln (cellsE L)
  k : W.ownsRow T.base 3 1 (.slice (some ⟨T.mb, 0, none⟩) x.n T.mc) x.n (nsV mt)
  f : Chg w0 W T.S
  n : (Value.slice la ln lc).ownBlock = T.lo ∨ ∃ g, (Value.slice la ln lc).ownBlock = some g ∧ T.wb ≤ g
  tw : T.wb ≤ T.tb
  wz : T.wb ≤ W.heap.size
  bz : T.base ≤ T.wb
theorem TS.below {T : TC} {w0 : World} {x : Pt} {mt : List Nat} {la : Option Addr} {ln lc : Nat} {L : List Ent} {a0 : Option Addr} {m ac : Nat} {xs : List Value} {d0 : Option Addr} {dk dc : Nat} {W W' : World} (h : TS T w0 x mt la ln lc L a0 m ac xs d0 dk dc W) (hb : Below W.heap.size W W') : TS T w0 x mt la ln lc L a0 m ac xs d0 dk dc W' := by
  obtain ⟨ys, hd⟩ := h.d
  exact ⟨h.t.below hb, h.p.below hb, row_below2 h.r hb, ⟨ys, row_below2 hd hb⟩, row_below2 h.l hb, row_below2 h.k hb, h.f.trans (Chg.of_below hb (S := fun _ => False)) fun _ _ e => e.elim, h.n, h.tw, Nat.le_trans h.wz hb.size, h.bz⟩
theorem TS.len {T : TC} {w0 : World} {x : Pt} {mt : List Nat} {la : Option Addr} {ln lc : Nat} {L : List Ent} {a0 : Option Addr} {m ac : Nat} {xs : List Value} {d0 : Option Addr} {dk dc : Nat} {W : World} (h : TS T w0 x mt la ln lc L a0 m ac xs d0 dk dc W) : L.length = ln ∧ mt.length = x.n := by
  have h1 := h.l.1
  rw [cellsE_len] at h1
  have h2 := h.k.1
  rw [List.length_map] at h2
  omega
theorem cellsE_one18 (L : List Ent) : ∀ u ∈ cellsE L, u.oneCell' = true := by
  intro u hu
  unfold cellsE at hu
  rw [List.mem_flatMap] at hu
  obtain ⟨x, -, hx⟩ := hu
  simp at hx
  rcases hx with rfl | rfl <;> rfl
/-- A row of entries of the call's own that nothing else reaches. -/
def CopyRow (T : TC) (v lv : Value) (k : Nat) (E : List Ent) (W : World) : Prop := W.ownsRow T.wb 56 2 v k (cellsE E) ∧ ∀ q, v.ownBlock = some q → lv.ownBlock ≠ some q
/-- A turn's relog. -/
theorem TS.relog {T : TC} {w0 : World} {x : Pt} {mt : List Nat} {la : Option Addr} {ln lc : Nat} {L : List Ent} {a0 : Option Addr} {m ac : Nat} {xs : List Value} {d0 : Option Addr} {dk dc st k kc : Nat} {ka : Option Addr} {E : List Ent} {w : World} (h : TS T w0 x mt la ln lc L a0 m ac xs d0 dk dc w) (hm : m ≤ 900000) (hE : ∀ W, Chg w W (fun k => k = T.tb ∨ k = T.pb ∨ (Value.slice a0 m ac).ownBlock = some k) → Lies W (.slice ka k kc) k (cellsE E)) (hl : E.length = k) (hk : k ≤ 65536) (hst : st ≤ ln) (hln : ln ≤ 65536) : Calls Try.prog 32 #[.pointer (some ⟨T.tb, 0, none⟩), .int .i64 st, .slice ka k kc] w (fun e w' => e = .returned (.tuple #[]) ∧ ∃ la' lc' a' ac' a3 c3, Hid (TS T w0 x mt la' (st + k) lc' (L.take st ++ E) a' (m + 1) ac' (xs ++ [.int .i64 2, .int .i64 0, .int .i64 0, .int .i64 st, .slice a3 k c3]) d0 dk dc w' ∧ CopyRow T (.slice a3 k c3) (.slice la' (st + k) lc') k E w' ∧ Chg w w' (fun k => k = T.tb ∨ k = T.pb ∨ (Value.slice a0 m ac).ownBlock = some k ∨ (Value.slice la ln lc).ownBlock = some k))) := by
  obtain ⟨ys, hd⟩ := h.d
  refine (relog_any18 w h.p h.t h.r h.l h.wz (Nat.le_trans h.bz h.wz) hm hE (by rw [cellsE_len, hl]) (cellsE_one18 E) hk hst hln).mono ?_
  rintro e w' ⟨rfl, a, cc, a2, c2, a3, c3, ⟨r1, r3, r2, t1, p1, g1, n1, n2, q1⟩⟩
  refine ⟨rfl, a2, c2, a, cc, a3, c3, hid ⟨⟨t1, p1, r1, ⟨ys, ?_⟩, ?_, ?_, ?_, ?_, h.tw, Nat.le_trans h.wz g1.size, h.bz⟩, ⟨?_, q1⟩, g1⟩⟩
  · refine row_chg18 hd g1 fun g hg hs => ?_
    rcases hs with rfl | rfl | hs | hs
    · exact row_apart18 hd h.t (by decide) hg
    · exact row_apart18 hd h.p (by decide) hg
    · exact rows_apart18 hd h.r (by decide) g hg hs
    · exact rows_apart18 hd h.l (by decide) g hg hs
  · rw [cellsE_app, cellsE_take]; exact r2
  · refine row_chg18 h.k g1 fun g hg hs => ?_
    rcases hs with rfl | rfl | hs | hs
    · exact row_apart18 h.k h.t (by decide) hg
    · exact row_apart18 h.k h.p (by decide) hg
    · exact rows_apart18 h.k h.r (by decide) g hg hs
    · exact rows_apart18 h.k h.l (by decide) g hg hs
  · refine h.f.trans g1 fun i hi hs => ?_
    rcases hs with rfl | rfl | hs | hs
    · exact .inl h.tw
    · exact .inr (.inl rfl)
    · exact .inl (World.ownsRow.lt h.r i hs).1
    · rcases h.n with e | ⟨g, e, hg⟩
      · exact .inr (.inr (.inl (e ▸ hs)))
      · rw [e] at hs
        injection hs with hs
        exact .inl (hs ▸ hg)
  · rcases n2 with e | ⟨g, e, hg⟩
    · rw [e]; exact h.n
    · exact .inr ⟨g, e, Nat.le_trans h.wz hg⟩
  · refine ⟨r3.1, ?_⟩
    rcases r3.2 with e | ⟨g, cap, cur, e1, e2, e3⟩
    · exact .inl e
    · exact .inr ⟨g, cap, cur, e1, Nat.le_trans h.wz e2, e3⟩
/-- Messages were told. -/
theorem TS.told {T : TC} {w0 : World} {x : Pt} {mt : List Nat} {la : Option Addr} {ln lc : Nat} {L : List Ent} {a0 : Option Addr} {m ac : Nat} {xs ys : List Value} {d0 : Option Addr} {dk dc q : Nat} {w w' : World} (h : TS T w0 x mt la ln lc L a0 m ac xs d0 dk dc w) (hd : w.ownsRow T.wb 41 8 (.slice d0 dk dc) dk ys) (hE : TellEnd T.tb T.pb T.wb x (.slice a0 m ac) (.slice la ln lc) T.sv T.dv (.slice (some ⟨T.mb, 0, none⟩) x.n T.mc) (.slice d0 dk dc) q ys w w') : ∃ d1 dc1, Hid (TS T w0 x mt la ln lc L a0 m ac xs d1 q dc1 w' ∧ Chg w w' (fun k => k = T.tb ∨ (Value.slice d0 dk dc).ownBlock = some k)) := by
  obtain ⟨a, c, zs, ⟨t1, p1, r1, g1, n1⟩⟩ := hE
  refine ⟨a, c, hid ⟨⟨t1, p1, ?_, ⟨_, r1⟩, ?_, ?_, ?_, h.n, h.tw, Nat.le_trans h.wz g1.size, h.bz⟩, g1⟩⟩
  · refine row_chg18 h.r g1 fun g hg hs => ?_
    rcases hs with rfl | hs
    · exact row_apart18 h.r h.t (by decide) hg
    · exact rows_apart18 h.r hd (by decide) g hg hs
  · refine row_chg18 h.l g1 fun g hg hs => ?_
    rcases hs with rfl | hs
    · exact row_apart18 h.l h.t (by decide) hg
    · exact rows_apart18 h.l hd (by decide) g hg hs
  · refine row_chg18 h.k g1 fun g hg hs => ?_
    rcases hs with rfl | hs
    · exact row_apart18 h.k h.t (by decide) hg
    · exact rows_apart18 h.k hd (by decide) g hg hs
  · refine h.f.trans g1 fun i hi hs => ?_
    rcases hs with rfl | hs
    · exact .inl h.tw
    · exact .inl (World.ownsRow.lt hd i hs).1
/-- Records were saved. -/
theorem TS.saved {T : TC} {w0 : World} {x y : Pt} {mt : List Nat} {la : Option Addr} {ln lc : Nat} {L : List Ent} {a0 : Option Addr} {m m1 ac : Nat} {xs zs : List Value} {d0 : Option Addr} {dk dc : Nat} {w w' : World} (h : TS T w0 x mt la ln lc L a0 m ac xs d0 dk dc w) (hy : y.n = x.n) (hE : SaveYes T.tb T.pb T.wb y (.slice la ln lc) T.sv T.dv (.slice (some ⟨T.mb, 0, none⟩) x.n T.mc) (.slice a0 m ac) m1 zs (.slice d0 dk dc) w w') : ∃ a1 ac1, Hid (TS T w0 y mt la ln lc L a1 m1 ac1 zs d0 dk dc w' ∧ Chg w w' (fun k => k = T.tb ∨ k = T.pb ∨ (Value.slice a0 m ac).ownBlock = some k)) := by
  obtain ⟨ys, hd⟩ := h.d
  obtain ⟨a, c, ⟨r1, t1, p1, g1, n1⟩⟩ := hE
  refine ⟨a, c, hid ⟨⟨t1, by rw [hy]; exact p1, r1, ⟨ys, ?_⟩, ?_, ?_, ?_, h.n, h.tw, Nat.le_trans h.wz g1.size, h.bz⟩, g1⟩⟩
  · refine row_chg18 hd g1 fun g hg hs => ?_
    rcases hs with rfl | rfl | hs
    · exact row_apart18 hd h.t (by decide) hg
    · exact row_apart18 hd h.p (by decide) hg
    · exact rows_apart18 hd h.r (by decide) g hg hs
  · refine row_chg18 h.l g1 fun g hg hs => ?_
    rcases hs with rfl | rfl | hs
    · exact row_apart18 h.l h.t (by decide) hg
    · exact row_apart18 h.l h.p (by decide) hg
    · exact rows_apart18 h.l h.r (by decide) g hg hs
  · rw [hy]
    refine row_chg18 h.k g1 fun g hg hs => ?_
    rcases hs with rfl | rfl | hs
    · exact row_apart18 h.k h.t (by decide) hg
    · exact row_apart18 h.k h.p (by decide) hg
    · exact rows_apart18 h.k h.r (by decide) g hg hs
  · refine h.f.trans g1 fun i hi hs => ?_
    rcases hs with rfl | rfl | hs
    · exact .inl h.tw
    · exact .inr (.inl rfl)
    · exact .inl (World.ownsRow.lt h.r i hs).1
/-- A copy stays where it is when Save or Send grows. -/
theorem CopyRow.told {T : TC} {v lv : Value} {k : Nat} {E : List Ent} {w w' : World} {w0 : World} {x : Pt} {mt : List Nat} {la : Option Addr} {ln lc : Nat} {L : List Ent} {a0 : Option Addr} {m ac : Nat} {xs : List Value} {d0 : Option Addr} {dk dc : Nat} (h : TS T w0 x mt la ln lc L a0 m ac xs d0 dk dc w) (hc : CopyRow T v lv k E w) (g1 : Chg w w' (fun k => k = T.tb ∨ (Value.slice d0 dk dc).ownBlock = some k)) : CopyRow T v lv k E w' := by
  obtain ⟨ys, hd⟩ := h.d
  refine ⟨row_chg18 hc.1 g1 fun g hg hs => ?_, hc.2⟩
  rcases hs with rfl | hs
  · exact row_apart18 hc.1 h.t (by decide) hg
  · exact rows_apart18 hc.1 hd (by decide) g hg hs
theorem CopyRow.saved {T : TC} {v lv : Value} {k : Nat} {E : List Ent} {w w' : World} {w0 : World} {x : Pt} {mt : List Nat} {la : Option Addr} {ln lc : Nat} {L : List Ent} {a0 : Option Addr} {m ac : Nat} {xs : List Value} {d0 : Option Addr} {dk dc : Nat} (h : TS T w0 x mt la ln lc L a0 m ac xs d0 dk dc w) (hc : CopyRow T v lv k E w) (g1 : Chg w w' (fun k => k = T.tb ∨ k = T.pb ∨ (Value.slice a0 m ac).ownBlock = some k)) : CopyRow T v lv k E w' := by
  refine ⟨row_chg18 hc.1 g1 fun g hg hs => ?_, hc.2⟩
  rcases hs with rfl | rfl | hs
  · exact row_apart18 hc.1 h.t (by decide) hg
  · exact row_apart18 hc.1 h.p (by decide) hg
  · exact rows_apart18 hc.1 h.r (by decide) g hg hs
theorem CopyRow.below {T : TC} {v lv : Value} {k : Nat} {E : List Ent} {w w' : World} (hc : CopyRow T v lv k E w) (hb : Below w.heap.size w w') : CopyRow T v lv k E w' := ⟨row_below2 hc.1 hb, hc.2⟩
theorem nsV_cells18 {W : World} {base mb n mc : Nat} {mt : List Nat} (h : W.ownsRow base 3 1 (.slice (some ⟨mb, 0, none⟩) n mc) n (nsV mt)) : ∀ j, j < mt.length → W.cell? ⟨mb, j, none⟩ = some (.int .i64 ((mt.map fun k : Nat => (k : Int)).getD j 0)) := fun j hj => by
  obtain ⟨a', c', e, -, -, hr⟩ := row_form h
  injection e with e1 e2 e3
  rcases hr with ⟨q, -⟩ | ⟨g, q, -, -, hc⟩
  · rw [q] at e1; cases e1
  · rw [q] at e1
    injection e1 with e1
    injection e1 with e1
    subst e1
    refine hc j _ ?_
    rw [List.getElem?_map, List.getD_eq_getElem?_getD, List.getElem?_map, List.getElem?_eq_getElem hj]
    rfl
end Go.Proofs.Ytaonchdpnllhpaa
namespace Go.Proofs.Ytaonchdpnllhpaa
open Go.RowKit
theorem othL_ids18 (n id : Nat) : (othL n id).length ≤ n := othL_le n id
/-- The row of the others stays where it is when Send grows. -/
theorem ints_stay18 {w w' : World} {base n : Nat} {l : List Nat} {ta : Option Addr} {tc : Nat} {S : Nat → Prop} (h : w.ownsRow base 3 1 (.slice ta n tc) n (nsV l)) (hc : Chg w w' S) (hS : ∀ g, (Value.slice ta n tc).ownBlock = some g → ¬ S g) : ∀ j, j < n → ∃ b o, ta = some ⟨b, o, none⟩ ∧ w'.cell? ⟨b, o + j, none⟩ = some (.int .i64 (l.getD j 0 : Nat)) ∧ b < w'.heap.size := fun j hj => by
  have h2 := row_chg18 h hc hS
  have hl := h.1
  simp only [List.length_map] at hl
  obtain ⟨a', c', e, -, -, hr⟩ := row_form h2
  injection e with e1 e2 e3
  rcases hr with ⟨q, q2, -⟩ | ⟨g, q, -, hg, hc⟩
  · omega
  · refine ⟨g, 0, e1.trans q, ?_, hg⟩
    rw [Nat.zero_add]
    refine hc j _ ?_
    have hj2 : j < l.length := by omega
    rw [List.getElem?_map, List.getD_eq_getElem?_getD, List.getElem?_eq_getElem hj2]
    rfl
theorem nsV_int18 (l : List Nat) (i v : Nat) : (l.map fun k : Nat => (k : Int)).set i (v : Int) = (l.set i v).map fun k : Nat => (k : Int) := by
  rw [List.map_set]
theorem midV_nat18 (n : Nat) (l : List Nat) : ∃ k : Nat, midV n (l.map fun k : Nat => (k : Int)) = k := by
  unfold midV
  rw [List.getD_eq_getElem?_getD]
  cases h : ((l.map fun k : Nat => (k : Int)).mergeSort fun x y => decide (x ≤ y))[n / 2]? with
  | none => exact ⟨0, rfl⟩
  | some v =>
    have h1 := List.mem_of_getElem? h
    rw [List.mem_mergeSort, List.mem_map] at h1
    obtain ⟨k, -, rfl⟩ := h1
    exact ⟨k, rfl⟩
/-- What a request comes to: how many more than half match. -/
def midN (n : Nat) (l : List Nat) : Nat := (midV n (l.map fun k : Nat => (k : Int))).toNat
theorem midN_eq (n : Nat) (l : List Nat) : midV n (l.map fun k : Nat => (k : Int)) = (midN n l : Nat) := by
  obtain ⟨k, hk⟩ := midV_nat18 n l
  unfold midN
  rw [hk]
  rfl
/-- The records of a Commit that rises, if it does. -/
def comX (cm c : Int) : List Value := if cm < c then [.int .i64 3, .int .i64 0, .int .i64 0, .int .i64 c, .slice none 0 0] else []
def comN (cm c : Int) : Nat := if cm < c then 1 else 0
def Pt.rises (x : Pt) (c : Int) : Pt := { x with cm := if x.cm < c then c else x.cm }
/-- A turn's rise. -/
theorem TS.rise {T : TC} {w0 : World} {x : Pt} {mt : List Nat} {la : Option Addr} {ln lc : Nat} {L : List Ent} {a0 : Option Addr} {m ac : Nat} {xs : List Value} {d0 : Option Addr} {dk dc c : Nat} {w : World} (h : TS T w0 x mt la ln lc L a0 m ac xs d0 dk dc w) (hm : m ≤ 900000) : Calls Try.prog 35 #[.pointer (some ⟨T.tb, 0, none⟩), .int .i64 c] w (fun e w' => e = .returned (.tuple #[]) ∧ ∃ a' ac', Hid (TS T w0 (x.rises (min (c : Int) ln)) mt la ln lc L a' (m + comN x.cm (min (c : Int) ln)) ac' (xs ++ comX x.cm (min (c : Int) ln)) d0 dk dc w' ∧ Chg w w' (fun k => k = T.tb ∨ k = T.pb ∨ (Value.slice a0 m ac).ownBlock = some k))) := by
  refine (rise_any18 (c := c) w h.p h.t h.r h.wz hm).mono ?_
  rintro e w' ⟨rfl, hR⟩
  refine ⟨rfl, ?_⟩
  rcases hR with ⟨hle, rfl⟩ | ⟨hlt, hS⟩
  · have n1 : ¬ x.cm < min (c : Int) ln := by omega
    have e1 : x.rises (min (c : Int) ln) = x := by unfold Pt.rises; rw [if_neg n1]
    have e2 : comN x.cm (min (c : Int) ln) = 0 := if_neg n1
    have e3 : comX x.cm (min (c : Int) ln) = [] := if_neg n1
    rw [e1, e2, e3, List.append_nil]
    exact ⟨a0, ac, hid ⟨h, Chg.refl _ _⟩⟩
  · have e1 : x.rises (min (c : Int) ln) = { x with cm := min (c : Int) ln } := by unfold Pt.rises; rw [if_pos hlt]
    have e2 : comN x.cm (min (c : Int) ln) = 1 := if_pos hlt
    have e3 : comX x.cm (min (c : Int) ln) = [.int .i64 3, .int .i64 0, .int .i64 0, .int .i64 (min (c : Int) ln), .slice none 0 0] := if_pos hlt
    rw [e1, e2, e3]
    obtain ⟨a1, ac1, h1⟩ := h.saved (y := { x with cm := min (c : Int) ln }) rfl hS
    exact ⟨a1, ac1, h1⟩
/-- A turn's matched. -/
theorem TS.matched {T : TC} {w0 : World} {x : Pt} {mt : List Nat} {la : Option Addr} {ln lc : Nat} {L : List Ent} {a0 : Option Addr} {m ac : Nat} {xs : List Value} {d0 : Option Addr} {dk dc : Nat} {w : World} (h : TS T w0 x mt la ln lc L a0 m ac xs d0 dk dc w) (hn1 : 1 ≤ x.n) (hn : x.n ≤ 7) (hi : x.id < x.n) : Calls Try.prog 36 #[.pointer (some ⟨T.pb, 0, none⟩)] w (fun e w' => e = .returned (.int .i64 ((midN x.n (mt.set x.id ln) : Nat) : Int)) ∧ Below w.heap.size w w') := by
  have hl := h.len
  have hm := matched_any18 (mt := mt.map fun k : Nat => (k : Int)) hn1 hn hi (by rw [List.length_map]; exact hl.2) w h.p (fun j hj => nsV_cells18 h.k j (by simpa using hj))
  rw [nsV_int18, midN_eq] at hm
  exact hm
theorem TS.rd {T : TC} {w0 : World} {x : Pt} {mt : List Nat} {la : Option Addr} {ln lc : Nat} {L : List Ent} {a0 : Option Addr} {m ac : Nat} {xs : List Value} {d0 : Option Addr} {dk dc : Nat} {W : World} (h : TS T w0 x mt la ln lc L a0 m ac xs d0 dk dc W) : W.cell? ⟨T.tb, 0, none⟩ = some (.pointer (some ⟨T.pb, 0, none⟩)) ∧ W.cell? ⟨T.pb, 0, none⟩ = some (.int .i64 x.vw) ∧ W.cell? ⟨T.pb, 3, none⟩ = some (.slice la ln lc) ∧ T.tb < W.heap.size ∧ T.pb < W.heap.size := by
  obtain ⟨⟨t0, -, -⟩, tl, -⟩ := h.t.rd
  obtain ⟨⟨p0, -, -, p3, -⟩, -, pl, -⟩ := h.p.rd
  exact ⟨t0, p0, p3, tl, pl⟩
/-- A turn's prepare. -/
theorem TS.prepare {T : TC} {w0 : World} {x : Pt} {mt : List Nat} {la : Option Addr} {ln lc : Nat} {L : List Ent} {a0 : Option Addr} {m ac : Nat} {xs : List Value} {d0 : Option Addr} {dk dc op q tc bi : Nat} {ta : Option Addr} {I : List Nat} {w : World} (h : TS T w0 x mt la ln lc L a0 m ac xs d0 dk dc w) (hI : w.ownsRow bi 3 1 (.slice ta q tc) q (nsV I)) (hd : dk ≤ 100000) (hq : q ≤ 7) (hop : op ≤ ln) (hln : ln ≤ 65536) : Calls Try.prog 33 #[.pointer (some ⟨T.tb, 0, none⟩), .int .i64 op, .slice ta q tc] w (fun e w' => e = .returned (.tuple #[]) ∧ ∃ d1 dc1, Hid (TS T w0 x mt la ln lc L a0 m ac xs d1 (dk + q) dc1 w' ∧ Chg w w' (fun k => k = T.tb ∨ (Value.slice d0 dk dc).ownBlock = some k))) := by
  obtain ⟨ys, hd'⟩ := h.d
  have hIl := hI.1
  simp only [List.length_map] at hIl
  refine (prepare_any18 (L := I) w h.p h.t hd' h.l h.wz hd hq (by omega) (fun W hW => ints_stay18 hI hW fun g hg hs => ?_) (cellsE_one18 L) hop hln).mono ?_
  · rcases hs with rfl | hs
    · exact row_apart18 hI h.t (by decide) hg
    · exact rows_apart18 hI hd' (by decide) g hg hs
  · rintro e w' ⟨rfl, hE⟩
    exact ⟨rfl, h.told hd' hE⟩
/-- How a turn's request ends. -/
def ReqEnd (T : TC) (w0 : World) (x : Pt) (mt : List Nat) (L : List Ent) (ln : Nat) (E : List Ent) (m : Nat) (xs : List Value) (dk : Nat) (w' : World) : Prop := ∃ la lc a ac d dc a3 c3, Hid (TS T w0 (x.rises (min ((midN x.n (mt.set x.id (ln + 1)) : Nat) : Int) ((ln + 1 : Nat) : Int))) mt la (ln + 1) lc (L ++ E) a (m + 1 + comN x.cm (min ((midN x.n (mt.set x.id (ln + 1)) : Nat) : Int) ((ln + 1 : Nat) : Int))) ac (xs ++ [.int .i64 2, .int .i64 0, .int .i64 0, .int .i64 ln, .slice a3 1 c3] ++ comX x.cm (min ((midN x.n (mt.set x.id (ln + 1)) : Nat) : Int) ((ln + 1 : Nat) : Int))) d (dk + (othL x.n x.id).length) dc w' ∧ CopyRow T (.slice a3 1 c3) (.slice la (ln + 1) lc) 1 E w')
set_option maxRecDepth 100000 in
set_option maxHeartbeats 1000000 in
theorem request_any18 {T : TC} {w0 : World} {x : Pt} {mt : List Nat} {la : Option Addr} {ln lc : Nat} {L : List Ent} {a0 : Option Addr} {m ac : Nat} {xs : List Value} {d0 : Option Addr} {dk dc : Nat} (s : List UInt8) (w : World) (h : TS T w0 x mt la ln lc L a0 m ac xs d0 dk dc w) (hn1 : 1 ≤ x.n) (hn : x.n ≤ 7) (hi : x.id < x.n) (hm : m ≤ 899999) (hd : dk ≤ 100000) (hln : ln ≤ 60000) : Calls Try.prog 22 #[.pointer (some ⟨T.tb, 0, none⟩), .string ⟨s.toArray⟩] w (fun e w' => e = .returned (.tuple #[]) ∧ ReqEnd T w0 x mt L ln [⟨x.vw, s⟩] m xs dk w') := by
  obtain ⟨t0, p0, p3, tl, pl⟩ := h.rd
  have HRl : Hid (∀ W, W = w.alloc (.cells #[.int .i64 x.vw, .string ⟨s.toArray⟩] 56) → Calls Try.prog 32 #[.pointer (some ⟨T.tb, 0, none⟩), .int .i64 ln, .slice (some ⟨w.heap.size, 0, none⟩) 1 1] W (fun e w' => e = .returned (.tuple #[]) ∧ ∃ la' lc' a' ac' a3 c3, Hid (TS T w0 x mt la' (ln + 1) lc' (L ++ [⟨x.vw, s⟩]) a' (m + 1) ac' (xs ++ [.int .i64 2, .int .i64 0, .int .i64 0, .int .i64 ln, .slice a3 1 c3]) d0 dk dc w' ∧ CopyRow T (.slice a3 1 c3) (.slice la' (ln + 1) lc') 1 [⟨x.vw, s⟩] w'))) := hid fun W hW => by
    have hb : Below w.heap.size w W := by rw [hW]; exact (Below.refl _ w).alloc (Nat.le_refl _) _
    have hg : W.heap[w.heap.size]? = some (.cells #[.int .i64 x.vw, .string ⟨s.toArray⟩] 56 (0, 0)) := by rw [hW]; exact heap_alloc_new _ _
    have hlen := h.len.1
    refine ((h.below hb).relog (k := 1) (E := [⟨x.vw, s⟩]) (by omega) (fun V hV => ?_) rfl (by omega) (Nat.le_refl _) (by omega)).mono ?_
    · have hv : V.heap[w.heap.size]? = some (.cells #[.int .i64 x.vw, .string ⟨s.toArray⟩] 56 (0, 0)) := by
        rw [hV.block _ (lt_of_block hg) (fun hs => ?_)]
        · exact hg
        · rcases hs with e | e | e
          · omega
          · omega
          · have := (World.ownsRow.lt h.r _ e).2
            omega
      exact .inr ⟨_, _, rfl, World.news_of_block hv⟩
    · rintro e w' ⟨rfl, la', lc', a', ac', a3, c3, ⟨h1, h2, -⟩⟩
      rw [List.take_of_length_le (by omega)] at h1
      exact ⟨rfl, la', lc', a', ac', a3, c3, hid ⟨h1, h2⟩⟩
  have HX := hid h
  clear h
  go_enter Try.func22, Try.ntmps22
  go_wp2_with (first
      | (go_at_call 32; refine (HRl.out _ rfl).mono ?_; clear HRl; rintro e W1 ⟨rfl, la1, lc1, a1, ac1, a3, c3, H1⟩; obtain ⟨t0, p0, p3, tl, pl⟩ := H1.out.1.rd; have HO := hid (others_any18 hn W1 H1.out.1.p))
      | (go_at_call 34; refine HO.out.mono ?_; clear HO; rintro e W2 ⟨v2, rfl, r2, b2⟩; obtain ⟨ta, tc, e2, -⟩ := row_form r2; subst e2; have H2 := hid (And.intro (H1.out.1.below b2) (H1.out.2.below b2)); clear H1; obtain ⟨t0, p0, p3, tl, pl⟩ := H2.out.1.rd; have HP := hid (H2.out.1.prepare (op := ln) r2 hd (Nat.le_trans (othL_le _ _) hn) (by omega) (by omega)); clear r2 b2)
      | (go_at_call 33; refine HP.out.mono ?_; clear HP; rintro e W3 ⟨rfl, d3, dc3, H3⟩; have H4 := hid (And.intro H3.out.1 (CopyRow.told H2.out.1 H2.out.2 H3.out.2)); clear H3 H2; obtain ⟨t0, p0, p3, tl, pl⟩ := H4.out.1.rd; have HM := hid (H4.out.1.matched hn1 hn hi))
      | (go_at_call 36; refine HM.out.mono ?_; clear HM; rintro e W5 ⟨rfl, b5⟩; have H5 := hid (And.intro (H4.out.1.below b5) (H4.out.2.below b5)); clear H4 b5; obtain ⟨t0, p0, p3, tl, pl⟩ := H5.out.1.rd; have HRi := hid (H5.out.1.rise (c := midN x.n (mt.set x.id (ln + 1))) (by omega)))
      | (go_at_call 35; refine HRi.out.mono ?_; clear HRi; rintro e W6 ⟨rfl, a6, ac6, H6⟩; have H7 := hid (And.intro H6.out.1 (CopyRow.saved H5.out.1 H5.out.2 H6.out.2)); clear H6 H5)
      | fail)
  go_end0
  exact ⟨rfl, la1, lc1, a6, ac6, d3, dc3, a3, c3, H7⟩
end Go.Proofs.Ytaonchdpnllhpaa
