/- asm.ReadHead. -/
import Derived.Test.YtbjipcpoiiegkaaGreatDoorVParse
namespace Go.Proofs.YtbjipcpoiiegkaaGreatDoor
open Go.RowKit Go.Shelf
attribute [local go_sem] Oper.semAt_some
def noFn : Fn := ⟨[], [], [], []⟩
/-- The head's lists, in memory of one's own. -/
def HeadRows (B : Nat) (f : Fn) (v0 v1 v2 : Value) (W : World) : Prop := W.ownsRow B 3 1 v0 f.p.length (cellsN f.p) ∧ W.ownsRow B 3 1 v1 f.r.length (cellsN f.r) ∧ W.ownsRow B 3 1 v2 f.l.length (cellsN f.l)
theorem noFn_rows (B : Nat) (W : World) : HeadRows B noFn (.slice none 0 0) (.slice none 0 0) (.slice none 0 0) W := ⟨World.ownsRow_nil _ _ _ _, World.ownsRow_nil _ _ _ _, World.ownsRow_nil _ _ _ _⟩
/-- How ReadHead ends. -/
def HeadEnd (r : Option Fn) (w : World) (e : Ending) (w' : World) : Prop := ∃ v0 v1 v2, e = .returned (.tuple #[.agg #[v0, v1, v2, .slice none 0 0], .bool r.isSome]) ∧ HeadRows w.heap.size (r.getD noFn) v0 v1 v2 w' ∧ Below w.heap.size w w'
theorem headSt_new (s : List UInt8) (w : World) : HeadSt w.heap.size hBeg ((((((((w.alloc (.cells #[.slice none 0 0, .slice none 0 0, .slice none 0 0, .slice none 0 0] 32)).alloc (.cells #[.bool false] 4)).alloc (.cells #[.slice none 0 0, .slice none 0 0, .slice none 0 0] 62)).alloc (.cells #[.int .i64 0] 3)).alloc (.cells #[.int .i64 0] 3)).alloc (.cells #[.string ⟨s.toArray⟩] 9)).alloc (.cells #[.string ⟨#[32]⟩] 9)).alloc (.cells #[.int .i64 0] 3)) := by
  refine ⟨by (simp only [heap_alloc_at, World.size_alloc]; repeat first | rw [if_neg (by omega)] | exact if_pos trivial), by (simp only [heap_alloc_at, World.size_alloc]; repeat first | rw [if_neg (by omega)] | exact if_pos trivial), ⟨fun _ => .slice none 0 0, by (simp only [heap_alloc_at, World.size_alloc]; repeat first | rw [if_neg (by omega)] | exact if_pos trivial), ⟨fun i hi => ?_, fun i j _ _ _ _ => rfl⟩⟩, by (simp only [heap_alloc_at, World.size_alloc, hBeg]; repeat first | rw [if_neg (by omega)] | exact if_pos trivial), by (simp only [heap_alloc_at, World.size_alloc, hBeg]; repeat first | rw [if_neg (by omega)] | exact if_pos trivial), by simp⟩
  have : (hBeg.at i) = [] := by
    match i with
    | 0 => rfl
    | 1 => rfl
    | _ + 2 => rfl
  rw [this]
  exact World.ownsRow_nil _ _ _ _

/-- The results are set to nothing. -/
abbrev zero5 (B : Nat) (W : World) : World := ((((W.setCell ⟨B, 0, none⟩ (.slice none 0 0)).setCell ⟨B, 1, none⟩ (.slice none 0 0)).setCell ⟨B, 2, none⟩ (.slice none 0 0)).setCell ⟨B, 3, none⟩ (.slice none 0 0)).setCell ⟨B + 1, 0, none⟩ (.bool false)
theorem zero5_other (B k : Nat) (W : World) (h0 : k ≠ B) (h1 : k ≠ B + 1) : (zero5 B W).heap[k]? = W.heap[k]? :=
  (Below.heap_setCell _ _ _ k h1).trans ((Below.heap_setCell _ _ _ k h0).trans ((Below.heap_setCell _ _ _ k h0).trans ((Below.heap_setCell _ _ _ k h0).trans (Below.heap_setCell _ _ _ k h0))))
theorem HeadSt.zero {B : Nat} {h : HS} {W : World} (hs : HeadSt B h W) : HeadSt B h (zero5 B W) := by
  obtain ⟨f, b, ⟨vs, hl, hr⟩, m, n, sz⟩ := hs
  have o := fun k h0 h1 => zero5_other B k W h0 h1
  refine ⟨?_, ?_, ⟨vs, (o _ (by omega) (by omega)).trans hl, ⟨fun i hi => row_keepc (hr.row i hi) fun g o' hg ho hc _ => (o g (by omega) (by omega)).trans ho, hr.far⟩⟩, (o _ (by omega) (by omega)).trans m, (o _ (by omega) (by omega)).trans n, by simp [zero5, World.setCell]; omega⟩
  · refine (Below.heap_setCell _ _ _ _ (by show B ≠ B + 1; omega)).trans ?_
    simp [World.setCell, Array.getElem?_modify, f]
  · refine set_one (x := .bool false) ?_
    have o2 : ∀ k, k ≠ B → ((((W.setCell ⟨B, 0, none⟩ (.slice none 0 0)).setCell ⟨B, 1, none⟩ (.slice none 0 0)).setCell ⟨B, 2, none⟩ (.slice none 0 0)).setCell ⟨B, 3, none⟩ (.slice none 0 0)).heap[k]? = W.heap[k]? := fun k h0 => (Below.heap_setCell _ _ _ k h0).trans ((Below.heap_setCell _ _ _ k h0).trans ((Below.heap_setCell _ _ _ k h0).trans (Below.heap_setCell _ _ _ k h0)))
    exact (o2 _ (by omega)).trans b
theorem zero5_below {B : Nat} {w W : World} (hB : Below B w W) : Below B w (zero5 B W) :=
  ((((hB.setCell (p := ⟨B, 0, none⟩) (Nat.le_refl _) _).setCell (p := ⟨B, 1, none⟩) (Nat.le_refl _) _).setCell (p := ⟨B, 2, none⟩) (Nat.le_refl _) _).setCell (p := ⟨B, 3, none⟩) (Nat.le_refl _) _).setCell (p := ⟨B + 1, 0, none⟩) (Nat.le_succ _) _
theorem zero5_keeps (B : Nat) (W : World) : KeepsOthers W (zero5 B W) :=
  (KeepsOthers.setCell _ _ _).trans ((KeepsOthers.setCell _ _ _).trans ((KeepsOthers.setCell _ _ _).trans ((KeepsOthers.setCell _ _ _).trans (KeepsOthers.setCell _ _ _))))
theorem head_no {B0 : Nat} {w W : World} {h : HS} {X : Prop} {Kp : World → World → Prop} {I : World → Prop} {a : Act} (hst : HeadSt w.heap.size h W) (hB : Below w.heap.size w W) (hX : X) : RoundEnd B0 Kp I (fun W => (∃ h, X ∧ HeadSt w.heap.size h W) ∧ Below w.heap.size w W) W .ret a (zero5 w.heap.size W) :=
  ⟨(zero5_keeps _ _).from _, ⟨h, hX, hst.zero⟩, zero5_below hB⟩
theorem head_mark {B0 : Nat} {w W : World} {h g : HS} {J : HS → Prop} {R : World → Prop} {a : Act} {v : Value} (hst : HeadSt w.heap.size h W) (hB : Below w.heap.size w W) (hv : v = .int .i64 ((h.m + 1 : Nat) : Int)) (hg : g = { h with m := h.m + 1 }) (hj : J g) : RoundEnd B0 (Kept (w.heap.size + 6) (w.heap.size + 5) (w.heap.size + 7)) (fun W => (∃ h, J h ∧ HeadSt w.heap.size h W) ∧ Below w.heap.size w W) R W .normal a (W.setCell ⟨w.heap.size + 3, 0, none⟩ v) := by
  subst hv hg
  refine ⟨(KeepsOthers.setCell _ _ _).from _, ⟨Below.heap_setCell _ _ _ _ (by show w.heap.size + 6 ≠ w.heap.size + 3; omega), Below.heap_setCell _ _ _ _ (by show w.heap.size + 5 ≠ w.heap.size + 3; omega), Below.heap_setCell _ _ _ _ (by show w.heap.size + 7 ≠ w.heap.size + 3; omega)⟩, ⟨_, hj, hst.mark⟩, ?_⟩
  exact hB.setCell (p := ⟨w.heap.size + 3, 0, none⟩) (by show w.heap.size ≤ w.heap.size + 3; omega) _
/-- What the operations of 'lists[passed-1] = append(lists[passed-1], kind)' come to. -/
def hvals (M J B z : Nat) (vj : Value) (kk : Int) (v' : Value) : Nat → Value
  | 0 => .int .i64 M
  | 1 => .int .i64 J
  | 2 => .int .i64 M
  | 3 => .int .i64 J
  | 4 => .pointer (some ⟨B + 2, J, none⟩)
  | 5 => vj
  | 6 => .int .i64 kk
  | 7 => .slice (some ⟨z, 0, none⟩) 1 1
  | 8 => v'
  | 9 => .pointer (some ⟨B + 2, J, none⟩)
  | _ => undef
def hworld (W W2 : World) (B J : Nat) (kk : Int) (v' : Value) : Nat → World
  | 0 => W.drew
  | 1 => W.drew.alloc (.cells #[.int .i64 kk] 3)
  | 2 => W2
  | _ => W2.setCell ⟨B + 2, J, none⟩ v'
def hstage (L : Array Bool) : Nat := if L.getD 10 false = true then 3 else if L.getD 8 false = true then 2 else if L.getD 7 false = true then 1 else 0
theorem hstage_other {L : Array Bool} {i : Nat} (h7 : i ≠ 7) (h8 : i ≠ 8) (h10 : i ≠ 10) : hstage (L.setIfInBounds i true) = hstage L := by
  have a := getD_set L i 10 false
  have b := getD_set L i 8 false
  have c := getD_set L i 7 false
  rw [if_neg (fun h => h10 h.1)] at a
  rw [if_neg (fun h => h8 h.1)] at b
  rw [if_neg (fun h => h7 h.1)] at c
  simp only [hstage, a, b, c]
theorem hstage_7 {L : Array Bool} (hn : L.getD 7 true = false) (h8 : L.getD 8 false = false) (h10 : L.getD 10 false = false) : hstage L = 0 ∧ hstage (L.setIfInBounds 7 true) = 1 := by
  have := getD_lt hn
  have h7 := getD_off hn
  constructor
  · simp [hstage, h7, h8, h10]
  · have a := getD_set L 7 10 false
    have b := getD_set L 7 8 false
    have c := getD_set L 7 7 false
    rw [if_neg (fun h => by omega)] at a
    rw [if_neg (fun h => by omega)] at b
    rw [if_pos ⟨rfl, this⟩] at c
    simp [hstage, a, b, c, h8, h10]
theorem hstage_8 {L : Array Bool} (hn : L.getD 8 true = false) (h7 : L.getD 7 false = true) (h10 : L.getD 10 false = false) : hstage L = 1 ∧ hstage (L.setIfInBounds 8 true) = 2 := by
  have := getD_lt hn
  have h8 := getD_off hn
  constructor
  · simp [hstage, h7, h8, h10]
  · have a := getD_set L 8 10 false
    have b := getD_set L 8 8 false
    rw [if_neg (fun h => by omega)] at a
    rw [if_pos ⟨rfl, this⟩] at b
    simp [hstage, a, b, h10]
theorem hstage_10 {L : Array Bool} (hn : L.getD 10 true = false) (h8 : L.getD 8 false = true) : hstage L = 2 ∧ hstage (L.setIfInBounds 10 true) = 3 := by
  have := getD_lt hn
  have h10 := getD_off hn
  constructor
  · simp [hstage, h8, h10]
  · have a := getD_set L 10 10 false
    rw [if_pos ⟨rfl, this⟩] at a
    simp [hstage, a]
theorem hstage_le2 {L : Array Bool} (h10 : L.getD 10 false = false) : hstage L ≤ 2 := by
  unfold hstage
  rw [if_neg (by rw [h10]; decide)]
  split
  · omega
  · split <;> omega
theorem hstage_le1 {L : Array Bool} (h10 : L.getD 10 false = false) (h8 : L.getD 8 false = false) : hstage L ≤ 1 := by
  unfold hstage
  rw [if_neg (by rw [h10]; decide), if_neg (by rw [h8]; decide)]
  split <;> omega
theorem off_of {L : Array Bool} {i j : Nat} (hn : L.getD i true = false) (hc : L.getD j false = true → L.getD i false = true) : L.getD j false = false := by
  cases h : L.getD j false with
  | false => rfl
  | true =>
    have := hc h
    rw [getD_off hn] at this
    cases this
theorem head_more {B0 : Nat} {w W W2 : World} {h : HS} {j : Nat} {k : Int} {vs : Nat → Value} {v' u : Value} {J : HS → Prop} {R : World → Prop} {a : Act} (hst : HeadSt w.heap.size h W) (hB : Below w.heap.size w W) (hl : W.heap[w.heap.size + 2]? = some (.cells #[vs 0, vs 1, vs 2] 62 (0, 0))) (hr : HRows w.heap.size h vs W) (hj : j < 3) (hm : h.m = j + 1)
    (hrow : W2.ownsRow (w.heap.size + 8) 3 1 v' ((h.at j).length + 1) (cellsN (h.at j) ++ [.int .i64 k])) (hs : Step (W.drew.alloc (.cells #[.int .i64 k] 3)) (vs j) W2 v') (hu : u = .int .i64 ((h.n + 1 : Nat) : Int)) (hJ : J (h.push k)) :
    RoundEnd B0 (Kept (w.heap.size + 6) (w.heap.size + 5) (w.heap.size + 7)) (fun W => (∃ h, J h ∧ HeadSt w.heap.size h W) ∧ Below w.heap.size w W) R W .normal a ((W2.setCell ⟨w.heap.size + 2, j, none⟩ v').setCell ⟨w.heap.size + 4, 0, none⟩ u) := by
  subst hu
  have szW := hst.sz
  have hbA : Below W.heap.size W (W.drew.alloc (.cells #[.int .i64 k] 3)) := (Below.refl _ W).drew.alloc (Nat.le_refl _) _
  have hjb : ∀ g, (vs j).ownBlock = some g → w.heap.size + 8 ≤ g ∧ g < W.heap.size := fun g e => ((hr.row j hj).lt g e)
  have blk : ∀ g, g < W.heap.size → some g ≠ (vs j).ownBlock → W2.heap[g]? = W.heap[g]? := fun g hg hne => (hs.1.block g (by simp; omega) hne).trans (hbA.block g hg)
  have o : ∀ g, g ≠ w.heap.size + 2 → g ≠ w.heap.size + 4 → ((W2.setCell ⟨w.heap.size + 2, j, none⟩ v').setCell ⟨w.heap.size + 4, 0, none⟩ (.int .i64 ((h.n + 1 : Nat) : Int))).heap[g]? = W2.heap[g]? := fun g h1 h2 => (Below.heap_setCell _ _ _ g h2).trans (Below.heap_setCell _ _ _ g h1)
  have low : ∀ g, g < w.heap.size + 8 → some g ≠ (vs j).ownBlock := fun g hg e => by have := (hjb g e.symm).1; omega
  have hb2 : Below w.heap.size w W2 := (hB.trans (hbA.mono hB.size)).trans ((hs.below (by simp; omega) fun g e => (hjb g e).1).mono (by omega))
  refine ⟨(KeepsOthers.trans (B := W2) ⟨?_, fun g ob hg hc => ?_⟩ ((KeepsOthers.setCell _ _ _).trans (KeepsOthers.setCell _ _ _))).from _, ⟨?_, ?_, ?_⟩, ⟨_, hJ, hst.more hl hr hj hm hrow hs⟩, ?_⟩
  · have := hs.1.size
    simp at this
    omega
  · refine (blk g (Array.getElem?_eq_some_iff.1 hg).1 fun e => ?_).trans hg
    rcases (hr.row j hj).2 with ⟨q, _⟩ | ⟨g', cap, cur, q, _, hh, _⟩
    · rw [q] at e
      cases e
    · rw [q] at e
      cases e
      rw [hg] at hh
      cases hh
      cases hc
  · exact (o _ (by omega) (by omega)).trans (blk _ (by omega) (low _ (by omega)))
  · exact (o _ (by omega) (by omega)).trans (blk _ (by omega) (low _ (by omega)))
  · exact (o _ (by omega) (by omega)).trans (blk _ (by omega) (low _ (by omega)))
  · exact (hb2.setCell (p := ⟨w.heap.size + 2, j, none⟩) (by show w.heap.size ≤ w.heap.size + 2; omega) _).setCell (p := ⟨w.heap.size + 4, 0, none⟩) (by show w.heap.size ≤ w.heap.size + 4; omega) _
theorem cells4h {w : World} {b : Nat} {x0 x1 x2 x3 : Value} {t : TypeId} (h : w.heap[b]? = some (.cells #[x0, x1, x2, x3] t (0, 0))) : (w.cell? ⟨b, 0, none⟩ = some x0 ∧ w.cell? ⟨b, 1, none⟩ = some x1 ∧ w.cell? ⟨b, 2, none⟩ = some x2 ∧ w.cell? ⟨b, 3, none⟩ = some x3) ∧ ∀ o, w.frozen? ⟨b, o, none⟩ = false :=
  ⟨⟨by simp [World.cell?, h], by simp [World.cell?, h], by simp [World.cell?, h], by simp [World.cell?, h]⟩, fun o => by simp [World.frozen?, h]⟩

theorem load_fn5 {w : World} {b : Nat} {x0 x1 x2 x3 : Value} (h : w.heap[b]? = some (.cells #[x0, x1, x2, x3] 32 (0, 0))) : (loadVar 32 ⟨b, 0, none⟩).run Tryz.prog w = .ok (.agg #[x0, x1, x2, x3]) w := by
  obtain ⟨⟨h0, h1, h2, h3⟩, _⟩ := cells4h h
  simp [loadVar, go_sem, h0, h1, h2, h3]
theorem load_bool5 {w : World} {b : Nat} {x : Value} (h : w.heap[b]? = some (.cells #[x] 4 (0, 0))) : (loadVar 4 ⟨b, 0, none⟩).run Tryz.prog w = .ok x w := by
  simp [loadVar, go_sem, cell_of_one h]
theorem row_lower5 {w : World} {base base' n size : Nat} {e : TypeId} {v : Value} {xs : List Value} (h : w.ownsRow base e size v n xs) (hb : base' ≤ base) : w.ownsRow base' e size v n xs := by
  refine ⟨h.1, ?_⟩
  rcases h.2 with h2 | ⟨g, cap, cur, e, hg, r⟩
  · exact .inl h2
  · exact .inr ⟨g, cap, cur, e, Nat.le_trans hb hg, r⟩
/-- Numbers of an owned row, where they lie. -/
theorem ns_of_row5 {W : World} {B base : Nat} {v : Value} {ns : List Int} (hB : B ≤ base) (h : W.ownsRow base 3 1 v ns.length (cellsN ns)) : ∃ a c, v = .slice a ns.length c ∧ NsAt (upF B W.cell?) a ns := by
  obtain ⟨a, c, rfl, _, _, hc⟩ := row_form h
  refine ⟨a, c, rfl, ?_⟩
  rcases hc with ⟨_, h0, _⟩ | ⟨g, rfl, hg, _, hcell⟩
  · exact .inl (List.eq_nil_of_length_eq_zero h0)
  · refine .inr ⟨g, 0, rfl, fun j hj => ?_⟩
    unfold upF
    rw [if_pos (show B ≤ g by omega), Nat.zero_add]
    exact hcell j _ (by simp [cellsN, hj])
abbrev set5 (B : Nat) (W : World) (x0 x1 x2 x3 b : Value) : World := ((((W.setCell ⟨B, 0, none⟩ x0).setCell ⟨B, 1, none⟩ x1).setCell ⟨B, 2, none⟩ x2).setCell ⟨B, 3, none⟩ x3).setCell ⟨B + 1, 0, none⟩ b
theorem set5_other (B k : Nat) (W : World) (x0 x1 x2 x3 b : Value) (h0 : k ≠ B) (h1 : k ≠ B + 1) : (set5 B W x0 x1 x2 x3 b).heap[k]? = W.heap[k]? :=
  (Below.heap_setCell _ _ _ k h1).trans ((Below.heap_setCell _ _ _ k h0).trans ((Below.heap_setCell _ _ _ k h0).trans ((Below.heap_setCell _ _ _ k h0).trans (Below.heap_setCell _ _ _ k h0))))
theorem set5_f {B : Nat} {W : World} {y0 y1 y2 y3 : Value} (x0 x1 x2 x3 b : Value) (f : W.heap[B]? = some (.cells #[y0, y1, y2, y3] 32 (0, 0))) : (set5 B W x0 x1 x2 x3 b).heap[B]? = some (.cells #[x0, x1, x2, x3] 32 (0, 0)) := by
  refine (Below.heap_setCell _ _ _ _ (by show B ≠ B + 1; omega)).trans ?_
  simp [World.setCell, Array.getElem?_modify, f]
theorem set5_b {B : Nat} {W : World} {y : Value} (x0 x1 x2 x3 b : Value) (f : W.heap[B + 1]? = some (.cells #[y] 4 (0, 0))) : (set5 B W x0 x1 x2 x3 b).heap[B + 1]? = some (.cells #[b] 4 (0, 0)) := by
  refine set_one (x := y) ?_
  have o2 : ∀ k, k ≠ B → ((((W.setCell ⟨B, 0, none⟩ x0).setCell ⟨B, 1, none⟩ x1).setCell ⟨B, 2, none⟩ x2).setCell ⟨B, 3, none⟩ x3).heap[k]? = W.heap[k]? := fun k h0 => (Below.heap_setCell _ _ _ k h0).trans ((Below.heap_setCell _ _ _ k h0).trans ((Below.heap_setCell _ _ _ k h0).trans (Below.heap_setCell _ _ _ k h0)))
  exact (o2 _ (by omega)).trans f
theorem set5_below {B : Nat} {w W : World} {x0 x1 x2 x3 b : Value} (hB : Below B w W) : Below B w (set5 B W x0 x1 x2 x3 b) :=
  ((((hB.setCell (p := ⟨B, 0, none⟩) (Nat.le_refl _) _).setCell (p := ⟨B, 1, none⟩) (Nat.le_refl _) _).setCell (p := ⟨B, 2, none⟩) (Nat.le_refl _) _).setCell (p := ⟨B, 3, none⟩) (Nat.le_refl _) _).setCell (p := ⟨B + 1, 0, none⟩) (Nat.le_succ _) _
theorem head_ends {w W : World} {D : Nat} {x0 x1 x2 : Value} {ok : Bool} {r : Option Fn} {a : Act} (hf : W.heap[w.heap.size]? = some (.cells #[x0, x1, x2, .slice none 0 0] 32 (0, 0))) (hb : W.heap[w.heap.size + 1]? = some (.cells #[.bool ok] 4 (0, 0))) (hK : W.heap[D]? = some (.deferred (some []))) (hD : w.heap.size + 8 ≤ D) (hB : Below w.heap.size w W) (hr : r.isSome = ok) (hI : HeadRows w.heap.size (r.getD noFn) x0 x1 x2 (W.putObj D (.deferred none)))
    (t2 : a.tmps[2]?.getD undef = .pointer (some ⟨w.heap.size, 0, none⟩)) (t3 : a.tmps[3]?.getD undef = .pointer (some ⟨w.heap.size + 1, 0, none⟩)) (hd : a.defers = [{ target := .collected D, args := #[] }]) :
    bodyPostM Fence.wide 3 Tryz.prog Tryz.f13 (HeadEnd r w) .ret a W := by
  obtain ⟨tm, df⟩ := a
  simp only at t2 t3 hd
  subst hd
  refine ⟨by simp, .inl ⟨_, _, rfl, run_takeDeferred hK, ?_⟩⟩
  have g1 : (W.putObj D (.deferred none)).heap[w.heap.size]? = _ := (World.putObj_heap_other (by omega)).trans hf
  have g2 : (W.putObj D (.deferred none)).heap[w.heap.size + 1]? = _ := (World.putObj_heap_other (by omega)).trans hb
  refine ⟨_, results_cells rfl _ _ _ ⟨w.heap.size, 0, none⟩ ⟨w.heap.size + 1, 0, none⟩ _ _ t2 t3 (load_fn5 g1) (load_bool5 g2), ?_⟩
  exact ⟨x0, x1, x2, by rw [hr], hI, below_putObj hB (by omega) _ (Array.getElem?_eq_some_iff.1 hK).1⟩

set_option maxRecDepth 100000 in
set_option maxHeartbeats 4000000 in
theorem readHead_any (s : List UInt8) (w : World) (hs : s.length ≤ 1048576) (hM : Marks w) :
    Calls Tryz.prog 13 #[.string ⟨s.toArray⟩] w (HeadEnd (headOf (pieces s)) w) := by
  refine (callsIn_wide (n := 3)).1 ?_
  refine callsIn_of_wp_marks Tryz.func13 rfl trivial ?_ rfl
  simp only [Tryz.ntmps13, List.size_toArray, List.length_cons, List.length_nil, Nat.reduceAdd, Nat.reduceSub, Array.replicate_succ, Array.replicate_zero, List.push_toArray, List.append_toArray, List.nil_append, List.cons_append]
  gi_wp2_with (refine ⟨trivial, ?_⟩; gi_at_call 38; refine (callsIn_wide.2 (splitSeqTop_any s _)).mono ?_; rintro e w' ⟨rfl, rfl⟩)
  have hS0 := headSt_new s w
  obtain ⟨W0, hW0⟩ : ∃ W0, W0 = ((((((((w.alloc (.cells #[.slice none 0 0, .slice none 0 0, .slice none 0 0, .slice none 0 0] 32)).alloc (.cells #[.bool false] 4)).alloc (.cells #[.slice none 0 0, .slice none 0 0, .slice none 0 0] 62)).alloc (.cells #[.int .i64 0] 3)).alloc (.cells #[.int .i64 0] 3)).alloc (.cells #[.string ⟨s.toArray⟩] 9)).alloc (.cells #[.string ⟨#[32]⟩] 9)).alloc (.cells #[.int .i64 0] 3)) := ⟨_, rfl⟩
  have hB0 : Below w.heap.size w W0 := by
    rw [hW0]
    exact ((((((((Below.refl _ w).alloc (Nat.le_refl _) _).alloc (by simp) _).alloc (by simp; omega) _).alloc (by simp; omega) _).alloc (by simp; omega) _).alloc (by simp; omega) _).alloc (by simp; omega) _).alloc (by simp; omega) _
  have bS : W0.heap[w.heap.size + 5]? = some (.cells #[.string ⟨s.toArray⟩] 9 (0, 0)) := by rw [hW0]; (simp only [heap_alloc_at, World.size_alloc]; repeat first | rw [if_neg (by omega)] | exact if_pos trivial)
  have bP : W0.heap[w.heap.size + 6]? = some (.cells #[.string ⟨#[32]⟩] 9 (0, 0)) := by rw [hW0]; (simp only [heap_alloc_at, World.size_alloc]; repeat first | rw [if_neg (by omega)] | exact if_pos trivial)
  have bV : W0.heap[w.heap.size + 7]? = some (.cells #[.int .i64 0] 3 (0, 0)) := by rw [hW0]; (simp only [heap_alloc_at, World.size_alloc]; repeat first | rw [if_neg (by omega)] | exact if_pos trivial)
  have hsz : W0.heap.size = w.heap.size + 8 := by rw [hW0]; simp
  rw [← hW0] at hS0 ⊢
  clear hW0
  refine range_feeds (b := w.heap.size + 5) (Kp := Kept (w.heap.size + 6) (w.heap.size + 5) (w.heap.size + 7)) (xs := pieces s) (encs := fun x : List UInt8 => #[.string ⟨x.toArray⟩]) rfl (by decide) (gf := 80) (lb := #[.pointer (some ⟨w.heap.size + 6, 0, none⟩), .pointer (some ⟨w.heap.size + 5, 0, none⟩), .pointer (some ⟨w.heap.size + 7, 0, none⟩)]) rfl trivial (enters_of Tryz.func80 (by kernel_rfl) rfl) (by omega)
    (fun W hW => split_feeds 2 (by decide) _ _ _ s W (by omega) (by omega) ((hW.cell (p := ⟨w.heap.size + 6, 0, none⟩) (by show w.heap.size + 6 < _; omega)).trans (cell_of_one bP)) ((hW.block _ (by omega)).trans bS) ((hW.cell (p := ⟨w.heap.size + 7, 0, none⟩) (by show w.heap.size + 7 < _; omega)).trans (cell_of_one bV)) (by omega))
    (fun h k => ⟨k.1.trans h.1, k.2.1.trans h.2.1, k.2.2.trans h.2.2⟩) (fun W l o hl => ⟨World.putObj_heap_other (by omega), World.putObj_heap_other (by omega), World.putObj_heap_other (by omega)⟩) (fun _ => rfl)
    (fun pre W => (∃ h, hRun hBeg pre = some h ∧ HeadSt w.heap.size h W) ∧ Below w.heap.size w W)
    (fun _ W => (∃ h, headOf (pieces s) = none ∧ HeadSt w.heap.size h W) ∧ Below w.heap.size w W) ?hI ?hR ?hIb ?hRb ?h0
    (fun x => { tmps := #[.string ⟨s.toArray⟩, undef, .pointer (some ⟨w.heap.size, 0, none⟩), .pointer (some ⟨w.heap.size + 1, 0, none⟩), .pointer (some ⟨w.heap.size + 2, 0, none⟩), .pointer (some ⟨w.heap.size + 3, 0, none⟩), .pointer (some ⟨w.heap.size + 4, 0, none⟩), .string ⟨x.toArray⟩, undef, undef, .string ⟨s.toArray⟩, .func (.func 80) #[] #[.pointer (some ⟨w.heap.size + 6, 0, none⟩), .pointer (some ⟨w.heap.size + 5, 0, none⟩), .pointer (some ⟨w.heap.size + 7, 0, none⟩)], .string ⟨x.toArray⟩, undef, undef, undef, undef, undef, undef, undef, undef, undef, undef, undef, undef, undef, undef, undef, undef, undef, undef, undef, undef, undef, undef, undef, undef, undef, undef, undef, undef, undef, undef, undef, undef, undef, undef, undef, undef, undef, undef, undef, undef, undef, undef, undef, undef, undef, undef, undef, undef, undef], defers := [] }) ?assign ?body ?done ?ret
  case assign =>
    intro l x W K hK
    gi_wp2
    exact hK
  case hI => rw [hsz]; exact OwnFrom.and (own_headSt w.heap.size (fun pre h => hRun hBeg pre = some h)) (ownFrom_below (Nat.le_refl _) (by omega))
  case hR => rw [hsz]; exact OwnFrom.and (own_headSt w.heap.size (fun _ _ => headOf (pieces s) = none)) (ownFrom_below (Nat.le_refl _) (by omega))
  case hIb =>
    rintro pre W v ⟨⟨h, hj, hst⟩, h5⟩
    exact ⟨⟨h, hj, hst.keep (fun k o hk ho _ => (Below.heap_setCell _ _ _ k hk).trans ho) (by simp [World.setCell])⟩, blind_below (β := Unit) (by omega) () _ _ h5⟩
  case hRb =>
    rintro pre W v ⟨⟨h, hj, hst⟩, h5⟩
    exact ⟨⟨h, hj, hst.keep (fun k o hk ho _ => (Below.heap_setCell _ _ _ k hk).trans ho) (by simp [World.setCell])⟩, blind_below (β := Unit) (by omega) () _ _ h5⟩
  case h0 => exact ⟨⟨hBeg, rfl, hS0⟩, hB0⟩
  case body =>
    rintro l pre x W ⟨⟨h, hrun, hst⟩, hB⟩ hx
    have hgood := good_run good_beg hrun
    have HS : Hid (hRun hBeg (pre ++ [x]) = hStep h x) := hid (by rw [hRun_snoc, hrun]; rfl)
    have hfail : hStep h x = none → headOf (pieces s) = none := fun e => by
      unfold headOf
      rw [hRun_none (HS.out.trans e) hx]
      rfl
    clear hrun
    obtain ⟨k0, k1, k2⟩ := hM.keep hB
    have cm := cell_of_one hst.m
    have cn := cell_of_one hst.n
    have fm : W.frozen? ⟨w.heap.size + 3, 0, none⟩ = false := by simp [World.frozen?, hst.m]
    obtain ⟨⟨z0, z1, z2, z3⟩, zf⟩ := cells4h hst.f
    have f0 := zf 0
    have f1 := zf 1
    have f2 := zf 2
    have f3 := zf 3
    have cb := cell_of_one hst.b
    have fb : W.frozen? ⟨w.heap.size + 1, 0, none⟩ = false := by simp [World.frozen?, hst.b]
    have m3 := hgood.m
    have n64 := hgood.n
    have hT := typeOf_any x
    have e4 : h.m = 0 ∨ h.m = 1 ∨ h.m = 2 ∨ h.m = 3 := by omega
    clear zf hS0 hB0 bS bP bV
    by_cases hmk : h.m < 3 ∧ x = markW h.m
    · have HM : Hid (hRun hBeg (pre ++ [x]) = some { h with m := h.m + 1 }) := hid (HS.out.trans (if_pos hmk))
      clear HS hfail hT
      obtain ⟨hm3, hmk⟩ := hmk
      rcases e4 with e | e | e | e
      · rw [e] at cm
        have q : (x == [102, 117, 110, 99]) = true := by rw [hmk, e]; rfl
        have HV : Hid (h.m = 0) := hid e
        clear hmk hm3 e m3
        gi_wp2
        exact head_mark hst hB (by rw [HV.out]; rfl) rfl HM.out
      · rw [e] at cm
        have q : (x == [45, 62]) = true := by rw [hmk, e]; rfl
        have HV : Hid (h.m = 1) := hid e
        clear hmk hm3 e m3
        gi_wp2
        exact head_mark hst hB (by rw [HV.out]; rfl) rfl HM.out
      · rw [e] at cm
        have q : (x == [59]) = true := by rw [hmk, e]; rfl
        have HV : Hid (h.m = 2) := hid e
        clear hmk hm3 e m3
        gi_wp2
        exact head_mark hst hB (by rw [HV.out]; rfl) rfl HM.out
      · omega
    · have HN : Hid (hStep h x = if kindOf x = 0 ∨ h.m = 0 ∨ h.n = 64 then none else some (h.push (kindOf x))) := hid (if_neg hmk)
      have hq0 : h.m = 0 → (x == [102, 117, 110, 99]) = false := fun e => by
        have : x ≠ [102, 117, 110, 99] := fun q => hmk ⟨by omega, by rw [q, e]; rfl⟩
        simpa using this
      have hq1 : h.m = 1 → (x == [45, 62]) = false := fun e => by
        have : x ≠ [45, 62] := fun q => hmk ⟨by omega, by rw [q, e]; rfl⟩
        simpa using this
      have hq2 : h.m = 2 → (x == [59]) = false := fun e => by
        have : x ≠ [59] := fun q => hmk ⟨by omega, by rw [q, e]; rfl⟩
        simpa using this
      clear hmk
      by_cases hk : kindOf x = 0
      · have HX : Hid (headOf (pieces s) = none) := hid (hfail (HN.out.trans (if_pos (.inl hk))))
        rw [show decide (kindOf x ≠ 0) = false by simp [hk]] at hT
        generalize kindOf x = kk at hT
        clear HN HS hfail hk
        rcases e4 with e | e | e | e
        · rw [e] at cm
          have q := hq0 e
          clear hq0 hq1 hq2 e m3
          gi_wp2_with (refine ⟨trivial, ?_⟩; gi_at_call 39; refine (CallsIn.inRound l (callsIn_wide.2 (hT _))).mono ?_; rintro e w1 ⟨rfl, hw1⟩; subst hw1)
          exact head_no hst hB HX.out
        · rw [e] at cm
          have q := hq1 e
          clear hq0 hq1 hq2 e m3
          gi_wp2_with (refine ⟨trivial, ?_⟩; gi_at_call 39; refine (CallsIn.inRound l (callsIn_wide.2 (hT _))).mono ?_; rintro e w1 ⟨rfl, hw1⟩; subst hw1)
          exact head_no hst hB HX.out
        · rw [e] at cm
          have q := hq2 e
          clear hq0 hq1 hq2 e m3
          gi_wp2_with (refine ⟨trivial, ?_⟩; gi_at_call 39; refine (CallsIn.inRound l (callsIn_wide.2 (hT _))).mono ?_; rintro e w1 ⟨rfl, hw1⟩; subst hw1)
          exact head_no hst hB HX.out
        · rw [e] at cm
          clear hq0 hq1 hq2 e m3
          gi_wp2_with (refine ⟨trivial, ?_⟩; gi_at_call 39; refine (CallsIn.inRound l (callsIn_wide.2 (hT _))).mono ?_; rintro e w1 ⟨rfl, hw1⟩; subst hw1)
          exact head_no hst hB HX.out
      · have HK := hid hk
        rw [show decide (kindOf x ≠ 0) = true by simp [hk]] at hT
        generalize hkk : kindOf x = kk at hT HN HK
        clear hk
        rcases e4 with e | e | e | e
        · have HX : Hid (headOf (pieces s) = none) := hid (hfail (HN.out.trans (if_pos (.inr (.inl e)))))
          rw [e] at cm
          have q := hq0 e
          clear hq0 hq1 hq2 e m3 HN HS hfail hkk
          gi_wp2_with (refine ⟨trivial, ?_⟩; gi_at_call 39; refine (CallsIn.inRound l (callsIn_wide.2 (hT _))).mono ?_; rintro e w1 ⟨rfl, hw1⟩; subst hw1)
          exact head_no hst hB HX.out
        · have hj : h.m = 0 + 1 := e
          rw [e] at cm
          have q := hq1 e
          by_cases h64 : h.n = 64
          · have HX : Hid (headOf (pieces s) = none) := hid (hfail (HN.out.trans (if_pos (.inr (.inr h64)))))
            rw [h64] at cn
            clear hq0 hq1 hq2 e m3 HN HS hfail hkk
            gi_wp2_with (refine ⟨trivial, ?_⟩; gi_at_call 39; refine (CallsIn.inRound l (callsIn_wide.2 (hT _))).mono ?_; rintro e w1 ⟨rfl, hw1⟩; subst hw1)
            exact head_no hst hB HX.out
          · have HP : Hid (hRun hBeg (pre ++ [x]) = some (h.push kk)) := hid (HS.out.trans (HN.out.trans (if_neg (by have := HK.out; omega))))
            have hq64 : ((h.n : Int) == 64) = false := by simp; omega
            clear hq0 hq1 hq2 e m3 HN HS hfail hkk
            gi_wp2_with (refine ⟨trivial, ?_⟩; gi_at_call 39; refine (CallsIn.inRound l (callsIn_wide.2 (hT _))).mono ?_; rintro e w1 ⟨rfl, hw1⟩; subst hw1)
            obtain ⟨vs, hl, hr⟩ := hst.ls
            have hrowJ := hr.row 0 (by omega)
            have lenJ := hgood.len 0 (by omega)
            have szW := hst.sz
            have hbA : Below w1.heap.size w1 (w1.drew.alloc (.cells #[.int .i64 kk] 3)) := (Below.refl _ w1).drew.alloc (Nat.le_refl _) _
            have hnew := cells_new w1.drew [.int .i64 kk] 3
            obtain ⟨v', W2, hrunA, hrow2, hstep2⟩ := run_appN (P := Tryz.prog) (w1.drew.alloc (.cells #[.int .i64 kk] 3)) (ty := 29) elemN_int (w.heap.size + 8) (vs 0) (h.at 0).length (cellsN (h.at 0)) (row_below2 hrowJ hbA) (.slice (some ⟨w1.heap.size, 0, none⟩) 1 1) 1 [.int .i64 kk] (.inr ⟨_, _, rfl, hnew⟩) rfl (by simp [Value.oneCell']) (by unfold maxLen; omega) (by omega) (by simp; omega)
            have blk2 : ∀ g, g < w.heap.size + 8 → W2.heap[g]? = w1.heap[g]? := fun g hg => (hstep2.1.block g (by simp; omega) (fun e => by have := (hrowJ.lt g e.symm).1; omega)).trans (hbA.block g (by omega))
            have d3 : ∀ n, n ≤ 2 → (hworld w1 W2 w.heap.size 0 kk v' n).cell? ⟨w.heap.size + 3, 0, none⟩ = some (.int .i64 1) := fun n hn => by
              have hn3 : n = 0 ∨ n = 1 ∨ n = 2 := by omega
              rcases hn3 with rfl | rfl | rfl
              · exact cm
              · exact cell_below cm hbA
              · exact (cell_heap (blk2 _ (by omega))).trans cm
            have d2 : ∀ n, n ≤ 1 → (hworld w1 W2 w.heap.size 0 kk v' n).cell? ⟨w.heap.size + 2, 0, none⟩ = some (vs 0) := fun n hn => by
              have c2 : w1.cell? ⟨w.heap.size + 2, 0, none⟩ = some (vs 0) := by simp [World.cell?, hl]
              have hn3 : n = 0 ∨ n = 1 := by omega
              rcases hn3 with rfl | rfl
              · exact c2
              · exact cell_below c2 hbA
            have l2 := (blk2 (w.heap.size + 2) (by omega)).trans hl
            have e2 : W2.cell? ⟨w.heap.size + 2, 0, none⟩ = some (vs 0) := by simp [World.cell?, l2]
            have g2 : W2.frozen? ⟨w.heap.size + 2, 0, none⟩ = false := by simp [World.frozen?, l2]
            have c4 := (cell_heap (blk2 (w.heap.size + 4) (by omega))).trans cn
            have g4 : W2.frozen? ⟨w.heap.size + 4, 0, none⟩ = false := (frozen_heap (blk2 (w.heap.size + 4) (by omega))).trans (by simp [World.frozen?, hst.n])
            obtain ⟨va, vc, rfl, _⟩ := row_form hrow2
            refine wpIn_region_det (by kernel_rfl) 62 rfl (by kernel_rfl) (by kernel_rfl) (vals := hvals 1 0 w.heap.size w1.heap.size (vs 0) kk (.slice va ((h.at 0).length + 1) vc)) (Wd := hworld w1 W2 w.heap.size 0 kk (.slice va ((h.at 0).length + 1) vc)) (stage := hstage) ⟨?run⟩ rfl ?fin
            case run =>
              intro i o ho L a hn haf hcl hrest hv
              have hi : i < 11 := (Array.getElem?_eq_some_iff.1 ho).1
              have t5 : a.tmps[5]?.getD undef = .pointer (some ⟨w.heap.size + 3, 0, none⟩) := hrest 5 (rest_of (by kernel_rfl))
              have t4 : a.tmps[4]?.getD undef = .pointer (some ⟨w.heap.size + 2, 0, none⟩) := hrest 4 (rest_of (by kernel_rfl))
              have t8 : a.tmps[8]?.getD undef = .int .i64 kk := hrest 8 (rest_of (by kernel_rfl))
              have c10_9 : L.getD 10 false = true → L.getD 9 false = true := fun q => hcl 10 _ rfl q ⟨9, .data⟩ (by simp) rfl
              have c10_8 : L.getD 10 false = true → L.getD 8 false = true := fun q => hcl 10 _ rfl q ⟨8, .data⟩ (by simp) rfl
              have c8_7 : L.getD 8 false = true → L.getD 7 false = true := fun q => hcl 8 _ rfl q ⟨7, .data⟩ (by simp) rfl
              have c8_5 : L.getD 8 false = true → L.getD 5 false = true := fun q => hcl 8 _ rfl q ⟨5, .data⟩ (by simp) rfl
              have c5_4 : L.getD 5 false = true → L.getD 4 false = true := fun q => hcl 5 _ rfl q ⟨4, .data⟩ (by simp) rfl
              have c4_3 : L.getD 4 false = true → L.getD 3 false = true := fun q => hcl 4 _ rfl q ⟨3, .data⟩ (by simp) rfl
              have c3_2 : L.getD 3 false = true → L.getD 2 false = true := fun q => hcl 3 _ rfl q ⟨2, .data⟩ (by simp) rfl
              have c9_1 : L.getD 9 false = true → L.getD 1 false = true := fun q => hcl 9 _ rfl q ⟨1, .data⟩ (by simp) rfl
              have c1_0 : L.getD 1 false = true → L.getD 0 false = true := fun q => hcl 1 _ rfl q ⟨0, .data⟩ (by simp) rfl
              match i, hi, ho, hn, haf with
              | 0, _, ho, hn, haf =>
                obtain rfl := Option.some.inj ho
                have h10 := off_of (j := 10) hn (fun q => c1_0 (c9_1 (c10_9 q)))
                rw [hstage_other (by omega) (by omega) (by omega)]
                have hc := d3 _ (hstage_le2 h10)
                exact .inl (by simp [execOp, go_sem, t5, hc, hvals])
              | 1, _, ho, hn, haf =>
                obtain rfl := Option.some.inj ho
                have p := hv 0 _ 40 rfl (haf ⟨0, .data⟩ (by simp) rfl) rfl
                rw [hstage_other (by omega) (by omega) (by omega)]
                exact .inl (by simp [execOp, go_sem, p, hvals]; rfl)
              | 2, _, ho, hn, haf =>
                obtain rfl := Option.some.inj ho
                have h10 := off_of (j := 10) hn (fun q => c3_2 (c4_3 (c5_4 (c8_5 (c10_8 q)))))
                rw [hstage_other (by omega) (by omega) (by omega)]
                have hc := d3 _ (hstage_le2 h10)
                exact .inl (by simp [execOp, go_sem, t5, hc, hvals])
              | 3, _, ho, hn, haf =>
                obtain rfl := Option.some.inj ho
                have p := hv 2 _ 42 rfl (haf ⟨2, .data⟩ (by simp) rfl) rfl
                rw [hstage_other (by omega) (by omega) (by omega)]
                exact .inl (by simp [execOp, go_sem, p, hvals]; rfl)
              | 4, _, ho, hn, haf =>
                obtain rfl := Option.some.inj ho
                have p := hv 3 _ 43 rfl (haf ⟨3, .data⟩ (by simp) rfl) rfl
                rw [hstage_other (by omega) (by omega) (by omega)]
                exact .inl (by simp [execOp, go_sem, p, t4, hvals])
              | 5, _, ho, hn, haf =>
                obtain rfl := Option.some.inj ho
                have p := hv 4 _ 44 rfl (haf ⟨4, .data⟩ (by simp) rfl) rfl
                have h8 := off_of (j := 8) hn c8_5
                have h10 := off_of (j := 10) hn (fun q => c8_5 (c10_8 q))
                rw [hstage_other (by omega) (by omega) (by omega)]
                have hc := d2 _ (hstage_le1 h10 h8)
                exact .inl (by simp [execOp, go_sem, p, hc, hvals])
              | 6, _, ho, hn, haf =>
                obtain rfl := Option.some.inj ho
                rw [hstage_other (by omega) (by omega) (by omega)]
                exact .inl (by simp [execOp, go_sem, t8, hvals])
              | 7, _, ho, hn, haf =>
                obtain rfl := Option.some.inj ho
                have p := hv 6 _ 46 rfl (haf ⟨6, .data⟩ (by simp) rfl) rfl
                obtain ⟨s0, s1⟩ := hstage_7 hn (off_of hn c8_7) (off_of hn (fun q => c8_7 (c10_8 q)))
                rw [s0, s1]
                exact .inl (by simp [execOp, go_sem, p, hvals, hworld])
              | 8, _, ho, hn, haf =>
                obtain rfl := Option.some.inj ho
                have p5 := hv 5 _ 45 rfl (haf ⟨5, .data⟩ (by simp) rfl) rfl
                have l7 := haf ⟨7, .data⟩ (by simp) rfl
                have p7 := hv 7 _ 47 rfl l7 rfl
                obtain ⟨s0, s1⟩ := hstage_8 hn l7 (off_of hn c10_8)
                rw [s0, s1]
                exact .inl (exec_append rfl ((eval_tmp _ _).trans p5) ((eval_tmp _ _).trans p7) hrunA)
              | 9, _, ho, hn, haf =>
                obtain rfl := Option.some.inj ho
                have p := hv 1 _ 41 rfl (haf ⟨1, .data⟩ (by simp) rfl) rfl
                rw [hstage_other (by omega) (by omega) (by omega)]
                exact .inl (by simp [execOp, go_sem, p, t4, hvals])
              | 10, _, ho, hn, haf =>
                obtain rfl := Option.some.inj ho
                have l8 := haf ⟨8, .data⟩ (by simp) rfl
                have p8 := hv 8 _ 48 rfl l8 rfl
                have p9 := hv 9 _ 49 rfl (haf ⟨9, .data⟩ (by simp) rfl) rfl
                obtain ⟨s0, s1⟩ := hstage_10 hn l8
                rw [s0, s1]
                exact .inr ⟨by simp [execOp, go_sem, p8, p9, hvals, hworld, e2, g2], rfl⟩
            case fin =>
              intro a hsz hdf hrest hv
              have t6 := hrest 6 (rest_of (by kernel_rfl))
              obtain ⟨tm, df⟩ := a
              simp only at hsz hdf t6
              have htm := arr_out 62 tm hsz undef
              simp only [List.range, List.range.loop, List.map_cons, List.map_nil] at htm
              rw [t6] at htm
              change Exit.then _ _ Exit.normal _ (W2.setCell ⟨w.heap.size + 2, 0, none⟩ (.slice va ((h.at 0).length + 1) vc))
              rw [htm]
              subst hdf
              clear htm hrest hv hrunA hnew d3 d2 t6 hsz
              gi_wp2
              exact head_more hst hB hl hr (by omega) hj hrow2 hstep2 (by go_num) HP.out
        · have hj : h.m = 1 + 1 := e
          rw [e] at cm
          have q := hq2 e
          by_cases h64 : h.n = 64
          · have HX : Hid (headOf (pieces s) = none) := hid (hfail (HN.out.trans (if_pos (.inr (.inr h64)))))
            rw [h64] at cn
            clear hq0 hq1 hq2 e m3 HN HS hfail hkk
            gi_wp2_with (refine ⟨trivial, ?_⟩; gi_at_call 39; refine (CallsIn.inRound l (callsIn_wide.2 (hT _))).mono ?_; rintro e w1 ⟨rfl, hw1⟩; subst hw1)
            exact head_no hst hB HX.out
          · have HP : Hid (hRun hBeg (pre ++ [x]) = some (h.push kk)) := hid (HS.out.trans (HN.out.trans (if_neg (by have := HK.out; omega))))
            have hq64 : ((h.n : Int) == 64) = false := by simp; omega
            clear hq0 hq1 hq2 e m3 HN HS hfail hkk
            gi_wp2_with (refine ⟨trivial, ?_⟩; gi_at_call 39; refine (CallsIn.inRound l (callsIn_wide.2 (hT _))).mono ?_; rintro e w1 ⟨rfl, hw1⟩; subst hw1)
            obtain ⟨vs, hl, hr⟩ := hst.ls
            have hrowJ := hr.row 1 (by omega)
            have lenJ := hgood.len 1 (by omega)
            have szW := hst.sz
            have hbA : Below w1.heap.size w1 (w1.drew.alloc (.cells #[.int .i64 kk] 3)) := (Below.refl _ w1).drew.alloc (Nat.le_refl _) _
            have hnew := cells_new w1.drew [.int .i64 kk] 3
            obtain ⟨v', W2, hrunA, hrow2, hstep2⟩ := run_appN (P := Tryz.prog) (w1.drew.alloc (.cells #[.int .i64 kk] 3)) (ty := 29) elemN_int (w.heap.size + 8) (vs 1) (h.at 1).length (cellsN (h.at 1)) (row_below2 hrowJ hbA) (.slice (some ⟨w1.heap.size, 0, none⟩) 1 1) 1 [.int .i64 kk] (.inr ⟨_, _, rfl, hnew⟩) rfl (by simp [Value.oneCell']) (by unfold maxLen; omega) (by omega) (by simp; omega)
            have blk2 : ∀ g, g < w.heap.size + 8 → W2.heap[g]? = w1.heap[g]? := fun g hg => (hstep2.1.block g (by simp; omega) (fun e => by have := (hrowJ.lt g e.symm).1; omega)).trans (hbA.block g (by omega))
            have d3 : ∀ n, n ≤ 2 → (hworld w1 W2 w.heap.size 1 kk v' n).cell? ⟨w.heap.size + 3, 0, none⟩ = some (.int .i64 2) := fun n hn => by
              have hn3 : n = 0 ∨ n = 1 ∨ n = 2 := by omega
              rcases hn3 with rfl | rfl | rfl
              · exact cm
              · exact cell_below cm hbA
              · exact (cell_heap (blk2 _ (by omega))).trans cm
            have d2 : ∀ n, n ≤ 1 → (hworld w1 W2 w.heap.size 1 kk v' n).cell? ⟨w.heap.size + 2, 1, none⟩ = some (vs 1) := fun n hn => by
              have c2 : w1.cell? ⟨w.heap.size + 2, 1, none⟩ = some (vs 1) := by simp [World.cell?, hl]
              have hn3 : n = 0 ∨ n = 1 := by omega
              rcases hn3 with rfl | rfl
              · exact c2
              · exact cell_below c2 hbA
            have l2 := (blk2 (w.heap.size + 2) (by omega)).trans hl
            have e2 : W2.cell? ⟨w.heap.size + 2, 1, none⟩ = some (vs 1) := by simp [World.cell?, l2]
            have g2 : W2.frozen? ⟨w.heap.size + 2, 1, none⟩ = false := by simp [World.frozen?, l2]
            have c4 := (cell_heap (blk2 (w.heap.size + 4) (by omega))).trans cn
            have g4 : W2.frozen? ⟨w.heap.size + 4, 0, none⟩ = false := (frozen_heap (blk2 (w.heap.size + 4) (by omega))).trans (by simp [World.frozen?, hst.n])
            obtain ⟨va, vc, rfl, _⟩ := row_form hrow2
            refine wpIn_region_det (by kernel_rfl) 62 rfl (by kernel_rfl) (by kernel_rfl) (vals := hvals 2 1 w.heap.size w1.heap.size (vs 1) kk (.slice va ((h.at 1).length + 1) vc)) (Wd := hworld w1 W2 w.heap.size 1 kk (.slice va ((h.at 1).length + 1) vc)) (stage := hstage) ⟨?run⟩ rfl ?fin
            case run =>
              intro i o ho L a hn haf hcl hrest hv
              have hi : i < 11 := (Array.getElem?_eq_some_iff.1 ho).1
              have t5 : a.tmps[5]?.getD undef = .pointer (some ⟨w.heap.size + 3, 0, none⟩) := hrest 5 (rest_of (by kernel_rfl))
              have t4 : a.tmps[4]?.getD undef = .pointer (some ⟨w.heap.size + 2, 0, none⟩) := hrest 4 (rest_of (by kernel_rfl))
              have t8 : a.tmps[8]?.getD undef = .int .i64 kk := hrest 8 (rest_of (by kernel_rfl))
              have c10_9 : L.getD 10 false = true → L.getD 9 false = true := fun q => hcl 10 _ rfl q ⟨9, .data⟩ (by simp) rfl
              have c10_8 : L.getD 10 false = true → L.getD 8 false = true := fun q => hcl 10 _ rfl q ⟨8, .data⟩ (by simp) rfl
              have c8_7 : L.getD 8 false = true → L.getD 7 false = true := fun q => hcl 8 _ rfl q ⟨7, .data⟩ (by simp) rfl
              have c8_5 : L.getD 8 false = true → L.getD 5 false = true := fun q => hcl 8 _ rfl q ⟨5, .data⟩ (by simp) rfl
              have c5_4 : L.getD 5 false = true → L.getD 4 false = true := fun q => hcl 5 _ rfl q ⟨4, .data⟩ (by simp) rfl
              have c4_3 : L.getD 4 false = true → L.getD 3 false = true := fun q => hcl 4 _ rfl q ⟨3, .data⟩ (by simp) rfl
              have c3_2 : L.getD 3 false = true → L.getD 2 false = true := fun q => hcl 3 _ rfl q ⟨2, .data⟩ (by simp) rfl
              have c9_1 : L.getD 9 false = true → L.getD 1 false = true := fun q => hcl 9 _ rfl q ⟨1, .data⟩ (by simp) rfl
              have c1_0 : L.getD 1 false = true → L.getD 0 false = true := fun q => hcl 1 _ rfl q ⟨0, .data⟩ (by simp) rfl
              match i, hi, ho, hn, haf with
              | 0, _, ho, hn, haf =>
                obtain rfl := Option.some.inj ho
                have h10 := off_of (j := 10) hn (fun q => c1_0 (c9_1 (c10_9 q)))
                rw [hstage_other (by omega) (by omega) (by omega)]
                have hc := d3 _ (hstage_le2 h10)
                exact .inl (by simp [execOp, go_sem, t5, hc, hvals])
              | 1, _, ho, hn, haf =>
                obtain rfl := Option.some.inj ho
                have p := hv 0 _ 40 rfl (haf ⟨0, .data⟩ (by simp) rfl) rfl
                rw [hstage_other (by omega) (by omega) (by omega)]
                exact .inl (by simp [execOp, go_sem, p, hvals]; rfl)
              | 2, _, ho, hn, haf =>
                obtain rfl := Option.some.inj ho
                have h10 := off_of (j := 10) hn (fun q => c3_2 (c4_3 (c5_4 (c8_5 (c10_8 q)))))
                rw [hstage_other (by omega) (by omega) (by omega)]
                have hc := d3 _ (hstage_le2 h10)
                exact .inl (by simp [execOp, go_sem, t5, hc, hvals])
              | 3, _, ho, hn, haf =>
                obtain rfl := Option.some.inj ho
                have p := hv 2 _ 42 rfl (haf ⟨2, .data⟩ (by simp) rfl) rfl
                rw [hstage_other (by omega) (by omega) (by omega)]
                exact .inl (by simp [execOp, go_sem, p, hvals]; rfl)
              | 4, _, ho, hn, haf =>
                obtain rfl := Option.some.inj ho
                have p := hv 3 _ 43 rfl (haf ⟨3, .data⟩ (by simp) rfl) rfl
                rw [hstage_other (by omega) (by omega) (by omega)]
                exact .inl (by simp [execOp, go_sem, p, t4, hvals])
              | 5, _, ho, hn, haf =>
                obtain rfl := Option.some.inj ho
                have p := hv 4 _ 44 rfl (haf ⟨4, .data⟩ (by simp) rfl) rfl
                have h8 := off_of (j := 8) hn c8_5
                have h10 := off_of (j := 10) hn (fun q => c8_5 (c10_8 q))
                rw [hstage_other (by omega) (by omega) (by omega)]
                have hc := d2 _ (hstage_le1 h10 h8)
                exact .inl (by simp [execOp, go_sem, p, hc, hvals])
              | 6, _, ho, hn, haf =>
                obtain rfl := Option.some.inj ho
                rw [hstage_other (by omega) (by omega) (by omega)]
                exact .inl (by simp [execOp, go_sem, t8, hvals])
              | 7, _, ho, hn, haf =>
                obtain rfl := Option.some.inj ho
                have p := hv 6 _ 46 rfl (haf ⟨6, .data⟩ (by simp) rfl) rfl
                obtain ⟨s0, s1⟩ := hstage_7 hn (off_of hn c8_7) (off_of hn (fun q => c8_7 (c10_8 q)))
                rw [s0, s1]
                exact .inl (by simp [execOp, go_sem, p, hvals, hworld])
              | 8, _, ho, hn, haf =>
                obtain rfl := Option.some.inj ho
                have p5 := hv 5 _ 45 rfl (haf ⟨5, .data⟩ (by simp) rfl) rfl
                have l7 := haf ⟨7, .data⟩ (by simp) rfl
                have p7 := hv 7 _ 47 rfl l7 rfl
                obtain ⟨s0, s1⟩ := hstage_8 hn l7 (off_of hn c10_8)
                rw [s0, s1]
                exact .inl (exec_append rfl ((eval_tmp _ _).trans p5) ((eval_tmp _ _).trans p7) hrunA)
              | 9, _, ho, hn, haf =>
                obtain rfl := Option.some.inj ho
                have p := hv 1 _ 41 rfl (haf ⟨1, .data⟩ (by simp) rfl) rfl
                rw [hstage_other (by omega) (by omega) (by omega)]
                exact .inl (by simp [execOp, go_sem, p, t4, hvals])
              | 10, _, ho, hn, haf =>
                obtain rfl := Option.some.inj ho
                have l8 := haf ⟨8, .data⟩ (by simp) rfl
                have p8 := hv 8 _ 48 rfl l8 rfl
                have p9 := hv 9 _ 49 rfl (haf ⟨9, .data⟩ (by simp) rfl) rfl
                obtain ⟨s0, s1⟩ := hstage_10 hn l8
                rw [s0, s1]
                exact .inr ⟨by simp [execOp, go_sem, p8, p9, hvals, hworld, e2, g2], rfl⟩
            case fin =>
              intro a hsz hdf hrest hv
              have t6 := hrest 6 (rest_of (by kernel_rfl))
              obtain ⟨tm, df⟩ := a
              simp only at hsz hdf t6
              have htm := arr_out 62 tm hsz undef
              simp only [List.range, List.range.loop, List.map_cons, List.map_nil] at htm
              rw [t6] at htm
              change Exit.then _ _ Exit.normal _ (W2.setCell ⟨w.heap.size + 2, 1, none⟩ (.slice va ((h.at 1).length + 1) vc))
              rw [htm]
              subst hdf
              clear htm hrest hv hrunA hnew d3 d2 t6 hsz
              gi_wp2
              exact head_more hst hB hl hr (by omega) hj hrow2 hstep2 (by go_num) HP.out
        · have hj : h.m = 2 + 1 := e
          rw [e] at cm
          by_cases h64 : h.n = 64
          · have HX : Hid (headOf (pieces s) = none) := hid (hfail (HN.out.trans (if_pos (.inr (.inr h64)))))
            rw [h64] at cn
            clear hq0 hq1 hq2 e m3 HN HS hfail hkk
            gi_wp2_with (refine ⟨trivial, ?_⟩; gi_at_call 39; refine (CallsIn.inRound l (callsIn_wide.2 (hT _))).mono ?_; rintro e w1 ⟨rfl, hw1⟩; subst hw1)
            exact head_no hst hB HX.out
          · have HP : Hid (hRun hBeg (pre ++ [x]) = some (h.push kk)) := hid (HS.out.trans (HN.out.trans (if_neg (by have := HK.out; omega))))
            have hq64 : ((h.n : Int) == 64) = false := by simp; omega
            clear hq0 hq1 hq2 e m3 HN HS hfail hkk
            gi_wp2_with (refine ⟨trivial, ?_⟩; gi_at_call 39; refine (CallsIn.inRound l (callsIn_wide.2 (hT _))).mono ?_; rintro e w1 ⟨rfl, hw1⟩; subst hw1)
            obtain ⟨vs, hl, hr⟩ := hst.ls
            have hrowJ := hr.row 2 (by omega)
            have lenJ := hgood.len 2 (by omega)
            have szW := hst.sz
            have hbA : Below w1.heap.size w1 (w1.drew.alloc (.cells #[.int .i64 kk] 3)) := (Below.refl _ w1).drew.alloc (Nat.le_refl _) _
            have hnew := cells_new w1.drew [.int .i64 kk] 3
            obtain ⟨v', W2, hrunA, hrow2, hstep2⟩ := run_appN (P := Tryz.prog) (w1.drew.alloc (.cells #[.int .i64 kk] 3)) (ty := 29) elemN_int (w.heap.size + 8) (vs 2) (h.at 2).length (cellsN (h.at 2)) (row_below2 hrowJ hbA) (.slice (some ⟨w1.heap.size, 0, none⟩) 1 1) 1 [.int .i64 kk] (.inr ⟨_, _, rfl, hnew⟩) rfl (by simp [Value.oneCell']) (by unfold maxLen; omega) (by omega) (by simp; omega)
            have blk2 : ∀ g, g < w.heap.size + 8 → W2.heap[g]? = w1.heap[g]? := fun g hg => (hstep2.1.block g (by simp; omega) (fun e => by have := (hrowJ.lt g e.symm).1; omega)).trans (hbA.block g (by omega))
            have d3 : ∀ n, n ≤ 2 → (hworld w1 W2 w.heap.size 2 kk v' n).cell? ⟨w.heap.size + 3, 0, none⟩ = some (.int .i64 3) := fun n hn => by
              have hn3 : n = 0 ∨ n = 1 ∨ n = 2 := by omega
              rcases hn3 with rfl | rfl | rfl
              · exact cm
              · exact cell_below cm hbA
              · exact (cell_heap (blk2 _ (by omega))).trans cm
            have d2 : ∀ n, n ≤ 1 → (hworld w1 W2 w.heap.size 2 kk v' n).cell? ⟨w.heap.size + 2, 2, none⟩ = some (vs 2) := fun n hn => by
              have c2 : w1.cell? ⟨w.heap.size + 2, 2, none⟩ = some (vs 2) := by simp [World.cell?, hl]
              have hn3 : n = 0 ∨ n = 1 := by omega
              rcases hn3 with rfl | rfl
              · exact c2
              · exact cell_below c2 hbA
            have l2 := (blk2 (w.heap.size + 2) (by omega)).trans hl
            have e2 : W2.cell? ⟨w.heap.size + 2, 2, none⟩ = some (vs 2) := by simp [World.cell?, l2]
            have g2 : W2.frozen? ⟨w.heap.size + 2, 2, none⟩ = false := by simp [World.frozen?, l2]
            have c4 := (cell_heap (blk2 (w.heap.size + 4) (by omega))).trans cn
            have g4 : W2.frozen? ⟨w.heap.size + 4, 0, none⟩ = false := (frozen_heap (blk2 (w.heap.size + 4) (by omega))).trans (by simp [World.frozen?, hst.n])
            obtain ⟨va, vc, rfl, _⟩ := row_form hrow2
            refine wpIn_region_det (by kernel_rfl) 62 rfl (by kernel_rfl) (by kernel_rfl) (vals := hvals 3 2 w.heap.size w1.heap.size (vs 2) kk (.slice va ((h.at 2).length + 1) vc)) (Wd := hworld w1 W2 w.heap.size 2 kk (.slice va ((h.at 2).length + 1) vc)) (stage := hstage) ⟨?run⟩ rfl ?fin
            case run =>
              intro i o ho L a hn haf hcl hrest hv
              have hi : i < 11 := (Array.getElem?_eq_some_iff.1 ho).1
              have t5 : a.tmps[5]?.getD undef = .pointer (some ⟨w.heap.size + 3, 0, none⟩) := hrest 5 (rest_of (by kernel_rfl))
              have t4 : a.tmps[4]?.getD undef = .pointer (some ⟨w.heap.size + 2, 0, none⟩) := hrest 4 (rest_of (by kernel_rfl))
              have t8 : a.tmps[8]?.getD undef = .int .i64 kk := hrest 8 (rest_of (by kernel_rfl))
              have c10_9 : L.getD 10 false = true → L.getD 9 false = true := fun q => hcl 10 _ rfl q ⟨9, .data⟩ (by simp) rfl
              have c10_8 : L.getD 10 false = true → L.getD 8 false = true := fun q => hcl 10 _ rfl q ⟨8, .data⟩ (by simp) rfl
              have c8_7 : L.getD 8 false = true → L.getD 7 false = true := fun q => hcl 8 _ rfl q ⟨7, .data⟩ (by simp) rfl
              have c8_5 : L.getD 8 false = true → L.getD 5 false = true := fun q => hcl 8 _ rfl q ⟨5, .data⟩ (by simp) rfl
              have c5_4 : L.getD 5 false = true → L.getD 4 false = true := fun q => hcl 5 _ rfl q ⟨4, .data⟩ (by simp) rfl
              have c4_3 : L.getD 4 false = true → L.getD 3 false = true := fun q => hcl 4 _ rfl q ⟨3, .data⟩ (by simp) rfl
              have c3_2 : L.getD 3 false = true → L.getD 2 false = true := fun q => hcl 3 _ rfl q ⟨2, .data⟩ (by simp) rfl
              have c9_1 : L.getD 9 false = true → L.getD 1 false = true := fun q => hcl 9 _ rfl q ⟨1, .data⟩ (by simp) rfl
              have c1_0 : L.getD 1 false = true → L.getD 0 false = true := fun q => hcl 1 _ rfl q ⟨0, .data⟩ (by simp) rfl
              match i, hi, ho, hn, haf with
              | 0, _, ho, hn, haf =>
                obtain rfl := Option.some.inj ho
                have h10 := off_of (j := 10) hn (fun q => c1_0 (c9_1 (c10_9 q)))
                rw [hstage_other (by omega) (by omega) (by omega)]
                have hc := d3 _ (hstage_le2 h10)
                exact .inl (by simp [execOp, go_sem, t5, hc, hvals])
              | 1, _, ho, hn, haf =>
                obtain rfl := Option.some.inj ho
                have p := hv 0 _ 40 rfl (haf ⟨0, .data⟩ (by simp) rfl) rfl
                rw [hstage_other (by omega) (by omega) (by omega)]
                exact .inl (by simp [execOp, go_sem, p, hvals]; rfl)
              | 2, _, ho, hn, haf =>
                obtain rfl := Option.some.inj ho
                have h10 := off_of (j := 10) hn (fun q => c3_2 (c4_3 (c5_4 (c8_5 (c10_8 q)))))
                rw [hstage_other (by omega) (by omega) (by omega)]
                have hc := d3 _ (hstage_le2 h10)
                exact .inl (by simp [execOp, go_sem, t5, hc, hvals])
              | 3, _, ho, hn, haf =>
                obtain rfl := Option.some.inj ho
                have p := hv 2 _ 42 rfl (haf ⟨2, .data⟩ (by simp) rfl) rfl
                rw [hstage_other (by omega) (by omega) (by omega)]
                exact .inl (by simp [execOp, go_sem, p, hvals]; rfl)
              | 4, _, ho, hn, haf =>
                obtain rfl := Option.some.inj ho
                have p := hv 3 _ 43 rfl (haf ⟨3, .data⟩ (by simp) rfl) rfl
                rw [hstage_other (by omega) (by omega) (by omega)]
                exact .inl (by simp [execOp, go_sem, p, t4, hvals])
              | 5, _, ho, hn, haf =>
                obtain rfl := Option.some.inj ho
                have p := hv 4 _ 44 rfl (haf ⟨4, .data⟩ (by simp) rfl) rfl
                have h8 := off_of (j := 8) hn c8_5
                have h10 := off_of (j := 10) hn (fun q => c8_5 (c10_8 q))
                rw [hstage_other (by omega) (by omega) (by omega)]
                have hc := d2 _ (hstage_le1 h10 h8)
                exact .inl (by simp [execOp, go_sem, p, hc, hvals])
              | 6, _, ho, hn, haf =>
                obtain rfl := Option.some.inj ho
                rw [hstage_other (by omega) (by omega) (by omega)]
                exact .inl (by simp [execOp, go_sem, t8, hvals])
              | 7, _, ho, hn, haf =>
                obtain rfl := Option.some.inj ho
                have p := hv 6 _ 46 rfl (haf ⟨6, .data⟩ (by simp) rfl) rfl
                obtain ⟨s0, s1⟩ := hstage_7 hn (off_of hn c8_7) (off_of hn (fun q => c8_7 (c10_8 q)))
                rw [s0, s1]
                exact .inl (by simp [execOp, go_sem, p, hvals, hworld])
              | 8, _, ho, hn, haf =>
                obtain rfl := Option.some.inj ho
                have p5 := hv 5 _ 45 rfl (haf ⟨5, .data⟩ (by simp) rfl) rfl
                have l7 := haf ⟨7, .data⟩ (by simp) rfl
                have p7 := hv 7 _ 47 rfl l7 rfl
                obtain ⟨s0, s1⟩ := hstage_8 hn l7 (off_of hn c10_8)
                rw [s0, s1]
                exact .inl (exec_append rfl ((eval_tmp _ _).trans p5) ((eval_tmp _ _).trans p7) hrunA)
              | 9, _, ho, hn, haf =>
                obtain rfl := Option.some.inj ho
                have p := hv 1 _ 41 rfl (haf ⟨1, .data⟩ (by simp) rfl) rfl
                rw [hstage_other (by omega) (by omega) (by omega)]
                exact .inl (by simp [execOp, go_sem, p, t4, hvals])
              | 10, _, ho, hn, haf =>
                obtain rfl := Option.some.inj ho
                have l8 := haf ⟨8, .data⟩ (by simp) rfl
                have p8 := hv 8 _ 48 rfl l8 rfl
                have p9 := hv 9 _ 49 rfl (haf ⟨9, .data⟩ (by simp) rfl) rfl
                obtain ⟨s0, s1⟩ := hstage_10 hn l8
                rw [s0, s1]
                exact .inr ⟨by simp [execOp, go_sem, p8, p9, hvals, hworld, e2, g2], rfl⟩
            case fin =>
              intro a hsz hdf hrest hv
              have t6 := hrest 6 (rest_of (by kernel_rfl))
              obtain ⟨tm, df⟩ := a
              simp only at hsz hdf t6
              have htm := arr_out 62 tm hsz undef
              simp only [List.range, List.range.loop, List.map_cons, List.map_nil] at htm
              rw [t6] at htm
              change Exit.then _ _ Exit.normal _ (W2.setCell ⟨w.heap.size + 2, 2, none⟩ (.slice va ((h.at 2).length + 1) vc))
              rw [htm]
              subst hdf
              clear htm hrest hv hrunA hnew d3 d2 t6 hsz
              gi_wp2
              exact head_more hst hB hl hr (by omega) hj hrow2 hstep2 (by go_num) HP.out
  case done =>
    rintro D W hD ⟨⟨h, hrun, hst⟩, hB⟩ hK
    have hgood := good_run good_beg hrun
    have cm := cell_of_one hst.m
    obtain ⟨⟨z0, z1, z2, z3⟩, zf⟩ := cells4h hst.f
    have f0 := zf 0
    have f1 := zf 1
    have f2 := zf 2
    have f3 := zf 3
    have cb := cell_of_one hst.b
    have fb : W.frozen? ⟨w.heap.size + 1, 0, none⟩ = false := by simp [World.frozen?, hst.b]
    have m3 := hgood.m
    clear zf hS0 hB0 bS bP bV
    by_cases h3 : h.m = 3
    · have HX : Hid (headOf (pieces s) = some ⟨h.p, h.r, h.l, []⟩) := hid (by unfold headOf; rw [hrun]; simp [h3])
      rw [h3] at cm
      obtain ⟨vs, hl, hr⟩ := hst.ls
      obtain ⟨a0, c0, e0, _⟩ := row_form (hr.row 0 (by omega))
      obtain ⟨a1, c1, e1, _⟩ := row_form (hr.row 1 (by omega))
      obtain ⟨a2, c2, e2, _⟩ := row_form (hr.row 2 (by omega))
      have l0 : W.cell? ⟨w.heap.size + 2, 0, none⟩ = some (.slice a0 (h.at 0).length c0) := by rw [← e0]; simp [World.cell?, hl]
      have l1 : W.cell? ⟨w.heap.size + 2, 1, none⟩ = some (.slice a1 (h.at 1).length c1) := by rw [← e1]; simp [World.cell?, hl]
      have l2 : W.cell? ⟨w.heap.size + 2, 2, none⟩ = some (.slice a2 (h.at 2).length c2) := by rw [← e2]; simp [World.cell?, hl]
      gi_wp2
      have hKs : D < W.heap.size := (Array.getElem?_eq_some_iff.1 hK).1
      have hrow : ∀ i, i < 3 → ((set5 w.heap.size W (.slice a0 (h.at 0).length c0) (.slice a1 (h.at 1).length c1) (.slice a2 (h.at 2).length c2) (.slice none 0 0) (.bool true)).putObj D (.deferred none)).ownsRow (w.heap.size + 8) 3 1 (vs i) (h.at i).length (cellsN (h.at i)) := fun i hi =>
        row_keepc (hr.row i hi) fun g o' hg ho hc _ => (World.putObj_heap_other (fun e => by subst e; rw [hK] at ho; cases ho; cases hc)).trans ((set5_other _ _ _ _ _ _ _ _ (by omega) (by omega)).trans ho)
      refine head_ends (set5_f _ _ _ _ _ hst.f) (set5_b _ _ _ _ _ hst.b) ((set5_other _ _ _ _ _ _ _ _ (by omega) (by omega)).trans hK) (by omega) (set5_below hB) (by rw [HX.out]; rfl) ?_ rfl rfl rfl
      rw [HX.out]
      have n0 := row_lower5 (base' := w.heap.size) (hrow 0 (by omega)) (by omega)
      have n1 := row_lower5 (base' := w.heap.size) (hrow 1 (by omega)) (by omega)
      have n2 := row_lower5 (base' := w.heap.size) (hrow 2 (by omega)) (by omega)
      rw [e0] at n0
      rw [e1] at n1
      rw [e2] at n2
      exact ⟨n0, n1, n2⟩
    · have HX : Hid (headOf (pieces s) = none) := hid (by unfold headOf; rw [hrun]; simp [h3])
      have hlt : h.m < 3 := by omega
      gi_wp2
      refine head_ends (set5_f _ _ _ _ _ hst.f) (set5_b _ _ _ _ _ hst.b) ((set5_other _ _ _ _ _ _ _ _ (by omega) (by omega)).trans hK) (by omega) (set5_below hB) (by rw [HX.out]; rfl) ?_ rfl rfl rfl
      rw [HX.out]
      exact noFn_rows _ _
  case ret =>
    rintro D pre W hD ⟨⟨h, hX, hst⟩, hB⟩ hK
    have HX := hid hX
    clear hX
    gi_wp2
    refine head_ends hst.f hst.b hK (by omega) hB (by rw [HX.out]; rfl) ?_ rfl rfl rfl
    rw [HX.out]
    exact noFn_rows _ _
end Go.Proofs.YtbjipcpoiiegkaaGreatDoor
