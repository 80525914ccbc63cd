/- Layer 16: a journal's calls within a law: the disk, the journal, rows of texts of the call's own. -/
import Derived.Test.YthmjejmignangaaGreatDoorJPd
import Derived.Test.YthmjejmignangaaGreatDoorJKn
namespace Go.Proofs.YthmjejmignangaaGreatDoor
open Go.RowKit
/-- A row of texts of the call's own. -/
structure TxJ (w : World) (K : Nat → Prop) (lb jb : Nat) (v : Value) (want : List Bt) (W : World) : Prop where
  row : W.ownsRow w.heap.size 9 1 v want.length (svl want)
  k : ∀ b, v.ownBlock = some b → K b ∧ b ≠ lb ∧ b ≠ jb
theorem TxJ.nil (w : World) (K : Nat → Prop) (lb jb : Nat) (W : World) : TxJ w K lb jb (.slice none 0 0) [] W := ⟨World.ownsRow_nil _ _ _ _, fun b h => by simp [Value.ownBlock] at h⟩
theorem TxJ.jkt {w : World} {K : Nat → Prop} {lb jb : Nat} {v : Value} {S : List Bt} {W W' : World} (h : TxJ w K lb jb v S W) (k : JKt K lb W W') : TxJ w K lb jb v S W' :=
  ⟨row_keep h.row fun b hb => k.block b (h.row.lt b hb).2 fun x => x.elim (fun x => x (h.k b hb).1) fun x => (h.k b hb).2.1 x, h.k⟩
theorem TxJ.below {w : World} {K : Nat → Prop} {lb jb : Nat} {v : Value} {S : List Bt} {W W' : World} (h : TxJ w K lb jb v S W) (k : Below W.heap.size W W') : TxJ w K lb jb v S W' := ⟨row_below2 h.row k, h.k⟩
theorem Jst.below {w : World} {K : Nat → Prop} {jb lb db : Nat} {g : Jn} {d : Dk} {V V' : World} (h : Jst w K jb lb db g d V) (b : Below V.heap.size V V') : Jst w K jb lb db g d V' := ⟨h.1, h.2.1.below b, h.2.2.trans (b.mono h.2.2.size)⟩
/-- A text more: the row's block is the call's own, too. -/
theorem TxJ.push {w : World} {K : Nat → Prop} {jb lb db : Nat} {g : Jn} {d : Dk} {v v' : Value} {want : List Bt} {W W2 W5 : World} {b : Bt} (h : Jst w K jb lb db g d W) (hr : TxJ w K lb jb v want W) (hb : Below W.heap.size W W2) (h5 : W5.ownsRow w.heap.size 9 1 v' (want.length + 1) (svl want ++ [sv b])) (hs : Step W2 v W5 v') : ∃ R : Nat → Prop, (∀ k, K k → R k) ∧ (∀ k, R k → K k ∨ v'.ownBlock = some k) ∧ Jst w R jb lb db g d W5 ∧ TxJ w R lb jb v' (want ++ [b]) W5 := by
  have h2 := h.below hb
  have hnew : ∀ k, v'.ownBlock = some k → (K k ∧ k ≠ lb ∧ k ≠ jb) ∨ (W2.heap.size ≤ k ∧ k < W5.heap.size) := fun k hk => by
    rcases hs.2 with e | ⟨q, e, hq⟩
    · exact .inl (hr.k k (e ▸ hk))
    · rw [e] at hk; injection hk with hk; subst hk
      exact .inr ⟨hq, (h5.lt q e).2⟩
  have hgr : ∀ k, k < W2.heap.size → some k ≠ v.ownBlock → W5.heap[k]? = W2.heap[k]? := fun k hk hn => hs.1.block k hk hn
  obtain ⟨⟨_, l1⟩, _, _, l2⟩ := h2.2.1.rd
  refine ⟨fun k => K k ∨ v'.ownBlock = some k, fun k hk => .inl hk, fun k hk => hk, ⟨fun k hk => ⟨.inl (h.1 k hk).1, (h.1 k hk).2⟩, ⟨?_, ?_, ?_, .inl h.2.1.kj, .inl h.2.1.kl, h.2.1.jl⟩, ?_⟩, ⟨?_, fun k hk => ⟨.inr hk, ?_⟩⟩⟩
  · exact h2.2.1.dk.turn16 hs.1.size (fun k hk hn => hgr k hk fun e => hn (hr.k k e.symm).1) fun k hk => hk.elim .inl fun x => (hnew k x).elim (fun y => .inl y.1) .inr
  · exact (hgr lb l2 fun e => (hr.k lb e.symm).2.1 rfl).trans h2.2.1.lg
  · exact (hgr jb l1 fun e => (hr.k jb e.symm).2.2 rfl).trans h2.2.1.jn
  · refine h2.2.2.trans ⟨hs.1.os, hs.1.tape, hs.1.output, hs.1.size, fun k hk => hgr k (Nat.lt_of_lt_of_le hk h2.2.2.size) fun e => ?_⟩
    have := (hr.row.lt k e.symm).1
    omega
  · rw [List.length_append]
    show W5.ownsRow w.heap.size 9 1 v' (want.length + 1) (svl (want ++ [b]))
    rw [show svl (want ++ [b]) = svl want ++ [sv b] from List.map_append ..]
    exact h5
  · rcases hnew k hk with x | x
    · exact x.2
    · exact ⟨fun e => by omega, fun e => by omega⟩
/-- The numbers stay small. -/
theorem JD.small {K : Nat → Prop} {db : Nat} {d : Dk} {g : Jn} {sure may : List Bt} {V : World} (h : JD d g sure may) (hk : DkAt K db d V) (ho : d.off = false) (hep : g.ep ≤ 4611686018427387904) : g.ok fL ∧ (sure ++ may).length ≤ 65536 ∧ 0 ≤ g.cnt ∧ g.cnt ≤ 65536 := by
  obtain ⟨⟨cs, k0, el, h1, h2, h3, h4⟩, h5⟩ := h
  have hl := readL_len hk fL
  have hcs : cs.length ≤ 65536 := by
    obtain ⟨_, hfo⟩ := OneF.has h1
    unfold readL at hl
    rw [ho, hfo] at hl
    by_cases q : cs = []
    · rw [q]; simp
    · rw [if_neg q] at hl
      simpa using hl
  have ht := tRun_len (pN cs) tStart
  rw [h3.told] at ht
  have hpl : (pN cs).length = cs.length := by simp [pN]
  have h0 : tStart.rs.length = 0 := rfl
  obtain ⟨e, k1, _, _, k4, _⟩ := tell_split (l := pN cs)
  have hen := h3.en
  rw [k4] at hen
  have hcn := h3.cnt
  refine ⟨⟨⟨by omega, by omega⟩, ⟨by omega, by omega⟩, ⟨h5, hep⟩, by decide⟩, by omega, by omega, by omega⟩
/-- A slice of bytes, as Append may be handed one. -/
def BsX (W : World) (a : Option Addr) (n c : Nat) (b : Bt) : Prop := b.length = n ∧ ((n = 0 ∧ c = 0) ∨ (∃ bB bo, a = some ⟨bB, bo, none⟩ ∧ n ≤ c ∧ bB < W.heap.size ∧ ∀ j (h : j < b.length), W.cell? ⟨bB, bo + j, none⟩ = some (.int .u8 (b[j].toNat : Int))))
theorem BsX.bs {W : World} {a : Option Addr} {n c : Nat} {b : Bt} (h : BsX W a n c b) : Bs W a b := by
  obtain ⟨h1, h2 | ⟨bB, bo, e, _, _, h3⟩⟩ := h
  · exact .inl (List.eq_nil_of_length_eq_zero (by omega))
  · exact .inr ⟨bB, bo, e, h3⟩
theorem BsX.below {W W' : World} {a : Option Addr} {n c : Nat} {b : Bt} (h : BsX W a n c b) (k : Below W.heap.size W W') : BsX W' a n c b := by
  obtain ⟨h1, h2 | ⟨bB, bo, e, q1, q2, h3⟩⟩ := h
  · exact ⟨h1, .inl h2⟩
  · exact ⟨h1, .inr ⟨bB, bo, e, q1, Nat.lt_of_lt_of_le q2 k.size, fun j hj => (k.cell (p := ⟨bB, bo + j, none⟩) q2).trans (h3 j hj)⟩⟩
theorem jappend_law {w V : World} {K : Nat → Prop} {jb lb db : Nat} {g : Jn} {d : Dk} (h : Jst w K jb lb db g d V) (hok : g.ok fL) (a : Option Addr) (n c : Nat) (b : Bt) (hb : BsX V a n c b) (hn : n ≤ 176128) :
    Calls Tryz.prog 14 #[.pointer (some ⟨jb, 0, none⟩), .slice a n c] V fun e w' => e = .returned (.int .i64 (apX g d fL b).2.1) ∧ Hid (Jst w K jb lb db (apJ g d fL b) (apX g d fL b).1 w' ∧ JKt K lb V w') := by
  have key : Calls Tryz.prog 14 #[.pointer (some ⟨jb, 0, none⟩), .slice a n c] V (ApEnd K jb lb db fL g d b V) := by
    obtain ⟨h1, h2 | ⟨bB, bo, e, q1, q2, h3⟩⟩ := hb
    · obtain rfl := List.eq_nil_of_length_eq_zero (h1.trans h2.1)
      obtain ⟨rfl, rfl⟩ := h2
      obtain ⟨⟨k1, k2⟩, ⟨k3, k4⟩, ⟨k5, k6⟩, k7⟩ := id hok
      exact append_core16 h.2.1 hok a 0 0 [] (by simp) (split_zero16 g.ep (g.cnt + 1) (by unfold stmpB; simp; omega) (by unfold stmpB; simp; omega) a V.drew)
    · subst e
      exact append_any16 h.2.1 hok bB bo n c b h1 hn q1 (.inr ⟨bB, bo, rfl, h3⟩)
  exact key.mono fun e w' ⟨e1, e2⟩ => ⟨e1, hidb ⟨jst_step h e2.out.1 e2.out.2, e2.out.2⟩⟩
/-- A journal in a law, the power on, no fuse. -/
structure FJ (w : World) (mo : Int) (jb lb db : Nat) (sure may shown : List Bt) (i m : Nat) (v : Value) (V : World) : Prop where
  ex : ∃ K g d, Jst w K jb lb db g d V ∧ TxJ w K lb jb v shown V ∧ d.off = false ∧ d.fuse = -1 ∧ JD d g sure may ∧ g.ep ≤ i ∧ usedD d ≤ m ∧ d.most = mo
theorem FJ.bl {w : World} {mo : Int} {jb lb db : Nat} {sure may shown : List Bt} {i m : Nat} {v : Value} {V : World} (h : FJ w mo jb lb db sure may shown i m v V) : Below w.heap.size w V := by
  obtain ⟨K, g, d, h1, _⟩ := h.ex
  exact h1.2.2
theorem FJ.below {w : World} {mo : Int} {jb lb db : Nat} {sure may shown : List Bt} {i m : Nat} {v : Value} {V V' : World} (h : FJ w mo jb lb db sure may shown i m v V) (b : Below V.heap.size V V') : FJ w mo jb lb db sure may shown i m v V' := by
  obtain ⟨K, g, d, h1, h2, h3⟩ := h.ex
  exact ⟨K, g, d, h1.below b, h2.below b, h3⟩
theorem cntS_le {b : Bt} {n : Nat} (h : b.length ≤ 43 * n) (h1 : 1 ≤ n) : cntS b ≤ n := by unfold cntS; omega
/-- Append: a record more, or none: then the disk is full. -/
theorem FJ.append {w : World} {mo : Int} {jb lb db : Nat} {sure may shown : List Bt} {i m : Nat} {v : Value} {V : World} (h : FJ w mo jb lb db sure may shown i m v V) (hi : i ≤ 1000000) (a : Option Addr) (n c : Nat) (b : Bt) (hb : BsX V a n c b) (hn : n ≤ 400) :
    (Calls Tryz.prog 14 #[.pointer (some ⟨jb, 0, none⟩), .slice a n c] V fun e w' => e = .returned (.int .i64 0) ∧ Hid (FJ w mo jb lb db sure (may ++ [b]) shown (i + 1) (m + 10) v w')) ∨
    (mo ≤ ((m + 10 : Nat) : Int) ∧ Calls Tryz.prog 14 #[.pointer (some ⟨jb, 0, none⟩), .slice a n c] V fun e w' => e = .returned (.int .i64 7) ∧ Hid (FJ w mo jb lb db sure may shown (i + 1) (m + 10) v w')) := by
  obtain ⟨K, g, d, h1, h2, h3, h4, h5, h6, h7, h8⟩ := h.ex
  obtain ⟨ok, _, c0, c1⟩ := h5.small h1.2.1.dk h3 (by omega)
  have hbl := hb.1
  have hcb : cntS b ≤ 10 := cntS_le (by omega) (by omega)
  obtain ⟨a1, a2, a3, a4, a5⟩ := h5.append h3 b (by omega) (by omega) (by omega)
  have key := jappend_law h1 ok a n c b hb (by omega)
  rcases a5 with ⟨x1, x2, x3⟩ | ⟨x1, x2, x3, x4⟩ | ⟨x1, _, _⟩
  · exact .inl (key.mono fun e w' ⟨e1, e2⟩ => ⟨by rw [e1, x1], hidb ⟨K, _, _, e2.out.1, h2.jkt e2.out.2, x2, (a2 h4).1, x3, by omega, by omega, by rw [a1, h8]⟩⟩)
  · exact .inr ⟨by omega, key.mono fun e w' ⟨e1, e2⟩ => ⟨by rw [e1, x1], hidb ⟨K, _, _, e2.out.1, h2.jkt e2.out.2, x2, (a2 h4).1, x3, by omega, by omega, by rw [a1, h8]⟩⟩⟩
  · exact absurd x1 (a2 h4).2
theorem FJ.len_le {w : World} {mo : Int} {jb lb db : Nat} {sure may shown : List Bt} {i m : Nat} {v : Value} {V : World} (h : FJ w mo jb lb db sure may shown i m v V) : ∃ a c, v = .slice a shown.length c ∧ shown.length ≤ c ∧ c ≤ 9223372036854775807 := by
  obtain ⟨K, g, d, h1, h2, _⟩ := h.ex
  obtain ⟨a, c, e, q1, q2, _⟩ := row_form h2.row
  exact ⟨a, c, e, q1, q2⟩
theorem FJ.row {w : World} {mo : Int} {jb lb db : Nat} {sure may shown : List Bt} {i m : Nat} {v : Value} {V : World} (h : FJ w mo jb lb db sure may shown i m v V) : V.ownsRow w.heap.size 9 1 v shown.length (svl shown) := by
  obtain ⟨K, g, d, h1, h2, _⟩ := h.ex
  exact h2.row
theorem jst_str {W : World} {a : Option Addr} {n c : Nat} {b : Bt} (h : BsX W a n c b) : (convert 29 9 (.slice a n c)).run Tryz.prog W = .ok (sv b) W := by
  have := run_str h.bs c
  rw [h.1] at this
  exact this
theorem FJ.push {w : World} {mo : Int} {jb lb db : Nat} {sure may shown : List Bt} {i m : Nat} {v v' : Value} {W W2 W5 : World} {b : Bt} (h : FJ w mo jb lb db sure may shown i m v W) (hb : Below W.heap.size W W2) (h5 : W5.ownsRow w.heap.size 9 1 v' (shown.length + 1) (svl shown ++ [sv b])) (hs : Step W2 v W5 v') : FJ w mo jb lb db sure may (shown ++ [b]) i m v' W5 := by
  obtain ⟨K, g, d, h1, h2, h3⟩ := h.ex
  obtain ⟨R, _, _, r1, r2⟩ := TxJ.push h1 h2 hb h5 hs
  exact ⟨R, g, d, r1, r2, h3⟩
/-- A text of one's own, appended: what the walk of append asks. -/
theorem FJ.one {w : World} {mo : Int} {jb lb db : Nat} {sure may shown : List Bt} {i m : Nat} {v : Value} {V : World} (h : FJ w mo jb lb db sure may shown i m v V) (b : Bt) :
    (V.alloc (.cells #[sv b] 9)).ownsRow w.heap.size 9 1 v shown.length (svl shown) ∧ Lies (V.alloc (.cells #[sv b] 9)) (.slice (some ⟨V.heap.size, 0, none⟩) 1 1) 1 [sv b] ∧ w.heap.size ≤ (V.alloc (.cells #[sv b] 9)).heap.size ∧ ∀ v' w5, w5.ownsRow w.heap.size 9 1 v' (shown.length + 1) (svl shown ++ [sv b]) → Step (V.alloc (.cells #[sv b] 9)) v w5 v' → FJ w mo jb lb db sure may (shown ++ [b]) i m v' w5 := by
  have hb := (Below.refl _ V).alloc (Nat.le_refl _) (.cells #[sv b] 9)
  refine ⟨row_below2 h.row hb, .inr ⟨_, _, rfl, fun j u hu => ?_⟩, Nat.le_trans h.bl.size hb.size, fun v' w5 h5 hs => h.push hb h5 hs⟩
  rw [Addr.add_lit, Lib.cell_of_heap (heap_alloc_new V _)]
  cases j with
  | zero => simpa using hu
  | succ j => simp at hu
theorem FJ.sync {w : World} {mo : Int} {jb lb db : Nat} {sure may shown : List Bt} {i m : Nat} {v : Value} {V : World} (h : FJ w mo jb lb db sure may shown i m v V) :
    Calls Tryz.prog 15 #[.pointer (some ⟨jb, 0, none⟩)] V fun e w' => e = .returned (.int .i64 0) ∧ Hid (FJ w mo jb lb db (sure ++ may) [] shown i m v w') := by
  obtain ⟨K, g, d, h1, h2, h3, h4, h5, h6, h7, h8⟩ := h.ex
  obtain ⟨s1, s2, s3, s4⟩ := h5.sync h3
  refine (jsync_any16 h1.2.1).mono fun e w' ⟨e1, e2⟩ => ?_
  obtain ⟨q1, q2⟩ := e2.out
  rcases s4 with ⟨x1, x2, x3⟩ | ⟨x1, _, _⟩
  · exact ⟨by rw [e1, x1], hidb ⟨K, g, _, jst_step h1 q1 q2, h2.jkt q2, x2, (s3 h4).1, x3, h6, by omega, by rw [s1, h8]⟩⟩
  · exact absurd x1 (s3 h4).2
theorem JD.cnt {d : Dk} {g : Jn} {sure may : List Bt} (h : JD d g sure may) : g.cnt = ((sure ++ may).length : Nat) := by
  obtain ⟨⟨cs, k0, el, _, _, h3, _⟩, _⟩ := h
  exact h3.cnt
theorem FJ.len {w : World} {mo : Int} {jb lb db : Nat} {sure may shown : List Bt} {i m : Nat} {v : Value} {V : World} (h : FJ w mo jb lb db sure may shown i m v V) :
    Calls Tryz.prog 16 #[.pointer (some ⟨jb, 0, none⟩)] V fun e w' => e = .returned (.int .i64 ((sure ++ may).length : Nat)) ∧ w' = V := by
  obtain ⟨K, g, d, h1, _, _, _, h5, _⟩ := h.ex
  rw [← h5.cnt]
  exact jlen_any16 h1.2.1
/-- Records lie there, of the call's own. -/
def RecW (K : Nat → Prop) (a : Option Addr) (rs : List Bt) (W : World) : Prop := ∀ (k : Nat) (r : Bt), rs[k]? = some r → ∃ g xa xc, a = some ⟨g, 0, none⟩ ∧ K g ∧ W.cell? ⟨g, k, none⟩ = some (.slice xa r.length xc) ∧ (r = [] ∨ ∃ b o, xa = some ⟨b, o, none⟩ ∧ K b ∧ b < W.heap.size ∧ ∀ j (h : j < r.length), W.cell? ⟨b, o + j, none⟩ = some (.int .u8 (r[j].toNat : Int))) ∧ g < W.heap.size
theorem RecW.bs {K : Nat → Prop} {a : Option Addr} {rs : List Bt} {W : World} (h : RecW K a rs W) {k : Nat} {r : Bt} (hr : rs[k]? = some r) : ∃ g xa xc, a = some ⟨g, 0, none⟩ ∧ W.cell? ⟨g, k, none⟩ = some (.slice xa r.length xc) ∧ Bs W xa r := by
  obtain ⟨g, xa, xc, e, _, h1, h2, _⟩ := h k r hr
  refine ⟨g, xa, xc, e, h1, ?_⟩
  rcases h2 with h2 | ⟨b, o, e2, _, _, h3⟩
  · exact .inl h2
  · exact .inr ⟨b, o, e2, h3⟩
theorem RecW.kt {K : Nat → Prop} {a : Option Addr} {rs : List Bt} {W W' : World} (h : RecW K a rs W) (k : Kt (fun i => ¬ K i) W W') : RecW K a rs W' := fun j r hr => by
  obtain ⟨g, xa, xc, e, hg, h1, h2, h4⟩ := h j r hr
  have keep : ∀ (p : Addr) (x : Value), K p.block → p.block < W.heap.size → W.cell? p = some x → W'.cell? p = some x := fun p x hp hl hx => by
    unfold World.cell? at hx ⊢
    rw [k.block p.block hl fun q => q hp]
    exact hx
  refine ⟨g, xa, xc, e, hg, keep _ _ hg h4 h1, ?_, Nat.lt_of_lt_of_le h4 k.size⟩
  rcases h2 with h2 | ⟨b, o, e2, hb, hlt, h3⟩
  · exact .inl h2
  · exact .inr ⟨b, o, e2, hb, Nat.lt_of_lt_of_le hlt k.size, fun j hj => keep _ _ hb hlt (h3 j hj)⟩
theorem RecW.mono {K R : Nat → Prop} {a : Option Addr} {rs : List Bt} {W : World} (h : RecW K a rs W) (hk : ∀ k, K k → R k) : RecW R a rs W := fun j r hr => by
  obtain ⟨g, xa, xc, e, hg, h1, h2, h4⟩ := h j r hr
  exact ⟨g, xa, xc, e, hk _ hg, h1, h2.imp id fun ⟨b, o, e2, hb, h3⟩ => ⟨b, o, e2, hk _ hb, h3⟩, h4⟩
/-- A disk that may be opened, in a law. -/
structure FC (w : World) (mo : Int) (db : Nat) (rs shown : List Bt) (E m : Nat) (v : Value) (fa : Option Addr) (F : List Bt) (V : World) : Prop where
  ex : ∃ K d, DkAt K db d V ∧ (∀ k, k < w.heap.size → K k) ∧ Below w.heap.size w V ∧ FD d rs E ∧ (V.ownsRow w.heap.size 9 1 v shown.length (svl shown) ∧ ∀ b, v.ownBlock = some b → K b) ∧ RecW K fa F V ∧ usedD d ≤ m ∧ d.most = mo
theorem RecW.below {K : Nat → Prop} {a : Option Addr} {rs : List Bt} {W W' : World} (h : RecW K a rs W) (k : Below W.heap.size W W') : RecW K a rs W' := h.kt (Kt.below k)
theorem RecW.nil (K : Nat → Prop) (a : Option Addr) (W : World) : RecW K a [] W := fun k r h => by simp at h
theorem FC.below {w : World} {mo : Int} {db : Nat} {rs shown : List Bt} {E m : Nat} {v : Value} {fa : Option Addr} {F : List Bt} {V V' : World} (h : FC w mo db rs shown E m v fa F V) (b : Below V.heap.size V V') : FC w mo db rs shown E m v fa F V' := by
  obtain ⟨K, d, h1, h2, h3, h4, ⟨h5, h6⟩, h7, h8⟩ := h.ex
  exact ⟨K, d, h1.below b, h2, h3.trans (b.mono h3.size), h4, ⟨row_below2 h5 b, h6⟩, h7.below b, h8⟩
theorem FC.bl {w : World} {mo : Int} {db : Nat} {rs shown : List Bt} {E m : Nat} {v : Value} {fa : Option Addr} {F : List Bt} {V : World} (h : FC w mo db rs shown E m v fa F V) : Below w.heap.size w V := by
  obtain ⟨K, d, h1, h2, h3, _⟩ := h.ex
  exact h3
theorem JD.ep1 {d : Dk} {g : Jn} {sure may : List Bt} (h : JD d g sure may) : 1 ≤ g.ep := h.ep
theorem FD.mono {d : Dk} {rs : List Bt} {E E' : Int} (h : FD d rs E) (e : E ≤ E') : FD d rs E' := by
  obtain ⟨h1, h2, cs, h3, h4, h5, h6⟩ := h
  exact ⟨h1, h2, cs, h3, h4, h5, fun c hc hg => Int.le_trans (h6 c hc hg) e⟩
theorem FD.used {K : Nat → Prop} {db : Nat} {d : Dk} {rs : List Bt} {E : Int} {V : World} (h : FD d rs E) (hk : DkAt K db d V) : usedD d ≤ 65536 := by
  obtain ⟨ho, _, cs, h1, _⟩ := h
  have hl := readL_len hk fL
  obtain ⟨_, hfo⟩ := OneF.has h1
  unfold readL at hl
  rw [ho, hfo] at hl
  have e2 : usedD d = cs.length := h1.used.1
  rw [e2]
  by_cases q : cs = []
  · rw [q]; simp
  · rw [if_neg q] at hl
    simpa using hl
theorem FJ.crash {w : World} {mo : Int} {jb lb db : Nat} {sure may shown : List Bt} {i m : Nat} {v : Value} {V : World} (h : FJ w mo jb lb db sure may shown i m v V) (fa : Option Addr) (fn fc : Nat) (fates : List Int) (hf : ∀ K : Nat → Prop, (∀ k, k < w.heap.size → K k) → FatO (fun i => ¬ K i) V (.slice fa fn fc) fates) :
    Calls Tryz.prog 23 #[.pointer (some ⟨db, 0, none⟩), .slice fa fn fc] V fun e w' => e = .returned (.tuple #[]) ∧ Hid (∃ k, k ≤ may.length ∧ FC w mo db (sure ++ may.take k) shown i 65536 v none [] w') := by
  obtain ⟨K, g, d, h1, h2, h3, h4, h5, h6, h7, h8⟩ := h.ex
  obtain ⟨k, hk, hfd⟩ := h5.crash fates
  refine (dcrash_any h1.2.1.dk fa fn fc fates (hf K fun k hk => (h1.1 k hk).1)).mono fun e w' ⟨e1, e2⟩ => ⟨e1, hidb ⟨k, hk, K, _, e2.out.1, fun k hk => (h1.1 k hk).1, ?_, hfd.mono (by omega), ⟨?_, fun b hb => (h2.k b hb).1⟩, RecW.nil _ _ _, hfd.used e2.out.1, h8⟩⟩
  · exact h1.2.2.trans (Kt.low e2.out.2 h1.2.2.size fun i hi hn => hn (h1.1 i hi).1)
  · exact row_keep h2.row fun b hb => e2.out.2.block b (h2.row.lt b hb).2 fun x => x (h2.k b hb).1
/-- A sure disk that crashes stays what it was. -/
theorem FD.crash {d : Dk} {g : Jn} {rs : List Bt} (h : JD d g rs []) (fates : List Int) : FD (crD d fates) rs g.ep := by
  obtain ⟨k, hk, hfd⟩ := h.crash fates
  simpa using hfd
/-- Opened, in a law. -/
structure OC (w : World) (mo : Int) (jb lb db : Nat) (rs shown : List Bt) (E m : Nat) (v : Value) (fa : Option Addr) (F : List Bt) (a : Option Addr) (V : World) : Prop where
  ex : ∃ K g d, Jst w K jb lb db g d V ∧ TxJ w K lb jb v shown V ∧ d.off = false ∧ d.fuse = -1 ∧ JD d g rs [] ∧ g.ep ≤ E ∧ usedD d ≤ m ∧ d.most = mo ∧ RecW K a rs V ∧ RecW K fa F V
theorem OC.fj {w : World} {mo : Int} {jb lb db : Nat} {rs shown : List Bt} {E m : Nat} {v : Value} {fa : Option Addr} {F : List Bt} {a : Option Addr} {V : World} (h : OC w mo jb lb db rs shown E m v fa F a V) : FJ w mo jb lb db rs [] shown E m v V := by
  obtain ⟨K, g, d, h1, h2, h3, h4, h5, h6, h7, h8, _⟩ := h.ex
  exact ⟨K, g, d, h1, h2, h3, h4, h5, h6, h7, h8⟩
theorem OC.below {w : World} {mo : Int} {jb lb db : Nat} {rs shown : List Bt} {E m : Nat} {v : Value} {fa : Option Addr} {F : List Bt} {a : Option Addr} {V V' : World} (h : OC w mo jb lb db rs shown E m v fa F a V) (b : Below V.heap.size V V') : OC w mo jb lb db rs shown E m v fa F a V' := by
  obtain ⟨K, g, d, h1, h2, h3, h4, h5, h6, h7, h8, h9, h10⟩ := h.ex
  exact ⟨K, g, d, h1.below b, h2.below b, h3, h4, h5, h6, h7, h8, h9.below b, h10.below b⟩
/-- Opened, the first ones of rows kept. -/
theorem OC.fc {w : World} {mo : Int} {jb lb db : Nat} {rs shown : List Bt} {E m : Nat} {v : Value} {fa : Option Addr} {F : List Bt} {a : Option Addr} {V : World} (h : OC w mo jb lb db rs shown E m v fa F a V) : FC w mo db rs shown E m v fa F V ∧ FC w mo db rs shown E m v a rs V := by
  obtain ⟨K, g, d, h1, h2, h3, h4, h5, h6, h7, h8, h9, h10⟩ := h.ex
  have hc := h5.calm h3 h4
  rw [List.append_nil] at hc
  have hfd : FD d rs E := hc.mono h6
  exact ⟨⟨K, d, h1.2.1.dk, fun k hk => (h1.1 k hk).1, h1.2.2, hfd, ⟨h2.row, fun b hb => (h2.k b hb).1⟩, h10, h7, h8⟩, ⟨K, d, h1.2.1.dk, fun k hk => (h1.1 k hk).1, h1.2.2, hfd, ⟨h2.row, fun b hb => (h2.k b hb).1⟩, h9, h7, h8⟩⟩
theorem OC.recs {w : World} {mo : Int} {jb lb db : Nat} {rs shown : List Bt} {E m : Nat} {v : Value} {fa : Option Addr} {F : List Bt} {a : Option Addr} {V : World} (h : OC w mo jb lb db rs shown E m v fa F a V) : (∀ (k : Nat) (r : Bt), rs[k]? = some r → ∃ g xa xc, a = some ⟨g, 0, none⟩ ∧ V.cell? ⟨g, k, none⟩ = some (.slice xa r.length xc) ∧ Bs V xa r) ∧ (∀ (k : Nat) (r : Bt), F[k]? = some r → ∃ g xa xc, fa = some ⟨g, 0, none⟩ ∧ V.cell? ⟨g, k, none⟩ = some (.slice xa r.length xc) ∧ Bs V xa r) := by
  obtain ⟨K, g, d, _, _, _, _, _, _, _, _, h9, h10⟩ := h.ex
  exact ⟨fun k r hr => h9.bs hr, fun k r hr => h10.bs hr⟩
theorem OC.self {w : World} {mo : Int} {jb lb db : Nat} {rs shown : List Bt} {E m : Nat} {v : Value} {fa : Option Addr} {F : List Bt} {a : Option Addr} {V : World} (h : OC w mo jb lb db rs shown E m v fa F a V) : OC w mo jb lb db rs shown E m v a rs a V := by
  obtain ⟨K, g, d, h1, h2, h3, h4, h5, h6, h7, h8, h9, h10⟩ := h.ex
  exact ⟨K, g, d, h1, h2, h3, h4, h5, h6, h7, h8, h9, h9⟩
theorem OC.few {w : World} {mo : Int} {jb lb db : Nat} {rs shown : List Bt} {E m : Nat} {v : Value} {fa : Option Addr} {F : List Bt} {a : Option Addr} {V : World} (h : OC w mo jb lb db rs shown E m v fa F a V) : rs.length ≤ 65536 := by
  obtain ⟨K, g, d, h1, h2, h3, h4, h5, h6, h7, h8, h9, h10⟩ := h.ex
  obtain ⟨⟨cs, k0, el, j1, j2, j3, j4⟩, j5⟩ := h5
  have hl := readL_len h1.2.1.dk fL
  obtain ⟨_, hfo⟩ := OneF.has j1
  unfold readL at hl
  rw [h3, hfo] at hl
  have hcs : cs.length ≤ 65536 := by
    by_cases q : cs = []
    · rw [q]; simp
    · rw [if_neg q] at hl
      simpa using hl
  have ht := tRun_len (pN cs) tStart
  rw [j3.told] at ht
  have hpl : (pN cs).length = cs.length := by simp [pN]
  have h0 : tStart.rs.length = 0 := rfl
  simp only [List.append_nil] at ht
  omega
/-- A crash of an opened disk. -/
theorem FC.crash {w : World} {mo : Int} {jb lb db : Nat} {rs shown : List Bt} {E m : Nat} {v : Value} {fa : Option Addr} {F : List Bt} {a : Option Addr} {V : World} (h : OC w mo jb lb db rs shown E m v fa F a V) (va : Option Addr) (fn fc : Nat) (fates : List Int) (hf : ∀ K : Nat → Prop, (∀ k, k < w.heap.size → K k) → FatO (fun i => ¬ K i) V (.slice va fn fc) fates) :
    Calls Tryz.prog 23 #[.pointer (some ⟨db, 0, none⟩), .slice va fn fc] V fun e w' => e = .returned (.tuple #[]) ∧ Hid (FC w mo db rs shown E 65536 v fa F w') := by
  obtain ⟨K, g, d, h1, h2, h3, h4, h5, h6, h7, h8, h9, h10⟩ := h.ex
  have hfd := FD.crash h5 fates
  refine (dcrash_any h1.2.1.dk va fn fc fates (hf K fun k hk => (h1.1 k hk).1)).mono fun e w' ⟨e1, e2⟩ => ⟨e1, hidb ⟨K, _, e2.out.1, fun k hk => (h1.1 k hk).1, ?_, hfd.mono (by omega), ⟨?_, fun b hb => (h2.k b hb).1⟩, h10.kt e2.out.2, hfd.used e2.out.1, h8⟩⟩
  · exact h1.2.2.trans (Kt.low e2.out.2 h1.2.2.size fun i hi hn => hn (h1.1 i hi).1)
  · exact row_keep h2.row fun b hb => e2.out.2.block b (h2.row.lt b hb).2 fun x => x (h2.k b hb).1
theorem recs_own {W : World} {base : Nat} {a : Option Addr} {n c : Nat} {cs : List Value} {rs : List Bt} (h1 : Own W base 29 (.slice a n c) cs) (h2 : cs.length = rs.length) (h3 : ∀ (j : Nat) (x : Value) (r : Bt), cs[j]? = some x → rs[j]? = some r → Own W base 5 x (r.map bv)) : n = rs.length ∧ RecW (fun k => base ≤ k ∧ k < W.heap.size) a rs W := by
  obtain ⟨a', c', e, _, _, h4⟩ := row_form h1
  injection e with e1 e2 e3
  subst e1
  refine ⟨by rw [e2, h2], fun k r hr => ?_⟩
  have hk := (List.getElem?_eq_some_iff.1 hr).1
  obtain ⟨x, hx⟩ : ∃ x, cs[k]? = some x := ⟨cs[k]'(by omega), List.getElem?_eq_getElem _⟩
  obtain ⟨xa, xc, hv, _, _, h5⟩ := row_form (h3 k x r hx hr)
  rw [List.length_map] at hv
  rcases h4 with ⟨_, h0, _⟩ | ⟨g, e, g1, g2, hc⟩
  · omega
  · refine ⟨g, xa, xc, e, ⟨g1, g2⟩, by rw [← hv]; exact hc k _ hx, ?_, g2⟩
    rcases h5 with ⟨_, h0, _⟩ | ⟨b, eb, b1, b2, hbc⟩
    · exact .inl (List.eq_nil_of_length_eq_zero (by simpa using h0))
    · refine .inr ⟨b, 0, eb, ⟨b1, b2⟩, b2, fun j hj => ?_⟩
      rw [Nat.zero_add]
      exact hbc j _ (by rw [List.getElem?_map, List.getElem?_eq_getElem hj]; rfl)
/-- Open, in a law. -/
theorem FC.opens {w : World} {mo : Int} {db : Nat} {rs shown : List Bt} {E m : Nat} {v : Value} {fa : Option Addr} {F : List Bt} {V : World} (h : FC w mo db rs shown E m v fa F V) :
    Calls Tryz.prog 12 #[.pointer (some ⟨db, 0, none⟩), .string ⟨#[108, 111, 103]⟩] V fun e W => ∃ jb lb a c, e = .returned (.tuple #[.pointer (some ⟨jb, 0, none⟩), .slice a rs.length c, .int .i64 0]) ∧ Hid (OC w mo jb lb db rs shown (E + 1) m v fa F a W) := by
  obtain ⟨K, d, h1, h2, h3, h4, ⟨h5, h6⟩, h7, h8, h9⟩ := h.ex
  obtain ⟨o1, o2, o3, o4, o5, o6, o7, o8, o9, o10⟩ := h4.opened (by omega)
  refine (open_any16 h1 fL (by decide) kn_name o2).mono fun e W hh => ?_
  rcases hh with ⟨n1, n2, _⟩ | ⟨_, z, jb, lb, a, n, c, cs, q1, q2, q3, rfl, hH⟩
  · rcases o1 with x | x
    · exact absurd x n1
    · exact absurd x n2
  obtain ⟨p1, p2, p3, p4, p5⟩ := hH.out
  rw [o3] at p3 p4
  obtain ⟨rfl, hR⟩ := recs_own p2 p3 p4
  have hz := h3.size
  refine ⟨jb, lb, a, c, rfl, hidb ⟨_, opJ d fL, opD d fL, ⟨fun k hk => ⟨.inl (h2 k hk), by omega⟩, p1, h3.trans (Kt.low p5 h3.size fun i hi hn => hn (h2 i hi))⟩, ⟨row_keep h5 fun b hb => p5.block b (h5.lt b hb).2 fun x => x (h6 b hb), fun b hb => ⟨.inl (h6 b hb), ?_⟩⟩, o6, o7, o5, by omega, by omega, by rw [o8, h9], hR.mono fun k hk => .inr ⟨by omega, hk.2⟩, (h7.kt p5).mono fun k hk => .inl hk⟩⟩
  have := (h5.lt b hb).2
  omega
end Go.Proofs.YthmjejmignangaaGreatDoor
