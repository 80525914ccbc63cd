/- Layer 16: a Journal: made, Len, Epoch, Append. -/
import Derived.Test.YthmjejmignangaaGreatDoorER
namespace Go.Proofs.YthmjejmignangaaGreatDoor
open Go.RowKit
/-- What a journal knows: how many, end, epoch, whether it wrote. -/
structure Jn where
  cnt : Int
  en : Int
  ep : Int
  wt : Bool
/-- Numbers that stay small. -/
def Jn.ok (g : Jn) (file : Bt) : Prop := (0 ≤ g.cnt ∧ g.cnt ≤ 1099511627776) ∧ (0 ≤ g.en ∧ g.en ≤ 1099511627776) ∧ (1 ≤ g.ep ∧ g.ep ≤ 4611686018427387904) ∧ file.length ≤ 281474976710656
/-- A Journal on a disk. -/
structure JnAt (K : Nat → Prop) (jb lb db : Nat) (file : Bt) (g : Jn) (d : Dk) (W : World) : Prop where
  dk : DkAt K db d W
  lg : LgAt lb db file g.cnt g.en g.ep g.wt W
  jn : W.heap[jb]? = some (.cells #[.pointer (some ⟨lb, 0, none⟩)] 46 (0, 0))
  kj : K jb
  kl : K lb
  jl : jb ≠ lb
theorem JnAt.below {K : Nat → Prop} {jb lb db : Nat} {file : Bt} {g : Jn} {d : Dk} {W W' : World} (h : JnAt K jb lb db file g d W) (b : Below W.heap.size W W') : JnAt K jb lb db file g d W' :=
  ⟨h.dk.below b, (b.block _ (lt_of_block h.lg)).trans h.lg, (b.block _ (lt_of_block h.jn)).trans h.jn, h.kj, h.kl, h.jl⟩
theorem JnAt.rd {K : Nat → Prop} {jb lb db : Nat} {file : Bt} {g : Jn} {d : Dk} {W : World} (h : JnAt K jb lb db file g d W) : (W.cell? ⟨jb, 0, none⟩ = some (.pointer (some ⟨lb, 0, none⟩)) ∧ jb < W.heap.size) ∧ (W.cell? ⟨lb, 0, none⟩ = some (.pointer (some ⟨db, 0, none⟩)) ∧ W.cell? ⟨lb, 1, none⟩ = some (sv file) ∧ W.cell? ⟨lb, 2, none⟩ = some (.int .i64 g.cnt) ∧ W.cell? ⟨lb, 3, none⟩ = some (.int .i64 g.en) ∧ W.cell? ⟨lb, 4, none⟩ = some (.int .i64 g.ep) ∧ W.cell? ⟨lb, 5, none⟩ = some (.bool g.wt)) ∧ (∀ k, W.frozen? ⟨lb, k, none⟩ = false) ∧ lb < W.heap.size :=
  ⟨⟨Lib.cell_of_heap h.jn 0, lt_of_block h.jn⟩, h.lg.cells⟩
theorem jmade_any16 (jb lb : Nat) (w : World) (h : w.cell? ⟨jb, 0, none⟩ = some (.pointer (some ⟨lb, 0, none⟩))) : Calls Tryz.prog 32 #[.pointer (some ⟨jb, 0, none⟩)] w fun e w' => e = .returned (.bool true) ∧ w' = w := by
  go_enter Tryz.func32, Tryz.ntmps32
  go_wp2_with fail
  go_ret
  exact ⟨rfl, rfl⟩
theorem jlen_any16 {K : Nat → Prop} {jb lb db : Nat} {file : Bt} {g : Jn} {d : Dk} {w : World} (h : JnAt K jb lb db file g d w) : Calls Tryz.prog 16 #[.pointer (some ⟨jb, 0, none⟩)] w fun e w' => e = .returned (.int .i64 g.cnt) ∧ w' = w := by
  obtain ⟨⟨j0, jl⟩, ⟨x0, x1, x2, x3, x4, x5⟩, fz, xl⟩ := h.rd
  have HM := hidb (jmade_any16 jb lb w j0)
  clear h
  go_enter Tryz.func16, Tryz.ntmps16
  go_wp2_with (go_at_call 32; refine HM.out.mono ?_; clear HM; rintro e w1 ⟨rfl, e1⟩; obtain rfl := e1.symm)
  go_ret
  exact ⟨rfl, rfl⟩
theorem jepoch_any16 {K : Nat → Prop} {jb lb db : Nat} {file : Bt} {g : Jn} {d : Dk} {w : World} (h : JnAt K jb lb db file g d w) : Calls Tryz.prog 17 #[.pointer (some ⟨jb, 0, none⟩)] w fun e w' => e = .returned (.int .i64 g.ep) ∧ w' = w := by
  obtain ⟨⟨j0, jl⟩, ⟨x0, x1, x2, x3, x4, x5⟩, fz, xl⟩ := h.rd
  have HM := hidb (jmade_any16 jb lb w j0)
  clear h
  go_enter Tryz.func17, Tryz.ntmps17
  go_wp2_with (go_at_call 32; refine HM.out.mono ?_; clear HM; rintro e w1 ⟨rfl, e1⟩; obtain rfl := e1.symm)
  go_ret
  exact ⟨rfl, rfl⟩
/-- What Append comes to. -/
def apX (g : Jn) (d : Dk) (file b : Bt) : Dk × Int × Nat := wrAll d file g.en (splitL g.ep (g.cnt + 1) b)
def apJ (g : Jn) (d : Dk) (file b : Bt) : Jn := if (apX g d file b).2.1 = 0 then ⟨g.cnt + 1, g.en + cntS b, g.ep, g.wt || decide (0 < (apX g d file b).2.2)⟩ else ⟨g.cnt, g.en, g.ep + 1, g.wt || decide (0 < (apX g d file b).2.2)⟩
def ApEnd (K : Nat → Prop) (jb lb db : Nat) (file : Bt) (g : Jn) (d : Dk) (b : Bt) (w : World) (e : Ending) (w' : World) : Prop := e = .returned (.int .i64 (apX g d file b).2.1) ∧ Hid (JnAt K jb lb db file (apJ g d file b) (apX g d file b).1 w' ∧ JKt K lb w w')
theorem secB_length (p : Prt) (h : p.b.length ≤ 43) : (secB p).length = 64 := by
  unfold secB
  simp only [List.length_append, List.length_replicate, List.length_nil, ints_length, byts, List.length_map, List.length_cons]
  omega
set_option maxHeartbeats 4000000 in
set_option maxRecDepth 100000 in
theorem append_core16 {K : Nat → Prop} {jb lb db : Nat} {file : Bt} {g : Jn} {d : Dk} {w : World} (h : JnAt K jb lb db file g d w) (hok : g.ok file) (av : Option Addr) (len cap : Nat) (b : Bt) (hlen : b.length ≤ 176128) (hSp0 : Calls Tryz.prog 33 #[.int .i64 g.ep, .int .i64 (g.cnt + 1), .slice av len cap] w.drew (SplitEnd g.ep (g.cnt + 1) b w.drew)) :
    Calls Tryz.prog 14 #[.pointer (some ⟨jb, 0, none⟩), .slice av len cap] w (ApEnd K jb lb db file g d b w) := by
  obtain ⟨⟨j0, jl⟩, ⟨x0, x1, x2, x3, x4, x5⟩, fz, xl⟩ := h.rd
  have HM := hidb (jmade_any16 jb lb w j0)
  obtain ⟨⟨k1, k2⟩, ⟨k3, k4⟩, ⟨k5, k6⟩, k7⟩ := hok
  have hwc : IntKind.i64.wrap (g.cnt + 1) = g.cnt + 1 := by rw [IntKind.wrap_i64]; omega
  have hwe : IntKind.i64.wrap (g.ep + 1) = g.ep + 1 := by rw [IntKind.wrap_i64]; omega
  have HSp := hidb hSp0
  clear hSp0
  have hcs : 1 ≤ cntS b ∧ cntS b ≤ 4096 := by unfold cntS; omega
  obtain ⟨L, hL⟩ : ∃ L, L = splitL g.ep (g.cnt + 1) b := ⟨_, rfl⟩
  have hLn : L.length = cntS b := by rw [hL]; exact splitL_length _ _ _
  have hX : apX g d file b = wrAll d file g.en L := by rw [hL]; rfl
  have HJ : Hid (apJ g d file b = if (wrAll d file g.en L).2.1 = 0 then ⟨g.cnt + 1, g.en + cntS b, g.ep, g.wt || decide (0 < (wrAll d file g.en L).2.2)⟩ else ⟨g.cnt, g.en, g.ep + 1, g.wt || decide (0 < (wrAll d file g.en L).2.2)⟩) := hidb (by unfold apJ; rw [hX])
  have hLb : ∀ x ∈ L, x.length ≤ 9223372036854775807 := fun x hx => by
    rw [hL] at hx
    obtain ⟨i, _, rfl⟩ := List.mem_map.1 hx
    rw [secB_length _ (by simp; omega)]
    omega
  -- the state behind Split: the row is kept, too
  have HW : Hid (∀ V a n c, n = L.length → Own V w.drew.heap.size 9 (.slice a n c) (svl L) → Below w.drew.heap.size w.drew V → Calls Tryz.prog 34 #[.pointer (some ⟨lb, 0, none⟩), .slice a n c] V (WrEnd (fun k => K k ∨ (w.heap.size ≤ k ∧ k < V.heap.size)) lb db file g.cnt g.en g.ep g.wt d L V)) := hidb fun V a n c hn hO hV => by
    have hb1 : Below w.heap.size w V := ((Below.refl w.heap.size w).drew).trans hV
    refine write_any16 _ lb db file g.cnt g.en g.ep g.wt d L V (h.dk.turn16 hb1.size (fun k hk _ => hb1.block k hk) fun k hk => hk) ((hb1.block _ xl).trans h.lg) (.inl h.kl) k7 ⟨k3, k4⟩ (by omega) hLb a n c hn hO fun q hq => ?_
    have h1 := hO.lt q hq
    exact ⟨.inr h1, by have : w.heap.size ≤ q := h1.1; omega⟩
  have HSp2 : Hid (Calls Tryz.prog 33 #[.int .i64 g.ep, .int .i64 (g.cnt + 1), .slice av len cap] w.drew fun x w' => ∃ a m c, x = .returned (.tuple #[.slice a m c, .int .i64 0]) ∧ Hid (m = L.length ∧ Own w' w.drew.heap.size 9 (.slice a m c) (svl L) ∧ Below w.drew.heap.size w.drew w')) := hidb (HSp.out.mono fun e w' h => by rw [hL]; exact h)
  clear HSp
  have HLg : Hid (∀ V, Below w.drew.heap.size w.drew V → V.heap[lb]? = some (.cells #[.pointer (some ⟨db, 0, none⟩), sv file, .int .i64 g.cnt, .int .i64 g.en, .int .i64 g.ep, .bool g.wt] 89 (0, 0)) ∧ V.heap[jb]? = some (.cells #[.pointer (some ⟨lb, 0, none⟩)] 46 (0, 0))) := hidb fun V hV => ⟨(hV.block _ xl).trans h.lg, (hV.block _ jl).trans h.jn⟩
  have HK := hidb (And.intro h.kj (And.intro h.kl h.jl))
  have HX := hidb hX
  have HLn := hidb hLn
  have hlN : L.length ≤ 4096 := by omega
  have hlen0 : L.length = L.length := rfl
  clear h hL hX hLn hLb
  have hz0 : Below w.drew.heap.size w.drew w.drew := Below.refl _ _
  have HS : Hid (∀ V, Below w.drew.heap.size w.drew V → V.cell? ⟨jb, 0, none⟩ = some (.pointer (some ⟨lb, 0, none⟩)) ∧ jb < V.heap.size ∧ V.cell? ⟨lb, 2, none⟩ = some (.int .i64 g.cnt) ∧ V.cell? ⟨lb, 4, none⟩ = some (.int .i64 g.ep) ∧ lb < V.heap.size) := hidb fun V hV => by
    obtain ⟨h1, h2⟩ := HLg.out V hV
    exact ⟨Lib.cell_of_heap h2 0, lt_of_block h2, Lib.cell_of_heap h1 2, Lib.cell_of_heap h1 4, lt_of_block h1⟩
  go_enter Tryz.func14, Tryz.ntmps14
  go_upto_region 3 with (first
    | (go_at_call 32; refine HM.out.mono ?_; clear HM; rintro e w1 ⟨rfl, e1⟩; obtain rfl := e1.symm)
    | fail)
  go_region_held3 (fun W => W.cell? ⟨jb, 0, none⟩ = some (.pointer (some ⟨lb, 0, none⟩)) ∧ jb < W.heap.size ∧ W.cell? ⟨lb, 2, none⟩ = some (.int .i64 g.cnt) ∧ W.cell? ⟨lb, 4, none⟩ = some (.int .i64 g.ep) ∧ lb < W.heap.size) (first | exact HS.out _ hz | exact HS.out _ hz0 | go_keep) (first
    | (go_at_call 33; refine HSp2.out.mono ?_; clear HSp2; rintro e V ⟨a, m, c, rfl, hR⟩; have hz := hR.out.2.2)
    | fail)
  have HWr := hidb (HW.out V a m c hR.out.1 hR.out.2.1 hR.out.2.2)
  have hmL : m = L.length := hR.out.1
  obtain ⟨x, hx⟩ : ∃ x, x = wrAll d file g.en L := ⟨_, rfl⟩
  obtain ⟨hg0, hj0⟩ := HLg.out V hz
  have hbV : Below w.heap.size w V := ((Below.refl w.heap.size w).drew).trans hz
  -- the state behind write
  have HSt : Hid (∀ e w', WrEnd (fun k => K k ∨ (w.heap.size ≤ k ∧ k < V.heap.size)) lb db file g.cnt g.en g.ep g.wt d L V e w' → e = .returned (.int .i64 x.2.1) ∧ DkAt K db x.1 w' ∧ LgAt lb db file g.cnt g.en g.ep (g.wt || decide (0 < x.2.2)) w' ∧ w'.heap[jb]? = some (.cells #[.pointer (some ⟨lb, 0, none⟩)] 46 (0, 0)) ∧ JKt K lb w w') := hidb fun e w' h => by
    obtain ⟨h1, h2⟩ := h
    rw [← hx] at h1 h2
    obtain ⟨h3, h4, h5⟩ := h2.out
    refine ⟨h1, h3.less fun k hk => .inl hk, h4, ?_, ?_⟩
    · exact (h5.block jb (lt_of_block hj0) fun e => e.elim (fun e => e (.inl HK.out.1)) HK.out.2.2).trans hj0
    · refine ⟨h5.os.trans hbV.os, h5.tape.trans hbV.tape, h5.output.trans hbV.output, Nat.le_trans hbV.size h5.size, fun k hk hn => (h5.block k (Nat.lt_of_lt_of_le hk hbV.size) fun e => ?_).trans (hbV.block k hk)⟩
      rcases e with e | e
      · exact e (.inl (Classical.byContradiction fun hc => hn (.inl hc)))
      · exact hn (.inr e)
  obtain ⟨z0, z1, z2, z3, z4⟩ := HS.out V hz
  clear hR HW HLg HS hz hz0 hg0 hj0 hbV j0 jl x0 x1 x2 x3 x4 x5 xl fz
  by_cases hc0 : x.2.1 = 0
  · have hne : (x.2.1 != 0) = false := by simp [hc0]
    have hJ : apJ g d file b = ⟨g.cnt + 1, g.en + cntS b, g.ep, g.wt || decide (0 < x.2.2)⟩ := by rw [HJ.out, ← hx, if_pos hc0]
    have hme : IntKind.i64.wrap (g.en + (m : Int)) = g.en + (m : Int) := by rw [IntKind.wrap_i64]; omega
    have HE : Hid (∀ W, DkAt K db x.1 W → LgAt lb db file g.cnt g.en g.ep (g.wt || decide (0 < x.2.2)) W → W.heap[jb]? = some (.cells #[.pointer (some ⟨lb, 0, none⟩)] 46 (0, 0)) → JKt K lb w W →
        (W.cell? ⟨jb, 0, none⟩ = some (.pointer (some ⟨lb, 0, none⟩)) ∧ jb < W.heap.size ∧ W.cell? ⟨lb, 2, none⟩ = some (.int .i64 g.cnt) ∧ (∀ k, W.frozen? ⟨lb, k, none⟩ = false) ∧ lb < W.heap.size) ∧
        ((W.setCell ⟨lb, 2, none⟩ (.int .i64 (g.cnt + 1))).cell? ⟨jb, 0, none⟩ = some (.pointer (some ⟨lb, 0, none⟩)) ∧ jb < (W.setCell ⟨lb, 2, none⟩ (.int .i64 (g.cnt + 1))).heap.size ∧ (W.setCell ⟨lb, 2, none⟩ (.int .i64 (g.cnt + 1))).cell? ⟨lb, 3, none⟩ = some (.int .i64 g.en) ∧ (∀ k, (W.setCell ⟨lb, 2, none⟩ (.int .i64 (g.cnt + 1))).frozen? ⟨lb, k, none⟩ = false) ∧ lb < (W.setCell ⟨lb, 2, none⟩ (.int .i64 (g.cnt + 1))).heap.size) ∧
        ApEnd K jb lb db file g d b w (.returned (.int .i64 0)) ((W.setCell ⟨lb, 2, none⟩ (.int .i64 (g.cnt + 1))).setCell ⟨lb, 3, none⟩ (.int .i64 (g.en + (m : Int))))) := hidb fun W g1 g2 g3 g4 => by
      have q1 : (W.setCell ⟨lb, 2, none⟩ (.int .i64 (g.cnt + 1))).heap[lb]? = some (.cells #[.pointer (some ⟨db, 0, none⟩), sv file, .int .i64 (g.cnt + 1), .int .i64 g.en, .int .i64 g.ep, .bool (g.wt || decide (0 < x.2.2))] 89 (0, 0)) := (heap_setCell_same _ _ _ _ _ _ g2).trans rfl
      have q2 : (W.setCell ⟨lb, 2, none⟩ (.int .i64 (g.cnt + 1))).heap[jb]? = some (.cells #[.pointer (some ⟨lb, 0, none⟩)] 46 (0, 0)) := (Below.heap_setCell _ _ _ _ HK.out.2.2).trans g3
      have q3 : ((W.setCell ⟨lb, 2, none⟩ (.int .i64 (g.cnt + 1))).setCell ⟨lb, 3, none⟩ (.int .i64 (g.en + (m : Int)))).heap[lb]? = some (.cells #[.pointer (some ⟨db, 0, none⟩), sv file, .int .i64 (g.cnt + 1), .int .i64 (g.en + (m : Int)), .int .i64 g.ep, .bool (g.wt || decide (0 < x.2.2))] 89 (0, 0)) := (heap_setCell_same _ _ _ _ _ _ q1).trans rfl
      refine ⟨⟨Lib.cell_of_heap g3 0, lt_of_block g3, Lib.cell_of_heap g2 2, fun k => Lib.frozen_of_heap g2 k, lt_of_block g2⟩, ⟨Lib.cell_of_heap q2 0, lt_of_block q2, Lib.cell_of_heap q1 3, fun k => Lib.frozen_of_heap q1 k, lt_of_block q1⟩, by rw [HX.out, ← hx, hc0], hidb ⟨?_, (g4.set fun _ => .inr rfl).set fun _ => .inr rfl⟩⟩
      rw [hJ, HX.out, ← hx]
      refine ⟨(g1.set16 HK.out.2.1 _).set16 HK.out.2.1 _, ?_, (Below.heap_setCell _ _ _ _ HK.out.2.2).trans q2, HK.out.1, HK.out.2.1, HK.out.2.2⟩
      rw [hmL, HLn.out] at q3 ⊢
      exact q3
    clear hJ hx hmL hlN hlen0
    go_upto_region 10 with (first
      | (go_at_call 34; refine HWr.out.mono ?_; clear HWr; rintro e W2 hw; obtain ⟨rfl, g1, g2, g3, g4⟩ := HSt.out e W2 hw; obtain ⟨⟨y0, y1, y2, y3, y4⟩, ⟨u0, u1, u2, u3, u4⟩, hE⟩ := HE.out W2 g1 g2 g3 g4; have HE2 := hidb hE; clear hE HSt HE hw g1 g2 g3 g4)
      | fail)
    go_upto_region 11 with fail
    go_wp2_with fail
    go_ret
    exact HE2.out
  · have hne : (x.2.1 != 0) = true := by simpa using hc0
    have hJ : apJ g d file b = ⟨g.cnt, g.en, g.ep + 1, g.wt || decide (0 < x.2.2)⟩ := by rw [HJ.out, ← hx, if_neg hc0]
    have HE : Hid (∀ W, DkAt K db x.1 W → LgAt lb db file g.cnt g.en g.ep (g.wt || decide (0 < x.2.2)) W → W.heap[jb]? = some (.cells #[.pointer (some ⟨lb, 0, none⟩)] 46 (0, 0)) → JKt K lb w W →
        (W.cell? ⟨jb, 0, none⟩ = some (.pointer (some ⟨lb, 0, none⟩)) ∧ jb < W.heap.size ∧ W.cell? ⟨lb, 4, none⟩ = some (.int .i64 g.ep) ∧ (∀ k, W.frozen? ⟨lb, k, none⟩ = false) ∧ lb < W.heap.size) ∧
        ApEnd K jb lb db file g d b w (.returned (.int .i64 x.2.1)) (W.setCell ⟨lb, 4, none⟩ (.int .i64 (g.ep + 1)))) := hidb fun W g1 g2 g3 g4 => by
      have q1 : (W.setCell ⟨lb, 4, none⟩ (.int .i64 (g.ep + 1))).heap[lb]? = some (.cells #[.pointer (some ⟨db, 0, none⟩), sv file, .int .i64 g.cnt, .int .i64 g.en, .int .i64 (g.ep + 1), .bool (g.wt || decide (0 < x.2.2))] 89 (0, 0)) := (heap_setCell_same _ _ _ _ _ _ g2).trans rfl
      refine ⟨⟨Lib.cell_of_heap g3 0, lt_of_block g3, Lib.cell_of_heap g2 4, fun k => Lib.frozen_of_heap g2 k, lt_of_block g2⟩, by rw [HX.out, ← hx], hidb ⟨?_, g4.set fun _ => .inr rfl⟩⟩
      rw [hJ, HX.out, ← hx]
      exact ⟨g1.set16 HK.out.2.1 _, q1, (Below.heap_setCell _ _ _ _ HK.out.2.2).trans g3, HK.out.1, HK.out.2.1, HK.out.2.2⟩
    clear hJ hx hmL hlN hlen0
    go_upto_region 8 with (first
      | (go_at_call 34; refine HWr.out.mono ?_; clear HWr; rintro e W2 hw; obtain ⟨rfl, g1, g2, g3, g4⟩ := HSt.out e W2 hw; obtain ⟨⟨y0, y1, y2, y3, y4⟩, hE⟩ := HE.out W2 g1 g2 g3 g4; have HE2 := hidb hE; clear hE HSt HE hw g1 g2 g3 g4)
      | fail)
    go_wp2_with fail
    go_ret
    exact HE2.out
theorem append_any16 {K : Nat → Prop} {jb lb db : Nat} {file : Bt} {g : Jn} {d : Dk} {w : World} (h : JnAt K jb lb db file g d w) (hok : g.ok file) (bB bo len cap : Nat) (b : Bt) (hl : b.length = len) (hlen : len ≤ 176128) (hcap : len ≤ cap) (hb : Bs w (some ⟨bB, bo, none⟩) b) :
    Calls Tryz.prog 14 #[.pointer (some ⟨jb, 0, none⟩), .slice (some ⟨bB, bo, none⟩) len cap] w (ApEnd K jb lb db file g d b w) := by
  obtain ⟨⟨k1, k2⟩, ⟨k3, k4⟩, ⟨k5, k6⟩, k7⟩ := id hok
  exact append_core16 h hok _ len cap b (by omega) (split_any16 g.ep (g.cnt + 1) (by unfold stmpB; simp; omega) (by unfold stmpB; simp; omega) bB bo len cap b hl hlen hcap w.drew (hb.keep fun _ _ h => h))
end Go.Proofs.YthmjejmignangaaGreatDoor
