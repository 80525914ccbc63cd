/- Layer 16: a disk's files; whether a log was touched; Sync. A block that holds bytes, whichever. -/
import Derived.Test.YthmjejmignangaaGreatDoorJY
import Derived.BigQuiet
import Derived.Test.YthmjejmignangaaGreatDoorWF
namespace Go.Proofs.YthmjejmignangaaGreatDoor
open Go.RowKit
theorem elemS16 : ElemN Tryz.prog 54 9 1 16 := by
  obtain ⟨i0, hi, hz0, hz1, hz2⟩ := info_parts (show (Tryz.prog.info? 9).map (fun i => (i.zero, i.size, i.bytes)) = some (some (.string ⟨#[]⟩), 1, 16) by kernel_rfl)
  exact ⟨Tryz.underlying54, ⟨i0, _, hi, hz0, hz1, hz2, rfl⟩, by decide⟩
def namesD (d : Dk) : List Bt := d.fs.map Fl.name
set_option maxRecDepth 100000 in
set_option maxHeartbeats 2000000 in
theorem files16_any {K : Nat → Prop} {db : Nat} {d : Dk} {w : World} (h : DkAt K db d w) : Calls Tryz.prog 65 #[.pointer (some ⟨db, 0, none⟩)] w fun e w' => ∃ a n c, e = .returned (.slice a n c) ∧ n ≤ c ∧ c ≤ 9223372036854775807 ∧ Hid (n = (namesD d).length ∧ w'.ownsRow w.heap.size 9 1 (.slice a n c) n (svl (namesD d)) ∧ Below w.heap.size w w') := by
  obtain ⟨vb, fsv, zs, h1, h2, h3, h4⟩ := h
  have cd := h1.cd
  have c1 := h1.c1
  have hnf := h1.nf
  have HM := hidb (made15_any db vb w cd)
  obtain ⟨a, c, rfl, hc1, hc2⟩ := h1.form
  have HN : Hid (namesD d = zs.map fun z => z.2.name) := hidb (by unfold namesD; rw [← h2, List.map_map]; rfl)
  have HA : Hid (∀ W i, Below w.heap.size w W → i < zs.length → ∃ q fb x, a = some ⟨q, 0, none⟩ ∧ W.cell? ⟨q, i, none⟩ = some (.pointer (some ⟨fb, 0, none⟩)) ∧ W.cell? ⟨fb, 0, none⟩ = some (sv x) ∧ (zs.map fun z => z.2.name)[i]? = some x) := hidb fun W i hb hi => by
    obtain ⟨q, c', e', h3', _, h4', hq⟩ := h1.at_ i hi
    injection e' with e' _ _
    exact ⟨q, _, _, e', below_keep hb _ _ h3', below_keep hb _ _ h4'.c0, by rw [List.getElem?_map, List.getElem?_eq_getElem hi]; rfl⟩
  have hlen : (zs.map fun z => z.2.name).length = zs.length := by simp
  clear h1 h2 h3 h4
  generalize (zs.map fun z => z.2.name) = L at *
  generalize hzn : zs.length = n at *
  clear hzn
  go_enter Tryz.func65, Tryz.ntmps65
  go_wp2_with (go_at_call 43; refine HM.out.mono ?_; clear HM; rintro e w1 ⟨rfl, e1⟩; obtain rfl := e1.symm)
  have Hlen := hidb hlen
  clear hlen
  go_loopw [3, 17] (fun wv iv wr => ∃ i : Nat, iv = .int .i64 i ∧ i ≤ n ∧ ∃ wa wc, wv = .slice wa i wc ∧ i ≤ wc ∧ wc ≤ 9223372036854775807 ∧ Hid (wr.ownsRow w.heap.size 9 1 wv i (svl (L.take i)) ∧ Below w.heap.size w wr)) (fun _ iv _ => n - (intOf iv).toNat)
  case atStart => exact ⟨0, rfl, by omega, _, _, rfl, by omega, by omega, hidb ⟨World.ownsRow_nil _ _ _ _, Below.refl _ _⟩⟩
  case round =>
    obtain ⟨i, rfl, hi, wa, wc, rfl, hw1, hw2, HI⟩ := hrel
    by_cases hlt : i < n
    · obtain ⟨q, fb, x, rfl, x0, x1, hx⟩ := HA.out wr i HI.out.2 hlt
      have hbl := (Below.refl _ wr).alloc (Nat.le_refl _) (.cells #[sv x] 9)
      have HR : Hid ((wr.alloc (.cells #[sv x] 9)).ownsRow w.heap.size 9 1 (.slice wa i wc) i (svl (L.take i)) ∧ Lies (wr.alloc (.cells #[sv x] 9)) (.slice (some ⟨wr.heap.size, 0, none⟩) 1 1) 1 [sv x] ∧ w.heap.size ≤ (wr.alloc (.cells #[sv x] 9)).heap.size ∧ ∀ v' w5, w5.ownsRow w.heap.size 9 1 v' (i + 1) (svl (L.take i) ++ [sv x]) → Step (wr.alloc (.cells #[sv x] 9)) (.slice wa i wc) w5 v' → w5.ownsRow w.heap.size 9 1 v' (i + 1) (svl (L.take (i + 1))) ∧ Below w.heap.size w w5) := hidb (by
        refine ⟨row_below2 HI.out.1 hbl, .inr ⟨_, _, rfl, fun j u hu => ?_⟩, Nat.le_trans HI.out.2.size hbl.size, fun v' w5 h5 hs => ⟨?_, ?_⟩⟩
        · rw [Addr.add_lit, Lib.cell_of_heap (heap_alloc_new wr _)]
          cases j with
          | zero => simpa using hu
          | succ j => simp at hu
        · have e : L.take (i + 1) = L.take i ++ [x] := by rw [List.take_add_one, hx]; rfl
          rw [e, show svl (L.take i ++ [x]) = svl (L.take i) ++ [sv x] from List.map_append ..]
          exact h5
        · refine (HI.out.2.trans (hbl.mono HI.out.2.size)).trans ⟨hs.1.os, hs.1.tape, hs.1.output, hs.1.size, fun k hk => hs.1.block k (Nat.lt_of_lt_of_le hk (HI.out.2.trans (hbl.mono HI.out.2.size)).size) fun e => ?_⟩
          have := (HI.out.1.lt k e.symm).1
          omega)
      clear HI hbl
      obtain ⟨h31, h32, h33, h34⟩ := HR.out
      have H34 := hidb h34
      clear HR h34
      go_wp2_with (first
        | (at_builtin; refine wpList_appN _ rfl _ _ 54 rfl elemS16 w.heap.size _ i (svl (L.take i)) rfl h31 _ rfl 1 [sv x] h32 rfl (by simp [Value.oneCell']) (by unfold maxLen; omega) (by omega) h33 ?_; intro v' w5 hr5 hs5; have H5 := hidb (H34.out v' w5 hr5 hs5); obtain ⟨a5, c5, e5, hc5, hc6, _⟩ := row_form hr5; subst e5; unfold maxLen at hc6)
        | fail)
      exact ⟨⟨i + 1, by go_num, by omega, a5, c5, rfl, by omega, by omega, H5⟩, by simp [intOf]; omega⟩
    · have e : i = n := by omega
      subst e
      have HE : Hid ((wr.ownsRow w.heap.size 9 1 (.slice wa i wc) i (svl (namesD d)) ∧ Below w.heap.size w wr) ∧ i = (namesD d).length) := hidb (by
        rw [HN.out]
        have := HI.out
        rw [List.take_of_length_le (Nat.le_of_eq Hlen.out)] at this
        exact ⟨this, Hlen.out.symm⟩)
      clear HI HA HN
      go_wp2_with fail
      go_ret
      exact ⟨wa, _, wc, rfl, hw1, hw2, hidb ⟨HE.out.2, HE.out.1.1, HE.out.1.2⟩⟩

/-- Is the name among the disk's files? -/
def hasF (d : Dk) (file : Bt) : Bool := Lib.containsS ((namesD d).map fun n => ⟨n.toArray⟩) ⟨file.toArray⟩
def untB (g : Jn) (d : Dk) (file : Bt) : Bool := !g.wt && !hasF d file
set_option maxHeartbeats 4000000 in
set_option maxRecDepth 100000 in
theorem unt_any16 {K : Nat → Prop} {jb lb db : Nat} {file : Bt} {g : Jn} {d : Dk} {w : World} (h : JnAt K jb lb db file g d w) : Calls Tryz.prog 35 #[.pointer (some ⟨lb, 0, none⟩)] w fun e w' => e = .returned (.bool (untB g d file)) ∧ Below w.heap.size w w' := by
  obtain ⟨-, ⟨x0, x1, x2, x3, x4, x5⟩, fz, xl⟩ := h.rd
  have HF := hidb (files16_any (h.dk.below (w' := w.drew) ⟨rfl, rfl, rfl, Nat.le_refl _, fun _ _ => rfl⟩))
  have HLg := hidb h.lg
  have HC : Hid (∀ V a n c, Hid (n = (namesD d).length ∧ V.ownsRow w.drew.heap.size 9 1 (.slice a n c) n (svl (namesD d)) ∧ Below w.drew.heap.size w.drew V) → n ≤ 9223372036854775807 → Calls Tryz.prog 64 #[.slice a n c, sv file] V fun e w' => e = .returned (.bool (hasF d file)) ∧ w' = V) := hidb fun V a n c hh hn => by
    obtain ⟨h1, h2, -⟩ := hh.out
    obtain ⟨a', c', e, _, _, h3⟩ := row_form h2
    injection e with e1 _ _
    subst e1
    unfold hasF
    rcases h3 with ⟨_, h0, _⟩ | ⟨g', e, _, hg, hc⟩
    · subst h0
      have : namesD d = [] := List.eq_nil_of_length_eq_zero h1.symm
      rw [this]
      exact Tryz.slices_Contains_string_empty a c ⟨file.toArray⟩ V
    · subst e
      have := Tryz.slices_Contains_string g' 0 n c ((namesD d).map fun n => ⟨n.toArray⟩) ⟨file.toArray⟩ V (by simp; omega) hn (fun j hj => by
        simp only [List.length_map] at hj
        have := hc j (sv ((namesD d)[j])) (by rw [List.getElem?_map, List.getElem?_eq_getElem hj]; rfl)
        rw [Nat.zero_add, this]
        simp [List.getD_eq_getElem?_getD, List.getElem?_eq_getElem hj])
      rw [List.take_of_length_le (by simp; omega)] at this
      exact this
  have HS : Hid (∀ V, Below w.drew.heap.size w.drew V → V.cell? ⟨lb, 0, none⟩ = some (.pointer (some ⟨db, 0, none⟩)) ∧ V.cell? ⟨lb, 1, none⟩ = some (sv file) ∧ V.cell? ⟨lb, 5, none⟩ = some (.bool g.wt) ∧ lb < V.heap.size) := hidb fun V hV => by
    have h1 := (hV.block _ xl).trans HLg.out
    exact ⟨Lib.cell_of_heap h1 0, Lib.cell_of_heap h1 1, Lib.cell_of_heap h1 5, lt_of_block h1⟩
  have hz : Below w.drew.heap.size w.drew w.drew := Below.refl _ _
  have hb0 : Below w.heap.size w w.drew := (Below.refl _ w).drew
  have HU : Hid (untB g d file = (!g.wt && !hasF d file)) := hidb rfl
  clear h fz
  cases hwt : g.wt with
  | true =>
    rw [hwt] at HS HU x5
    go_enter Tryz.func35, Tryz.ntmps35
    go_upto_region 1 with fail
    go_region
    all_goals
      go_wp2_with fail
      go_ret
      rw [HU.out]
      exact ⟨rfl, hb0⟩
  | false =>
    rw [hwt] at HS HU x5
    go_enter Tryz.func35, Tryz.ntmps35
    go_upto_region 1 with fail
    go_region_held3 (fun W => W.cell? ⟨lb, 0, none⟩ = some (.pointer (some ⟨db, 0, none⟩)) ∧ W.cell? ⟨lb, 1, none⟩ = some (sv file) ∧ W.cell? ⟨lb, 5, none⟩ = some (.bool false) ∧ lb < W.heap.size) (first | exact HS.out _ hz2 | exact HS.out _ hz | go_keep) (first
      | (go_at_call 65; refine HF.out.mono ?_; clear HF; rintro e V ⟨a, n, c, rfl, hn1, hn2, hR⟩; have hz2 := hR.out.2.2)
      | (go_at_call 64; refine (HC.out _ _ _ _ hR (by omega)).mono ?_; clear HC; rintro e V2 ⟨rfl, e2⟩; obtain rfl := e2.symm)
      | fail)
    all_goals
      go_wp2_with fail
      go_ret
      rw [HU.out]
      exact ⟨rfl, hb0.trans hz2⟩
/-- What Sync comes to. -/
def syE (g : Jn) (d : Dk) (file : Bt) : Int := if untB g d file then 0 else syncE d file
def syD (g : Jn) (d : Dk) (file : Bt) : Dk := if untB g d file then d else syncD d file
set_option maxHeartbeats 4000000 in
set_option maxRecDepth 100000 in
theorem jsync_any16 {K : Nat → Prop} {jb lb db : Nat} {file : Bt} {g : Jn} {d : Dk} {w : World} (h : JnAt K jb lb db file g d w) : Calls Tryz.prog 15 #[.pointer (some ⟨jb, 0, none⟩)] w fun e w' => e = .returned (.int .i64 (syE g d file)) ∧ Hid (JnAt K jb lb db file g (syD g d file) w' ∧ JKt K lb w w') := by
  obtain ⟨⟨j0, jl⟩, ⟨x0, x1, x2, x3, x4, x5⟩, fz, xl⟩ := h.rd
  have HM := hidb (jmade_any16 jb lb w j0)
  have HU := hidb (unt_any16 h)
  have HH := hidb h
  have HE : Hid (syE g d file = (if untB g d file then 0 else syncE d file) ∧ syD g d file = (if untB g d file then d else syncD d file)) := hidb ⟨rfl, rfl⟩
  clear h fz x2 x3 x4 x5
  cases hu : untB g d file with
  | true =>
    rw [hu] at HU HE
    go_enter Tryz.func15, Tryz.ntmps15
    go_wp2_with (first
      | (go_at_call 32; refine HM.out.mono ?_; clear HM; rintro e w1 ⟨rfl, e1⟩; obtain rfl := e1.symm)
      | (go_at_call 35; refine HU.out.mono ?_; clear HU; rintro e w1 ⟨rfl, hb⟩)
      | fail)
    go_ret
    rw [HE.out.1, HE.out.2]
    exact ⟨rfl, hidb ⟨HH.out.below hb, Kt.below hb⟩⟩
  | false =>
    rw [hu] at HU HE
    have HSy : Hid (∀ V, Below w.heap.size w V → (V.drew.cell? ⟨jb, 0, none⟩ = some (.pointer (some ⟨lb, 0, none⟩)) ∧ jb < V.drew.heap.size ∧ V.drew.cell? ⟨lb, 0, none⟩ = some (.pointer (some ⟨db, 0, none⟩)) ∧ V.drew.cell? ⟨lb, 1, none⟩ = some (sv file) ∧ lb < V.drew.heap.size) ∧ Calls Tryz.prog 30 #[.pointer (some ⟨db, 0, none⟩), sv file] V.drew fun e w' => e = .returned (.int .i64 (syncE d file)) ∧ (w'.cell? ⟨jb, 0, none⟩ = some (.pointer (some ⟨lb, 0, none⟩)) ∧ jb < w'.heap.size ∧ w'.cell? ⟨lb, 0, none⟩ = some (.pointer (some ⟨db, 0, none⟩)) ∧ w'.cell? ⟨lb, 1, none⟩ = some (sv file) ∧ lb < w'.heap.size) ∧ Hid (JnAt K jb lb db file g (syncD d file) w' ∧ JKt K lb w w')) := hidb fun V hb => by
      have hb2 : Below w.heap.size w V.drew := hb.drew
      have h2 := HH.out.below hb2
      obtain ⟨⟨y0, yl⟩, ⟨z0, z1, _⟩, _, zl⟩ := h2.rd
      refine ⟨⟨y0, yl, z0, z1, zl⟩, (dsync_any h2.dk file).mono fun e w' ⟨e1, e2⟩ => ⟨e1, ?_⟩⟩
      obtain ⟨q1, q2⟩ := e2.out
      have q3 : JnAt K jb lb db file g (syncD d file) w' := ⟨q1, (q2.block _ zl fun e => e h2.kl).trans h2.lg, (q2.block _ yl fun e => e h2.kj).trans h2.jn, h2.kj, h2.kl, h2.jl⟩
      obtain ⟨⟨u0, ul⟩, ⟨v0, v1, _⟩, _, vl⟩ := q3.rd
      exact ⟨⟨u0, ul, v0, v1, vl⟩, hidb ⟨q3, (Kt.below hb2 : JKt K lb w V.drew).trans (show Kt (fun k => ¬ K k) V.drew w' from q2) fun k _ hk => .inl hk⟩⟩
    go_enter Tryz.func15, Tryz.ntmps15
    go_upto_region 5 with (first
      | (go_at_call 32; refine HM.out.mono ?_; clear HM; rintro e w1 ⟨rfl, e1⟩; obtain rfl := e1.symm)
      | (go_at_call 35; refine HU.out.mono ?_; clear HU; rintro e V ⟨rfl, hb⟩)
      | fail)
    obtain ⟨hS, hC⟩ := HSy.out V hb
    have HC := hidb hC
    clear hC HSy
    go_region_held3 (fun W => W.cell? ⟨jb, 0, none⟩ = some (.pointer (some ⟨lb, 0, none⟩)) ∧ jb < W.heap.size ∧ W.cell? ⟨lb, 0, none⟩ = some (.pointer (some ⟨db, 0, none⟩)) ∧ W.cell? ⟨lb, 1, none⟩ = some (sv file) ∧ lb < W.heap.size) (first | exact hS2 | exact hS | go_keep) (first
      | (go_at_call 30; refine HC.out.mono ?_; clear HC; rintro e V2 ⟨rfl, hS2, hE⟩)
      | fail)
    all_goals
      go_wp2_with fail
      go_ret
      rw [HE.out.1, HE.out.2]
      exact ⟨rfl, hE⟩
end Go.Proofs.YthmjejmignangaaGreatDoor
namespace Go.Proofs.YthmjejmignangaaGreatDoor
open Go.RowKit

theorem Chg.drewN (w : World) (n : Nat) (S : Nat → Prop) : Chg w (w.drewN n) S := ⟨rfl, rfl, rfl, Nat.le_refl _, fun _ _ _ => rfl⟩
/-- Block g begins with len bytes, whichever. -/
def Bytes8 (w : World) (g len : Nat) : Prop := ∃ cur : Array Value, w.heap[g]? = some (.cells cur 5 (0, 0)) ∧ ∀ j, j < len → ∃ y : Nat, y < 256 ∧ cur[j]? = some (.int .u8 (y : Int))
theorem Bytes8.cell {w : World} {g len : Nat} (H : Bytes8 w g len) (j : Nat) (hj : j < len) : ∃ y : Nat, y < 256 ∧ w.cell? ⟨g, j, none⟩ = some (.int .u8 (y : Int)) ∧ w.frozen? ⟨g, j, none⟩ = false := by
  obtain ⟨cur, hc, h⟩ := H
  obtain ⟨y, hy, e⟩ := h j hj
  exact ⟨y, hy, by simp [World.cell?, hc, e], by simp [World.frozen?, hc]⟩
theorem Bytes8.set {w : World} {g len : Nat} (H : Bytes8 w g len) (k y : Nat) (v : Int) (hv : v = (y : Int)) (hy : y < 256) : Bytes8 (w.setCell ⟨g, k, none⟩ (.int .u8 v)) g len := by
  subst hv
  obtain ⟨cur, hc, h⟩ := H
  have hlt := lt_of_block hc
  have h' : w.heap[g] = .cells cur 5 (0, 0) := by simpa [Array.getElem?_eq_getElem hlt] using hc
  refine ⟨cur.setIfInBounds k (.int .u8 (y : Int)), ?_, fun j hj => ?_⟩
  · show (w.heap.modify g _)[g]? = _
    rw [Array.getElem?_eq_getElem (by simpa using hlt), Array.getElem_modify_self, h']
    rfl
  · obtain ⟨z, hz, e⟩ := h j hj
    by_cases hjk : k = j
    · subst hjk
      have : k < cur.size := by
        by_cases hs : k < cur.size
        · exact hs
        · rw [Array.getElem?_eq_none (by omega)] at e; cases e
      exact ⟨y, hy, by rw [Array.getElem?_setIfInBounds_self_of_lt this]⟩
    · exact ⟨z, hz, by rw [Array.getElem?_setIfInBounds_ne hjk]; exact e⟩
theorem Bytes8.chg {w w' : World} {g len : Nat} {S : Nat → Prop} (H : Bytes8 w g len) (c : Chg w w' S) (h : ¬ S g) : Bytes8 w' g len := by
  obtain ⟨cur, hc, hh⟩ := H
  exact ⟨cur, by rw [c.block g (lt_of_block hc) h]; exact hc, hh⟩
theorem Bytes8.of_own {w : World} {base g len c : Nat} {bs : List UInt8} (hl : bs.length = len) (hO : OwnB w base (.slice (some ⟨g, 0, none⟩) (len + 2) c) (bs ++ [77, 78])) : Bytes8 w g len := by
  rcases hO.2 with ⟨h, _⟩ | ⟨g', cap', cur, h, _, hg, _, _, _, ht⟩
  · cases h
  · injection h with h1 h2 h3
    injection h1 with h1
    injection h1 with h1
    subst h1
    refine ⟨cur, hg, fun j hj => ?_⟩
    have hj' : j < (bs ++ [77, 78]).length := by simp; omega
    refine ⟨((bs ++ [77, 78])[j]'hj').toNat, ((bs ++ [77, 78])[j]'hj').toNat_lt, ?_⟩
    have : (cur.toList.take (len + 2))[j]? = some (bv ((bs ++ [77, 78])[j]'hj')) := by
      have h2 : ((bs ++ [77, 78]).map bv)[j]? = some (bv ((bs ++ [77, 78])[j]'hj')) := by rw [List.getElem?_map, List.getElem?_eq_getElem hj']; rfl
      rw [← h2, ← ht]
      congr 1
      simp [hl]
    rw [List.getElem?_take_of_lt (by omega)] at this
    simpa using this
theorem Bytes8.of_bytes {w : World} {base g n c : Nat} {bs : List UInt8} (hl : bs.length = n) (hO : OwnB w base (.slice (some ⟨g, 0, none⟩) n c) bs) : Bytes8 w g n := by
  rcases hO.2 with ⟨h, _⟩ | ⟨g', cap', cur, h, _, hg, _, _, _, ht⟩
  · cases h
  · injection h with h1 h2 h3
    injection h1 with h1
    injection h1 with h1
    subst h1
    refine ⟨cur, hg, fun j hj => ?_⟩
    have hj' : j < bs.length := by omega
    refine ⟨bs[j].toNat, bs[j].toNat_lt, ?_⟩
    have h2 : (bs.map bv)[j]? = some (bv bs[j]) := by rw [List.getElem?_map, List.getElem?_eq_getElem hj']; rfl
    rw [← ht, List.getElem?_take_of_lt (by simp only [List.length_map]; omega)] at h2
    simpa using h2
end Go.Proofs.YthmjejmignangaaGreatDoor
