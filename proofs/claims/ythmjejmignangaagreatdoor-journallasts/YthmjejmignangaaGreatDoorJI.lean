/- Layer 16: what the range over the parts hands on. Layer 16, plain: what sectors tell, part by part; the bounds that go with it. Plain facts: append onto a slice that begins within an owned row. Layer 16: an append inside a fence, out of a run. -/
import Derived.RangeFuncNested
import Derived.RangeFuncBound
import Derived.RangeFuncCalls
import Derived.RangeFuncLeaves
import Derived.RangeFuncBox
import Derived.OwnWalkIn
import Derived.TacticsInMore
import Derived.LoopNIn
import Derived.LoopIn
import Derived.BigRegionIn
import Derived.Test.YthmjejmignangaaGreatDoorMW
import Derived.Test.YthmjejmignangaaGreatDoorJH
import Derived.Test.YthmjejmignangaaGreatDoorWA
import Derived.Maps.OwnIn
namespace Go.Proofs.YthmjejmignangaaGreatDoor
open Go.RowKit Go.Shelf
attribute [local go_sem] Oper.semAt_some
/-- Sectors lie there. -/
def SecJ (W : World) (a : Option Addr) (S : List Sec) : Prop := ∀ k y, S[k]? = some y → ∃ q, a = some ⟨q, 0, none⟩ ∧ q < W.heap.size ∧ W.cell? ⟨q, k * 2, none⟩ = some (sv y.b) ∧ W.cell? ⟨q, k * 2 + 1, none⟩ = some (.bool y.bad)
/-- These blocks lie as they lay. -/
def KpJ (S : Nat → Prop) (W W' : World) : Prop := ∀ k, S k → W'.heap[k]? = W.heap[k]?
theorem KpJ.trans {S : Nat → Prop} {X Y Z : World} (h : KpJ S X Y) (k : KpJ S Y Z) : KpJ S X Z := fun j hj => (k j hj).trans (h j hj)
theorem KpJ.refl (S : Nat → Prop) (W : World) : KpJ S W W := fun _ _ => rfl
theorem KpJ.below {S : Nat → Prop} {X Y Z : World} (h : KpJ S X Y) (hS : ∀ k, S k → k < X.heap.size) (b : Below Y.heap.size Y Z) : KpJ S X Z := fun j hj => by
  have h1 := h j hj
  rw [Array.getElem?_eq_getElem (hS j hj)] at h1
  exact (b.block j (Array.getElem?_eq_some_iff.1 h1).1).trans (h j hj)
theorem parts_call (a : Option Addr) (m c : Nat) (w : World) : Calls Tryz.prog 24 #[.slice a m c] w fun e w' => e = .returned (.func (.func 48) #[] #[.pointer (some ⟨w.heap.size, 0, none⟩)]) ∧ w' = w.alloc (.cells #[.slice a m c] 26) := by
  go_enter Tryz.func24, Tryz.ntmps24
  go_wp2_with fail
  go_ret
  exact ⟨rfl, rfl⟩
set_option maxRecDepth 100000 in
set_option maxHeartbeats 2000000 in
theorem parts_feeds (n : Nat) (hn1 : 1 ≤ n) (bS : Nat) (a : Option Addr) (c m : Nat) (L : List Sec) (hm : L.length = m) (hL : ∀ s ∈ L, s.b.length ≤ 9223372036854775807) (hmm : m ≤ 4611686018427387904) (S : Nat → Prop) (W : World) (hSl : ∀ k, S k → k < W.heap.size) (cS : W.cell? ⟨bS, 0, none⟩ = some (.slice a m c)) (hR : ∀ W', KpJ S W W' → SecJ W' a L) :
    Feeds3 Fence.wide n Tryz.prog 48 #[.pointer (some ⟨bS, 0, none⟩)] (fun x : Prt × Bool => #[x.1.v, .bool x.2]) (KpJ S) (L.map partS) W := by
  intro l J Jx hJ _ hY h0
  refine callsIn_of_wp Tryz.func48 rfl trivial ?_ rfl
  simp only [Tryz.ntmps48, List.size_toArray, List.length_cons, List.length_nil, Nat.reduceAdd, Nat.reduceSub, Array.replicate_succ, Array.replicate_zero, List.push_toArray, List.append_toArray, List.nil_append, List.cons_append]
  have HR := hidb hR
  have HS := hidb hSl
  have HJ := hidb hJ
  have HL := hidb hL
  have Hm := hidb hm
  clear hR hSl hJ hL hm
  gi_wp2
  clear cS
  gi_loopw [7] (fun iv wr => ∃ k : Nat, iv = .int .i64 k ∧ k ≤ m ∧ Hid (KpJ S W wr) ∧ J ((L.take k).map partS) wr) (fun iv _ => m - (intOf iv).toNat)
  case atStart => exact ⟨0, rfl, Nat.zero_le _, hidb (KpJ.refl _ _), h0⟩
  case round =>
    obtain ⟨k, rfl, hk, hK, hj⟩ := hrel
    by_cases hlt : k < m
    · obtain ⟨y, hy⟩ : ∃ y, L[k]? = some y := ⟨L[k]'(by have := Hm.out; omega), List.getElem?_eq_getElem _⟩
      obtain ⟨q, rfl, hq, c0, c1⟩ := HR.out wr hK.out k y hy
      have hyl := HL.out y (List.mem_of_getElem? hy)
      have HE : Hid ((L.take (k + 1)).map partS = (L.take k).map partS ++ [partS y]) := hidb (by rw [List.take_add_one, hy]; simp)
      have HX : Hid ((L.take k).map partS ++ [partS y] <+: L.map partS) := hidb (by rw [← HE.out, List.map_take]; exact List.take_prefix _ _)
      have HP := hidb (partOf_any y hyl (wr.alloc (.cells #[sv y.b, .bool y.bad] 76)))
      have hd1 : decide ((k : Int) < m) = true := by simp; omega
      have HB : Hid (Below wr.heap.size wr (wr.alloc (.cells #[sv y.b, .bool y.bad] 76))) := hidb ((Below.refl _ wr).alloc (Nat.le_refl _) _)
      obtain ⟨yb, yd⟩ := y
      simp only at HP HB c0 c1
      clear hy hyl
      gi_wp2_with (first
        | (refine ⟨trivial, ?_⟩; gi_at_call 49; refine (callsIn_wide.2 HP.out).mono ?_; clear HP; rintro e w5 ⟨rfl, hb5⟩; have HB5 := hidb (HB.out.trans (hb5.mono HB.out.size)); have hj5 := HJ.out _ _ _ hj HB5.out; obtain ⟨fn, tmps, assign, body, hy, hR2⟩ := hY _ (partS ⟨yb, yd⟩) w5 hj5 HX.out; generalize hpy : partS ⟨yb, yd⟩ = py at hy hR2 ⊢)
        | fail)
      refine hR2.mono ?_
      rintro e W3 (⟨rfl, hJ3, hK3⟩ | ⟨rfl, hx3⟩)
      · have K4 := hidb ((hK.out.below HS.out HB5.out).trans hK3)
        rw [← hpy, ← HE.out] at hJ3
        clear hK3 hR2 hy hj hK c0 c1 hj5 hb5 HX HE hpy
        gi_wp2
        exact ⟨⟨k + 1, by go_num, by omega, K4, hJ3⟩, by simp [intOf]; omega⟩
      · have HX2 := hidb HX.out
        rw [hpy] at HX2
        gi_wp2
        refine bodyPost_ret (results_none rfl _ _ _) rfl ?_
        exact ⟨⟨_, rfl⟩, .inr ⟨_, HX2.out, hx3⟩⟩
    · have hE : Hid (J (L.map partS) wr) := hidb (by rw [List.take_of_length_le (by have := Hm.out; omega)] at hj; exact hj)
      have hd1 : decide ((k : Int) < m) = false := by simp; omega
      gi_wp2
      go_end0
      exact ⟨⟨_, rfl⟩, .inl hE.out⟩
end Go.Proofs.YthmjejmignangaaGreatDoor
namespace Go.Proofs.YthmjejmignangaaGreatDoor
open Go.RowKit
/-- While parts are told: the part ahead, the record so far, the records, how many sectors they have. -/
structure TSt where
  ah : Prt
  rc : Bt
  rs : List Bt
  en : Int
def tStart : TSt := ⟨⟨0, 0, 1, 0, []⟩, [], [], 0⟩
def tOk (s : TSt) (x : Prt × Bool) : Bool := x.2 && x.1.fol s.ah
def recN (s : TSt) (p : Prt) : Bt := (if p.i = 0 then [] else s.rc) ++ p.b
def tNext (s : TSt) (p : Prt) : TSt := if p.last then ⟨p, recN s p, s.rs ++ [recN s p], s.en + p.c⟩ else ⟨p, recN s p, s.rs, s.en⟩
def tRun : TSt → List (Prt × Bool) → TSt
  | s, [] => s
  | s, x :: l => if tOk s x then tRun (tNext s x.1) l else s
/-- All of these are told. -/
def tAll : TSt → List (Prt × Bool) → Prop
  | _, [] => True
  | s, x :: l => tOk s x = true ∧ tAll (tNext s x.1) l
theorem tAll_snoc : ∀ (l : List (Prt × Bool)) (s : TSt) (x : Prt × Bool), tAll s l → tOk (tRun s l) x = true → tAll s (l ++ [x]) ∧ tRun s (l ++ [x]) = tNext (tRun s l) x.1
  | [], s, x, _, h => by
    refine ⟨⟨h, trivial⟩, ?_⟩
    simp only [List.nil_append, tRun] at h ⊢
    rw [if_pos h]
  | y :: l, s, x, h, h2 => by
    obtain ⟨h1, h3⟩ := h
    simp only [tRun, h1, if_true] at h2 ⊢
    obtain ⟨q1, q2⟩ := tAll_snoc l _ x h3 h2
    exact ⟨⟨h1, q1⟩, by simp only [List.cons_append, tRun, h1, if_true]; exact q2⟩
/-- Where one is not told all stops. -/
theorem tRun_stop : ∀ (l r : List (Prt × Bool)) (s : TSt) (x : Prt × Bool), tAll s l → tOk (tRun s l) x = false → tRun s (l ++ x :: r) = tRun s l
  | [], r, s, x, _, h => by
    simp only [List.nil_append, tRun] at h ⊢
    rw [if_neg (by rw [h]; simp)]
  | y :: l, r, s, x, h, h2 => by
    obtain ⟨h1, h3⟩ := h
    simp only [tRun, List.cons_append, h1, if_true] at h2 ⊢
    exact tRun_stop l r _ x h3 h2
/-- A part that is one. -/
def PFact (x : Prt × Bool) : Prop := x.1.sm ∧ (x.2 = true → x.1.may = true ∧ x.1.b.length ≤ 43)
theorem partS_fact (s : Sec) : PFact (partS s) := by
  have hno : noPrt.sm := ⟨by decide, by decide, by decide, by decide, by decide⟩
  unfold partS
  split
  · exact ⟨hno, fun e => by cases e⟩
  · rename_i h1
    split
    · exact ⟨hno, fun e => by cases e⟩
    · have h64 : s.b.length = 64 := by
        rcases Nat.lt_trichotomy s.b.length 64 with x | x | x
        · exact absurd (.inr (by omega)) h1
        · exact x
        · exact absurd (.inr (by omega)) h1
      refine ⟨prtS_sm _ h64, fun e => ⟨e, ?_⟩⟩
      show ((s.b.drop 21).take (szS s.b)).length ≤ 43
      simp
      omega
/-- The bounds. -/
structure TWf (s : TSt) (k : Nat) : Prop where
  sm : s.ah.sm
  n : s.ah.n ≤ 4611686018427387904
  i : s.ah.i ≤ 4095
  rl : (s.rc.length : Int) ≤ 43 * (s.ah.i + 1)
  rsl : s.rs.length ≤ k
  en : 0 ≤ s.en ∧ s.en ≤ 65535 * k
theorem TWf.start : TWf tStart 0 := ⟨⟨by decide, by decide, by decide, by decide, by decide⟩, by decide, by decide, by decide, Nat.le_refl _, by decide⟩
theorem may_facts {p : Prt} (h : p.may = true) : p.n ≤ 4611686018427387904 ∧ p.c ≤ 4096 ∧ p.i < p.c := by
  unfold Prt.may stmpB at h
  simp only [Bool.and_eq_true, Bool.not_eq_true', decide_eq_true_eq, decide_eq_false_iff_not] at h
  obtain ⟨_, ⟨_, h2⟩, h3, h4, _⟩ := h
  omega
theorem fol_facts {p a : Prt} (h : p.fol a = true) : p.i = 0 ∨ (a.last = false ∧ p.i = a.i + 1) := by
  unfold Prt.fol at h
  cases e : a.last with
  | true =>
    rw [e] at h
    simp only [if_true, Bool.and_eq_true, decide_eq_true_eq] at h
    exact .inl h.1
  | false =>
    rw [e] at h
    simp only [Bool.false_eq_true, if_false, Bool.and_eq_true, decide_eq_true_eq] at h
    exact .inr ⟨rfl, h.1⟩
theorem recN_len {s : TSt} {k : Nat} (h : TWf s k) {x : Prt × Bool} (hx : PFact x) (ho : tOk s x = true) : ((recN s x.1).length : Int) ≤ 43 * (x.1.i + 1) ∧ x.1.i ≤ 4095 ∧ 0 ≤ x.1.i ∧ x.1.c ≤ 4096 ∧ 1 ≤ x.1.c ∧ (x.1.i ≠ 0 → s.ah.last = false) := by
  unfold tOk at ho
  rw [Bool.and_eq_true] at ho
  obtain ⟨h1, h2⟩ := hx.2 ho.1
  obtain ⟨_, h3, h4⟩ := may_facts h1
  obtain ⟨_, _, h5, h6, _⟩ := hx.1
  have hb : (x.1.b.length : Int) ≤ 43 := by omega
  have := h.rl
  rcases fol_facts ho.2 with e | ⟨e1, e2⟩
  · refine ⟨?_, by omega, by omega, h3, by omega, fun q => absurd e q⟩
    unfold recN
    rw [if_pos e, e]
    simpa using hb
  · refine ⟨?_, by omega, by omega, h3, by omega, fun _ => e1⟩
    unfold recN
    rw [List.length_append]
    split
    · rw [List.length_nil]; omega
    · rw [e2]; omega
theorem TWf.next {s : TSt} {k : Nat} (h : TWf s k) {x : Prt × Bool} (hx : PFact x) (ho : tOk s x = true) : TWf (tNext s x.1) (k + 1) := by
  obtain ⟨r1, r2, r3, r4, r5, _⟩ := recN_len h hx ho
  have hn : x.1.n ≤ 4611686018427387904 := by
    unfold tOk at ho
    rw [Bool.and_eq_true] at ho
    exact (may_facts (hx.2 ho.1).1).1
  have h1 := h.rsl
  have h2 := h.en
  unfold tNext
  split
  · exact ⟨hx.1, hn, r2, r1, by simp; omega, by show 0 ≤ s.en + x.1.c ∧ s.en + x.1.c ≤ 65535 * ((k + 1 : Nat) : Int); omega⟩
  · exact ⟨hx.1, hn, r2, r1, by show s.rs.length ≤ _; omega, by show 0 ≤ s.en ∧ s.en ≤ 65535 * ((k + 1 : Nat) : Int); omega⟩
end Go.Proofs.YthmjejmignangaaGreatDoor
namespace Go.Proofs.YthmjejmignangaaGreatDoor
open Go.RowKit

/-- The slice v lies in a row of the call's own, from some place on: its cells are xs. -/
def OwnO (w : World) (base : Nat) (e : TypeId) (v : Value) (xs : List Value) : Prop :=
  ∃ g off cap cur, v = .slice (some ⟨g, off, none⟩) xs.length cap ∧ base ≤ g ∧ w.heap[g]? = some (.cells cur e (0, 0)) ∧ xs.length ≤ cap ∧ cap ≤ maxLen ∧ off + cap ≤ cur.size ∧ (cur.toList.drop off).take xs.length = xs
theorem OwnO.alloc {w : World} {base : Nat} {e : TypeId} {v : Value} {xs : List Value} (h : OwnO w base e v xs) (o : Obj) : OwnO (w.alloc o) base e v xs := by
  obtain ⟨g, off, cap, cur, hv, hb, hg, r⟩ := h
  exact ⟨g, off, cap, cur, hv, hb, by rw [Below.heap_alloc _ _ _ (lt_of_block hg)]; exact hg, r⟩
theorem OwnO.lt {w : World} {base : Nat} {e : TypeId} {v : Value} {xs : List Value} (h : OwnO w base e v xs) : ∀ k, v.ownBlock = some k → base ≤ k ∧ k < w.heap.size := by
  obtain ⟨g, off, cap, cur, rfl, hb, hg, _⟩ := h
  intro k hk
  cases hk
  exact ⟨hb, lt_of_block hg⟩
theorem OwnO.below {w w' : World} {base : Nat} {e : TypeId} {v : Value} {xs : List Value} (h : OwnO w base e v xs) (hb : Below w.heap.size w w') : OwnO w' base e v xs := by
  obtain ⟨g, off, cap, cur, hv, hb', hg, r⟩ := h
  exact ⟨g, off, cap, cur, hv, hb', by rw [hb.block g (lt_of_block hg)]; exact hg, r⟩
theorem OwnO.kept {w w' : World} {base : Nat} {e : TypeId} {v : Value} {xs : List Value} {row : Option Nat} (h : OwnO w base e v xs) (hg : w.grownBy w' row) (hne : v.ownBlock ≠ row) : OwnO w' base e v xs := by
  obtain ⟨g, off, cap, cur, rfl, hb', hg', r⟩ := h
  exact ⟨g, off, cap, cur, rfl, hb', by rw [hg.block g (lt_of_block hg') (fun e => hne e)]; exact hg', r⟩
theorem OwnO.bs {w : World} {base : Nat} {e : TypeId} {v : Value} {bs : List UInt8} (h : OwnO w base e v (bs.map bv)) : ∃ ao cap, v = .slice ao bs.length cap ∧ bs.length ≤ cap ∧ cap ≤ maxLen ∧ Bs w ao bs := by
  obtain ⟨g, off, cap, cur, hv, hb, hg, hle, hmx, hsz, htk⟩ := h
  rw [List.length_map] at hv hle htk
  refine ⟨_, cap, hv, hle, hmx, .inr ⟨g, off, rfl, fun j hj => ?_⟩⟩
  rw [cell_of_row w g (off + j) cur e (0, 0) hg]
  have : ((cur.toList.drop off).take bs.length)[j]? = some (bv bs[j]) := by rw [htk]; simp [List.getElem?_eq_getElem hj]
  rw [List.getElem?_take, if_pos hj, List.getElem?_drop] at this
  simpa using this
/-- A cut of an owned slice. -/
theorem OwnO.cut {w : World} {base : Nat} {e : TypeId} {ao : Option Addr} {n cap : Nat} {xs : List Value} (h : Own w base e (.slice ao n cap) xs) (k : Nat) (hk : k < xs.length) :
    n = xs.length ∧ ∃ g, ao = some ⟨g, 0, none⟩ ∧ k < cap ∧ OwnO w base e (.slice (some ⟨g, k, none⟩) (n - k) (cap - k)) (xs.drop k) := by
  rcases h.2 with ⟨h2, h0⟩ | ⟨g, cap', cur, hv, hb, hg, hle, hmx, hsz, htk⟩
  · omega
  · cases hv
    refine ⟨rfl, g, rfl, by omega, g, k, cap - k, cur, by rw [List.length_drop], hb, hg, by rw [List.length_drop]; omega, by omega, by omega, ?_⟩
    rw [List.length_drop, ← List.drop_take]
    simp only [Nat.mul_one] at htk
    rw [htk]
theorem OwnO.of_own {w : World} {base : Nat} {e : TypeId} {v : Value} {xs : List Value} (h : Own w base e v xs) (hv : v ≠ .slice none 0 0) : OwnO w base e v xs := by
  rcases h.2 with ⟨h2, _⟩ | ⟨g, cap', cur, rfl, hb, hg, hle, hmx, hsz, htk⟩
  · exact absurd h2 hv
  · exact ⟨g, 0, cap', cur, rfl, hb, hg, hle, hmx, by omega, by simpa using htk⟩

section
variable {P : Program} (w : World)
theorem run_appO {t tx ty e : TypeId} {bytes : Nat} (E : Elem P t e bytes) (base : Nat) (v : Value) (xs : List Value) (hown : OwnO w base e v xs) (x : Value) (news : List Value) (hs : Src P 1 tx x news.length news w)
    (h63 : xs.length + news.length ≤ maxLen) (hbytes : (xs.length + news.length) * bytes ≤ 140737488355328) (hbase : base ≤ w.heap.size) :
    ∃ v' w', (Builtin.append_ #[t, tx] ty #[v, x]).run P w = .ok v' w' ∧ OwnO w' base e v' (xs ++ news) ∧ Step w v w' v' := by
  obtain ⟨ht, i, z, hi, hz, hsize, rfl, hzs⟩ := E
  have hs' : Src P i.size tx x news.length news w := by rw [hsize]; exact hs
  have hsmall : xs.length + news.length ≤ 9223372036854775807 := by simp only [maxLen] at h63; omega
  obtain ⟨g, off, cap, cur, rfl, hbg, hg, hnc, hcm, hcs, htake⟩ := hown
  by_cases hroom : xs.length + news.length ≤ cap
  · have hst := run_storeCells_at P g (off + xs.length) e news 0 cur w hg (by omega) hs.one
    simp only [Nat.add_zero] at hst
    refine ⟨.slice (some ⟨g, off, none⟩) (xs.length + news.length) cap, w.setRow g (cur.toList.take (off + xs.length) ++ news ++ cur.toList.drop (off + xs.length + news.length)).toArray, ?_,
      ⟨g, off, cap, _, by rw [List.length_append], hbg, setRow_heap w g cur _ e _ hg, by rw [List.length_append]; exact hroom, hcm, ?_, ?_⟩,
      ⟨⟨rfl, rfl, rfl, by simp, fun k _ hk => setRow_other w g k _ (fun e => hk (by simp [Value.ownBlock, e]))⟩, .inl rfl⟩⟩
    · rcases hs'.kind with ⟨e', hk⟩ | hk <;> simp [Builtin.append_, run_underlying ht, run_underlying hk, sizeOf, typeInfo, hi, hsize, hs'.len, hroom, (hsize ▸ hs'.cells), Addr.add_lit, hst]
    · simp only [List.size_toArray, List.length_append, List.length_take, List.length_drop, Array.length_toList]
      omega
    · have hcl : cur.toList.length = cur.size := Array.length_toList
      have e1 : (cur.toList.take (off + xs.length)).drop off = xs := by
        rw [List.drop_take, Nat.add_sub_cancel_left]; exact htake
      rw [List.append_assoc, List.drop_append_of_le_length (by rw [List.length_take]; omega), e1, ← List.append_assoc]
      exact List.take_left
  · have holds : ∀ j u, xs[j]? = some u → w.drew.cell? ((⟨g, off, none⟩ : Addr).add j) = some u := by
      intro j u hu
      have hadd : (⟨g, off, none⟩ : Addr).add j = ⟨g, off + j, none⟩ := by unfold Addr.add; split <;> simp_all
      obtain ⟨hj, _⟩ := List.getElem?_eq_some_iff.1 hu
      have k : w.cell? ⟨g, off + j, none⟩ = some u := by
        rw [cell_of_row w g (off + j) cur e (0, 0) hg]
        rw [← htake, List.getElem?_take, if_pos hj, List.getElem?_drop] at hu
        simpa using hu
      rw [hadd]; simpa using k
    have hr := run_append_grow_src (P := P) w t tx ty e i z ht hi hz (some ⟨g, off, none⟩) xs.length cap xs (run_firstCells_some w.drew i.size xs.length ⟨g, off, none⟩ xs.length cap xs (by rw [hsize, Nat.mul_one]) holds) x news.length news hs' (by omega) (by omega) (growslice_fits (by omega) hbytes)
    have hge := grownCap_ge w (xs.length + news.length) cap e
    have hcm : grownCap w (xs.length + news.length) cap e ≤ maxLen := grownCap_le_maxLen w (xs.length + news.length) cap e h63
    refine ⟨_, _, hr, ⟨w.heap.size, 0, _, _, by rw [List.length_append], hbase, heap_alloc_new w.drew _, by rw [List.length_append]; exact hge, hcm, ?_, ?_⟩, ⟨⟨rfl, rfl, rfl, by simp, fun k hk _ => Below.heap_alloc w.drew _ k hk⟩, .inr ⟨w.heap.size, rfl, Nat.le_refl _⟩⟩⟩
    · simp only [Array.size_append, List.size_toArray, List.length_append, size_zeroCells, hzs]
      omega
    · simp only [Array.toList_append, List.drop_zero]
      exact List.take_left
theorem wpList_appO {ops : Array Oper} {rest : List Oper} {o : Oper} {a : Act} {Q : Exit → Act → World → Prop} (hgd : o.guard = none) (s x : Operand) (t tx : TypeId) (ho : o.op = .call { callee := .builtin .append, args := #[s, x], argTypes := #[t, tx] })
    {e : TypeId} {bytes : Nat} (E : Elem P t e bytes) (base : Nat) (v : Value) (xs : List Value) (hv : a.eval s = v) (hown : OwnO w base e v xs) (y : Value) (hy : a.eval x = y) (news : List Value) (hs : Src P 1 tx y news.length news w)
    (h63 : xs.length + news.length ≤ maxLen) (hbytes : (xs.length + news.length) * bytes ≤ 140737488355328) (hbase : base ≤ w.heap.size)
    (h : ∀ v' w', OwnO w' base e v' (xs ++ news) → Step w v w' v' → wpList P ops Q rest (a.put o.dst v') w') : wpList P ops Q (o :: rest) a w := by
  refine wpList_plain hgd fun K hK => ?_
  obtain ⟨v', w', hr, h2, h3⟩ := run_appO (P := P) w (ty := o.type) E base v xs hown y news hs h63 hbytes hbase
  unfold Oper.wp execOp
  simp only [ho, resolve, invoke, builtin, Sem.run_bind, Sem.run_pure, Result.andThen_ok, List.map_toArray, List.map_cons, List.map_nil, hv, hy, hr]
  exact hK _ _ (h v' w' h2 h3)
end
end Go.Proofs.YthmjejmignangaaGreatDoor
namespace Go.Proofs.YthmjejmignangaaGreatDoor
open Go.RowKit
theorem wpListIn_app_run {F : Fence} {nF : Nat} {P : Program} {w : World} {ops : Array Oper} {rest : List Oper} {o : Oper} {a : Act} {Q : Exit → Act → World → Prop} (hgd : o.guard = none) (s x : Operand) (t tx : TypeId)
    (ho : o.op = .call { callee := .builtin .append, args := #[s, x], argTypes := #[t, tx] }) {v y v' : Value} {w' : World} (hv : a.eval s = v) (hy : a.eval x = y) (hr : (Builtin.append_ #[t, tx] o.type #[v, y]).run P w = .ok v' w')
    (h : wpListIn F nF P ops Q rest (a.put o.dst v') w') : wpListIn F nF P ops Q (o :: rest) a w := by
  refine wpListIn_plain hgd fun K hK => ?_
  unfold Oper.wpIn
  refine ⟨by simp [Oper.about, ho, resolve, Target.leads, Sem.run_pure], ?_⟩
  rw [Oper.semAt_plain F _ _ (by rw [ho]; intro c hc'; cases hc')]
  simp [execOp, ho, resolve, invoke, builtin, hv, hy, hr, Result.andThen]
  exact hK _ _ h
#print axioms wpListIn_app_run
end Go.Proofs.YthmjejmignangaaGreatDoor
