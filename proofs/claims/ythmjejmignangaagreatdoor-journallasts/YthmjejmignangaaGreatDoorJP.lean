/- Layer 16: journal.Scan. Layer 16: the bytes of a part's sector. Layer 16: journal.Split. -/
import Derived.Test.YthmjejmignangaaGreatDoorJO
import Derived.Test.YthmjejmignangaaGreatDoorMW
import Derived.Test.YthmjejmignangaaGreatDoorShelfj
namespace Go.Proofs.YthmjejmignangaaGreatDoor
open Go.RowKit Go.Shelf
attribute [local go_sem] Oper.semAt_some
/-- The greatest epoch of all parts. -/
def mostE (l : List (Prt × Bool)) : Int := l.foldl (fun m x => if x.2 then max m x.1.e else m) 0
theorem mostE_snoc (l : List (Prt × Bool)) (x : Prt × Bool) : mostE (l ++ [x]) = if x.2 then max (mostE l) x.1.e else mostE l := by
  unfold mostE
  rw [List.foldl_append]
  rfl
theorem mostE_range : ∀ (l : List (Prt × Bool)), (∀ x ∈ l, PFact x) → 0 ≤ mostE l ∧ mostE l ≤ 9223372036854775807 := by
  have key : ∀ (l : List (Prt × Bool)) (m : Int), 0 ≤ m ∧ m ≤ 9223372036854775807 → (∀ x ∈ l, PFact x) → 0 ≤ l.foldl (fun m x => if x.2 then max m x.1.e else m) m ∧ l.foldl (fun m x => if x.2 then max m x.1.e else m) m ≤ 9223372036854775807 := by
    intro l
    induction l with
    | nil => intro m h _; exact h
    | cons x r ih =>
      intro m h hp
      refine ih _ ?_ fun y hy => hp y (List.mem_cons_of_mem _ hy)
      have h1 := (hp x (List.mem_cons_self ..)).1.1
      show 0 ≤ (if x.2 = true then max m x.1.e else m) ∧ (if x.2 = true then max m x.1.e else m) ≤ 9223372036854775807
      split <;> omega
  exact fun l h => key l 0 ⟨by omega, by omega⟩ h
/-- What Scan has answered. -/
def ScanEnd (s : TSt) (most : Int) (w : World) (e : Ending) (W : World) : Prop := ∃ rv cs, e = .returned (.tuple #[rv, .int .i64 s.en, .int .i64 most]) ∧ Own W w.heap.size 29 rv cs ∧ cs.length = s.rs.length ∧ (∀ (j : Nat) (c : Value) (r : Bt), cs[j]? = some c → s.rs[j]? = some r → Own W w.heap.size 5 c (r.map bv)) ∧ Below w.heap.size w W
/-- While the parts go by: the epoch's box, parts' box. -/
structure SM (Z : Nat) (lv : Value) (w : World) (m : Int) (W : World) : Prop where
  b0 : W.heap[Z]? = some (.cells #[.int .i64 m] 3 (0, 0))
  pb : W.heap[Z + 1]? = some (.cells #[lv] 26 (0, 0))
  bel : Below Z w W
  siz : Z + 2 ≤ W.heap.size
theorem SM.own {Z B : Nat} {lv : Value} {w : World} (hB : Z ≤ B) : OwnFrom B (fun m W => SM Z lv w m W) := by
  intro s W W' row h hg hr
  have key : ∀ (i : Nat) (cur : Array Value) (e : TypeId), W.heap[i]? = some (Obj.cells cur e (0, 0)) → W'.heap[i]? = some (Obj.cells cur e (0, 0)) := by
    intro i cur e hi
    rw [hg.block i (lt_of_block hi) fun q => ?_]
    · exact hi
    · obtain ⟨_, o, ho, hc⟩ := hr i q.symm
      rw [hi] at ho
      cases ho
      cases hc
  exact ⟨key _ _ _ h.b0, key _ _ _ h.pb, h.bel.trans ⟨hg.os, hg.tape, hg.output, hg.size, fun i hi => hg.block i (by have := h.siz; omega) fun q => by have := (hr i q.symm).1; omega⟩, Nat.le_trans h.siz hg.size⟩
theorem SM.below {Z : Nat} {lv : Value} {w : World} {m : Int} {W W' : World} (h : SM Z lv w m W) (b : Below W.heap.size W W') : SM Z lv w m W' :=
  SM.own (Nat.le_refl Z) m W W' none h ⟨b.os, b.tape, b.output, b.size, fun k hk _ => b.block k hk⟩ (fun r e => by cases e)
/-- The return: the boxes, the deferred calls' record, what tell left. -/
theorem scan_fin16 {Z D' : Nat} {lv : Value} {w W V : World} {s : TSt} {most : Int} {e : Ending} (hI : SM Z lv w most W) (hZ : Z = w.heap.size) (hD : Z + 2 ≤ D') (hK : W.heap[D']? = some (.deferred (some []))) (hT : TellEnd s W e V) :
    ∃ rv, e = .returned (.tuple #[rv, .int .i64 s.en]) ∧ (∃ a n c, rv = .slice a n c) ∧ V.cell? ⟨Z, 0, none⟩ = some (.int .i64 most) ∧ V.frozen? ⟨Z, 0, none⟩ = false ∧ (V.setCell ⟨Z, 0, none⟩ (.int .i64 most)).drew.heap[D']? = some (.deferred (some [])) ∧
      ((V.setCell ⟨Z, 0, none⟩ (.int .i64 most)).drew.putObj D' (.deferred none)).cell? ⟨Z, 0, none⟩ = some (.int .i64 most) ∧
      ScanEnd s most w (.returned (.tuple #[rv, .int .i64 s.en, .int .i64 most])) ((V.setCell ⟨Z, 0, none⟩ (.int .i64 most)).drew.putObj D' (.deferred none)) := by
  obtain ⟨rv, cs, rfl, h1, h2, h3, hb⟩ := hT
  have hVz : V.heap[Z]? = some (.cells #[.int .i64 most] 3 (0, 0)) := (hb.block _ (lt_of_block hI.b0)).trans hI.b0
  have hsame : ∀ i : Nat, (V.setCell ⟨Z, 0, none⟩ (.int .i64 most)).drew.heap[i]? = V.heap[i]? := fun i => set_same16 hVz i
  have hKV : (V.setCell ⟨Z, 0, none⟩ (.int .i64 most)).drew.heap[D']? = some (.deferred (some [])) := (hsame D').trans ((hb.block _ (lt_of_block hK)).trans hK)
  have hW := hI.siz
  have hDW := lt_of_block hK
  have other : ∀ i : Nat, i ≠ D' → ((V.setCell ⟨Z, 0, none⟩ (.int .i64 most)).drew.putObj D' (.deferred none)).heap[i]? = V.heap[i]? := fun i hi => (World.putObj_heap_other hi).trans (hsame i)
  have keep : ∀ {e : TypeId} {v : Value} {xs : List Value}, Own V W.heap.size e v xs → Own ((V.setCell ⟨Z, 0, none⟩ (.int .i64 most)).drew.putObj D' (.deferred none)) w.heap.size e v xs := fun {e v xs} h => by
    refine row_lower16 (row_keep h fun g hg => other g ?_) (by omega)
    have := (own_block h hg).1
    omega
  obtain ⟨ra, rc, e1, -⟩ := row_form h1
  refine ⟨rv, rfl, ⟨ra, _, rc, e1⟩, by rw [Lib.cell_of_heap hVz]; rfl, Lib.frozen_of_heap hVz 0, hKV, ?_, rv, cs, rfl, keep h1, h2, fun j c r q1 q2 => keep (h3 j c r q1 q2), ?_⟩
  · rw [Lib.cell_of_heap ((other Z (by omega)).trans hVz)]; rfl
  · rw [← hZ]
    have hZV : Below Z w V := hI.bel.trans (hb.mono (by omega))
    exact ((hZV.setCell (p := ⟨Z, 0, none⟩) (Nat.le_refl _) _).drew).grown (grownBy_putObj' _ D' (.deferred none)) (by rw [show (V.setCell ⟨Z, 0, none⟩ (.int .i64 most)).drew.heap.size = V.heap.size from World.size_setCell _ _ _]; have := hb.size; omega) fun k ek => by cases ek; omega
theorem results_two_cell16 {fn : Func} {t u x : Tmp} {ty : TypeId} (h : fn.results = #[.tmp t, .tmp u, .cell x ty]) (tmps : Array Value) (P : Program) (w : World) (b : Addr) (v1 v2 v3 : Value) (h1 : tmps[t]?.getD undef = v1) (h2 : tmps[u]?.getD undef = v2) (hb : tmps[x]?.getD undef = .pointer (some b)) (hl : (loadVar ty b).run P w = .ok v3 w) :
    (results fn tmps).run P w = .ok (.tuple #[v1, v2, v3]) w := by
  simp [results, h, h1, h2, hb, asAddr, hl]
set_option maxRecDepth 100000 in
set_option maxHeartbeats 2000000 in
theorem scan_any16 (a : Option Addr) (c m : Nat) (L : List Sec) (hm : L.length = m) (hL : ∀ s ∈ L, s.b.length ≤ 9223372036854775807) (hmm : m ≤ 5864062014805) (w : World) (h : SecJ w a L) (ha : ∀ q, a = some ⟨q, 0, none⟩ → q < w.heap.size) :
    Calls Tryz.prog 8 #[.slice a m c] w (ScanEnd (tRun tStart (L.map partS)) (mostE (L.map partS)) w) := by
  refine (callsIn_wide (n := 3)).1 ?_
  refine callsIn_of_wp_marks Tryz.func8 rfl trivial ?_ rfl
  simp only [Tryz.ntmps8, List.size_toArray, List.length_cons, List.length_nil, Nat.reduceAdd, Nat.reduceSub, Array.replicate_succ, Array.replicate_zero, List.push_toArray, List.append_toArray, List.nil_append, List.cons_append]
  have hp := fun W => hidb (parts_call a m c W)
  have Hh := hidb h
  have Ha := hidb ha
  clear h ha
  gi_wp2_with (first
    | (refine ⟨trivial, ?_⟩; gi_at_call 24; refine (callsIn_wide.2 (hp _).out).mono ?_; clear hp; rintro e w' ⟨rfl, rfl⟩)
    | fail)
  obtain ⟨Z, hZ⟩ : ∃ Z, Z = w.heap.size := ⟨_, rfl⟩
  obtain ⟨Wc, hWc⟩ : ∃ Wc, Wc = (w.alloc (.cells #[.int .i64 0] 3)).alloc (.cells #[.slice a m c] 26) := ⟨_, rfl⟩
  have HT : Hid (SM Z (.slice a m c) w 0 Wc ∧ Wc.heap.size = Z + 2) := hidb (by
    subst hWc
    refine ⟨⟨?_, ?_, ?_, ?_⟩, ?_⟩
    · rw [Below.heap_alloc _ _ _ (by simp; omega), hZ, heap_alloc_new]
    · rw [show Z + 1 = (w.alloc (.cells #[.int .i64 0] 3)).heap.size by simp; omega, heap_alloc_new]
    · rw [hZ]; exact ((Below.refl _ w).alloc (Nat.le_refl _) _).alloc (by simp) _
    · simp only [World.size_alloc]; omega
    · simp only [World.size_alloc]; omega)
  rw [← hWc, ← hZ]
  clear hWc
  have HZ := hidb hZ
  have Hm := hidb hm
  have HL := hidb hL
  clear hZ hm hL
  have hszc := HT.out.2
  have HPF : Hid (∀ x ∈ L.map partS, PFact x) := hidb fun x hx => by obtain ⟨sec, _, rfl⟩ := List.mem_map.1 hx; exact partS_fact sec
  refine range_feeds3b (Kp := KpJ fun k => k = Z + 1 ∨ ∃ q, a = some ⟨q, 0, none⟩ ∧ k = q) (xs := L.map partS) (encs := fun x : Prt × Bool => #[x.1.v, .bool x.2]) rfl (by decide) (gf := 48) (lb := #[.pointer (some ⟨Z + 1, 0, none⟩)]) rfl trivial (enters_of Tryz.func48 (by kernel_rfl) rfl)
    (fun W hW => by
      have hI := HT.out.1.below hW
      have hz := HZ.out
      refine parts_feeds 2 (by decide) (Z + 1) a c m L Hm.out HL.out (by omega) _ W ?_ (Lib.cell_of_heap hI.pb 0) ?_
      · rintro k (rfl | ⟨q, q1, rfl⟩)
        · have := hI.siz; omega
        · have := Ha.out k q1; have := hI.siz; omega
      · intro W' hk
        refine secJ_keep Hh.out fun q q1 => (hk q (.inr ⟨q, q1, rfl⟩)).trans (hI.bel.block q ?_)
        have := Ha.out q q1
        omega)
    (fun h k => h.trans k) (fun W l o hl k hk => World.putObj_heap_other (by
      have hz := HZ.out
      rcases hk with rfl | ⟨q, q1, rfl⟩
      · omega
      · have := Ha.out _ q1; omega)) (fun W o hW k hk => Below.heap_alloc _ _ _ (by
      have hz := HZ.out
      rcases hk with rfl | ⟨q, q1, rfl⟩
      · omega
      · have := Ha.out _ q1; omega)) (fun _ => rfl)
    (fun pre W => SM Z (.slice a m c) w (mostE pre) W) (fun _ _ _ => False)
    (fun pre X Y row h hg hrow => SM.own (B := Wc.heap.size) (by omega) _ X Y row h hg hrow) (fun c' pre X Y row h hg hrow => h) HT.out.1
    (fun x q => { tmps := #[.slice a m c, undef, .slice none 0 0, .int .i64 0, .pointer (some ⟨Z, 0, none⟩), .pointer (some ⟨q, 0, none⟩), .bool x.2, .slice a m c, .func (.func 48) #[] #[.pointer (some ⟨Z + 1, 0, none⟩)], x.1.v, .bool x.2, undef, undef, undef, undef, undef, undef, undef, undef, undef, undef, undef, undef, undef, undef], defers := [] })
    (fun x => .cells #[.int .i64 x.1.e, .int .i64 x.1.n, .int .i64 x.1.c, .int .i64 x.1.i, sv x.1.b] 71) ?assign ?body ?done ?stop
  case assign =>
    intro l x W K hK
    obtain ⟨⟨pe, pn, pc, pi, pb⟩, ok⟩ := x
    simp only [Prt.v] at hK ⊢
    gi_wp2
    exact hK
  case stop =>
    rintro D' c' pre W hD hpre h hK
    exact h.elim
  case body =>
    rintro l pre x q W hI hq hbx hx
    obtain ⟨p, ok⟩ := x
    simp only at hbx ⊢
    have hmr := mostE_range pre fun x hx' => HPF.out x (hx.subset (List.mem_append_left _ hx'))
    have hpf := (HPF.out (p, ok) (hx.subset (List.mem_append_right _ (List.mem_singleton.2 rfl)))).1.1
    simp only at hpf
    rw [hszc] at hq ⊢
    obtain ⟨S, hSd⟩ : ∃ S : Nat → Prop, S = fun k => k = Z + 1 ∨ ∃ q, a = some ⟨q, 0, none⟩ ∧ k = q := ⟨_, rfl⟩
    have hSS : ∀ k, S k → k ≠ Z := by
      subst hSd
      rintro k (rfl | ⟨q, q1, rfl⟩)
      · omega
      · have := Ha.out _ q1
        have := HZ.out
        omega
    rw [← hSd]
    clear hSd
    have HN : Hid (mostE (pre ++ [(p, ok)]) = if ok then max (mostE pre) p.e else mostE pre) := hidb (mostE_snoc pre (p, ok))
    have c0 := Lib.cell_of_heap hI.b0 0
    simp at c0
    have f0 := Lib.frozen_of_heap hI.b0 0
    obtain ⟨x0, x1, x2, x3, x4, xl⟩ := part_cells hbx
    have HE : Hid (∀ (act : Act), RoundEnd3 (Z + 2) (KpJ S) (SM Z (.slice a m c) w (mostE pre)) (fun c_1 W => False) W .normal act W) := hidb fun act => ⟨KeepsFrom.refl _ _, KpJ.refl _ _, hI⟩
    have HS : Hid (∀ (v : Int) (act : Act), RoundEnd3 (Z + 2) (KpJ S) (SM Z (.slice a m c) w v) (fun c_1 W => False) W .normal act (W.setCell ⟨Z, 0, none⟩ (.int .i64 v))) := hidb fun v act => by
      have hs := hI.siz
      have hz := HZ.out
      refine ⟨⟨by rw [World.size_setCell]; omega, fun k o hk ho hc => (Below.heap_setCell _ _ _ _ (by simp; omega)).trans ho⟩, fun k hk => Below.heap_setCell _ _ _ _ ?_, ?_⟩
      · exact hSS k hk
      · exact ⟨(heap_setCell_same _ _ _ _ _ _ hI.b0).trans rfl, (Below.heap_setCell _ _ _ _ (by simp)).trans hI.pb, hI.bel.setCell (Nat.le_refl _) _, by rw [World.size_setCell]; exact hs⟩
    clear hSS hI hbx hx HT Hh Ha HZ Hm HL HPF
    cases ok with
    | false =>
      rw [show mostE (pre ++ [(p, false)]) = mostE pre from HN.out]
      gi_wp2
      exact HE.out _
    | true =>
      rw [show mostE (pre ++ [(p, true)]) = max (mostE pre) p.e from HN.out]
      generalize mostE pre = me at *
      gi_wp2
      exact HS.out _ _
  case done =>
    rintro D' W hD hI hK
    have hsj := secJ_keep Hh.out (W' := W) fun q q1 => hI.bel.block q (by have := Ha.out q q1; have := HZ.out; omega)
    have HTl := hidb (tell_any a c m L Hm.out HL.out hmm W hsj (fun q q1 => by have := Ha.out q q1; have := HZ.out; have := hI.siz; omega))
    have HF := hidb (fun e V (hT : TellEnd (tRun tStart (L.map partS)) W e V) => scan_fin16 hI HZ.out (by omega) hK hT)
    clear hsj hI hK HT Hh Ha HZ Hm HL HPF
    generalize tRun tStart (L.map partS) = s at *
    generalize mostE (L.map partS) = most at *
    gi_wp2_with (first
      | (refine ⟨trivial, ?_⟩; gi_at_call 25; refine (callsIn_wide.2 HTl.out).mono ?_; clear HTl; rintro e V hT; obtain ⟨rv, rfl, ⟨ra, rn, rc, rfl⟩, g1, g2, g3, g4, g5⟩ := HF.out e V hT; clear HF hT)
      | fail)
    gi_region
    generalize (V.setCell ⟨Z, 0, none⟩ (.int .i64 most)).drew = V2 at *
    gi_wp2
    refine ⟨by simp, .inl ⟨_, _, rfl, run_takeDeferred g3, ?_⟩⟩
    exact ⟨_, results_two_cell16 rfl _ _ _ ⟨Z, 0, none⟩ (.slice ra rn rc) (.int .i64 s.en) (.int .i64 most) rfl rfl rfl (load_int16 g4), g5⟩
end Go.Proofs.YthmjejmignangaaGreatDoor
namespace Go.Proofs.YthmjejmignangaaGreatDoor
open Go.RowKit
theorem and_255 (x : Int) (h : 0 ≤ x ∧ x ≤ 65535) : bits BinOp.and IntKind.i64 x 255 = x % 256 := by
  obtain ⟨n, rfl⟩ := Int.eq_ofNat_of_zero_le h.1
  show IntKind.i64.wrap ((BitVec.ofInt 64 ((n : Nat) : Int) &&& BitVec.ofInt 64 ((255 : Nat) : Int)).toNat : Int) = _
  rw [BitVec.toNat_and, ofInt_j _ (by omega), ofInt_j _ (by omega), show (255 : Nat) = 2 ^ 8 - 1 from rfl, Nat.and_two_pow_sub_one_eq_mod, IntKind.wrap_i64]
  omega
theorem str3 (a b : Bt) (n : Nat) : (⟨a.toArray⟩ : ByteArray) ++ ⟨b.toArray⟩ ++ ⟨Array.replicate n 0⟩ = ⟨((a ++ b) ++ List.replicate n 0).toArray⟩ := by
  apply ByteArray.ext
  simp [ByteArray.data_append]
/-- The bytes of a part's sector. -/
def secB (p : Prt) : Bt := ((([] ++ ints [p.e, p.n]) ++ byts [p.i / 256, p.i % 256, p.c / 256, p.c % 256, (p.b.length : Int)]) ++ p.b) ++ List.replicate (43 - p.b.length) 0
theorem newW16 (w4 : World) : Calls Tryz.prog 86 #[] w4 fun e w5 => e = .returned (.pointer (some ⟨w4.heap.size + 1, 0, none⟩)) ∧ MineW w4 w5 (.slice none 0 0) [] := (newWriter_any w4).mono (by rintro e w5 ⟨rfl, hw5⟩; exact ⟨rfl, by rw [hw5]; exact ⟨newWriter_wr w4, Own.nil _ _ _, ((Below.refl _ _).alloc (Nat.le_refl _) _).alloc (by simp) _, by simp⟩⟩)
set_option maxHeartbeats 4000000 in
set_option maxRecDepth 100000 in
theorem sector_any16 (p : Prt) (hi : 0 ≤ p.i ∧ p.i ≤ 65535) (hc : 0 ≤ p.c ∧ p.c ≤ 65535) (hb : p.b.length ≤ 43) (w : World) : Calls Tryz.prog 63 #[.agg #[.int .i64 p.e, .int .i64 p.n, .int .i64 p.c, .int .i64 p.i, sv p.b]] w fun e w' => e = .returned (sv (secB p)) ∧ Below w.heap.size w w' := by
  have HS : Hid (secB p = ((([] ++ ints [p.e, p.n]) ++ byts [p.i / 256, p.i % 256, p.c / 256, p.c % 256, (p.b.length : Int)]) ++ p.b) ++ List.replicate (43 - p.b.length) 0) := hidb rfl
  obtain ⟨pe, pn, pc, pi, pb⟩ := p
  simp only at hi hc hb HS ⊢
  obtain ⟨W1, hW1⟩ : ∃ W1, W1 = w.alloc (.cells #[.int .i64 pe, .int .i64 pn, .int .i64 pc, .int .i64 pi, sv pb] 71) := ⟨_, rfl⟩
  have hb1 : Below w.heap.size w W1 := by rw [hW1]; exact (Below.refl _ w).alloc (Nat.le_refl _) _
  have hbx1 : W1.heap[w.heap.size]? = some (.cells #[.int .i64 pe, .int .i64 pn, .int .i64 pc, .int .i64 pi, sv pb] 71 (0, 0)) := by rw [hW1]; exact heap_alloc_new w _
  have HN := hidb (newW16 W1)
  have HI := hidb (fun W v (M : MineW W1 W v []) => intsN_W W1 W v [] M _ 2 rfl [pe, pn] rfl _ rfl (by simp))
  have HB := hidb (fun W v (M : MineW W1 W v ([] ++ ints [pe, pn])) => bytesN_W W1 W v _ M _ 5 rfl [pi / 256, pi % 256, pc / 256, pc % 256, (pb.length : Int)] rfl (by omega) _ rfl (by intro x hx; simp only [List.mem_cons, List.not_mem_nil, or_false] at hx; rcases hx with rfl | rfl | rfl | rfl | rfl <;> omega) (by simp [ints_length]))
  have HK : Hid (∀ W v bs, MineW W1 W v bs → W.heap[w.heap.size]? = some (.cells #[.int .i64 pe, .int .i64 pn, .int .i64 pc, .int .i64 pi, sv pb] 71 (0, 0)) ∧ Below w.heap.size w W) := hidb fun W v bs M => ⟨(M.hb.block _ (lt_of_block hbx1)).trans hbx1, hb1.trans (M.hb.mono hb1.size)⟩
  go_enter Tryz.func63, Tryz.ntmps63
  go_upto_region 2 with (first
    | (go_at_call 86; rw [← hW1]; clear hW1; refine HN.out.mono ?_; clear HN; rintro e w2 ⟨rfl, M2⟩)
    | fail)
  obtain ⟨hx2, -⟩ := HK.out _ _ _ M2
  obtain ⟨x0, x1, x2, x3, x4, xl⟩ := part_cells (p := ⟨pe, pn, pc, pi, pb⟩) hx2
  simp only at x0 x1 x2 x3 x4
  have HI2 := hidb (HI.out _ _ M2)
  clear HI hx2
  go_upto_region 3 with (first
    | (go_at_call 87; refine HI2.out.mono ?_; clear HI2; rintro e w3 ⟨v3, rfl, M3, -⟩)
    | fail)
  clear x0 x1 x2 x3 x4 xl
  obtain ⟨hx3, -⟩ := HK.out _ _ _ M3
  obtain ⟨x0, x1, x2, x3, x4, xl⟩ := part_cells (p := ⟨pe, pn, pc, pi, pb⟩) hx3
  simp only at x0 x1 x2 x3 x4
  have HB2 := hidb (HB.out _ _ M3)
  have ha1 := and_255 pi hi
  have ha2 := and_255 pc hc
  go_upto_region 4 with (first
    | (go_at_call 88; refine HB2.out.mono ?_; clear HB2; rintro e w4 ⟨v4, rfl, M4, -⟩)
    | fail)
  clear x0 x1 x2 x3 x4 xl ha1 ha2 hx3 HB
  obtain ⟨hx4, hbw4⟩ := HK.out _ _ _ M4
  obtain ⟨x0, x1, x2, x3, x4, xl⟩ := part_cells (p := ⟨pe, pn, pc, pi, pb⟩) hx4
  simp only at x0 x1 x2 x3 x4
  obtain ⟨hd, hhd⟩ : ∃ hd, hd = ([] ++ ints [pe, pn]) ++ byts [pi / 256, pi % 256, pc / 256, pc % 256, (pb.length : Int)] := ⟨_, rfl⟩
  rw [← hhd] at M4 HS
  have hdl : hd.length = 21 := by rw [hhd]; simp [ints_length, byts]
  have HBy := hidb (fun W (h : Below w4.heap.size w4 W) => bytes_any _ _ _ v4 hd W (M4.H.chg (Chg.of_below h (S := fun _ => False)) id id) (Own.below M4.hO h) (by omega))
  have HSk := hidb (fun W (h : Below w4.heap.size w4 W) => part_cells (p := ⟨pe, pn, pc, pi, pb⟩) ((h.block _ xl).trans hx4))
  obtain ⟨rc, hrc⟩ : ∃ rc : Nat, rc = 43 - pb.length := ⟨_, rfl⟩
  have hwr : IntKind.i64.wrap (43 - (pb.length : Int)) = (rc : Int) := by rw [IntKind.wrap_i64]; omega
  have hrc43 : rc ≤ 43 := by omega
  have hz : Below w4.heap.size w4 w4.drew := (Below.refl _ w4).drew
  have hrl : Lib.repeatL [(0 : UInt8)] rc = List.replicate rc 0 := by
    clear hrc hwr hrc43
    induction rc with
    | zero => rfl
    | succ n ih => rw [List.replicate_succ, ← ih]; rfl
  have HRp : Hid (∀ W, Calls Tryz.prog 90 #[.string ⟨#[0]⟩, .int .i64 rc] W fun e w' => e = .returned (sv (List.replicate rc 0)) ∧ Below W.heap.size W w') := hidb fun W => (Tryz.strings_Repeat ⟨#[0]⟩ rc W (by omega) (by show 1 * rc ≤ _; omega)).mono fun e w' ⟨h1, h2⟩ => ⟨by rw [h1, show (⟨#[0]⟩ : ByteArray).data.toList = [(0 : UInt8)] from rfl, hrl], h2⟩
  have HHd := hidb hhd
  have HRc := hidb hrc
  clear hhd hx4 hrl hrc x0 x1 x2 x3 x4 xl
  obtain ⟨x0, x1, x2, x3, x4, xl⟩ := HSk.out _ (Below.refl _ w4)
  simp only at HSk x0 x1 x2 x3 x4
  go_region_held (fun W => W.cell? ⟨w.heap.size, 0, none⟩ = some (.int .i64 pe) ∧ W.cell? ⟨w.heap.size, 1, none⟩ = some (.int .i64 pn) ∧ W.cell? ⟨w.heap.size, 2, none⟩ = some (.int .i64 pc) ∧ W.cell? ⟨w.heap.size, 3, none⟩ = some (.int .i64 pi) ∧ W.cell? ⟨w.heap.size, 4, none⟩ = some (sv pb) ∧ w.heap.size < W.heap.size) (first | exact HSk.out _ hz | go_keep) (first
    | (go_at_call 89; refine (HBy.out _ hz).mono ?_; clear HBy; rintro e w5 ⟨rfl, hO5, hb5⟩; replace hz := hz.trans (hb5.mono hz.size); obtain ⟨sa, sc, hsv, _, _, hB5, _, _⟩ := Own.bs hO5; injection hsv with e1 e2 e3; subst e1 e3; (try rw [show w4.drew.heap.size = w4.heap.size from rfl] at hB5); have hcv := run_str hB5 21; rw [hdl] at hcv; clear hO5 hb5)
    | (go_at_call 90; refine (HRp.out _).mono ?_; clear HRp; rintro e w6 ⟨rfl, hb6⟩; replace hz := hz.trans (hb6.mono hz.size); (first | (replace hB5 := hB5.keep (below_keep hb6); have hcv2 := run_str hB5 21; rw [hdl] at hcv2) | skip); clear hb6))
  all_goals
    go_wp2_with fail
    go_ret
    rw [HS.out, ← HRc.out]
    exact ⟨congrArg (fun b => Ending.returned (.string b)) (str3 hd pb rc), hbw4.trans (hz.mono hbw4.size)⟩
end Go.Proofs.YthmjejmignangaaGreatDoor
namespace Go.Proofs.YthmjejmignangaaGreatDoor
open Go.RowKit
def cntS (b : Bt) : Nat := max ((b.length + 42) / 43) 1
/-- The sectors of a record. -/
def splitL (e n : Int) (b : Bt) : List Bt := (List.range (cntS b)).map fun (i : Nat) => secB ⟨e, n, cntS b, i, (b.drop (i * 43)).take 43⟩
theorem splitL_length (e n : Int) (b : Bt) : (splitL e n b).length = cntS b := by simp [splitL]
abbrev svl (l : List Bt) : List Value := l.map fun b => sv b
theorem splitL_succ (e n : Int) (b : Bt) (i : Nat) (h : i < cntS b) : (splitL e n b).take (i + 1) = (splitL e n b).take i ++ [secB ⟨e, n, cntS b, i, (b.drop (i * 43)).take 43⟩] := by
  rw [List.take_add_one]
  congr 1
  unfold splitL
  rw [List.getElem?_map, List.getElem?_range h]
  rfl
/-- What Split answers. -/
def SplitEnd (e n : Int) (b : Bt) (w : World) (x : Ending) (w' : World) : Prop := ∃ a m c, x = .returned (.tuple #[.slice a m c, .int .i64 0]) ∧ Hid (m = (splitL e n b).length ∧ Own w' w.heap.size 9 (.slice a m c) (svl (splitL e n b)) ∧ Below w.heap.size w w')
theorem makeS16 (n : Nat) (hn : n ≤ 1000000) : ∀ V : World, (Instr.makeSlice 54 (.int .i64 (n : Int)) (.int .i64 (n : Int))).run Tryz.prog V = .ok (.slice (some ⟨V.heap.size, 0, none⟩) n n) (V.alloc (.cells (madeCells #[.string ⟨#[]⟩] n) 9)) := by
  intro V
  obtain ⟨i0, hi, hz0, hz1, hz2⟩ := info_parts (show (Tryz.prog.info? 9).map (fun i => (i.zero, i.size, i.bytes)) = some (some (.string ⟨#[]⟩), 1, 16) by kernel_rfl)
  have hr := run_make (P := Tryz.prog) V 54 9 i0 (.string ⟨#[]⟩) Tryz.underlying54 hi hz0 .i64 .i64 (n : Int) (n : Int) (by omega) (by omega) (by rw [hz2]; omega) (by omega)
  simpa only [Int.toNat_natCast, hz1, Nat.mul_one, Value.cells] using hr
set_option maxHeartbeats 4000000 in
set_option maxRecDepth 100000 in
theorem split_any16 (ep nm : Int) (he : stmpB ep = true) (hn : stmpB nm = true) (bB bo : Nat) (len cap : Nat) (b : Bt) (hl : b.length = len) (hlen : len ≤ 176128) (hcap : len ≤ cap) (w : World) (hb : Bs w (some ⟨bB, bo, none⟩) b) : Calls Tryz.prog 33 #[.int .i64 ep, .int .i64 nm, .slice (some ⟨bB, bo, none⟩) len cap] w (SplitEnd ep nm b w) := by
  have HS1 := hidb (stamp_any ep)
  have HS2 := hidb (stamp_any nm)
  rw [he] at HS1
  rw [hn] at HS2
  have hd1 : decide ((176128 : Int) < (len : Int)) = false := by simp; omega
  obtain ⟨c, hc⟩ : ∃ c, c = cntS b := ⟨_, rfl⟩
  have hc1 : 1 ≤ c := by rw [hc]; unfold cntS; omega
  have hc2 : c ≤ 4096 := by rw [hc]; unfold cntS; omega
  have hcm : max (((len : Int) + 43 - 1) / 43) 1 = (c : Int) := by rw [hc]; unfold cntS; omega
  have hw1 : IntKind.i64.wrap ((len : Int) + 43) = (len : Int) + 43 := by rw [IntKind.wrap_i64]; omega
  have hw2 : IntKind.i64.wrap ((len : Int) + 43 - 1) = (len : Int) + 43 - 1 := by rw [IntKind.wrap_i64]; omega
  have hmk := makeS16 c (by omega)
  have HC := hidb hc
  have HL := hidb hl
  have HB := hidb hb
  clear hc hl hb he hn
  go_enter Tryz.func33, Tryz.ntmps33
  go_upto_region 8 with (first
    | (go_at_call 62; refine (HS1.out _).mono ?_; clear HS1; rintro e w1 ⟨rfl, e1⟩; obtain rfl := e1.symm)
    | (go_at_call 62; refine (HS2.out _).mono ?_; clear HS2; rintro e w1 ⟨rfl, e1⟩; obtain rfl := e1.symm)
    | fail)
  have hb0 : Below w.heap.size w (w.alloc (.cells (madeCells #[.string ⟨#[]⟩] c) 9)) := (Below.refl _ w).alloc (Nat.le_refl _) _
  have hg0 := heap_alloc_new w (.cells (madeCells #[.string ⟨#[]⟩] c) 9)
  have hmc : madeCells #[Value.string ⟨#[]⟩] c = (svl ((splitL ep nm b).take 0) ++ List.replicate (c - 0) (Value.string ⟨#[]⟩)).toArray := by
    apply Array.ext
    · simp [madeCells]
    · intro j h1 h2
      simp [madeCells, Nat.mod_one]
  rw [hmc] at hg0 hb0
  have HG0 : Hid ((w.alloc (.cells (madeCells #[.string ⟨#[]⟩] c) 9)).heap[w.heap.size]? = some (.cells (svl ((splitL ep nm b).take 0) ++ List.replicate (c - 0) (Value.string ⟨#[]⟩)).toArray 9 (0, 0))) := hidb (by rw [← hmc]; rw [← hmc] at hg0; exact hg0)
  rw [← hmc] at hb0
  clear hg0 hmc hmk hd1 hcm hw1 hw2
  go_loopw [34] (fun iv wr => ∃ i : Nat, iv = .int .i64 i ∧ i ≤ c ∧ Hid (Below w.heap.size w wr ∧ wr.heap[w.heap.size]? = some (.cells (svl ((splitL ep nm b).take i) ++ List.replicate (c - i) (Value.string ⟨#[]⟩)).toArray 9 (0, 0)))) (fun iv _ => c - (intOf iv).toNat)
  case atStart => exact ⟨0, rfl, Nat.zero_le _, hidb ⟨hb0, HG0.out⟩⟩
  case round =>
    obtain ⟨i, rfl, hi, HI⟩ := hrel
    clear hb0 HG0
    by_cases hic : i < c
    · have hic2 : (i : Int) < (c : Int) := by omega
      have hle : i * 43 ≤ len := by have := HC.out; have := HL.out; unfold cntS at *; omega
      obtain ⟨hh, hhh⟩ : ∃ hh : Nat, hh = min (i * 43 + 43) len := ⟨_, rfl⟩
      have hwa : IntKind.i64.wrap ((i : Int) * 43) = ((i * 43 : Nat) : Int) := by rw [IntKind.wrap_i64]; omega
      obtain ⟨lo, hlo⟩ : ∃ lo, lo = i * 43 := ⟨_, rfl⟩
      rw [← hlo] at hwa hle hhh
      have hwb : IntKind.i64.wrap ((lo : Int) + 43) = (lo : Int) + 43 := by rw [IntKind.wrap_i64]; omega
      have hmin : min ((lo : Int) + 43) (len : Int) = (hh : Int) := by omega
      have s1 : (lo : Int) ≤ (hh : Int) := by omega
      have s2 : (hh : Int) ≤ (cap : Int) := by omega
      have s3 : lo ≤ hh := by omega
      have s4 : hh ≤ cap := by omega
      have hseg : ((b.drop lo).take 43).length = hh - lo := by rw [List.length_take, List.length_drop, HL.out, hhh]; omega
      have hbs : Bs wr (some ⟨bB, bo + lo, none⟩) ((b.drop lo).take 43) := by
        rcases HB.out.keep (below_keep HI.out.1) with h | ⟨B', o', h1, h2⟩
        · exact .inl (by rw [h]; simp)
        · injection h1 with h1
          injection h1 with q1 q2 _
          subst q1 q2
          refine .inr ⟨bB, bo + lo, rfl, fun j hj => ?_⟩
          rw [hseg] at hj
          have := h2 (lo + j) (by rw [HL.out]; omega)
          rw [show bo + (lo + j) = bo + lo + j by omega] at this
          simpa using this
      obtain ⟨sg, hsg⟩ : ∃ sg, sg = (b.drop lo).take 43 := ⟨_, rfl⟩
      rw [← hsg] at hseg hbs
      have hcv := run_str hbs (cap - lo)
      rw [hseg] at hcv
      have HSg := hidb hsg
      have hsg43 : sg.length ≤ 43 := by rw [hsg]; simp; omega
      have HH := hidb hhh
      have HLo := hidb hlo
      have hnil : cap = lo → len = lo ∧ hh = lo ∧ sg = [] := fun h => ⟨by omega, by omega, List.eq_nil_of_length_eq_zero (by rw [hseg]; omega)⟩
      clear hsg hseg hbs hhh hlo
      have HSe := hidb (fun V => sector_any16 ⟨ep, nm, c, i, sg⟩ ⟨by show (0 : Int) ≤ i; omega, by show (i : Int) ≤ 65535; omega⟩ ⟨by show (0 : Int) ≤ c; omega, by show (c : Int) ≤ 65535; omega⟩ hsg43 V)
      obtain ⟨W2, hW2⟩ : ∃ W2, W2 = wr.alloc (.cells #[.int .i64 ep, .int .i64 nm, .int .i64 c, .int .i64 i, sv sg] 71) := ⟨_, rfl⟩
      have hbx : W2.heap[wr.heap.size]? = some (.cells #[.int .i64 ep, .int .i64 nm, .int .i64 c, .int .i64 i, sv sg] 71 (0, 0)) := by rw [hW2]; exact heap_alloc_new wr _
      have hw2 : Below wr.heap.size wr W2 := by rw [hW2]; exact (Below.refl _ wr).alloc (Nat.le_refl _) _
      have HFin : Hid (∀ V, Below W2.heap.size W2 V → V.cell? ⟨w.heap.size, i, none⟩ = some (.string ⟨#[]⟩) ∧ V.frozen? ⟨w.heap.size, i, none⟩ = false ∧ w.heap.size < V.heap.size ∧ Below w.heap.size w (V.setCell ⟨w.heap.size, i, none⟩ (sv (secB ⟨ep, nm, c, i, sg⟩))) ∧ (V.setCell ⟨w.heap.size, i, none⟩ (sv (secB ⟨ep, nm, c, i, sg⟩))).heap[w.heap.size]? = some (.cells (svl ((splitL ep nm b).take (i + 1)) ++ List.replicate (c - (i + 1)) (Value.string ⟨#[]⟩)).toArray 9 (0, 0))) := hidb fun V hV => by
        obtain ⟨h1, h2⟩ := HI.out
        have hV2 := hw2.trans (hV.mono hw2.size)
        have h3 := (hV2.block _ (lt_of_block h2)).trans h2
        have hbw : Below w.heap.size w V := h1.trans (hV2.mono h1.size)
        have hlen2 : (svl ((splitL ep nm b).take i)).length = i := by simp [splitL_length]; have := HC.out; omega
        refine ⟨?_, Lib.frozen_of_heap h3 i, lt_of_block h3, hbw.setCell (Nat.le_refl _) _, ?_⟩
        · rw [Lib.cell_of_heap h3, List.getElem?_toArray, List.getElem?_append_right (by omega), hlen2, Nat.sub_self, List.getElem?_replicate, if_pos (by omega)]
        · rw [heap_setCell_same _ _ _ _ _ _ h3]
          congr 2
          rw [List.setIfInBounds_toArray, List.set_append_right _ _ (by omega), hlen2, Nat.sub_self, splitL_succ ep nm b i (by have := HC.out; omega), ← HC.out, ← HLo.out, ← HSg.out]
          rw [show c - i = (c - (i + 1)) + 1 by omega, List.replicate_succ, List.set_cons_zero]
          simp
      by_cases hcl : cap = lo
      · obtain ⟨n1, n2, n3⟩ := hnil hcl
        have hcv0 : (convert 29 9 (.slice (some ⟨bB, bo, none⟩) 0 0)).run Tryz.prog wr = .ok (sv []) wr := run_str (bs := []) (.inl rfl) 0
        clear hnil hcv
        subst n1
        subst n2
        subst n3
        subst hcl
        go_upto_region 12 with fail
        rw [← hW2]
        clear hW2 hcv0
        obtain ⟨x0, x1, x2, x3, x4, xl⟩ := part_cells (p := ⟨ep, nm, c, i, []⟩) hbx
        simp only at x0 x1 x2 x3 x4
        go_wp2_with (first
          | (go_at_call 63; refine (HSe.out _).mono ?_; clear HSe; rintro e V ⟨rfl, hV⟩; obtain ⟨y0, y1, y2, y3, y4⟩ := HFin.out V hV; have HY := hidb (And.intro y3 y4); clear HFin y3 y4)
          | fail)
        exact ⟨⟨i + 1, by simp, by omega, HY⟩, by simp [intOf]; omega⟩
      · clear hnil
        go_upto_region 12 with fail
        rw [← hW2]
        clear hW2 hcv
        obtain ⟨x0, x1, x2, x3, x4, xl⟩ := part_cells (p := ⟨ep, nm, c, i, sg⟩) hbx
        simp only at x0 x1 x2 x3 x4
        go_wp2_with (first
          | (go_at_call 63; refine (HSe.out _).mono ?_; clear HSe; rintro e V ⟨rfl, hV⟩; obtain ⟨y0, y1, y2, y3, y4⟩ := HFin.out V hV; have HY := hidb (And.intro y3 y4); clear HFin y3 y4)
          | fail)
        exact ⟨⟨i + 1, by simp, by omega, HY⟩, by simp [intOf]; omega⟩
    · obtain rfl : i = c := by omega
      have hrow : Own wr w.heap.size 9 (.slice (some ⟨w.heap.size, 0, none⟩) i i) (svl (splitL ep nm b)) := by
        have h2 := HI.out.2
        have hll : (splitL ep nm b).length = i := by rw [splitL_length]; exact HC.out.symm
        rw [List.take_of_length_le (by omega), Nat.sub_self, List.replicate_zero, List.append_nil] at h2
        have hvl : (svl (splitL ep nm b)).length = i := by rw [List.length_map]; exact hll
        exact ⟨by simp, .inr ⟨w.heap.size, i, (svl (splitL ep nm b)).toArray, by rw [hvl], Nat.le_refl _, h2, by omega, by unfold maxLen; omega, by simp only [List.size_toArray]; omega, by rw [Nat.mul_one]; exact List.take_of_length_le (by rw [hvl]; exact Nat.le_refl _)⟩⟩
      have HR := hidb (And.intro hrow HI.out.1)
      have hll : i = (splitL ep nm b).length := by rw [splitL_length]; exact HC.out
      have HLL := hidb hll
      clear hrow hll HI
      go_wp2_with fail
      go_ret2
      exact ⟨_, _, _, rfl, hidb ⟨HLL.out, HR.out.1, HR.out.2⟩⟩
end Go.Proofs.YthmjejmignangaaGreatDoor
