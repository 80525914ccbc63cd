/- Layer 16: journal.Scan. -/
import Derived.Test.YthmjejmignangaaGreatDoorJO
namespace Go.Proofs.YthmjejmignangaaGreatDoor
open Go.RowKit Go.Shelf
attribute [local go_sem] Oper.semAt_some
/-- The greatest epoch of all parts. -/
def mostE (l : List (Prt × Bool)) : Int := l.foldl (fun m x => if x.2 then max m x.1.e else m) 0
theorem mostE_snoc (l : List (Prt × Bool)) (x : Prt × Bool) : mostE (l ++ [x]) = if x.2 then max (mostE l) x.1.e else mostE l := by
  unfold mostE
  rw [List.foldl_append]
  rfl
theorem mostE_range : ∀ (l : List (Prt × Bool)), (∀ x ∈ l, PFact x) → 0 ≤ mostE l ∧ mostE l ≤ 9223372036854775807 := by
  have key : ∀ (l : List (Prt × Bool)) (m : Int), 0 ≤ m ∧ m ≤ 9223372036854775807 → (∀ x ∈ l, PFact x) → 0 ≤ l.foldl (fun m x => if x.2 then max m x.1.e else m) m ∧ l.foldl (fun m x => if x.2 then max m x.1.e else m) m ≤ 9223372036854775807 := by
    intro l
    induction l with
    | nil => intro m h _; exact h
    | cons x r ih =>
      intro m h hp
      refine ih _ ?_ fun y hy => hp y (List.mem_cons_of_mem _ hy)
      have h1 := (hp x (List.mem_cons_self ..)).1.1
      show 0 ≤ (if x.2 = true then max m x.1.e else m) ∧ (if x.2 = true then max m x.1.e else m) ≤ 9223372036854775807
      split <;> omega
  exact fun l h => key l 0 ⟨by omega, by omega⟩ h
/-- What Scan has answered. -/
def ScanEnd (s : TSt) (most : Int) (w : World) (e : Ending) (W : World) : Prop := ∃ rv cs, e = .returned (.tuple #[rv, .int .i64 s.en, .int .i64 most]) ∧ Own W w.heap.size 29 rv cs ∧ cs.length = s.rs.length ∧ (∀ (j : Nat) (c : Value) (r : Bt), cs[j]? = some c → s.rs[j]? = some r → Own W w.heap.size 5 c (r.map bv)) ∧ Below w.heap.size w W
/-- While the parts go by: the epoch's box, parts' box. -/
structure SM (Z : Nat) (lv : Value) (w : World) (m : Int) (W : World) : Prop where
  b0 : W.heap[Z]? = some (.cells #[.int .i64 m] 3 (0, 0))
  pb : W.heap[Z + 1]? = some (.cells #[lv] 26 (0, 0))
  bel : Below Z w W
  siz : Z + 2 ≤ W.heap.size
theorem SM.own {Z B : Nat} {lv : Value} {w : World} (hB : Z ≤ B) : OwnFrom B (fun m W => SM Z lv w m W) := by
  intro s W W' row h hg hr
  have key : ∀ (i : Nat) (cur : Array Value) (e : TypeId), W.heap[i]? = some (Obj.cells cur e (0, 0)) → W'.heap[i]? = some (Obj.cells cur e (0, 0)) := by
    intro i cur e hi
    rw [hg.block i (lt_of_block hi) fun q => ?_]
    · exact hi
    · obtain ⟨_, o, ho, hc⟩ := hr i q.symm
      rw [hi] at ho
      cases ho
      cases hc
  exact ⟨key _ _ _ h.b0, key _ _ _ h.pb, h.bel.trans ⟨hg.os, hg.tape, hg.output, hg.size, fun i hi => hg.block i (by have := h.siz; omega) fun q => by have := (hr i q.symm).1; omega⟩, Nat.le_trans h.siz hg.size⟩
theorem SM.below {Z : Nat} {lv : Value} {w : World} {m : Int} {W W' : World} (h : SM Z lv w m W) (b : Below W.heap.size W W') : SM Z lv w m W' :=
  SM.own (Nat.le_refl Z) m W W' none h ⟨b.os, b.tape, b.output, b.size, fun k hk _ => b.block k hk⟩ (fun r e => by cases e)
/-- The return: the boxes, the deferred calls' record, what tell left. -/
theorem scan_fin16 {Z D' : Nat} {lv : Value} {w W V : World} {s : TSt} {most : Int} {e : Ending} (hI : SM Z lv w most W) (hZ : Z = w.heap.size) (hD : Z + 2 ≤ D') (hK : W.heap[D']? = some (.deferred (some []))) (hT : TellEnd s W e V) :
    ∃ rv, e = .returned (.tuple #[rv, .int .i64 s.en]) ∧ (∃ a n c, rv = .slice a n c) ∧ V.cell? ⟨Z, 0, none⟩ = some (.int .i64 most) ∧ V.frozen? ⟨Z, 0, none⟩ = false ∧ (V.setCell ⟨Z, 0, none⟩ (.int .i64 most)).drew.heap[D']? = some (.deferred (some [])) ∧
      ((V.setCell ⟨Z, 0, none⟩ (.int .i64 most)).drew.putObj D' (.deferred none)).cell? ⟨Z, 0, none⟩ = some (.int .i64 most) ∧
      ScanEnd s most w (.returned (.tuple #[rv, .int .i64 s.en, .int .i64 most])) ((V.setCell ⟨Z, 0, none⟩ (.int .i64 most)).drew.putObj D' (.deferred none)) := by
  obtain ⟨rv, cs, rfl, h1, h2, h3, hb⟩ := hT
  have hVz : V.heap[Z]? = some (.cells #[.int .i64 most] 3 (0, 0)) := (hb.block _ (lt_of_block hI.b0)).trans hI.b0
  have hsame : ∀ i : Nat, (V.setCell ⟨Z, 0, none⟩ (.int .i64 most)).drew.heap[i]? = V.heap[i]? := fun i => set_same16 hVz i
  have hKV : (V.setCell ⟨Z, 0, none⟩ (.int .i64 most)).drew.heap[D']? = some (.deferred (some [])) := (hsame D').trans ((hb.block _ (lt_of_block hK)).trans hK)
  have hW := hI.siz
  have hDW := lt_of_block hK
  have other : ∀ i : Nat, i ≠ D' → ((V.setCell ⟨Z, 0, none⟩ (.int .i64 most)).drew.putObj D' (.deferred none)).heap[i]? = V.heap[i]? := fun i hi => (World.putObj_heap_other hi).trans (hsame i)
  have keep : ∀ {e : TypeId} {v : Value} {xs : List Value}, Own V W.heap.size e v xs → Own ((V.setCell ⟨Z, 0, none⟩ (.int .i64 most)).drew.putObj D' (.deferred none)) w.heap.size e v xs := fun {e v xs} h => by
    refine row_lower16 (row_keep h fun g hg => other g ?_) (by omega)
    have := (own_block h hg).1
    omega
  obtain ⟨ra, rc, e1, -⟩ := row_form h1
  refine ⟨rv, rfl, ⟨ra, _, rc, e1⟩, by rw [Lib.cell_of_heap hVz]; rfl, Lib.frozen_of_heap hVz 0, hKV, ?_, rv, cs, rfl, keep h1, h2, fun j c r q1 q2 => keep (h3 j c r q1 q2), ?_⟩
  · rw [Lib.cell_of_heap ((other Z (by omega)).trans hVz)]; rfl
  · rw [← hZ]
    have hZV : Below Z w V := hI.bel.trans (hb.mono (by omega))
    exact ((hZV.setCell (p := ⟨Z, 0, none⟩) (Nat.le_refl _) _).drew).grown (grownBy_putObj' _ D' (.deferred none)) (by rw [show (V.setCell ⟨Z, 0, none⟩ (.int .i64 most)).drew.heap.size = V.heap.size from World.size_setCell _ _ _]; have := hb.size; omega) fun k ek => by cases ek; omega
theorem results_two_cell16 {fn : Func} {t u x : Tmp} {ty : TypeId} (h : fn.results = #[.tmp t, .tmp u, .cell x ty]) (tmps : Array Value) (P : Program) (w : World) (b : Addr) (v1 v2 v3 : Value) (h1 : tmps[t]?.getD undef = v1) (h2 : tmps[u]?.getD undef = v2) (hb : tmps[x]?.getD undef = .pointer (some b)) (hl : (loadVar ty b).run P w = .ok v3 w) :
    (results fn tmps).run P w = .ok (.tuple #[v1, v2, v3]) w := by
  simp [results, h, h1, h2, hb, asAddr, hl]
set_option maxRecDepth 100000 in
set_option maxHeartbeats 2000000 in
theorem scan_any16 (a : Option Addr) (c m : Nat) (L : List Sec) (hm : L.length = m) (hL : ∀ s ∈ L, s.b.length ≤ 9223372036854775807) (hmm : m ≤ 5864062014805) (w : World) (h : SecJ w a L) (ha : ∀ q, a = some ⟨q, 0, none⟩ → q < w.heap.size) :
    Calls Tryz.prog 8 #[.slice a m c] w (ScanEnd (tRun tStart (L.map partS)) (mostE (L.map partS)) w) := by
  refine (callsIn_wide (n := 3)).1 ?_
  refine callsIn_of_wp_marks Tryz.func8 rfl trivial ?_ rfl
  simp only [Tryz.ntmps8, List.size_toArray, List.length_cons, List.length_nil, Nat.reduceAdd, Nat.reduceSub, Array.replicate_succ, Array.replicate_zero, List.push_toArray, List.append_toArray, List.nil_append, List.cons_append]
  have hp := fun W => hidb (parts_call a m c W)
  have Hh := hidb h
  have Ha := hidb ha
  clear h ha
  gi_wp2_with (first
    | (refine ⟨trivial, ?_⟩; gi_at_call 24; refine (callsIn_wide.2 (hp _).out).mono ?_; clear hp; rintro e w' ⟨rfl, rfl⟩)
    | fail)
  obtain ⟨Z, hZ⟩ : ∃ Z, Z = w.heap.size := ⟨_, rfl⟩
  obtain ⟨Wc, hWc⟩ : ∃ Wc, Wc = (w.alloc (.cells #[.int .i64 0] 3)).alloc (.cells #[.slice a m c] 26) := ⟨_, rfl⟩
  have HT : Hid (SM Z (.slice a m c) w 0 Wc ∧ Wc.heap.size = Z + 2) := hidb (by
    subst hWc
    refine ⟨⟨?_, ?_, ?_, ?_⟩, ?_⟩
    · rw [Below.heap_alloc _ _ _ (by simp; omega), hZ, heap_alloc_new]
    · rw [show Z + 1 = (w.alloc (.cells #[.int .i64 0] 3)).heap.size by simp; omega, heap_alloc_new]
    · rw [hZ]; exact ((Below.refl _ w).alloc (Nat.le_refl _) _).alloc (by simp) _
    · simp only [World.size_alloc]; omega
    · simp only [World.size_alloc]; omega)
  rw [← hWc, ← hZ]
  clear hWc
  have HZ := hidb hZ
  have Hm := hidb hm
  have HL := hidb hL
  clear hZ hm hL
  have hszc := HT.out.2
  have HPF : Hid (∀ x ∈ L.map partS, PFact x) := hidb fun x hx => by obtain ⟨sec, _, rfl⟩ := List.mem_map.1 hx; exact partS_fact sec
  refine range_feeds3b (Kp := KpJ fun k => k = Z + 1 ∨ ∃ q, a = some ⟨q, 0, none⟩ ∧ k = q) (xs := L.map partS) (encs := fun x : Prt × Bool => #[x.1.v, .bool x.2]) rfl (by decide) (gf := 48) (lb := #[.pointer (some ⟨Z + 1, 0, none⟩)]) rfl trivial (enters_of Tryz.func48 (by kernel_rfl) rfl)
    (fun W hW => by
      have hI := HT.out.1.below hW
      have hz := HZ.out
      refine parts_feeds 2 (by decide) (Z + 1) a c m L Hm.out HL.out (by omega) _ W ?_ (Lib.cell_of_heap hI.pb 0) ?_
      · rintro k (rfl | ⟨q, q1, rfl⟩)
        · have := hI.siz; omega
        · have := Ha.out k q1; have := hI.siz; omega
      · intro W' hk
        refine secJ_keep Hh.out fun q q1 => (hk q (.inr ⟨q, q1, rfl⟩)).trans (hI.bel.block q ?_)
        have := Ha.out q q1
        omega)
    (fun h k => h.trans k) (fun W l o hl k hk => World.putObj_heap_other (by
      have hz := HZ.out
      rcases hk with rfl | ⟨q, q1, rfl⟩
      · omega
      · have := Ha.out _ q1; omega)) (fun W o hW k hk => Below.heap_alloc _ _ _ (by
      have hz := HZ.out
      rcases hk with rfl | ⟨q, q1, rfl⟩
      · omega
      · have := Ha.out _ q1; omega)) (fun _ => rfl)
    (fun pre W => SM Z (.slice a m c) w (mostE pre) W) (fun _ _ _ => False)
    (fun pre X Y row h hg hrow => SM.own (B := Wc.heap.size) (by omega) _ X Y row h hg hrow) (fun c' pre X Y row h hg hrow => h) HT.out.1
    (fun x q => { tmps := #[.slice a m c, undef, .slice none 0 0, .int .i64 0, .pointer (some ⟨Z, 0, none⟩), .pointer (some ⟨q, 0, none⟩), .bool x.2, .slice a m c, .func (.func 48) #[] #[.pointer (some ⟨Z + 1, 0, none⟩)], x.1.v, .bool x.2, undef, undef, undef, undef, undef, undef, undef, undef, undef, undef, undef, undef, undef, undef], defers := [] })
    (fun x => .cells #[.int .i64 x.1.e, .int .i64 x.1.n, .int .i64 x.1.c, .int .i64 x.1.i, sv x.1.b] 71) ?assign ?body ?done ?stop
  case assign =>
    intro l x W K hK
    obtain ⟨⟨pe, pn, pc, pi, pb⟩, ok⟩ := x
    simp only [Prt.v] at hK ⊢
    gi_wp2
    exact hK
  case stop =>
    rintro D' c' pre W hD hpre h hK
    exact h.elim
  case body =>
    rintro l pre x q W hI hq hbx hx
    obtain ⟨p, ok⟩ := x
    simp only at hbx ⊢
    have hmr := mostE_range pre fun x hx' => HPF.out x (hx.subset (List.mem_append_left _ hx'))
    have hpf := (HPF.out (p, ok) (hx.subset (List.mem_append_right _ (List.mem_singleton.2 rfl)))).1.1
    simp only at hpf
    rw [hszc] at hq ⊢
    obtain ⟨S, hSd⟩ : ∃ S : Nat → Prop, S = fun k => k = Z + 1 ∨ ∃ q, a = some ⟨q, 0, none⟩ ∧ k = q := ⟨_, rfl⟩
    have hSS : ∀ k, S k → k ≠ Z := by
      subst hSd
      rintro k (rfl | ⟨q, q1, rfl⟩)
      · omega
      · have := Ha.out _ q1
        have := HZ.out
        omega
    rw [← hSd]
    clear hSd
    have HN : Hid (mostE (pre ++ [(p, ok)]) = if ok then max (mostE pre) p.e else mostE pre) := hidb (mostE_snoc pre (p, ok))
    have c0 := Lib.cell_of_heap hI.b0 0
    simp at c0
    have f0 := Lib.frozen_of_heap hI.b0 0
    obtain ⟨x0, x1, x2, x3, x4, xl⟩ := part_cells hbx
    have HE : Hid (∀ (act : Act), RoundEnd3 (Z + 2) (KpJ S) (SM Z (.slice a m c) w (mostE pre)) (fun c_1 W => False) W .normal act W) := hidb fun act => ⟨KeepsFrom.refl _ _, KpJ.refl _ _, hI⟩
    have HS : Hid (∀ (v : Int) (act : Act), RoundEnd3 (Z + 2) (KpJ S) (SM Z (.slice a m c) w v) (fun c_1 W => False) W .normal act (W.setCell ⟨Z, 0, none⟩ (.int .i64 v))) := hidb fun v act => by
      have hs := hI.siz
      have hz := HZ.out
      refine ⟨⟨by rw [World.size_setCell]; omega, fun k o hk ho hc => (Below.heap_setCell _ _ _ _ (by simp; omega)).trans ho⟩, fun k hk => Below.heap_setCell _ _ _ _ ?_, ?_⟩
      · exact hSS k hk
      · exact ⟨(heap_setCell_same _ _ _ _ _ _ hI.b0).trans rfl, (Below.heap_setCell _ _ _ _ (by simp)).trans hI.pb, hI.bel.setCell (Nat.le_refl _) _, by rw [World.size_setCell]; exact hs⟩
    clear hSS hI hbx hx HT Hh Ha HZ Hm HL HPF
    cases ok with
    | false =>
      rw [show mostE (pre ++ [(p, false)]) = mostE pre from HN.out]
      gi_wp2
      exact HE.out _
    | true =>
      rw [show mostE (pre ++ [(p, true)]) = max (mostE pre) p.e from HN.out]
      generalize mostE pre = me at *
      gi_wp2
      exact HS.out _ _
  case done =>
    rintro D' W hD hI hK
    have hsj := secJ_keep Hh.out (W' := W) fun q q1 => hI.bel.block q (by have := Ha.out q q1; have := HZ.out; omega)
    have HTl := hidb (tell_any a c m L Hm.out HL.out hmm W hsj (fun q q1 => by have := Ha.out q q1; have := HZ.out; have := hI.siz; omega))
    have HF := hidb (fun e V (hT : TellEnd (tRun tStart (L.map partS)) W e V) => scan_fin16 hI HZ.out (by omega) hK hT)
    clear hsj hI hK HT Hh Ha HZ Hm HL HPF
    generalize tRun tStart (L.map partS) = s at *
    generalize mostE (L.map partS) = most at *
    gi_wp2_with (first
      | (refine ⟨trivial, ?_⟩; gi_at_call 25; refine (callsIn_wide.2 HTl.out).mono ?_; clear HTl; rintro e V hT; obtain ⟨rv, rfl, ⟨ra, rn, rc, rfl⟩, g1, g2, g3, g4, g5⟩ := HF.out e V hT; clear HF hT)
      | fail)
    gi_region
    generalize (V.setCell ⟨Z, 0, none⟩ (.int .i64 most)).drew = V2 at *
    gi_wp2
    refine ⟨by simp, .inl ⟨_, _, rfl, run_takeDeferred g3, ?_⟩⟩
    exact ⟨_, results_two_cell16 rfl _ _ _ ⟨Z, 0, none⟩ (.slice ra rn rc) (.int .i64 s.en) (.int .i64 most) rfl rfl rfl (load_int16 g4), g5⟩
end Go.Proofs.YthmjejmignangaaGreatDoor
