/- Layer 16: the document's Scan. -/
import Derived.Test.YthmjejmignangaaGreatDoorJR
namespace Go.Proofs.YthmjejmignangaaGreatDoor
open Go.RowKit
theorem results_tmp3 {fn : Func} {t u x : Tmp} (h : fn.results = #[.tmp t, .tmp u, .tmp x]) (tmps : Array Value) (P : Program) (w : World) :
    (results fn tmps).run P w = .ok (.tuple #[tmps.getD t undef, tmps.getD u undef, tmps.getD x undef]) w := by
  simp [results, h]
theorem wpList_app_run {P : Program} {w : World} {ops : Array Oper} {rest : List Oper} {o : Oper} {a : Act} {Q : Exit → Act → World → Prop} (hgd : o.guard = none) (s x : Operand) (t tx : TypeId)
    (ho : o.op = .call { callee := .builtin .append, args := #[s, x], argTypes := #[t, tx] }) {v y v' : Value} {w' : World} (hv : a.eval s = v) (hy : a.eval x = y) (hr : (Builtin.append_ #[t, tx] o.type #[v, y]).run P w = .ok v' w')
    (h : wpList P ops Q rest (a.put o.dst v') w') : wpList P ops Q (o :: rest) a w := by
  refine wpList_plain hgd fun K hK => ?_
  unfold Oper.wp
  simp [execOp, ho, resolve, invoke, builtin, hv, hy, hr, Result.andThen]
  exact hK _ _ h
/-- While records are told. -/
structure SI (P : List (Prt × Bool)) (w : World) (s : TSt) (k : Nat) (least : Int) (v : Value) (cs : List Value) (W : World) : Prop where
  bel : Below w.heap.size w W
  own : Own W w.heap.size 29 v cs
  lc : cs.length = s.rs.length
  each : ∀ (j : Nat) (c : Value) (r : Bt), cs[j]? = some c → s.rs[j]? = some r → Own W w.heap.size 5 c (r.map bv)
  en : s.en = k
  kP : k ≤ P.length
  run : tRun tStart P = tRun s (P.drop k)
  last : s.ah.last = true
  n : s.ah.n = s.rs.length
  le : ∀ e : Int, 1 ≤ e → (s.ah.e ≤ e ↔ least ≤ e)
  rk : s.rs.length ≤ k
  lr : 0 ≤ least ∧ least ≤ 9223372036854775807
theorem SI.start (P : List (Prt × Bool)) {w W : World} (h : Below w.heap.size w W) : SI P w tStart 0 1 (.slice none 0 0) [] W :=
  ⟨h, own_none _ _ _, rfl, fun j c r h => (by simp at h), rfl, Nat.zero_le _, rfl, by decide, rfl, fun e he => by show (0 : Int) ≤ e ↔ 1 ≤ e; omega, Nat.le_refl _, by decide⟩
theorem SI.stop {P : List (Prt × Bool)} {w W W' : World} {s : TSt} {k : Nat} {least most : Int} {v : Value} {cs : List Value} (h : SI P w s k least v cs W) (hP : ∀ x ∈ P, PFact x) (hb : Below W.heap.size W W') (h1 : oneR (P.drop k) (s.rs.length + 1) least = none) :
    ScanEnd (tRun tStart P) most w (.returned (.tuple #[v, .int .i64 k, .int .i64 most])) W' := by
  have := tRun_one s (P.drop k) (s.rs.length + 1) least h.last (by rw [h.n]) h.le fun x hx => hP x (List.mem_of_mem_drop hx)
  rw [h1] at this
  obtain ⟨q1, q2⟩ := this
  refine ⟨v, cs, ?_, Own.below h.own hb, ?_, fun j c r h1 h2 => Own.below (h.each j c r h1 ?_) hb, h.bel.trans (hb.mono h.bel.size)⟩
  · rw [h.run, q2, h.en]
  · rw [h.run, q1]; exact h.lc
  · rw [h.run, q1] at h2; exact h2
theorem SI.next {P : List (Prt × Bool)} {w W W1 V : World} {s : TSt} {k : Nat} {least c ep : Int} {v cv v' : Value} {cs : List Value} {b : Bt} (h : SI P w s k least v cs W) (hP : ∀ x ∈ P, PFact x) (hb : Below W.heap.size W W1) (h1 : oneR (P.drop k) (s.rs.length + 1) least = some (b, c, ep)) (hO : Own W1 W.heap.size 5 cv (b.map bv))
    {o : Obj} (hst : Step (W1.alloc o) v V v') (ho : Own V w.heap.size 29 v' (cs ++ [cv])) (hep : ep ≤ 9223372036854775807) :
    1 ≤ c ∧ c ≤ 4096 ∧ k + c.toNat ≤ P.length ∧ ∃ s', SI P w s' (k + c.toNat) ep v' (cs ++ [cv]) V := by
  have := tRun_one s (P.drop k) (s.rs.length + 1) least h.last (by rw [h.n]) h.le fun x hx => hP x (List.mem_of_mem_drop hx)
  rw [h1] at this
  obtain ⟨⟨a', q1, q2, q3, q4⟩, q5, q6, q7, q8⟩ := this
  rw [List.length_drop] at q7
  have hkP := h.kP
  have hB := h.bel.size
  have hb1 := hb.size
  refine ⟨q5, q6, by omega, ⟨a', b, s.rs ++ [b], s.en + c⟩, ?_⟩
  have o1 : Own (W1.alloc o) w.heap.size 29 v cs := Own.below (Own.below h.own hb) ((Below.refl _ W1).alloc (Nat.le_refl _) _)
  have keep : ∀ {x : Value} {r : Bt}, Own W1 w.heap.size 5 x (r.map bv) → Own V w.heap.size 5 x (r.map bv) := fun {x r} hx => by
    have hx1 : Own (W1.alloc o) w.heap.size 5 x (r.map bv) := Own.below hx ((Below.refl _ W1).alloc (Nat.le_refl _) _)
    refine row_keep hx1 fun g hg => ?_
    obtain ⟨_, cur, h2⟩ := own_block hx1 hg
    exact hst.1.block g (lt_of_block h2) fun e => own_apart hx1 o1 (by decide) hg e.symm
  have hbW : Below w.heap.size w (W1.alloc o) := (h.bel.trans (hb.mono hB)).alloc (by omega) _
  refine ⟨hbW.grown hst.1 hbW.size fun i hi => (own_block o1 hi).1, ho, by simp [h.lc], fun j x r j1 j2 => ?_, by show s.en + c = _; rw [h.en]; omega, by omega, ?_, q2, by show a'.n = _; rw [q3]; simp, fun e he => by show a'.e ≤ e ↔ ep ≤ e; rw [q4], by have := h.rk; simp; omega, by omega⟩
  · have hlc := h.lc
    by_cases hj : j < cs.length
    · rw [List.getElem?_append_left hj] at j1
      simp only at j2
      rw [List.getElem?_append_left (by omega)] at j2
      exact keep (Own.below (h.each j x r j1 j2) hb)
    · have hjl := (List.getElem?_eq_some_iff.1 j1).1
      simp at hjl
      obtain rfl : j = cs.length := by omega
      rw [List.getElem?_append_right (Nat.le_refl _)] at j1
      simp only at j2
      rw [hlc, List.getElem?_append_right (Nat.le_refl _)] at j2
      simp at j1 j2
      subst j1 j2
      exact keep (row_lower16 hO hB)
  · rw [h.run, q1, List.drop_drop]
theorem oneR_ep {R : List (Prt × Bool)} {number least : Int} {b : Bt} {c ep : Int} (hP : ∀ x ∈ R, PFact x) (h : oneR R number least = some (b, c, ep)) : ep ≤ 9223372036854775807 := by
  cases R with
  | nil => cases h
  | cons x r =>
    rw [oneR_head rfl] at h
    split at h
    · injection h with h
      injection h with _ h
      injection h with _ h
      rw [← h]
      exact (hP x (List.mem_cons_self ..)).1.1.2
    · cases h
set_option maxHeartbeats 4000000 in
set_option maxRecDepth 100000 in
theorem rscan_any16 (a : Option Addr) (cap m : Nat) (L : List Sec) (hm : L.length = m) (hL : ∀ s ∈ L, s.b.length ≤ 9223372036854775807) (hmm : m ≤ 5864062014805) (w : World) (h : SecO w a L) :
    Calls Tryz.prog 10 #[.slice a m cap] w (ScanEnd (tRun tStart (L.map partS)) (mostE (L.map partS)) w) := by
  have Hh := hidb h
  have HL := hidb hL
  have Hm := hidb hm
  have HPF : Hid (∀ x ∈ L.map partS, PFact x) := hidb fun x hx => by obtain ⟨sec, _, rfl⟩ := List.mem_map.1 hx; exact partS_fact sec
  obtain ⟨P, hP⟩ : ∃ P, P = L.map partS := ⟨_, rfl⟩
  rw [← hP] at HPF ⊢
  have HP := hidb hP
  have HPm : Hid (P.length = m) := hidb (by rw [hP, List.length_map, hm])
  clear h hL hm hP
  go_enter Tryz.func10, Tryz.ntmps10
  go_upto_region 3 with fail
  go_loopw [5, 6] (fun ev iv wr => ∃ (j : Nat) (me : Int), ev = .int .i64 me ∧ iv = .int .i64 j ∧ j ≤ m ∧ me = mostE (P.take j) ∧ Hid (Below w.heap.size w wr)) (fun _ iv _ => m - (intOf iv).toNat)
  case atStart => exact ⟨0, 0, rfl, rfl, Nat.zero_le _, rfl, hidb (Below.refl _ _)⟩
  case round =>
    obtain ⟨j, me, rfl, rfl, hj, hme, HB⟩ := hrel
    by_cases hjm : j < m
    · have hjm2 : (j : Int) < (m : Int) := by omega
      obtain ⟨y, hy⟩ : ∃ y, L[j]? = some y := ⟨L[j]'(by have := Hm.out; omega), List.getElem?_eq_getElem _⟩
      obtain ⟨q, o, rfl, hq2, e0, e1⟩ := secO_keep (W' := wr) Hh.out (fun q0 o0 q1 h1 => HB.out.block _ h1) j y hy
      have HR := hidb (rread16_any y (HL.out y (List.mem_of_getElem? hy)) wr)
      have hPj : P[j]? = some (partS y) := by rw [HP.out, List.getElem?_map, hy]; rfl
      have hsn : mostE (P.take (j + 1)) = if (partS y).2 then max me (partS y).1.e else me := by
        rw [List.take_add_one, hPj, hme]
        exact mostE_snoc _ _
      have hmr := mostE_range (P.take j) fun x hx => HPF.out x (List.mem_of_mem_take hx)
      rw [← hme] at hmr
      have HSN := hidb hsn
      clear hsn hPj hme hy
      go_upto_region 6 with (first
        | (go_at_call 26; refine HR.out.mono ?_; clear HR; rintro e V1 ⟨p, ba, bn, bc, rfl, hpo, hpsm, hb1⟩)
        | fail)
      have hBV : Below w.heap.size w (V1.alloc (.cells #[.int .i64 p.e, .int .i64 p.n, .int .i64 p.i, .int .i64 p.c, .slice ba bn bc] 78)) := (HB.out.trans (hb1.mono HB.out.size)).alloc (by have := HB.out.size; have := hb1.size; omega) _
      have hbG := heap_alloc_new V1 (.cells #[.int .i64 p.e, .int .i64 p.n, .int .i64 p.i, .int .i64 p.c, .slice ba bn bc] 78)
      obtain ⟨G, hG⟩ : ∃ G, G = V1.heap.size := ⟨_, rfl⟩
      generalize V1.alloc (.cells #[.int .i64 p.e, .int .i64 p.n, .int .i64 p.i, .int .i64 p.c, .slice ba bn bc] 78) = V2 at *
      rw [← hG] at hbG ⊢
      clear hG
      obtain ⟨x0, x1, x2, x3, x4⟩ := cells5D hbG
      have xl := lt_of_block hbG
      have hpe := hpsm.1
      cases hok : (partS y).2 with
      | false =>
        have hme2 : me = mostE (P.take (j + 1)) := by rw [HSN.out, hok]; rfl
        have HM2 := hidb hme2
        clear hpo hme2 hbG hb1
        go_wp2_with fail
        exact ⟨⟨j + 1, me, rfl, by simp, by omega, HM2.out, hidb hBV⟩, by simp [intOf]; omega⟩
      | true =>
        have hme2 : max me p.e = mostE (P.take (j + 1)) := by rw [HSN.out, hok, (hpo hok).1]; rfl
        have HM2 := hidb hme2
        clear hpo hme2 hbG hb1
        go_wp2_with fail
        exact ⟨⟨j + 1, _, rfl, by simp, by omega, HM2.out, hidb hBV⟩, by simp [intOf]; omega⟩
    · obtain rfl : j = m := by omega
      have hmost : me = mostE P := by rw [hme, List.take_of_length_le (by rw [HPm.out]; exact Nat.le_refl _)]
      have hmr := mostE_range P HPF.out
      have HMo := hidb hmost
      clear hme hmost hmr
      have hS0 := hidb (SI.start P HB.out)
      clear HB
      go_upto_region 11 with fail
      go_loopw [9, 10, 11] (fun v kv lv wr2 => ∃ (s : TSt) (k : Nat) (least : Int) (cs : List Value) (v' : Value), v = v' ∧ kv = .int .i64 k ∧ lv = .int .i64 least ∧ k ≤ j ∧ Hid (SI P w s k least v' cs wr2)) (fun _ kv _ _ => j - (intOf kv).toNat)
      case atStart => exact ⟨tStart, 0, 1, [], _, rfl, rfl, rfl, Nat.zero_le _, hS0⟩
      case round =>
        obtain ⟨s, k, least, cs, v, rfl, rfl, rfl, hk, HS⟩ := hrel
        obtain ⟨va, vc, hva, -⟩ := row_form HS.out.own
        have hlc := HS.out.lc
        have hrk := HS.out.rk
        subst hva
        have hsj := secO_keep (W' := wr) Hh.out fun q0 o0 q1 h1 => HS.out.bel.block _ h1
        have hOne := one_any16 a cap j L Hm.out HL.out hmm k (by omega) ((s.rs.length : Int) + 1) least wr hsj
        rw [← HP.out] at hOne
        have hwn : IntKind.i64.wrap ((cs.length : Int) + 1) = (cs.length : Int) + 1 := by rw [IntKind.wrap_i64]; omega
        have hlr := HS.out.lr
        cases ho : oneR (P.drop k) ((s.rs.length : Int) + 1) least with
        | none =>
          have HO1 := hidb (hOne.mono (R' := fun e w' => e = .returned (.tuple #[.slice none 0 0, .int .i64 0, .int .i64 0, .bool false]) ∧ Below wr.heap.size wr w') fun e w' h => by
            obtain ⟨hb, ⟨_, rfl⟩ | ⟨b, c, ep, va', n', vc', h1, _⟩⟩ := h
            · exact ⟨rfl, hb⟩
            · rw [ho] at h1; cases h1)
          rw [← hlc] at HO1
          have HF := hidb (fun V (hb : Below wr.heap.size wr V) => SI.stop (most := me) HS.out HPF.out hb ho)
          rw [HMo.out] at HF
          clear hOne ho hsj hrk hlc
          go_wp2_with (first
            | (go_at_call 27; refine HO1.out.mono ?_; clear HO1; rintro e V1 ⟨rfl, hb1⟩)
            | fail)
          refine bodyPost_ret (results_tmp3 rfl _ _ _) rfl ?_
          have := HF.out _ hb1
          rw [← HMo.out] at this ⊢
          exact this
        | some x =>
          obtain ⟨b, c, ep⟩ := x
          have HO1 := hidb (hOne.mono (R' := fun e w' => ∃ va' n' vc', e = .returned (.tuple #[.slice va' n' vc', .int .i64 c, .int .i64 ep, .bool true]) ∧ Below wr.heap.size wr w' ∧ Own w' wr.heap.size 5 (.slice va' n' vc') (b.map Go.Proofs.YthmjejmignangaaGreatDoor.bv)) fun e w' h => by
            obtain ⟨hb, ⟨h1, _⟩ | ⟨b', c', ep', va', n', vc', h1, rfl, hO⟩⟩ := h
            · rw [ho] at h1; cases h1
            · rw [ho] at h1
              cases h1
              exact ⟨va', n', vc', rfl, hb, hO⟩)
          rw [← hlc] at HO1
          have hep := oneR_ep (fun x hx => HPF.out x (List.mem_of_mem_drop hx)) ho
          have HNx := hidb (fun W1 V cv v' o (hb : Below wr.heap.size wr W1) hO hst ho2 => SI.next (W1 := W1) (V := V) (cv := cv) (v' := v') (o := o) HS.out HPF.out hb ho hO hst ho2 hep)
          have hown := HS.out.own
          have hkj : k < j := by
            refine Classical.byContradiction fun hn => ?_
            rw [List.drop_eq_nil_of_le (by rw [HPm.out]; omega)] at ho
            cases ho
          have hcl : cs.length + 1 ≤ 5864062014805 := by omega
          clear hOne ho hsj hlc hrk
          go_upto_region 14 with (first
            | (go_at_call 27; refine HO1.out.mono ?_; clear HO1; rintro e V1 ⟨va', n', vc', rfl, hb1, hO1⟩)
            | fail)
          have hown1 := Own.below (Own.below hown hb1) ((Below.refl _ V1).alloc (Nat.le_refl _) (.cells #[.slice va' n' vc'] 29))
          have hsz1 : w.heap.size ≤ (V1.alloc (.cells #[.slice va' n' vc'] 29)).heap.size := by rw [World.size_alloc]; have := HS.out.bel.size; have := hb1.size; omega
          obtain ⟨v6, V6, hr6, ho6, hst6⟩ := run_app (P := Tryz.prog) (V1.alloc (.cells #[.slice va' n' vc'] 29)) (t := 23) (ty := 23) elem_bytes w.heap.size _ cs hown1 (.slice (some ⟨V1.heap.size, 0, none⟩) 1 1) [.slice va' n' vc'] (src_one V1 Tryz.underlying23 (.slice va' n' vc') (.slice va' n' vc') 29 rfl rfl 1) (by simp only [List.length_cons, List.length_nil]; unfold maxLen; omega) (by simp only [List.length_cons, List.length_nil]; omega) hsz1
          obtain ⟨g1, g2, g3, s', HS'⟩ := HNx.out V1 V6 _ v6 _ hb1 hO1 hst6 ho6
          rw [HPm.out] at g3
          obtain ⟨cn, hcn⟩ : ∃ cn : Nat, (cn : Int) = c := ⟨c.toNat, by omega⟩
          have hct : c.toNat = cn := by omega
          rw [hct] at HS' g3
          have hwk : IntKind.i64.wrap ((k : Int) + c) = ((k + cn : Nat) : Int) := by rw [IntKind.wrap_i64]; omega
          obtain ⟨va6, vc6, e6, -⟩ := row_form ho6
          generalize (cs ++ [Value.slice va' n' vc']).length = n6 at e6
          subst e6
          have HS2 := hidb HS'
          have HCN := hidb hcn
          clear HS' ho6 hst6 hown1 hown hO1 hb1 HNx hcn hct HS
          have hr6' : (Builtin.append_ #[23, 23] 23 #[.slice va cs.length vc, .slice (some ⟨V1.heap.size, 0, none⟩) 1 1]).run Tryz.prog (V1.alloc (.cells #[.slice va' n' vc'] 29)) = .ok (.slice va6 n6 vc6) V6 := hr6
          clear hr6
          go_wp2_with (first
            | (at_builtin; refine wpList_app_run rfl _ _ _ _ rfl rfl rfl hr6' ?_)
            | fail)
          have hcn := HCN.out
          exact ⟨⟨s', k + cn, ep, _, _, rfl, by simp, rfl, g3, HS2⟩, by simp [intOf]; omega⟩
end Go.Proofs.YthmjejmignangaaGreatDoor
