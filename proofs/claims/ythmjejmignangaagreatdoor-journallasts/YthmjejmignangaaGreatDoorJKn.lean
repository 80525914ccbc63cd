/- Layer 16: the law's knows: what it comes to. Layer 16: the law's Ours: the program's sectors. Layer 16: the law JournalScans. Layer 16: what the cards share: sectors that came in; the library's variables as the rows list them, and a world that holds them. -/
import Derived.Test.YthmjejmignangaaGreatDoorJOp
import Derived.Lib.SlBytesConst
import Derived.Deep.RegionLaw
import Derived.Test.YthmjejmignangaaGreatDoorCards
import Derived.Test.YthmjejmignangaaGreatDoorTie
import Derived.Test.YthmjejmignangaaGreatDoorWA
import Derived.Stop.LaidErr
namespace Go.Proofs.YthmjejmignangaaGreatDoor
open Go.RowKit
def fL : Bt := [108, 111, 103]
def gA : Jn := opJ (newD 10) fL
def dA : Dk := opD (newD 10) fL
def gB : Jn := apJ gA dA fL [97]
def dB : Dk := (apX gA dA fL [97]).1
def dC : Dk := syD gB dB fL
def dD : Dk := (apX gB dC fL [98]).1
def dE : Dk := crD dD []
theorem kn_name : nameB fL = true := by decide +kernel
theorem kn_o1 : opE (newD 10) fL = 3 := by decide +kernel
theorem kn_r1 : ∀ s ∈ readL (newD 10) fL, s.b.length ≤ 64 := by decide +kernel
theorem kn_s1 : (opS (newD 10) fL).rs.length = 0 := by decide +kernel
theorem kn_okA : gA.ok fL := by unfold Jn.ok; decide +kernel
theorem kn_a : (apX gA dA fL [97]).2.1 = 0 := by decide +kernel
theorem kn_okB : gB.ok fL := by unfold Jn.ok; decide +kernel
theorem kn_s : syE gB dB fL = 0 := by decide +kernel
theorem kn_b : (apX gB dC fL [98]).2.1 = 0 := by decide +kernel
theorem kn_o2 : opE dE fL = 0 := by decide +kernel
theorem kn_r2 : ∀ s ∈ readL dE fL, s.b.length ≤ 64 := by decide +kernel
theorem kn_s2 : (opS dE fL).rs = [[97]] := by decide +kernel
theorem kn_cnt : (opJ dE fL).cnt = 1 := by decide +kernel
theorem kn_ep : (opJ dE fL).ep = 2 := by decide +kernel
theorem num_any16 (x : Int) (w : World) : Calls Tryz.prog 13 #[.int .i64 x] w fun e w' => e = .returned (.int .i64 x) ∧ w' = w := by
  go_enter Tryz.func13, Tryz.ntmps13
  go_wp2
  go_ret
  exact ⟨rfl, rfl⟩
theorem disk_any16 (n : Int) (h1 : 1 ≤ n) (h2 : n ≤ 65536) (w : World) : Calls Tryz.prog 18 #[.int .i64 n] w fun e w' => ∃ db, e = .returned (.pointer (some ⟨db, 0, none⟩)) ∧ Hid (DkAt (fun k => k < w.heap.size) db (newD n) w' ∧ Below w.heap.size w w') := by
  have HN := hidb (new15_yes n w h1 h2)
  go_enter Tryz.func18, Tryz.ntmps18
  go_wp2_with (first
    | (go_at_call 36; refine HN.out.mono ?_; clear HN; rintro e V ⟨db, rfl, h⟩)
    | (go_at_call 13; refine (num_any16 _ _).mono ?_; rintro e V2 ⟨rfl, e2⟩; obtain rfl := e2.symm)
    | fail)
  go_ret
  exact ⟨db, rfl, h⟩
theorem own_one16 {W : World} {base : Nat} {T : TypeId} {a : Option Addr} {n c : Nat} {x : Value} (h : Own W base T (.slice a n c) [x]) : n = 1 ∧ ∃ g, a = some ⟨g, 0, none⟩ ∧ W.cell? ⟨g, 0, none⟩ = some x := by
  obtain ⟨a', c', e, _, _, h3⟩ := row_form h
  injection e with e1 e2 e3
  subst e1
  refine ⟨e2, ?_⟩
  rcases h3 with ⟨_, h0, _⟩ | ⟨g, e, _, _, hc⟩
  · cases h0
  · exact ⟨g, e, hc 0 x rfl⟩
/-- A journal that lies behind w. -/
def Jst (w : World) (K : Nat → Prop) (jb lb db : Nat) (g : Jn) (d : Dk) (V : World) : Prop := (∀ k, k < w.heap.size → K k ∧ k ≠ lb) ∧ JnAt K jb lb db fL g d V ∧ Below w.heap.size w V
theorem jst_step {w V V' : World} {K : Nat → Prop} {jb lb db : Nat} {g g' : Jn} {d d' : Dk} (h : Jst w K jb lb db g d V) (h1 : JnAt K jb lb db fL g' d' V') (h2 : JKt K lb V V') : Jst w K jb lb db g' d' V' :=
  ⟨h.1, h1, h.2.2.trans (Kt.low h2 h.2.2.size fun i hi hn => hn.elim (fun e => e (h.1 i hi).1) (h.1 i hi).2)⟩
theorem jst_append {w V : World} {K : Nat → Prop} {jb lb db : Nat} {g : Jn} {d : Dk} (h : Jst w K jb lb db g d V) (hok : g.ok fL) (x : UInt8) (hc : (apX g d fL [x]).2.1 = 0) : Calls Tryz.prog 14 #[.pointer (some ⟨jb, 0, none⟩), .slice (some ⟨V.heap.size, 0, none⟩) 1 1] (V.alloc (.cells #[.int .u8 (x.toNat : Int)] 5 (1, 2))) fun e w' => e = .returned (.int .i64 0) ∧ Hid (Jst w K jb lb db (apJ g d fL [x]) (apX g d fL [x]).1 w') := by
  have hb : Below V.heap.size V (V.alloc (.cells #[.int .u8 (x.toNat : Int)] 5 (1, 2))) := (Below.refl _ V).alloc (Nat.le_refl _) _
  have h2 : Jst w K jb lb db g d (V.alloc (.cells #[.int .u8 (x.toNat : Int)] 5 (1, 2))) := ⟨h.1, h.2.1.below hb, h.2.2.trans (hb.mono h.2.2.size)⟩
  refine (append_any16 h2.2.1 hok V.heap.size 0 1 1 [x] rfl (by omega) (by omega) (.inr ⟨_, _, rfl, fun j hj => ?_⟩)).mono fun e w' h3 => ?_
  · simp only [List.length_cons, List.length_nil] at hj
    obtain rfl : j = 0 := by omega
    rw [Lib.cell_of_heap (heap_alloc_new V _)]
    rfl
  · obtain ⟨h4, h5⟩ := h3
    exact ⟨by rw [h4, hc], hidb (jst_step h2 h5.out.1 h5.out.2)⟩
theorem jst_sync {w V : World} {K : Nat → Prop} {jb lb db : Nat} {g : Jn} {d : Dk} (h : Jst w K jb lb db g d V) (hc : syE g d fL = 0) : Calls Tryz.prog 15 #[.pointer (some ⟨jb, 0, none⟩)] V fun e w' => e = .returned (.int .i64 0) ∧ Hid (Jst w K jb lb db g (syD g d fL) w') :=
  (jsync_any16 h.2.1).mono fun e w' ⟨h1, h2⟩ => ⟨by rw [h1, hc], hidb (jst_step h h2.out.1 h2.out.2)⟩
theorem kn_open1 {w V : World} {db : Nat} (h1 : DkAt (fun k => k < w.heap.size) db (newD 10) V) (h2 : Below w.heap.size w V) : Calls Tryz.prog 12 #[.pointer (some ⟨db, 0, none⟩), .string ⟨#[108, 111, 103]⟩] V fun e W => ∃ K jb lb a c, e = .returned (.tuple #[.pointer (some ⟨jb, 0, none⟩), .slice a 0 c, .int .i64 0]) ∧ Hid (Jst w K jb lb db gA dA W) := by
  refine (open_any16 h1 fL (by decide) kn_name kn_r1).mono fun e W h => ?_
  rcases h with ⟨_, h3, _⟩ | ⟨_, z, jb, lb, a, n, c, cs, q1, q2, q3, rfl, hH⟩
  · exact absurd kn_o1 h3
  obtain ⟨p1, p2, p3, p4, p5⟩ := hH.out
  rw [kn_s1] at p3
  have hcs : cs = [] := List.eq_nil_of_length_eq_zero p3
  subst hcs
  obtain ⟨a', c', e', _, _, _⟩ := row_form p2
  injection e' with e1 e2 e3
  subst e2
  have hz := h2.size
  exact ⟨_, jb, lb, a, c, rfl, hidb ⟨fun k hk => ⟨.inl hk, by omega⟩, p1, h2.trans (Kt.low p5 h2.size fun i hi hn => hn hi)⟩⟩
theorem kn_open2 {w V : World} {K : Nat → Prop} {db : Nat} (hK : ∀ k, k < w.heap.size → K k) (h1 : DkAt K db dE V) (h2 : Below w.heap.size w V) : Calls Tryz.prog 12 #[.pointer (some ⟨db, 0, none⟩), .string ⟨#[108, 111, 103]⟩] V fun e W => ∃ K2 jb lb g c xa xc, e = .returned (.tuple #[.pointer (some ⟨jb, 0, none⟩), .slice (some ⟨g, 0, none⟩) 1 c, .int .i64 0]) ∧ W.cell? ⟨g, 0, none⟩ = some (.slice xa 1 xc) ∧ Hid (Bs W xa [97] ∧ Jst w K2 jb lb db (opJ dE fL) (opD dE fL) W) := by
  refine (open_any16 h1 fL (by decide) kn_name kn_r2).mono fun e W h => ?_
  rcases h with ⟨h3, _, _⟩ | ⟨_, z, jb, lb, a, n, c, cs, q1, q2, q3, rfl, hH⟩
  · exact absurd kn_o2 h3
  obtain ⟨p1, p2, p3, p4, p5⟩ := hH.out
  rw [kn_s2] at p3 p4
  obtain ⟨x, hx⟩ : ∃ x, cs = [x] := by
    cases cs with
    | nil => cases p3
    | cons x r => cases r with
      | nil => exact ⟨x, rfl⟩
      | cons y r => simp at p3
  subst hx
  obtain ⟨rfl, g, rfl, hg⟩ := own_one16 p2
  obtain ⟨xa, xc, hv, _, _, hB, _, _⟩ := Own.bs (p4 0 x [97] rfl rfl)
  subst hv
  have hz := h2.size
  exact ⟨_, jb, lb, g, c, xa, xc, rfl, hg, hidb ⟨hB, fun k hk => ⟨.inl (hK k hk), by omega⟩, p1, h2.trans (Kt.low p5 h2.size fun i hi hn => hn (hK i hi))⟩⟩
theorem kn_crash {w V : World} {K : Nat → Prop} {jb lb db : Nat} {g : Jn} {d : Dk} (h : Jst w K jb lb db g d V) : Calls Tryz.prog 23 #[.pointer (some ⟨db, 0, none⟩), .slice none 0 0] V fun e w' => e = .returned (.tuple #[]) ∧ Hid (DkAt K db (crD d []) w' ∧ Below w.heap.size w w') :=
  (dcrash_any h.2.1.dk none 0 0 [] ⟨none, 0, rfl, Nat.le_refl _, by decide, .inl rfl⟩).mono fun e w' ⟨h1, h2⟩ => ⟨h1, hidb ⟨h2.out.1, h.2.2.trans (Kt.low h2.out.2 h.2.2.size fun i hi hn => hn (h.1 i hi).1)⟩⟩
set_option maxHeartbeats 4000000 in
set_option maxRecDepth 100000 in
theorem knows_any16 (w : World) : Calls Tryz.prog 11 #[] w fun e w' => e = .returned (.bool true) ∧ Below w.heap.size w w' := by
  have HD := hidb (disk_any16 10 (by omega) (by omega) w)
  go_enter Tryz.func11, Tryz.ntmps11
  go_upto_region 3 with (first
    | (go_at_call 18; refine HD.out.mono ?_; clear HD; rintro e V0 ⟨db, rfl, h0⟩)
    | (go_at_call 12; refine (kn_open1 h0.out.1 h0.out.2).mono ?_; rintro e V1 ⟨K, jb, lb, a, c, rfl, h1⟩; clear h0)
    | fail)
  have HA := hidb (jst_append h1.out kn_okA 97 kn_a)
  have HS : Hid (∀ V, Hid (Jst w K jb lb db gB dB V) → _) := hidb fun V h => jst_sync h.out kn_s
  have HB : Hid (∀ V, Hid (Jst w K jb lb db gB dC V) → _) := hidb fun V h => jst_append h.out kn_okB 98 kn_b
  have hc1 : ∀ (V : World) (x : Int), (convert 29 29 (.slice (some ⟨V.heap.size, 0, none⟩) 1 1)).run Tryz.prog (V.alloc (.cells #[.int .u8 x] 5)) = .ok (.slice (some ⟨V.heap.size, 0, none⟩) 1 1) (V.alloc (.cells #[.int .u8 x] 5 (1, 2))) := fun V x => Lib.run_convert_bytes_const V 29 5 #[.int .u8 x] 1 1 Tryz.underlying29 Tryz.underlying5
  go_wp2_with (first
    | (go_at_call 13; refine (num_any16 _ _).mono ?_; rintro e Vn ⟨rfl, e2⟩; obtain rfl := e2.symm)
    | (go_at_call 14; refine HA.out.mono ?_; clear HA; rintro e V2 ⟨rfl, h2⟩)
    | (go_at_call 15; refine (HS.out _ h2).mono ?_; clear HS; rintro e V3 ⟨rfl, h3⟩)
    | (go_at_call 14; refine (HB.out _ h3).mono ?_; clear HB; rintro e V4 ⟨rfl, h4⟩)
    | (go_at_call 23; refine (kn_crash h4.out).mono ?_; rintro e V5 ⟨rfl, h5⟩)
    | (go_at_call 12; refine (kn_open2 (fun k hk => (h4.out.1 k hk).1) h5.out.1 h5.out.2).mono ?_; rintro e V6 ⟨K2, jb2, lb2, g6, c6, xa, xc, rfl, hx, h6⟩; have hcv : (convert 29 9 (.slice xa 1 xc)).run Tryz.prog V6 = .ok (.string ⟨#[97]⟩) V6 := run_str h6.out.1 xc)
    | (go_at_call 16; refine (jlen_any16 h6.out.2.2.1).mono ?_; rintro e V7 ⟨rfl, e7⟩; obtain rfl := e7.symm; rw [kn_cnt])
    | (go_at_call 17; refine (jepoch_any16 h6.out.2.2.1).mono ?_; rintro e V8 ⟨rfl, e8⟩; obtain rfl := e8.symm; rw [kn_ep])
    | fail)
  go_ret
  exact ⟨rfl, h6.out.2.2.2⟩
end Go.Proofs.YthmjejmignangaaGreatDoor
namespace Go.Proofs.YthmjejmignangaaGreatDoor
open Go.RowKit
theorem elem_sec16 : ElemN Tryz.prog 26 76 2 24 := by
  obtain ⟨i0, hi, hz0, hz1, hz2⟩ := info_parts (show (Tryz.prog.info? 76).map (fun i => (i.zero, i.size, i.bytes)) = some (some (.agg #[.string ⟨#[]⟩, .bool false]), 2, 24) by kernel_rfl)
  exact ⟨Tryz.underlying26, ⟨i0, _, hi, hz0, hz1, hz2, rfl⟩, by decide⟩
theorem step_appN16 {P : Program} {ops : Array Oper} {o : Oper} {a : Act} {w : World} {K : Act → World → Prop} {Q : Exit → Act → World → Prop} {X : Prop} (hgd : o.guard = none) (s x : Operand) (t : TypeId) (ho : o.op = .call { callee := .builtin .append, args := #[s, x], argTypes := #[t, t] })
    {e : TypeId} {size bytes : Nat} (E : ElemN P t e size bytes) (base : Nat) (v : Value) (n : Nat) (xs : List Value) (hv : a.eval s = v) (hown : w.ownsRow base e size v n xs) (y : Value) (hy : a.eval x = y) (m : Nat) (news : List Value) (hL : Lies w y m news) (hl : news.length = m * size) (h1 : ∀ u ∈ news, u.oneCell' = true)
    (h63 : n + m ≤ maxLen) (hbytes : (n + m) * bytes ≤ 140737488355328) (hbase : base ≤ w.heap.size)
    (h : ∀ v' w', w'.ownsRow base e size v' (n + m) (xs ++ news) → Step w v w' v' → K (a.put o.dst v') w') :
    if Region.wanted o (yielded ops a.tmps) = true then Oper.wp P o a w K Q else X := by
  have hw : Region.wanted o (yielded ops a.tmps) = true := by simp [Region.wanted, hgd]
  rw [if_pos hw]
  obtain ⟨v', w', hr, h2, h3⟩ := run_appN (P := P) w (ty := o.type) E base v n xs hown y m news hL hl h1 h63 hbytes hbase
  unfold Oper.wp
  simp [execOp, ho, resolve, invoke, builtin, hv, hy, hr, Result.andThen]
  exact h v' w' h2 h3
theorem cells_new16 (w : World) (l : List Value) (t : TypeId) : ∀ j u, l[j]? = some u → (w.alloc (.cells l.toArray t)).cell? ((⟨w.heap.size, 0, none⟩ : Addr).add j) = some u := fun j u hu => by
  rw [Addr.add_lit, Lib.cell_of_heap (heap_alloc_new w _)]
  simpa using hu
set_option maxRecDepth 100000 in
set_option maxHeartbeats 2000000 in
theorem ours_any16 (a : Option Addr) (n c : Nat) (L : List Sec) (w : World) (hn : L.length = n) (hN : SecO w a L) (hm : n ≤ 5864062014805) : Calls Tryz.prog 9 #[.slice a n c] w fun e w' => ∃ va vc, e = .returned (.slice va n vc) ∧ Hid (SecJ w' va L ∧ (∀ q, va = some ⟨q, 0, none⟩ → w.heap.size ≤ q ∧ q < w'.heap.size) ∧ Below w.heap.size w w') := by
  have HN := hidb hn
  have HZ := hidb hN
  clear hn hN
  go_enter Tryz.func9, Tryz.ntmps9
  go_wp2_with fail
  go_loopw [3, 4] (fun v iv wr => ∃ k : Nat, iv = .int .i64 k ∧ k ≤ n ∧ Hid (wr.ownsRow w.heap.size 76 2 v k (secCs (L.take k))) ∧ Hid (Below w.heap.size w wr)) (fun _ iv _ => n - (intOf iv).toNat)
  case atStart => exact ⟨0, rfl, Nat.zero_le _, hidb (by rw [List.take_zero]; exact World.ownsRow_nil _ _ _ _), hidb (Below.refl _ _)⟩
  case round =>
    obtain ⟨k, rfl, hk, HR, HB⟩ := hrel
    by_cases hlt : k < n
    · have hkl : k < L.length := by rw [HN.out]; exact hlt
      obtain ⟨y, hy⟩ : ∃ y, L[k]? = some y := ⟨L[k], List.getElem?_eq_getElem _⟩
      obtain ⟨ra, rc, rfl, _, _, _⟩ := row_form HR.out
      have HP : Hid (secCs (L.take (k + 1)) = secCs (L.take k) ++ [sv y.b, .bool y.bad]) := hidb (by rw [List.take_add_one, hy]; exact secCs_app _ _)
      obtain ⟨q, o, rfl, hq, z0, z1⟩ := secO_keep (W' := wr) HZ.out (fun q o hq h1 => HB.out.block _ h1) k y hy
      obtain ⟨yb, yd⟩ := y
      simp only at HP z0 z1
      have hbs := HB.out.size
      generalize secCs (L.take k) = C1 at *
      have hj0 : (0 : Int) ≤ (k : Int) := by omega
      have hj1 : (k : Int) < (n : Int) := by omega
      have u0 : wr.drew.cell? ⟨q, o + k * 2, none⟩ = some (sv yb) := z0
      have u1 : wr.drew.cell? ⟨q, o + k * 2 + 1, none⟩ = some (.bool yd) := z1
      clear hy hkl
      go_wp2_with fail
      go_region_law (refine step_appN16 (by rfl) (.tmp 11) (.tmp 23) 26 (by rfl) elem_sec16 w.heap.size (.slice ra k rc) k C1 (by rfl) (World.ownsRow.alloc (World.ownsRow.drew HR.out) _) _ (by rfl) 1 [sv yb, .bool yd] (.inr ⟨⟨_, 0, none⟩, 1, rfl, cells_new16 _ [sv yb, .bool yd] 76⟩) rfl (by simp [Value.oneCell']) (by simp only [maxLen]; omega) (by omega) (by simp; omega) ?_; intro v' w6 hr6 hs6)
      all_goals
        have hB6 : Below w.heap.size w w6 := ((HB.out.alloc hbs _).drew).trans (⟨hs6.1.os, hs6.1.tape, hs6.1.output, hs6.1.size, fun i hi => hs6.1.block i (by simp; omega) fun e => by have := (HR.out.lt i e.symm).1; omega⟩)
        simp [Act.put]
        go_wp2_with fail
        exact ⟨⟨k + 1, by go_num, by omega, by rw [HP.out]; exact hidb hr6, hidb hB6⟩, by simp [intOf]; omega⟩
    · have e : L.take k = L := List.take_of_length_le (by rw [HN.out]; omega)
      have hkn : k = n := by omega
      subst hkn
      have hR := HR.out
      rw [e] at hR
      obtain ⟨ra, rc, rfl, _, _, _⟩ := row_form HR.out
      have hJ := secJ_row hR
      have HE := hidb (And.intro hJ.1 (And.intro hJ.2 HB.out))
      clear hJ hR HR
      go_wp2_with fail
      go_ret
      exact ⟨_, _, rfl, HE⟩
end Go.Proofs.YthmjejmignangaaGreatDoor
namespace Go.Proofs.YthmjejmignangaaGreatDoor
open Go.RowKit
/-- A row of rows of bytes: the records. -/
theorem recs_at {W : World} {base : Nat} {a : Option Addr} {n c : Nat} {cs : List Value} {rs : List Bt} (h1 : Own W base 29 (.slice a n c) cs) (h2 : cs.length = rs.length) (h3 : ∀ (j : Nat) (x : Value) (r : Bt), cs[j]? = some x → rs[j]? = some r → Own W base 5 x (r.map bv)) : n = rs.length ∧ ∀ (k : Nat) (r : Bt), rs[k]? = some r → ∃ g xa xc, a = some ⟨g, 0, none⟩ ∧ W.cell? ⟨g, k, none⟩ = some (.slice xa r.length xc) ∧ Bs W xa r := by
  obtain ⟨a', c', e, _, _, h4⟩ := row_form h1
  injection e with e1 e2 e3
  subst e1
  refine ⟨by rw [e2, h2], fun k r hr => ?_⟩
  have hk := (List.getElem?_eq_some_iff.1 hr).1
  obtain ⟨x, hx⟩ : ∃ x, cs[k]? = some x := ⟨cs[k]'(by omega), List.getElem?_eq_getElem _⟩
  obtain ⟨xa, xc, hv, _, _, hB, _, _⟩ := Own.bs (h3 k x r hx hr)
  subst hv
  rcases h4 with ⟨_, h0, _⟩ | ⟨g, e, _, _, hc⟩
  · omega
  · exact ⟨g, xa, xc, e, hc k _ hx, hB⟩
theorem tRun_len : ∀ (l : List (Prt × Bool)) (s : TSt), (tRun s l).rs.length ≤ s.rs.length + l.length
  | [], s => Nat.le_refl _
  | x :: l, s => by
    simp only [tRun]
    split
    · refine Nat.le_trans (tRun_len l _) ?_
      have : (tNext s x.1).rs.length ≤ s.rs.length + 1 := by
        unfold tNext
        split <;> simp
      simp only [List.length_cons]
      omega
    · simp
set_option maxRecDepth 100000 in
set_option maxHeartbeats 4000000 in
theorem mscans16_any (a : Option Addr) (n c : Nat) (L : List Sec) (w : World) (hn : L.length = n) (hN : SecO w a L) (hm : n ≤ 5864062014805) (hL : ∀ s ∈ L, s.b.length ≤ 9223372036854775807) :
    Calls Tryz.prog 3 #[.slice a n c] w fun e w' => e = .returned (.bool true) ∧ Below w.heap.size w w' := by
  have HO := hidb (ours_any16 a n c L w hn hN (by omega))
  have HS : Hid (∀ V va, SecJ V va L → (∀ q, va = some ⟨q, 0, none⟩ → q < V.heap.size) → ∀ vc, Calls Tryz.prog 8 #[.slice va n vc] V (ScanEnd (tRun tStart (L.map partS)) (mostE (L.map partS)) V)) := hidb fun V va h1 h2 vc => scan_any16 va vc n L hn hL hm V h1 h2
  have HD : Hid (∀ V, Below w.heap.size w V → Calls Tryz.prog 10 #[.slice a n c] V (ScanEnd (tRun tStart (L.map partS)) (mostE (L.map partS)) V)) := hidb fun V hV => rscan_any16 a c n L hn hL hm V (secO_keep hN fun q o hq h1 => hV.block _ h1)
  have HK := hidb knows_any16
  have hrl : (tRun tStart (L.map partS)).rs.length ≤ 9223372036854775806 := by
    have := tRun_len (L.map partS) tStart
    rw [List.length_map] at this
    simp only [tStart, List.length_nil, Nat.zero_add] at this ⊢
    omega
  clear hn hN hL
  generalize tRun tStart (L.map partS) = s at *
  generalize mostE (L.map partS) = most at *
  go_enter Tryz.func3, Tryz.ntmps3
  go_upto_region 3 with (first
    | (go_at_call 9; refine HO.out.mono ?_; clear HO; rintro e V1 ⟨va, vc, rfl, h1⟩)
    | (go_at_call 8; refine (HS.out V1 va h1.out.1 (fun q hq => (h1.out.2.1 q hq).2) vc).mono ?_; clear HS; rintro e V2 ⟨xv, xs, rfl, x1, x2, x3, x4⟩; obtain ⟨xa, xc, hxv, -⟩ := row_form x1; subst hxv; have hb2 : Below w.heap.size w V2 := h1.out.2.2.trans (x4.mono h1.out.2.2.size); have HX := hidb (recs_at x1 x2 x3))
    | (go_at_call 10; refine (HD.out _ hb2).mono ?_; clear HD; rintro e V3 ⟨yv, ys, rfl, y1, y2, y3, y4⟩; obtain ⟨ya, yc, hyv, -⟩ := row_form y1; subst hyv; have hb3 : Below w.heap.size w V3 := hb2.trans (y4.mono hb2.size); have HY := hidb (recs_at y1 y2 y3))
    | fail)
  obtain ⟨m, hmm⟩ : ∃ m, m = s.rs.length := ⟨_, rfl⟩
  rw [← hmm]
  have HM : Hid (∀ V, Below V3.heap.size V3 V → ∀ k, k < m → ∃ g h xa' xc' ya' yc' r, xa = some ⟨g, 0, none⟩ ∧ ya = some ⟨h, 0, none⟩ ∧ V.cell? ⟨g, k, none⟩ = some (.slice xa' r xc') ∧ V.cell? ⟨h, k, none⟩ = some (.slice ya' r yc') ∧ ∃ b : Bt, (convert 29 9 (.slice xa' r xc')).run Tryz.prog V = .ok (.string ⟨b.toArray⟩) V ∧ (convert 29 9 (.slice ya' r yc')).run Tryz.prog V = .ok (.string ⟨b.toArray⟩) V) := hidb fun V hV k hk => by
    obtain ⟨r, hr⟩ : ∃ r, s.rs[k]? = some r := ⟨s.rs[k]'(by omega), List.getElem?_eq_getElem _⟩
    obtain ⟨g, xa', xc', e1, e2, e3⟩ := HX.out.2 k r hr
    obtain ⟨h, ya', yc', e4, e5, e6⟩ := HY.out.2 k r hr
    have k23 := below_keep (y4.trans (hV.mono y4.size))
    have k3 := below_keep hV
    exact ⟨g, h, xa', xc', ya', yc', r.length, e1, e4, k23 _ _ e2, k3 _ _ e5, r, run_str (e3.keep k23) xc', run_str (e6.keep k3) yc'⟩
  have hml : m ≤ 9223372036854775806 := by omega
  have HB3 := hidb hb3
  clear x1 x2 x3 x4 y1 y2 y3 y4 HX HY h1 hb2 hb3 hmm hrl
  go_upto_region 6 with fail
  go_loopw [9] (fun iv wr => ∃ k : Nat, iv = .int .i64 k ∧ k ≤ m ∧ Hid (Below V3.heap.size V3 wr)) (fun iv _ => m - (intOf iv).toNat)
  case atStart => exact ⟨0, rfl, Nat.zero_le _, hidb (Below.refl _ _)⟩
  case round =>
    obtain ⟨k, rfl, hk, HB⟩ := hrel
    by_cases hkm : k < m
    · have hkm2 : (k : Int) < (m : Int) := by omega
      obtain ⟨g, h, xa', xc', ya', yc', r, rfl, rfl, c1, c2, b, v1, v2⟩ := HM.out wr HB.out k hkm
      obtain ⟨g', h', xa2, xc2, ya2, yc2, r2, e1, e2, d1, d2, b2, u1, u2⟩ := HM.out wr.drew HB.out.drew k hkm
      cases e1
      cases e2
      have q1 : (Value.slice xa2 r2 xc2) = .slice xa' r xc' := by have := d1.symm.trans (show wr.drew.cell? ⟨g, k, none⟩ = some (.slice xa' r xc') from c1); injection this
      have q2 : (Value.slice ya2 r2 yc2) = .slice ya' r yc' := by have := d2.symm.trans (show wr.drew.cell? ⟨h, k, none⟩ = some (.slice ya' r yc') from c2); injection this
      injection q1 with q3 q4 q5
      injection q2 with q6 q7 q8
      subst q3 q4 q5 q6 q8
      clear q7 d1 d2
      have c1' : wr.drew.cell? ⟨g, k, none⟩ = some (.slice xa2 r2 xc2) := c1
      have c2' : wr.drew.cell? ⟨h, k, none⟩ = some (.slice ya2 r2 yc2) := c2
      go_upto_region 8 with fail
      go_region_held3 (fun W => W.cell? ⟨g, k, none⟩ = some (.slice xa2 r2 xc2) ∧ W.cell? ⟨h, k, none⟩ = some (.slice ya2 r2 yc2) ∧ (convert 29 9 (.slice xa2 r2 xc2)).run Tryz.prog W = .ok (.string ⟨b2.toArray⟩) W ∧ (convert 29 9 (.slice ya2 r2 yc2)).run Tryz.prog W = .ok (.string ⟨b2.toArray⟩) W) (first | exact ⟨c1', c2', u1, u2⟩ | go_keep) (fail)
      all_goals
        go_wp2_with fail
        exact ⟨⟨k + 1, by simp, by omega, hidb HB.out.drew⟩, by simp [intOf]; omega⟩
    · obtain rfl : k = m := by omega
      go_wp2_with (first
        | (go_at_call 11; refine (HK.out _).mono ?_; rintro e V4 ⟨rfl, hb4⟩)
        | fail)
      go_ret
      have hbb := HB3.out.trans (HB.out.mono HB3.out.size)
      exact ⟨rfl, hbb.trans (hb4.mono hbb.size)⟩
end Go.Proofs.YthmjejmignangaaGreatDoor
namespace Go.Proofs.YthmjejmignangaaGreatDoor
set_option maxRecDepth 100000
open Go.ChangeShapes Go.WideShapes Go.ChangeAt Go.RowKit
/-- Sectors that came in. -/
theorem open_secs16 {H : Type} {enc : TypeId × Value → H} {w : World} {a0 : Option Addr} {len cap : Nat} {d0 : DataW H} {p0 : List MemPlace} (h : DataW.Trod enc Tryz.prog w 0 (fun _ => true) true 22 (.slice a0 len cap) d0 p0)
    {ts : List TypeId} {ds : List (DataW H)} (hsz : (DataW.weightsEach Tryz.prog ts ds).all (· ≤ reachBytes) = true) {j : Nat} (ht : ts[j]? = some 22) (hd : ds[j]? = some d0) :
    ∃ L : List Sec, L.length = len ∧ SecO w a0 L ∧ len ≤ 5864062014805 ∧ ∀ s ∈ L, s.b.length ≤ 9223372036854775807 := by
  obtain ⟨fuel, hf⟩ := h
  have hf' : DataW.trod enc Tryz.prog w 0 (fun _ => true) true fuel 22 [.slice a0 len cap] = some (d0, p0) := by simpa [Value.cells] using hf
  have hS : Sz (Rows.uptoBulk d0) Tryz.prog 22 d0 := ⟨fun k hk => by simpa using List.all_eq_true.1 hsz k (weightsEach_mem ht hd hk), Nat.le_refl _⟩
  have be : Tryz.prog.bytesOf 75 = 24 := by kernel_rfl
  have ce : Tryz.prog.cellsOf 75 = 2 := by kernel_rfl
  have ci : Tryz.prog.cellsOf 4 = 1 := by kernel_rfl
  have cs' : Tryz.prog.cellsOf 9 = 1 := by kernel_rfl
  obtain ⟨a1, len1, cap1, e, hl, hm0, hr⟩ := open_el Tryz.underlying22 (by rw [ce]; omega) hf' hS
  injection e with e1 e2 e3
  subst e1 e2 e3
  rw [be, reach_num] at hl
  rcases hr with rfl | ⟨b, off, rfl, hr⟩
  · exact ⟨[], rfl, fun k y hy => (by cases hy), by omega, fun x h => by cases h⟩
  have each : ∀ i, i < len → ∃ z : Sec, (w.cell? ⟨b, off + i * 2, none⟩ = some (sv z.b) ∧ w.cell? ⟨b, off + i * 2 + 1, none⟩ = some (.bool z.bad)) ∧ z.b.length ≤ 9223372036854775807 := fun i hi => by
    obtain ⟨cs, y, n, hc, hcell, ht, _⟩ := hr i hi
    rw [ce] at hcell hc
    obtain ⟨y0, y1, m, _, _, h0, h1⟩ := trod_struct2 Tryz.underlying75 ht
    match cs, hc with
    | [c0, c1], _ =>
      simp [ci, cs'] at h0 h1
      obtain ⟨z0, e0, _, hw⟩ := DataW.trod_string Tryz.underlying9 h0
      obtain ⟨z1, e1, _⟩ := DataW.trod_bool Tryz.underlying4 h1
      simp only [List.cons.injEq, and_true] at e0 e1
      subst e0 e1
      obtain ⟨⟨l⟩⟩ := z0
      exact ⟨⟨l, z1⟩, ⟨by simpa using hcell 0 (by omega), by have := hcell 1 (by omega); rw [← Nat.add_assoc] at this; simpa using this⟩, hw⟩
  haveI : Inhabited Sec := ⟨noSec⟩
  obtain ⟨z, hz⟩ := Go.Deep.choose_lt each
  have hblk : ∀ i, i < len → b < w.heap.size := fun i hi => World.block_lt_of_cell? _ _ (hz i hi).1.1
  refine ⟨(List.range len).map z, by simp, fun k y hy => ?_, by omega, fun x hx => ?_⟩
  · rw [List.getElem?_map] at hy
    have hk := (List.getElem?_eq_some_iff.1 (show ((List.range len).map z)[k]? = some y by rw [List.getElem?_map]; exact hy)).1
    simp at hk
    rw [List.getElem?_range hk] at hy
    injection hy with hy
    subst hy
    exact ⟨b, off, rfl, hblk k hk, (hz k hk).1.1, (hz k hk).1.2⟩
  · obtain ⟨j, hj, rfl⟩ := List.mem_map.1 hx
    exact (hz j (List.mem_range.1 hj)).2
def laidList16 : List (String × DataW Unit) := [("unicode/utf8.acceptRanges", Rows.laid_unicode_utf8_acceptRanges), ("unicode/utf8.first", Rows.laid_unicode_utf8_first)]
def litsOf16 : DataW Unit → Array Value
  | .agg l => (l.map fun
    | .lit (.int k z) => [Value.int k z]
    | .agg r => r.map fun
      | .lit (.int k z) => Value.int k z
      | _ => undef
    | _ => []).flatten.toArray
  | _ => #[]
def putVar16 (cs : Array Value) : Obj → Obj
  | .cells _ t frozen => .cells cs t frozen
  | o => o
/-- A world for the witness: the settled one, the variables holding what their initialisers lay. -/
noncomputable def laidWorld16 (os : Os) : World :=
  let w0 := World.holding Tryz.prog os ⟨#[], #[], []⟩
  { w0 with heap := (w0.heap.modify 2 (putVar16 (litsOf16 Rows.laid_unicode_utf8_acceptRanges))).modify 1 (putVar16 (litsOf16 Rows.laid_unicode_utf8_first)) }
theorem laid_met16 (os : Os) (args : Array Value) : laidMet Tryz.prog laidList16 ((laidWorld16 os).forCall (fun _ _ => 0) ⟨#[], args, []⟩).memory :=
  laidMet_of_run' 20 (by kernel_rfl) (by kernel_rfl)
end Go.Proofs.YthmjejmignangaaGreatDoor
