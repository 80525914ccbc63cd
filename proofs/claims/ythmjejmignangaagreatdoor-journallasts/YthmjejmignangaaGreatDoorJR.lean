/- Layer 16, plain: record by record comes to the same as part by part. Layer 16: the document's one: the record that begins at a place. -/
import Derived.Test.YthmjejmignangaaGreatDoorJP
import Derived.Test.YthmjejmignangaaGreatDoorJQ
namespace Go.Proofs.YthmjejmignangaaGreatDoor
open Go.RowKit
/-- Is the j-th of these part j of the record that begins with f? -/
def okAt (R : List (Prt × Bool)) (number : Int) (f : Prt) (j : Nat) : Bool := match R[j]? with
  | some x => x.2 && (decide (x.1.n = number) && (decide (x.1.e = f.e) && (decide (x.1.c = f.c) && decide (x.1.i = j))))
  | none => false
/-- The bytes of the first k. -/
def flatR (R : List (Prt × Bool)) (k : Nat) : Bt := (R.take k).flatMap fun x => x.1.b
def headOk (R : List (Prt × Bool)) (number least : Int) (x : Prt × Bool) : Bool := x.2 && (decide (x.1.n = number) && (decide (least ≤ x.1.e) && (decide (x.1.i = 0) && decide (x.1.c ≤ R.length))))
def allOk (R : List (Prt × Bool)) (number : Int) (f : Prt) (k : Nat) : Bool := (List.range k).all fun j => okAt R number f j
/-- The record that begins with these: bytes, how many parts, epoch. -/
def oneR (R : List (Prt × Bool)) (number least : Int) : Option (Bt × Int × Int) := match R with
  | [] => none
  | x :: r => if headOk (x :: r) number least x && allOk (x :: r) number x.1 x.1.c.toNat then some (flatR (x :: r) x.1.c.toNat, x.1.c, x.1.e) else none
theorem oneR_head {R : List (Prt × Bool)} {x : Prt × Bool} (h : R[0]? = some x) (number least : Int) : oneR R number least = if headOk R number least x && allOk R number x.1 x.1.c.toNat then some (flatR R x.1.c.toNat, x.1.c, x.1.e) else none := by
  cases R with
  | nil => cases h
  | cons y r => cases h; rfl
theorem oneR_bad {R : List (Prt × Bool)} {x : Prt × Bool} (h : R[0]? = some x) {number least : Int} (hb : headOk R number least x = false) : oneR R number least = none := by
  rw [oneR_head h, hb]; rfl
theorem oneR_bad2 {R : List (Prt × Bool)} {x : Prt × Bool} (h : R[0]? = some x) {number least : Int} {j : Nat} (hj : (j : Int) < x.1.c) (hb : okAt R number x.1 j = false) : oneR R number least = none := by
  rw [oneR_head h, if_neg]
  rw [Bool.and_eq_true]
  rintro ⟨_, h2⟩
  have := (List.all_eq_true.1 h2) j (by simp; omega)
  rw [hb] at this
  cases this
theorem allOk_iff {R : List (Prt × Bool)} {number : Int} {f : Prt} {k : Nat} : allOk R number f k = true ↔ ∀ j < k, okAt R number f j = true := by
  unfold allOk
  rw [List.all_eq_true]
  simp
theorem okAt_facts {R : List (Prt × Bool)} {number : Int} {f : Prt} {j : Nat} (h : okAt R number f j = true) : ∃ x, R[j]? = some x ∧ x.2 = true ∧ x.1.n = number ∧ x.1.e = f.e ∧ x.1.c = f.c ∧ x.1.i = j := by
  unfold okAt at h
  split at h
  · rename_i x hx
    simp only [Bool.and_eq_true, decide_eq_true_eq] at h
    exact ⟨x, hx, h.1, h.2.1, h.2.2.1, h.2.2.2.1, h.2.2.2.2⟩
  · cases h
theorem okAt_of {R : List (Prt × Bool)} {j : Nat} {x : Prt × Bool} (h : R[j]? = some x) (number : Int) (f : Prt) : okAt R number f j = (x.2 && (decide (x.1.n = number) && (decide (x.1.e = f.e) && (decide (x.1.c = f.c) && decide (x.1.i = j))))) := by
  unfold okAt
  rw [h]
theorem allOk_succ {R : List (Prt × Bool)} {number : Int} {f : Prt} {k : Nat} (h : allOk R number f k = true) (h2 : okAt R number f k = true) : allOk R number f (k + 1) = true := allOk_iff.2 fun j hj => by
  by_cases e : j = k
  · rw [e]; exact h2
  · exact allOk_iff.1 h j (by omega)
theorem flatR_succ {R : List (Prt × Bool)} {k : Nat} {x : Prt × Bool} (h : R[k]? = some x) : flatR R (k + 1) = flatR R k ++ x.1.b := by
  unfold flatR
  rw [List.take_add_one, h]
  simp
/-- In the midst of a record, k of its parts are told. -/
theorem tRun_mid (number : Int) (f : Prt) (R : List (Prt × Bool)) (rs : List Bt) (en : Int) : ∀ (m k : Nat) (a : Prt), (k : Int) + m = f.c → 1 ≤ m → 1 ≤ k → a.i = (k : Int) - 1 → a.e = f.e → a.n = number → a.c = f.c →
    ((∀ j, k ≤ j → j < k + m → okAt R number f j = true) → ∃ a', tRun ⟨a, flatR R k, rs, en⟩ (R.drop k) = tRun ⟨a', flatR R (k + m), rs ++ [flatR R (k + m)], en + f.c⟩ (R.drop (k + m)) ∧ a'.last = true ∧ a'.n = number ∧ a'.e = f.e) ∧
    (¬ (∀ j, k ≤ j → j < k + m → okAt R number f j = true) → (tRun ⟨a, flatR R k, rs, en⟩ (R.drop k)).rs = rs ∧ (tRun ⟨a, flatR R k, rs, en⟩ (R.drop k)).en = en) := by
  intro m
  induction m with
  | zero => intro k a h1 h2; omega
  | succ m ih =>
    intro k a h1 _ hk ha1 ha2 ha3 ha4
    have hal : a.last = false := by
      unfold Prt.last
      exact decide_eq_false (by omega)
    cases hR : R[k]? with
    | none =>
      have hd : R.drop k = [] := List.drop_eq_nil_of_le (List.getElem?_eq_none_iff.1 hR)
      rw [hd]
      exact ⟨fun h => (by have := okAt_facts (h k (Nat.le_refl _) (by omega)); rw [hR] at this; obtain ⟨x, hx, _⟩ := this; cases hx), fun _ => ⟨rfl, rfl⟩⟩
    | some x =>
      have hlt := (List.getElem?_eq_some_iff.1 hR).1
      have hx := (List.getElem?_eq_some_iff.1 hR).2
      have hd : R.drop k = x :: R.drop (k + 1) := by rw [← hx]; exact List.drop_eq_getElem_cons hlt
      have htok : tOk ⟨a, flatR R k, rs, en⟩ x = okAt R number f k := by
        unfold tOk okAt Prt.fol
        rw [hR, hal]
        simp only [Bool.false_eq_true, if_false]
        rw [Bool.eq_iff_iff]
        simp only [Bool.and_eq_true, decide_eq_true_eq, ha2, ha3, ha4]
        exact ⟨fun ⟨q1, q2, q3, q4, q5⟩ => ⟨q1, q4, q3, q5, by omega⟩, fun ⟨q1, q2, q3, q4, q5⟩ => ⟨q1, by omega, q3, q2, q4⟩⟩
      rw [hd]
      by_cases hok : okAt R number f k = true
      · obtain ⟨x', hx', f1, f2, f3, f4, f5⟩ := okAt_facts hok
        rw [hR] at hx'
        cases hx'
        have hrec : recN ⟨a, flatR R k, rs, en⟩ x.1 = flatR R (k + 1) := by
          unfold recN
          rw [if_neg (by omega), flatR_succ hR]
        simp only [tRun]
        rw [htok, if_pos hok]
        by_cases hm : m = 0
        · subst hm
          have hxl : x.1.last = true := by unfold Prt.last; exact decide_eq_true (by omega)
          refine ⟨fun _ => ⟨x.1, ?_, hxl, f2, f3⟩, fun h => absurd (fun j h1 h2 => (by have e : j = k := (by omega); rw [e]; exact hok)) h⟩
          unfold tNext
          rw [if_pos hxl, hrec, f4]
        · have hxl : x.1.last = false := by unfold Prt.last; exact decide_eq_false (by omega)
          have hn : tNext ⟨a, flatR R k, rs, en⟩ x.1 = ⟨x.1, flatR R (k + 1), rs, en⟩ := by
            unfold tNext
            rw [hxl, hrec]
            rfl
          rw [hn]
          have := ih (k + 1) x.1 (by omega) (by omega) (by omega) (by omega) f3 f2 f4
          rw [show k + 1 + m = k + (m + 1) by omega] at this
          exact ⟨fun hall => this.1 fun j h1 h2 => hall j (by omega) h2, fun hall => this.2 fun h => hall fun j h1 h2 => by
            by_cases e : j = k
            · rw [e]; exact hok
            · exact h j (by omega) h2⟩
      · refine ⟨fun h => absurd (h k (Nat.le_refl _) (by omega)) hok, fun _ => ?_⟩
        simp only [tRun]
        rw [htok, if_neg hok]
        exact ⟨rfl, rfl⟩
theorem tRun_one (s : TSt) (R : List (Prt × Bool)) (number least : Int) (hl : s.ah.last = true) (hn : s.ah.n + 1 = number) (hle : ∀ e : Int, 1 ≤ e → (s.ah.e ≤ e ↔ least ≤ e)) (hP : ∀ x ∈ R, PFact x) :
    match oneR R number least with
    | none => (tRun s R).rs = s.rs ∧ (tRun s R).en = s.en
    | some (b, c, e) => (∃ a', tRun s R = tRun ⟨a', b, s.rs ++ [b], s.en + c⟩ (R.drop c.toNat) ∧ a'.last = true ∧ a'.n = number ∧ a'.e = e) ∧ 1 ≤ c ∧ c ≤ 4096 ∧ c ≤ R.length ∧ 1 ≤ e := by
  cases R with
  | nil => exact ⟨rfl, rfl⟩
  | cons x r =>
    have hfx := hP x (List.mem_cons_self ..)
    have htok : tOk s x = true ↔ x.2 = true ∧ x.1.n = number ∧ least ≤ x.1.e ∧ x.1.i = 0 := by
      unfold tOk Prt.fol
      rw [hl]
      simp only [if_true, Bool.and_eq_true, decide_eq_true_eq]
      constructor
      · rintro ⟨h1, h2, h3, h4⟩
        have hm := (hfx.2 h1).1
        have he : 1 ≤ x.1.e := by
          unfold Prt.may stmpB at hm
          simp only [Bool.and_eq_true, decide_eq_true_eq] at hm
          exact hm.1.1
        exact ⟨h1, by omega, (hle _ he).1 h4, h2⟩
      · rintro ⟨h1, h2, h3, h4⟩
        have hm := (hfx.2 h1).1
        have he : 1 ≤ x.1.e := by
          unfold Prt.may stmpB at hm
          simp only [Bool.and_eq_true, decide_eq_true_eq] at hm
          exact hm.1.1
        exact ⟨h1, h4, by omega, (hle _ he).2 h3⟩
    by_cases hok : tOk s x = true
    · obtain ⟨h1, h2, h3, h4⟩ := htok.1 hok
      have hm := (hfx.2 h1).1
      obtain ⟨_, hc2, hic⟩ := may_facts hm
      have he : 1 ≤ x.1.e := by
        unfold Prt.may stmpB at hm
        simp only [Bool.and_eq_true, decide_eq_true_eq] at hm
        exact hm.1.1
      have hR0 : (x :: r)[0]? = some x := rfl
      have hok0 : okAt (x :: r) number x.1 0 = true := by
        unfold okAt
        rw [hR0]
        simp [h1, h2, h4]
      have hrec : recN s x.1 = flatR (x :: r) 1 := by
        unfold recN flatR
        rw [if_pos h4]
        simp
      have hrun : tRun s (x :: r) = tRun (tNext s x.1) r := by simp only [tRun]; rw [if_pos hok]
      obtain ⟨c, hc⟩ : ∃ c : Nat, (c : Int) = x.1.c := ⟨x.1.c.toNat, by omega⟩
      have hct : x.1.c.toNat = c := by omega
      have hlen : (∀ j < c, okAt (x :: r) number x.1 j = true) → x.1.c ≤ ((x :: r).length : Nat) := fun h => by
        obtain ⟨y, hy, _⟩ := okAt_facts (h (c - 1) (by omega))
        have := (List.getElem?_eq_some_iff.1 hy).1
        omega
      by_cases hall : ∀ j < c, okAt (x :: r) number x.1 j = true
      · have hsome : oneR (x :: r) number least = some (flatR (x :: r) c, x.1.c, x.1.e) := by
          unfold oneR
          simp only [hct]
          rw [if_pos]
          rw [Bool.and_eq_true]
          refine ⟨?_, allOk_iff.2 hall⟩
          unfold headOk
          simp only [Bool.and_eq_true, decide_eq_true_eq]
          exact ⟨h1, h2, h3, h4, hlen hall⟩
        rw [hsome]
        refine ⟨?_, by omega, hc2, hlen hall, he⟩
        rw [hrun, hct]
        by_cases hc1 : c = 1
        · have hxl : x.1.last = true := by unfold Prt.last; exact decide_eq_true (by omega)
          refine ⟨x.1, ?_, hxl, h2, rfl⟩
          unfold tNext
          rw [if_pos hxl, hrec, hc1]
          rfl
        · have hxl : x.1.last = false := by unfold Prt.last; exact decide_eq_false (by omega)
          have hnx : tNext s x.1 = ⟨x.1, flatR (x :: r) 1, s.rs, s.en⟩ := by
            unfold tNext
            rw [hxl, hrec]
            rfl
          have := tRun_mid number x.1 (x :: r) s.rs s.en (c - 1) 1 x.1 (by omega) (by omega) (Nat.le_refl _) (by omega) rfl h2 rfl
          rw [show 1 + (c - 1) = c by omega] at this
          rw [hnx]
          exact this.1 fun j j1 j2 => hall j (by omega)
      · have hnone : oneR (x :: r) number least = none := by
          unfold oneR
          simp only [hct]
          rw [if_neg]
          rw [Bool.and_eq_true]
          exact fun h => hall (allOk_iff.1 h.2)
        rw [hnone]
        rw [hrun]
        by_cases hc1 : c = 1
        · exact absurd (fun j (hj : j < c) => by
            have e : j = 0 := by omega
            rw [e]
            exact hok0) hall
        · have hxl : x.1.last = false := by unfold Prt.last; exact decide_eq_false (by omega)
          have hnx : tNext s x.1 = ⟨x.1, flatR (x :: r) 1, s.rs, s.en⟩ := by
            unfold tNext
            rw [hxl, hrec]
            rfl
          have := tRun_mid number x.1 (x :: r) s.rs s.en (c - 1) 1 x.1 (by omega) (by omega) (Nat.le_refl _) (by omega) rfl h2 rfl
          rw [hnx]
          exact this.2 fun h => hall fun j hj => by
            by_cases e : j = 0
            · rw [e]; exact hok0
            · exact h j (by omega) (by omega)
    · have hnone : oneR (x :: r) number least = none := by
        unfold oneR
        simp only
        rw [if_neg]
        rw [Bool.and_eq_true]
        rintro ⟨h, _⟩
        unfold headOk at h
        simp only [Bool.and_eq_true, decide_eq_true_eq] at h
        exact hok (htok.2 ⟨h.1, h.2.1, h.2.2.1, h.2.2.2.1⟩)
      rw [hnone]
      simp only [tRun]
      rw [if_neg hok]
      exact ⟨rfl, rfl⟩
#print axioms tRun_one
end Go.Proofs.YthmjejmignangaaGreatDoor
namespace Go.Proofs.YthmjejmignangaaGreatDoor
open Go.RowKit
/-- Sectors lie there, from wherever. -/
def SecO (W : World) (a : Option Addr) (S : List Sec) : Prop := ∀ k y, S[k]? = some y → ∃ q o, a = some ⟨q, o, none⟩ ∧ q < W.heap.size ∧ W.cell? ⟨q, o + k * 2, none⟩ = some (sv y.b) ∧ W.cell? ⟨q, o + k * 2 + 1, none⟩ = some (.bool y.bad)
theorem secO_keep {W W' : World} {a : Option Addr} {S : List Sec} (h : SecO W a S) (hk : ∀ q o, a = some ⟨q, o, none⟩ → q < W.heap.size → W'.heap[q]? = W.heap[q]?) : SecO W' a S := by
  intro k y hy
  obtain ⟨q, o, q1, q2, q3, q4⟩ := h k y hy
  have e := hk q o q1 q2
  refine ⟨q, o, q1, ?_, ?_, ?_⟩
  · rw [Array.getElem?_eq_getElem q2] at e
    exact (Array.getElem?_eq_some_iff.1 e).1
  · rw [← q3]; simp only [World.cell?, e]
  · rw [← q4]; simp only [World.cell?, e]
/-- What the document's one answers. -/
def OneEnd16 (R : List (Prt × Bool)) (number least : Int) (w : World) (e : Ending) (w' : World) : Prop := Below w.heap.size w w' ∧ ((oneR R number least = none ∧ e = .returned (.tuple #[.slice none 0 0, .int .i64 0, .int .i64 0, .bool false])) ∨
  ∃ (b : Bt) (c ep : Int) (va : Option Addr) (n vc : Nat), oneR R number least = some (b, c, ep) ∧ e = .returned (.tuple #[.slice va n vc, .int .i64 c, .int .i64 ep, .bool true]) ∧ Own w' w.heap.size 5 (.slice va n vc) (b.map bv))
theorem results_tmp4 {fn : Func} {t u x y : Tmp} (h : fn.results = #[.tmp t, .tmp u, .tmp x, .tmp y]) (tmps : Array Value) (P : Program) (w : World) :
    (results fn tmps).run P w = .ok (.tuple #[tmps.getD t undef, tmps.getD u undef, tmps.getD x undef, tmps.getD y undef]) w := by
  simp [results, h]
theorem drop_part {L : List Sec} {k j : Nat} {y : Sec} (h : L[k + j]? = some y) : ((L.map partS).drop k)[j]? = some (partS y) := by
  rw [List.getElem?_drop, List.getElem?_map, h]
  rfl
set_option maxHeartbeats 4000000 in
set_option maxRecDepth 100000 in
theorem one_any16 (a : Option Addr) (cap m : Nat) (L : List Sec) (hm : L.length = m) (hL : ∀ s ∈ L, s.b.length ≤ 9223372036854775807) (hmm : m ≤ 5864062014805) (k : Nat) (hk : k ≤ 5864062014805) (number least : Int) (w : World) (h : SecO w a L) :
    Calls Tryz.prog 27 #[.slice a m cap, .int .i64 k, .int .i64 number, .int .i64 least] w (OneEnd16 ((L.map partS).drop k) number least w) := by
  by_cases hlt : k < m
  · obtain ⟨y, hy⟩ : ∃ y, L[k]? = some y := ⟨L[k]'(by omega), List.getElem?_eq_getElem _⟩
    obtain ⟨q, o, rfl, hq, c0, c1⟩ := h k y hy
    have hyl := hL y (List.mem_of_getElem? hy)
    have HR := hidb (rread16_any y hyl w)
    have hd1 : decide ((m : Int) ≤ (k : Int)) = false := by simp; omega
    have hk2 : (k : Int) < (m : Int) := by omega
    have Hh := hidb h
    have Hq := hidb hq
    have HL := hidb hL
    have Hm := hidb hm
    clear h hL hm
    go_enter Tryz.func27, Tryz.ntmps27
    --WALK
    obtain ⟨R, hR⟩ : ∃ R, R = (L.map partS).drop k := ⟨_, rfl⟩
    rw [← hR]
    have hR0 : R[0]? = some (partS y) := by rw [hR]; exact drop_part (by simpa using hy)
    have hRl : (R.length : Int) = (m : Int) - (k : Int) := by rw [hR, List.length_drop, List.length_map, Hm.out]; omega
    have HRj : Hid (∀ (j : Nat) (y' : Sec), L[k + j]? = some y' → R[j]? = some (partS y')) := hidb fun j y' h => by rw [hR]; exact drop_part h
    have HRm : Hid (∀ x ∈ R, x ∈ L.map partS) := hidb fun x hx => by rw [hR] at hx; exact List.mem_of_mem_drop hx
    clear hR
    have hw1 : IntKind.i64.wrap ((m : Int) - (k : Int)) = (m : Int) - (k : Int) := by rw [IntKind.wrap_i64]; omega
    go_upto_region 4 with (first
      | (go_at_call 26; refine HR.out.mono ?_; clear HR; rintro e W1 ⟨p, ba, bn, bc, rfl, hpo, hpsm, hb1⟩)
      | fail)
    obtain ⟨F, hF⟩ : ∃ F, F = W1.heap.size := ⟨_, rfl⟩
    obtain ⟨W2, hW2⟩ : ∃ W2, W2 = W1.alloc (.cells #[.int .i64 p.e, .int .i64 p.n, .int .i64 p.i, .int .i64 p.c, .slice ba bn bc] 78) := ⟨_, rfl⟩
    have hb2 : Below w.heap.size w W2 := by rw [hW2]; exact hb1.alloc hb1.size _
    have hbF : W2.heap[F]? = some (.cells #[.int .i64 p.e, .int .i64 p.n, .int .i64 p.i, .int .i64 p.c, .slice ba bn bc] 78 (0, 0)) := by rw [hW2, hF]; exact heap_alloc_new W1 _
    have hzF : W2.heap.size = F + 1 := by rw [hW2, hF]; simp
    have hwF : w.heap.size ≤ F := by rw [hF]; exact hb1.size
    rw [← hW2, ← hF]
    clear hW2 hF
    obtain ⟨x0, x1, x2, x3, x4⟩ := cells5D hbF
    have xl := lt_of_block hbF
    cases hok : (partS y).2 with
    | false =>
      have hnone : oneR R number least = none := oneR_bad hR0 (by unfold headOk; rw [hok]; rfl)
      skip
      go_wp2_with fail
      exact bodyPost_ret (results_tmp4 rfl _ _ _) rfl ⟨hb2, .inl ⟨hnone, rfl⟩⟩
    | true =>
      have hpy : p = (partS y).1 := (hpo hok).1
      clear hpo
      by_cases c1 : ¬ (p.n = number)
      · have d1 : (p.n != number) = true := by simpa using c1
        have hnone : oneR R number least = none := oneR_bad hR0 (Bool.eq_false_iff.2 fun h => by unfold headOk at h; simp only [Bool.and_eq_true, decide_eq_true_eq] at h; rw [← hpy] at h; omega)
        clear hpy
        go_wp2_with fail
        exact bodyPost_ret (results_tmp4 rfl _ _ _) rfl ⟨hb2, .inl ⟨hnone, rfl⟩⟩
      have d1 : (p.n != number) = false := by simpa using c1
      by_cases c2 : p.e < least
      · have d2 : decide (p.e < least) = true := by simpa using c2
        have hnone : oneR R number least = none := oneR_bad hR0 (Bool.eq_false_iff.2 fun h => by unfold headOk at h; simp only [Bool.and_eq_true, decide_eq_true_eq] at h; rw [← hpy] at h; omega)
        clear hpy
        go_wp2_with fail
        exact bodyPost_ret (results_tmp4 rfl _ _ _) rfl ⟨hb2, .inl ⟨hnone, rfl⟩⟩
      have d2 : decide (p.e < least) = false := by simpa using c2
      by_cases c3 : ¬ (p.i = 0)
      · have d3 : (p.i != 0) = true := by simpa using c3
        have hnone : oneR R number least = none := oneR_bad hR0 (Bool.eq_false_iff.2 fun h => by unfold headOk at h; simp only [Bool.and_eq_true, decide_eq_true_eq] at h; rw [← hpy] at h; omega)
        clear hpy
        go_wp2_with fail
        exact bodyPost_ret (results_tmp4 rfl _ _ _) rfl ⟨hb2, .inl ⟨hnone, rfl⟩⟩
      have d3 : (p.i != 0) = false := by simpa using c3
      by_cases c4 : (m : Int) - (k : Int) < p.c
      · have d4 : decide ((m : Int) - (k : Int) < p.c) = true := by simpa using c4
        have hnone : oneR R number least = none := oneR_bad hR0 (Bool.eq_false_iff.2 fun h => by unfold headOk at h; simp only [Bool.and_eq_true, decide_eq_true_eq] at h; rw [← hpy] at h; omega)
        clear hpy
        go_wp2_with fail
        exact bodyPost_ret (results_tmp4 rfl _ _ _) rfl ⟨hb2, .inl ⟨hnone, rfl⟩⟩
      have d4 : decide ((m : Int) - (k : Int) < p.c) = false := by simpa using c4
      have hhead : headOk R number least (partS y) = true := by unfold headOk; simp only [Bool.and_eq_true, decide_eq_true_eq]; rw [← hpy]; exact ⟨hok, by omega, by omega, by omega, by omega⟩
      have hpc : 1 ≤ p.c ∧ p.c ≤ 4096 := by
        have hm' := ((partS_fact y).2 hok).1
        have := may_facts hm'
        rw [← hpy] at this
        have h4 : p.i = 0 := by omega
        omega
      obtain ⟨c, hc⟩ : ∃ c : Nat, (c : Int) = p.c := ⟨p.c.toNat, by omega⟩
      have hOne : Hid (∀ j, allOk R number p j = true → (j : Int) = p.c → oneR R number least = some (flatR R j, p.c, p.e)) := hidb fun j hj hjc => by
        rw [oneR_head hR0, ← hpy, show p.c.toNat = j by omega, hhead, hj]
        rfl
      have hBad : Hid (∀ j : Nat, (j : Int) < p.c → okAt R number p j = false → oneR R number least = none) := hidb fun j hj hb => oneR_bad2 hR0 (by rw [← hpy]; exact hj) (by rw [← hpy]; exact hb)
      clear hhead hpy hok hpsm hy hyl
      have hbF' := hidb hbF
      have hml : c ≤ m - k := by omega
      go_upto_region 8 with fail
      obtain ⟨W3, hW3⟩ : ∃ W3, W3 = W2.alloc (.cells #[] 5) := ⟨_, rfl⟩
      have hO3 : Own W3 (F + 1) 5 (.slice (some ⟨W2.heap.size, 0, none⟩) 0 0) [] := by
        rw [hW3]
        exact row_lower16 (World.ownsRow_lit W2 #[] 0 (Nat.le_refl _) (Nat.zero_le _) rfl) (by omega)
      rw [hzF] at hO3
      have hb3 : Below w.heap.size w W3 := by rw [hW3]; exact hb2.alloc hb2.size _
      have hbF3 : W3.heap[F]? = some (.cells #[.int .i64 p.e, .int .i64 p.n, .int .i64 p.i, .int .i64 p.c, .slice ba bn bc] 78 (0, 0)) := by rw [hW3]; exact (Below.heap_alloc _ _ _ xl).trans hbF
      rw [← hW3]
      clear hW3 x0 x1 x2 x3 x4 xl hbF d1 d2 d3 d4 c1 c2 c3 c4 hw1 hd1
      go_loopw [14, 15] (fun bv iv wr => ∃ (j : Nat) (v : Value), bv = v ∧ iv = .int .i64 j ∧ j ≤ c ∧ Hid (Below w.heap.size w wr ∧ wr.heap[F]? = some (.cells #[.int .i64 p.e, .int .i64 p.n, .int .i64 p.i, .int .i64 p.c, .slice ba bn bc] 78 (0, 0)) ∧ Own wr (F + 1) 5 v ((flatR R j).map Go.Proofs.YthmjejmignangaaGreatDoor.bv) ∧ allOk R number p j = true)) (fun _ iv _ => c - (intOf iv).toNat)
      case atStart => exact ⟨0, _, rfl, rfl, Nat.zero_le _, hidb ⟨hb3, hbF3, hO3, rfl⟩⟩
      case round =>
        obtain ⟨j, v, rfl, rfl, hj, HK⟩ := hrel
        obtain ⟨hbw, hbf, hO, hall⟩ := HK.out
        obtain ⟨x0, x1, x2, x3, x4⟩ := cells5D hbf
        have xl := lt_of_block hbf
        by_cases hjc : j < c
        · have hjc2 : (j : Int) < p.c := by omega
          obtain ⟨t, ht⟩ : ∃ t, t = k + j := ⟨_, rfl⟩
          have hwt : IntKind.i64.wrap ((k : Int) + (j : Int)) = (t : Int) := by rw [IntKind.wrap_i64]; omega
          obtain ⟨y', hy'⟩ : ∃ y', L[k + j]? = some y' := ⟨L[k + j]'(by have := Hm.out; omega), List.getElem?_eq_getElem _⟩
          have hR' := HRj.out j y' hy'
          obtain ⟨q', o', hq1, hq2, e0, e1⟩ := secO_keep (W' := wr) Hh.out (fun q0 o0 q1 h1 => hbw.block _ h1) (k + j) y' hy'
          cases hq1
          rw [← ht] at e0 e1
          have HR2 := hidb (rread16_any y' (HL.out y' (List.mem_of_getElem? hy')) wr)
          have htm : (t : Int) < (m : Int) := by omega
          have htm2 : t < m := by omega
          have HT := hidb ht
          clear ht hy'
          go_upto_region 11 with (first
            | (go_at_call 26; refine HR2.out.mono ?_; clear HR2; rintro e V1 ⟨p', ba', bn', bc', rfl, hpo', -, hb1'⟩)
            | fail)
          obtain ⟨G, hG⟩ : ∃ G, G = V1.heap.size := ⟨_, rfl⟩
          obtain ⟨V2, hV2⟩ : ∃ V2, V2 = V1.alloc (.cells #[.int .i64 p'.e, .int .i64 p'.n, .int .i64 p'.i, .int .i64 p'.c, .slice ba' bn' bc'] 78) := ⟨_, rfl⟩
          have ba12 : Below V1.heap.size V1 V2 := by rw [hV2]; exact (Below.refl _ V1).alloc (Nat.le_refl _) _
          have bw2 : Below wr.heap.size wr V2 := hb1'.trans (ba12.mono hb1'.size)
          have hbV : Below w.heap.size w V2 := hbw.trans (bw2.mono hbw.size)
          have hbG : V2.heap[G]? = some (.cells #[.int .i64 p'.e, .int .i64 p'.n, .int .i64 p'.i, .int .i64 p'.c, .slice ba' bn' bc'] 78 (0, 0)) := by rw [hV2, hG]; exact heap_alloc_new V1 _
          have hbf2 := (bw2.block _ xl).trans hbf
          have hO2 := Own.below hO bw2
          rw [← hV2, ← hG]
          clear hV2 hG x0 x1 x2 x3 x4 xl
          obtain ⟨x0, x1, x2, x3, x4⟩ := cells5D hbf2
          obtain ⟨y0, y1, y2, y3, y4⟩ := cells5D hbG
          have xl := lt_of_block hbf2
          have yl := lt_of_block hbG
          cases hok' : (partS y').2 with
          | false =>
            have hnone : oneR R number least = none := hBad.out j hjc2 (by rw [okAt_of hR', hok']; rfl)
            clear hpo' HK hall
            go_wp2_with fail
            exact bodyPost_ret (results_tmp4 rfl _ _ _) rfl ⟨hbV, .inl ⟨hnone, rfl⟩⟩
          | true =>
            obtain ⟨hpy', hO'⟩ := hpo' hok'
            clear hpo'
            have hokj := okAt_of hR' number p
            rw [hok', ← hpy'] at hokj
            by_cases c1 : ¬ (p'.n = number)
            · have d1 : (p'.n != number) = true := by simpa using c1
              have hnone : oneR R number least = none := hBad.out j hjc2 (by rw [hokj]; exact Bool.eq_false_iff.2 fun h => by simp only [Bool.and_eq_true, decide_eq_true_eq] at h; omega)
              clear hpy' HK hall hokj hO' hO hO2
              go_wp2_with fail
              exact bodyPost_ret (results_tmp4 rfl _ _ _) rfl ⟨hbV, .inl ⟨hnone, rfl⟩⟩
            have d1 : (p'.n != number) = false := by simpa using c1
            by_cases c2 : ¬ (p'.e = p.e)
            · have d2 : (p'.e != p.e) = true := by simpa using c2
              have hnone : oneR R number least = none := hBad.out j hjc2 (by rw [hokj]; exact Bool.eq_false_iff.2 fun h => by simp only [Bool.and_eq_true, decide_eq_true_eq] at h; omega)
              clear hpy' HK hall hokj hO' hO hO2
              go_wp2_with fail
              exact bodyPost_ret (results_tmp4 rfl _ _ _) rfl ⟨hbV, .inl ⟨hnone, rfl⟩⟩
            have d2 : (p'.e != p.e) = false := by simpa using c2
            by_cases c3 : ¬ (p'.c = p.c)
            · have d3 : (p'.c != p.c) = true := by simpa using c3
              have hnone : oneR R number least = none := hBad.out j hjc2 (by rw [hokj]; exact Bool.eq_false_iff.2 fun h => by simp only [Bool.and_eq_true, decide_eq_true_eq] at h; omega)
              clear hpy' HK hall hokj hO' hO hO2
              go_wp2_with fail
              exact bodyPost_ret (results_tmp4 rfl _ _ _) rfl ⟨hbV, .inl ⟨hnone, rfl⟩⟩
            have d3 : (p'.c != p.c) = false := by simpa using c3
            by_cases c4 : ¬ (p'.i = (j : Int))
            · have d4 : (p'.i != (j : Int)) = true := by simpa using c4
              have hnone : oneR R number least = none := hBad.out j hjc2 (by rw [hokj]; exact Bool.eq_false_iff.2 fun h => by simp only [Bool.and_eq_true, decide_eq_true_eq] at h; omega)
              clear hpy' HK hall hokj hO' hO hO2
              go_wp2_with fail
              exact bodyPost_ret (results_tmp4 rfl _ _ _) rfl ⟨hbV, .inl ⟨hnone, rfl⟩⟩
            have d4 : (p'.i != (j : Int)) = false := by simpa using c4
            have hokt : okAt R number p j = true := by rw [hokj]; simp only [Bool.and_eq_true, decide_eq_true_eq]; exact ⟨trivial, by omega, by omega, by omega, by omega⟩
            have hall2 := allOk_succ hall hokt
            have hfl : (flatR R j).map bv ++ p'.b.map bv = (flatR R (j + 1)).map bv := by rw [flatR_succ hR', ← hpy', List.map_append]
            have hfll : (flatR R j).length ≤ 43 * j := by
              have key : ∀ i, i ≤ j → (flatR R i).length ≤ 43 * i := by
                intro i
                induction i with
                | zero => intro _; simp [flatR]
                | succ i ih =>
                  intro hi
                  have h1 := ih (by omega)
                  obtain ⟨x, hx, hx2, _⟩ := okAt_facts (allOk_iff.1 hall i (by omega))
                  obtain ⟨sec, -, hsx⟩ := List.mem_map.1 (HRm.out x (List.mem_of_getElem? hx))
                  have h2 := ((partS_fact sec).2 (by rw [hsx]; exact hx2)).2
                  rw [hsx] at h2
                  rw [flatR_succ hx, List.length_append]
                  omega
              exact key j (Nat.le_refl _)
            have hpl : p'.b.length ≤ 43 := by rw [hpy']; exact ((partS_fact y').2 hok').2
            obtain ⟨sa, sc, hsv, _, _, hsB, _, _⟩ := Own.bs (Own.below hO' ba12)
            injection hsv with e1 e2 e3
            subst e1 e2 e3
            obtain ⟨va, vc, hva, -⟩ := row_form hO2
            obtain ⟨xs, hxs⟩ : ∃ xs, xs = (flatR R j).map Go.Proofs.YthmjejmignangaaGreatDoor.bv := ⟨_, rfl⟩
            rw [← hxs] at hO2 hva hfl
            have hxl : xs.length ≤ 43 * j := by rw [hxs, List.length_map]; exact hfll
            subst hva
            have HFin : Hid (∀ v' V3, Own V3 (F + 1) 5 v' ((flatR R (j + 1)).map Go.Proofs.YthmjejmignangaaGreatDoor.bv) → Step V2 (.slice va xs.length vc) V3 v' → Below w.heap.size w V3 ∧ V3.heap[F]? = some (.cells #[.int .i64 p.e, .int .i64 p.n, .int .i64 p.i, .int .i64 p.c, .slice ba bn bc] 78 (0, 0)) ∧ Own V3 (F + 1) 5 v' ((flatR R (j + 1)).map Go.Proofs.YthmjejmignangaaGreatDoor.bv) ∧ allOk R number p (j + 1) = true) := hidb fun v' V3 h1 h2 => ⟨hbV.grown h2.1 hbV.size fun i hi => by have := (own_block hO2 hi).1; omega, (h2.1.block F xl fun e => by have := (own_block hO2 e.symm).1; omega).trans hbf2, h1, hall2⟩
            have hyF : F + 1 ≤ V2.heap.size := by omega
            have hpbl := hidb hpl
            clear hxs hO hbw hbf hb1' ba12 bw2 hbV hbG hbf2 hok' hpy' hO' hokj hokt hall2 hall hfll HK HRm hR' hq2 e0 e1
            go_wp2_with (first
              | (at_builtin; refine wpList_app _ rfl _ _ _ _ rfl elem_u8 (F + 1) _ _ rfl hO2 _ rfl (p'.b.map Go.Proofs.YthmjejmignangaaGreatDoor.bv) (src_bs V2 Tryz.underlying29 hsB bc') (by have := hpbl.out; simp only [List.length_map]; unfold maxLen; omega) (by have := hpbl.out; simp only [List.length_map]; omega) hyF ?_; intro v' V3 ho3 hst3; rw [hfl] at ho3; have HF3 := hidb (HFin.out _ _ ho3 hst3); clear HFin; obtain ⟨va3, vc3, e3, -⟩ := row_form ho3; generalize ((flatR R (j + 1)).map Go.Proofs.YthmjejmignangaaGreatDoor.bv).length = n3 at e3; subst e3; clear ho3 hst3)
              | fail)
            exact ⟨⟨j + 1, _, rfl, by simp, by omega, HF3⟩, by simp [intOf]; omega⟩
        · obtain rfl : j = c := by omega
          have hone := hOne.out j hall (by omega)
          obtain ⟨va, vc, hva, -⟩ := row_form hO
          subst hva
          have hjc3 : ¬ (j : Int) < p.c := by omega
          clear HK hall
          go_wp2_with fail
          go_quiet (fail)
          go_wp2_with fail
          refine bodyPost_ret (results_tmp4 rfl _ _ _) rfl ⟨hbw.trans ⟨rfl, rfl, rfl, Nat.le_refl _, fun _ _ => rfl⟩, .inr ⟨flatR R j, p.c, p.e, _, _, _, hone, rfl, ?_⟩⟩
          rw [List.length_map] at hO
          exact row_lower16 (row_keep hO fun g hg => rfl) (by omega)
    --END
  · have hR : (L.map partS).drop k = [] := List.drop_eq_nil_of_le (by rw [List.length_map]; omega)
    have hd1 : decide ((m : Int) ≤ (k : Int)) = true := by simp; omega
    rw [hR]
    clear h hL hm hR
    go_enter Tryz.func27, Tryz.ntmps27
    go_wp2_with fail
    refine bodyPost_ret (results_tmp4 rfl _ _ _) rfl ?_
    exact ⟨Below.refl _ _, .inl ⟨rfl, rfl⟩⟩
end Go.Proofs.YthmjejmignangaaGreatDoor
