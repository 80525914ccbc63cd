/- Layer 11: the law StorePlays. -/
import Derived.Test.YtcjakgogdbfagaaDoorKZk
namespace Go.Proofs.YtcjakgogdbfagaaDoor
open Go.RowKit
/-- What calls leave. -/
def runM (L : List Opn) : Kvs := L.foldl stepM []
theorem runM_ok (L : List Opn) : MOk (runM L) := by
  have : ∀ (L : List Opn) (M : Kvs), MOk M → MOk (L.foldl stepM M) := fun L => by
    induction L with
    | nil => exact fun M h => h
    | cons o L ih => exact fun M h => ih _ (stepM_ok h o)
  exact this L [] MOk.nil
theorem runM_snoc {L : List Opn} {i : Nat} (h : i < L.length) : runM (L.take (i + 1)) = stepM (runM (L.take i)) L[i] := by
  unfold runM
  rw [take_snocO h, List.foldl_append]
  rfl
theorem runM_same {L : List Opn} {i : Nat} (h : ¬ i < L.length) : runM (L.take (i + 1)) = runM (L.take i) := by
  rw [List.take_of_length_le (by omega), List.take_of_length_le (by omega)]
theorem pj_new {s t : Nat} {w w1 w2 : World} (h1 : KnS s [] w w1) (h2 : KnS t [] w1 w2) : PJ s w2.heap.size t (w2.heap.size + 1) [] [] [] [] w ((w2.alloc (.cells #[.slice none 0 0] 28)).alloc (.cells #[.slice none 0 0] 28)) := by
  obtain ⟨tb, g, a1, a2, a3, a4, a5⟩ := h1
  obtain ⟨tc, h, b1, b2, b3, b4, b5⟩ := h2
  have hb : Below w2.heap.size w2 ((w2.alloc (.cells #[.slice none 0 0] 28)).alloc (.cells #[.slice none 0 0] 28)) := ((Below.refl _ w2).alloc (Nat.le_refl _) _).alloc (by simp) _
  have s1 := a2.size
  have s2 := b2.size
  have l1 := a1.lts
  have x1 : ((w2.alloc (.cells #[.slice none 0 0] 28)).alloc (.cells #[.slice none 0 0] 28)).heap[w2.heap.size]? = some (.cells #[.slice none 0 0] 28 (0, 0)) := by
    rw [Below.heap_alloc _ _ _ (by simp), heap_alloc_new]
  have x2 : ((w2.alloc (.cells #[.slice none 0 0] 28)).alloc (.cells #[.slice none 0 0] 28)).heap[w2.heap.size + 1]? = some (.cells #[.slice none 0 0] 28 (0, 0)) := by
    have := heap_alloc_new (w2.alloc (.cells #[.slice none 0 0] 28)) (.cells #[.slice none 0 0] 28)
    rwa [World.size_alloc] at this
  refine ⟨tb, g, .slice none 0 0, tc, h, .slice none 0 0, ⟨(a1.below b2).below hb, ⟨x1, World.ownsRow_nil _ _ _ _⟩, ⟨a3, a4, a5, by omega⟩, fun i e => by cases e⟩, ⟨b1.below hb, ⟨x2, World.ownsRow_nil _ _ _ _⟩, ⟨by omega, by omega, by omega, by omega⟩, fun i e => by cases e⟩, (a2.trans (b2.mono s1)).trans (hb.mono (by omega)), ⟨by omega, by omega, by omega, by omega⟩, fun i e => by cases e⟩
theorem ops_at {w : World} {a : Option Addr} {L : List Opn} {i : Nat} (h : OpsAt w a L) (hi : i < L.length) : ∃ b off, a = some ⟨b, off, none⟩ ∧ ∀ W, Below w.heap.size w W → W.cell? ⟨b, off + i * 4, none⟩ = some (.int .i64 L[i].kd) ∧ W.cell? ⟨b, off + i * 4 + 1, none⟩ = some (.int .i64 L[i].nn) ∧ W.cell? ⟨b, off + i * 4 + 2, none⟩ = some (sv L[i].k) ∧ W.cell? ⟨b, off + i * 4 + 3, none⟩ = some (sv L[i].v) := by
  rcases h with h | ⟨b, off, e, hb, hc⟩
  · rw [h] at hi; cases hi
  · refine ⟨b, off, e, fun W hW => ?_⟩
    obtain ⟨c0, c1, c2, c3⟩ := hc i hi
    exact ⟨(hW.cell (p := ⟨b, off + i * 4, none⟩) hb).trans c0, (hW.cell (p := ⟨b, off + i * 4 + 1, none⟩) hb).trans c1, (hW.cell (p := ⟨b, off + i * 4 + 2, none⟩) hb).trans c2, (hW.cell (p := ⟨b, off + i * 4 + 3, none⟩) hb).trans c3⟩
set_option maxRecDepth 100000 in
set_option maxHeartbeats 2000000 in
theorem storePlays_any (L1 L2 : List Opn) (a1 a2 : Option Addr) (n1 n2 k1 k2 : Nat) (w : World) (hn1 : n1 = L1.length) (hn2 : n2 = L2.length) (hA1 : OpsAt w a1 L1) (hA2 : OpsAt w a2 L2) (ok1 : ∀ x ∈ L1, x.ok) (ok2 : ∀ x ∈ L2, x.ok) (hl1 : n1 ≤ 9223372036854775) (hl2 : n2 ≤ 9223372036854775) (ht : Tab w) :
    Calls Tryd.prog 3 #[.slice a1 n1 k1, .slice a2 n2 k2] w fun e w' => e = .returned (.bool true) ∧ Below w.heap.size w w' := by
  have HN0 := hidb (kn_new w)
  have HN1 := hidb kn_new
  have HK := hidb knows11_any
  have H1 := hidb hn1
  have H2 := hidb hn2
  have HA := hidb (And.intro hA1 hA2)
  have HO := hidb (And.intro ok1 ok2)
  have HT := hidb ht
  clear hn1 hn2 hA1 hA2 ok1 ok2 ht
  go_enter Tryd.func3, Tryd.ntmps3
  go_wp2_with (first
    | (go_at_call 4; first
      | (refine HN0.out.mono ?_; clear HN0; rintro e w1 ⟨s, rfl, K1⟩)
      | (refine (HN1.out _).mono ?_; clear HN1; rintro e w2 ⟨t, rfl, K2⟩; have HJ := hidb (pj_new K1.out K2.out); clear K1 K2))
    | (go_at_call 5; refine (HK.out _).mono ?_; clear HK; rintro e w3 ⟨rfl, hb3⟩; replace HJ := hidb (HJ.out.below hb3); clear hb3)
    | fail)
  generalize w2.heap.size + 1 = q at *
  generalize w2.heap.size = r at *
  go_loopw [9] (fun iv wr => ∃ i : Nat, iv = .int .i64 i ∧ i ≤ n1 + n2 ∧ Hid (PJ s r t q (runM (L1.take i)) (runM (L1.take i)) (runM (L2.take i)) (runM (L2.take i)) w wr)) (fun iv _ => n1 + n2 - (intOf iv).toNat)
  case atStart => exact ⟨0, rfl, Nat.zero_le _, HJ⟩
  case round =>
    obtain ⟨i, rfl, hi, HI⟩ := hrel
    clear HJ
    have hwr : IntKind.i64.wrap ((i : Int) + 1) = (i : Int) + 1 := wrap_j (by omega) (by omega)
    by_cases h1 : i < n1
    · have l1 : i < L1.length := by rw [← H1.out]; exact h1
      obtain ⟨b1, f1, ea1, C1⟩ := ops_at HA.out.1 l1
      have hox1 := HO.out.1 L1[i] (List.getElem_mem l1)
      have S1 := hidb (step_any HI.out (runM_ok _) HT.out L1[i] hox1)
      rw [← runM_snoc l1] at S1
      obtain ⟨c0, c1, c2, c3⟩ := C1 wr HI.out.bel
      have hd1 : decide ((i : Int) < n1) = true := by simp; omega
      by_cases h2 : i < n2
      · have l2 : i < L2.length := by rw [← H2.out]; exact h2
        obtain ⟨b2, f2, ea2, C2⟩ := ops_at HA.out.2 l2
        have hox2 := HO.out.2 L2[i] (List.getElem_mem l2)
        have hd2 : decide ((i : Int) < n2) = true := by simp; omega
        have S2 : Hid (∀ W, PJ s r t q (runM (L1.take (i + 1))) (runM (L1.take (i + 1))) (runM (L2.take i)) (runM (L2.take i)) w W → (W.cell? ⟨b2, f2 + i * 4, none⟩ = some (.int .i64 L2[i].kd) ∧ W.cell? ⟨b2, f2 + i * 4 + 1, none⟩ = some (.int .i64 L2[i].nn) ∧ W.cell? ⟨b2, f2 + i * 4 + 2, none⟩ = some (sv L2[i].k) ∧ W.cell? ⟨b2, f2 + i * 4 + 3, none⟩ = some (sv L2[i].v)) ∧ Hid (Calls Tryd.prog 6 #[.pointer (some ⟨t, 0, none⟩), .pointer (some ⟨q, 0, none⟩), .agg #[.int .i64 L2[i].kd, .int .i64 L2[i].nn, sv L2[i].k, sv L2[i].v]] W fun e w' => e = .returned (.bool true) ∧ Hid (PJ s r t q (runM (L1.take (i + 1))) (runM (L1.take (i + 1))) (runM (L2.take (i + 1))) (runM (L2.take (i + 1))) w w'))) := hidb fun W j => by
          refine ⟨C2 W j.bel, hidb ((step_any j.swap (runM_ok _) HT.out L2[i] hox2).mono ?_)⟩
          rintro e w' ⟨e1, H⟩
          refine ⟨e1, hidb ?_⟩
          rw [runM_snoc l2]
          exact H.out.swap
        have HEa := hidb (And.intro ea1 ea2)
        rw [ea1, ea2]
        generalize L1[i].kd = x0 at *
        generalize L1[i].nn = x1 at *
        generalize L1[i].k = x2 at *
        generalize L1[i].v = x3 at *
        generalize L2[i].kd = y0 at *
        generalize L2[i].nn = y1 at *
        generalize L2[i].k = y2 at *
        generalize L2[i].v = y3 at *
        clear HI C1 C2 hox1 hox2 ea1 ea2 HO HT HA
        go_wp2_with (first
          | (go_at_call 6; first
            | (refine S1.out.mono ?_; clear S1; rintro e w4 ⟨rfl, J4⟩; obtain ⟨⟨d0, d1, d2, d3⟩, S3⟩ := S2.out _ J4.out; clear S2 J4)
            | (refine S3.out.mono ?_; clear S3; rintro e w5 ⟨rfl, J5⟩))
          | fail)
        exact ⟨⟨i + 1, by go_num, by omega, J5⟩, by simp [intOf]; omega⟩
      · have l2 : ¬ i < L2.length := by rw [← H2.out]; exact h2
        have hd2 : decide ((i : Int) < n2) = false := by simp; omega
        have HE := hidb (runM_same l2)
        rw [ea1]
        generalize L1[i].kd = x0 at *
        generalize L1[i].nn = x1 at *
        generalize L1[i].k = x2 at *
        generalize L1[i].v = x3 at *
        clear HI C1 hox1 ea1 HO HT HA
        go_wp2_with (first
          | (go_at_call 6; refine S1.out.mono ?_; clear S1; rintro e w4 ⟨rfl, J4⟩)
          | fail)
        exact ⟨⟨i + 1, by go_num, by omega, by rw [HE.out]; exact J4⟩, by simp [intOf]; omega⟩
    · have l1 : ¬ i < L1.length := by rw [← H1.out]; exact h1
      have hd1 : decide ((i : Int) < n1) = false := by simp; omega
      have HE := hidb (runM_same l1)
      by_cases h2 : i < n2
      · have l2 : i < L2.length := by rw [← H2.out]; exact h2
        obtain ⟨b2, f2, ea2, C2⟩ := ops_at HA.out.2 l2
        have hox2 := HO.out.2 L2[i] (List.getElem_mem l2)
        have hd2 : decide ((i : Int) < n2) = true := by simp; omega
        have S2 := hidb (step_any HI.out.swap (runM_ok _) HT.out L2[i] hox2)
        rw [← runM_snoc l2] at S2
        obtain ⟨c0, c1, c2, c3⟩ := C2 wr HI.out.bel
        rw [ea2]
        generalize L2[i].kd = y0 at *
        generalize L2[i].nn = y1 at *
        generalize L2[i].k = y2 at *
        generalize L2[i].v = y3 at *
        clear HI C2 hox2 ea2 HO HT HA
        go_wp2_with (first
          | (go_at_call 6; refine S2.out.mono ?_; clear S2; rintro e w4 ⟨rfl, J4⟩)
          | fail)
        exact ⟨⟨i + 1, by go_num, by omega, hidb (by rw [HE.out]; exact J4.out.swap)⟩, by simp [intOf]; omega⟩
      · have hd2 : decide ((i : Int) < n2) = false := by simp; omega
        clear HO HT HA
        go_wp2_with fail
        go_ret
        exact ⟨rfl, HI.out.bel⟩
end Go.Proofs.YtcjakgogdbfagaaDoor
