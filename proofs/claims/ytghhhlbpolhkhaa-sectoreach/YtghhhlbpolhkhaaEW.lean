/- Layer 15: the law SectorEach. -/
import Derived.Test.YtghhhlbpolhkhaaEV
import Derived.Test.YtghhhlbpolhkhaaEUo
import Derived.Test.YtghhhlbpolhkhaaRIg
namespace Go.Proofs.Ytghhhlbpolhkhaa
open Go.RowKit
/-- Behind New and knows. -/
def fB : Bt := [102]
/-- While files are written. -/
structure Ls (w : World) (K : Nat → Prop) (db : Nat) (d : Dk) (W : World) : Prop where
  dk : DkAt K db d W
  bl : Below w.heap.size w W
  kl : ∀ k, k < w.heap.size → K k
theorem Ls.next {w : World} {K : Nat → Prop} {db : Nat} {d d' : Dk} {W W' : World} (h : Ls w K db d W) (k : DkEnd K db d' W W') : Ls w K db d' W' := ⟨k.1, h.bl.trans (k.2.low h.bl.size fun i hi x => x (h.kl i hi)), h.kl⟩
theorem Ls.below {w : World} {K : Nat → Prop} {db : Nat} {d : Dk} {W W' : World} (h : Ls w K db d W) (k : Below W.heap.size W W') : Ls w K db d W' := ⟨h.dk.below k, h.bl.trans (k.mono h.bl.size), h.kl⟩
/-- The rows that were read. -/
structure Rd (K : Nat → Prop) (v : Value) (S : List Sec) (W : World) : Prop where
  row : W.ownsRow 0 48 2 v S.length (secCs S)
  k : ∀ b, v.ownBlock = some b → K b
theorem Rd.kt {K : Nat → Prop} {v : Value} {S : List Sec} {W W' : World} (h : Rd K v S W) (k : Kt (fun i => ¬ K i) W W') : Rd K v S W' := ⟨row_keep h.row fun b hb => k.block b (h.row.lt b hb).2 (fun x => x (h.k b hb)), h.k⟩
theorem Rd.mono {K R : Nat → Prop} {v : Value} {S : List Sec} {W : World} (h : Rd K v S W) (hr : ∀ k, K k → R k) : Rd R v S W := ⟨h.row, fun b hb => hr b (h.k b hb)⟩
theorem row_base {w : World} {base n size : Nat} {e : TypeId} {v : Value} {xs : List Value} (h : w.ownsRow base e size v n xs) : w.ownsRow 0 e size v n xs := by
  refine ⟨h.1, ?_⟩
  rcases h.2 with h2 | ⟨g, cap, cur, e, _, r⟩
  · exact .inl h2
  · exact .inr ⟨g, cap, cur, e, Nat.zero_le _, r⟩
/-- A read adds a row to what is kept. -/
theorem Ls.read {w : World} {K : Nat → Prop} {db : Nat} {d : Dk} {W : World} (h : Ls w K db d W) (name : Bt) : Calls Try.prog 8 #[.pointer (some ⟨db, 0, none⟩), sv name] W fun e w' => ∃ a n c er, e = .returned (.tuple #[.slice a n c, .int .i64 er]) ∧ n ≤ c ∧ Hid (n = (readL d name).length ∧ ∃ R : Nat → Prop, (∀ k, K k → R k) ∧ Ls w R db d w' ∧ Rd R (.slice a n c) (readL d name) w' ∧ Kt (fun i => ¬ K i) W w') := by
  refine (read15_any h.dk name).mono fun e w' ⟨v, e1, H⟩ => ?_
  obtain ⟨H1, H2⟩ := H.out
  obtain ⟨a, c, rfl, h1, h2, _⟩ := row_form H1
  refine ⟨a, _, c, _, e1, h1, hidb ⟨rfl, fun k => K k ∨ (Value.slice a (readL d name).length c).ownBlock = some k, fun k hk => .inl hk, ⟨?_, h.bl.trans (H2.mono h.bl.size), fun k hk => .inl (h.kl k hk)⟩, ⟨row_base H1, fun b hb => .inr hb⟩, Kt.below H2⟩⟩
  exact h.dk.more H2 _ fun k hk => H1.lt k hk
/-- Sectors lie there. -/
def SecAt (W : World) (a : Option Addr) (S : List Sec) : Prop := ∀ k y, S[k]? = some y → ∃ q, a = some ⟨q, 0, none⟩ ∧ q < W.heap.size ∧ W.cell? ⟨q, k * 2, none⟩ = some (sv y.b) ∧ W.cell? ⟨q, k * 2 + 1, none⟩ = some (.bool y.bad)
theorem Rd.sec {K : Nat → Prop} {a : Option Addr} {n c : Nat} {S : List Sec} {W : World} (h : Rd K (.slice a n c) S W) : SecAt W a S ∧ n = S.length := by
  obtain ⟨a', c', e, h1, _, h3⟩ := row_form h.row
  injection e with e1 e2 e3
  subst e1
  refine ⟨fun k y hy => ?_, e2⟩
  rcases h3 with ⟨_, h0, _⟩ | ⟨g, e, _, hg, hc⟩
  · have := (List.getElem?_eq_some_iff.1 hy).1; omega
  · exact ⟨g, e, hg, hc _ _ (secCs_at hy).1, hc _ _ (secCs_at hy).2⟩
theorem SecAt.below {a : Option Addr} {S : List Sec} {W W' : World} (h : SecAt W a S) (b : Below W.heap.size W W') : SecAt W' a S := fun k y hy => by
  obtain ⟨q, e, hq, c1, c2⟩ := h k y hy
  exact ⟨q, e, Nat.lt_of_lt_of_le hq b.size, (b.cell (p := ⟨q, k * 2, none⟩) hq).trans c1, (b.cell (p := ⟨q, k * 2 + 1, none⟩) hq).trans c2⟩
/-- Three rows behind the crash. -/
structure Tail (w : World) (a : Option Addr) (n : Nat) (a2 : Option Addr) (n2 : Nat) (a3 : Option Addr) (n3 : Nat) (S N L : List Sec) (W : World) : Prop where
  each : EachP S N L
  hn : n = S.length
  hn2 : n2 = N.length
  hn3 : n3 = L.length
  s1 : SecAt W a S
  s2 : SecAt W a2 N
  s3 : SecAt W a3 L
  bl : Below w.heap.size w W
theorem Tail.below {w : World} {a : Option Addr} {n : Nat} {a2 : Option Addr} {n2 : Nat} {a3 : Option Addr} {n3 : Nat} {S N L : List Sec} {W W' : World} (h : Tail w a n a2 n2 a3 n3 S N L W) (b : Below W.heap.size W W') : Tail w a n a2 n2 a3 n3 S N L W' := ⟨h.each, h.hn, h.hn2, h.hn3, h.s1.below b, h.s2.below b, h.s3.below b, h.bl.trans (b.mono h.bl.size)⟩
theorem cnt17 (i : Nat) : Value.int .i64 ((i : Int) + 1) = .int .i64 ((i + 1 : Nat) : Int) := by go_num
attribute [local go_sem high] eq_sec eq_sec0
set_option maxRecDepth 100000 in
set_option maxHeartbeats 20000000 in
theorem sectorEach_any (la : Option Addr) (ln lc : Nat) (L : List Opn) (ma : Option Addr) (mn mc : Nat) (M : List Opn) (fa : Option Addr) (fn fc : Nat) (fates : List Int) (w : World) (hl : L.length = ln) (hm : M.length = mn) (hL : OpsAt w la L) (hM : OpsAt w ma M) (hLo : ∀ x ∈ L, x.ok) (hMo : ∀ x ∈ M, x.ok) (hlc : ln ≤ maxLen) (hmc : mn ≤ maxLen) (hf : FatO (fun i => ¬ i < w.heap.size) w (.slice fa fn fc) fates) : Calls Try.prog 5 #[.slice la ln lc, .slice ma mn mc, .slice fa fn fc] w fun e w' => e = .returned (.bool true) ∧ Below w.heap.size w w' := by
  have HN := hidb (new15_yes 1000 w (by decide) (by decide))
  have HU := hidb num15_any
  have HK := hidb knows15_any
  have HOl : Hid (∀ W j, Below w.heap.size w W → (hj : j < ln) → ∃ b off kd nn k v, la = some ⟨b, off, none⟩ ∧ W.cell? ⟨b, off + j * 5, none⟩ = some (.int .i64 kd) ∧ W.cell? ⟨b, off + j * 5 + 1, none⟩ = some (.int .i64 nn) ∧ W.cell? ⟨b, off + j * 5 + 2, none⟩ = some (sv k) ∧ W.cell? ⟨b, off + j * 5 + 3, none⟩ = some (sv v) ∧ Hid ((-9223372036854775808 ≤ nn ∧ nn ≤ 9223372036854775807) ∧ v.length ≤ 9223372036854775807)) := hidb fun W j hb hj => by
    obtain ⟨b, off, e, x0, x1, x2, x3, _⟩ := hL.at_ hb j (by omega)
    have := hLo _ (List.getElem_mem (by omega : j < L.length))
    exact ⟨b, off, _, _, _, _, e, x0, x1, x2, x3, hidb ⟨this.2.1, by have := this.2.2.2; unfold maxLen at this; omega⟩⟩
  have HOm : Hid (∀ W j, Below w.heap.size w W → (hj : j < mn) → ∃ b off kd nn k v, ma = some ⟨b, off, none⟩ ∧ W.cell? ⟨b, off + j * 5, none⟩ = some (.int .i64 kd) ∧ W.cell? ⟨b, off + j * 5 + 1, none⟩ = some (.int .i64 nn) ∧ W.cell? ⟨b, off + j * 5 + 2, none⟩ = some (sv k) ∧ W.cell? ⟨b, off + j * 5 + 3, none⟩ = some (sv v) ∧ Hid ((-9223372036854775808 ≤ nn ∧ nn ≤ 9223372036854775807) ∧ v.length ≤ 9223372036854775807)) := hidb fun W j hb hj => by
    obtain ⟨b, off, e, x0, x1, x2, x3, _⟩ := hM.at_ hb j (by omega)
    have := hMo _ (List.getElem_mem (by omega : j < M.length))
    exact ⟨b, off, _, _, _, _, e, x0, x1, x2, x3, hidb ⟨this.2.1, by have := this.2.2.2; unfold maxLen at this; omega⟩⟩
  have HWr : Hid (∀ K db d S W nn v, Ls w K db d W → OneF fB d → WrP S (oneC fB d) → ((-9223372036854775808 ≤ nn ∧ nn ≤ 9223372036854775807) ∧ v.length ≤ 9223372036854775807) → Calls Try.prog 10 #[.pointer (some ⟨db, 0, none⟩), .string ⟨#[102]⟩, .int .i64 nn, sv v] W fun e w' => ∃ x, e = .returned (.int .i64 x) ∧ Hid (∃ d', Ls w K db d' w' ∧ OneF fB d' ∧ WrP S (oneC fB d') ∧ Kt (fun i => ¬ K i) W w')) := hidb fun K db d S W nn v h1 h2 h3 h4 => by
    refine (dwrite_any h1.dk fB nn v (by decide) h4.2 h4.1 (.inr h2.all)).mono fun e w' ⟨e1, H⟩ => ⟨_, e1, hidb ⟨_, h1.next H.out, (h2.write nn v).1, ?_, H.out.2⟩⟩
    rcases (h2.write nn v).2 with e | ⟨a, x, hx, ha, e⟩
    · rw [e]; exact h3
    · rw [e]; exact h3.write hx.1 hx.2 ha
  have HSy : Hid (∀ K db d W, Ls w K db d W → OneF fB d → WrP [] (oneC fB d) → Calls Try.prog 11 #[.pointer (some ⟨db, 0, none⟩), .string ⟨#[102]⟩] W fun e w' => ∃ x, e = .returned (.int .i64 x) ∧ Hid (∃ d', Ls w K db d' w' ∧ OneF fB d' ∧ WrP (readL d' fB) (oneC fB d'))) := hidb fun K db d W h1 h2 h3 => by
    refine (dsync_any h1.dk fB).mono fun e w' ⟨e1, H⟩ => ⟨_, e1, hidb ⟨_, h1.next H.out, h2.sync.1, ?_⟩⟩
    rw [h2.sync.1.read, h2.sync.2]
    have := h3.start
    have e : (syncC (oneC fB d)).map Cl.now = (oneC fB d).map Cl.now := by
      rw [syncC, List.map_map]
      rfl
    rw [e]
    exact this
  have HRd : Hid (∀ K db d W, Ls w K db d W → Calls Try.prog 8 #[.pointer (some ⟨db, 0, none⟩), .string ⟨#[102]⟩] W fun e w' => ∃ a n c er, e = .returned (.tuple #[.slice a n c, .int .i64 er]) ∧ n ≤ c ∧ Hid (n = (readL d fB).length ∧ ∃ R : Nat → Prop, (∀ k, K k → R k) ∧ Ls w R db d w' ∧ Rd R (.slice a n c) (readL d fB) w' ∧ Kt (fun i => ¬ K i) W w')) := hidb fun K db d W h => h.read fB
  have HCr : Hid (∀ K db d W, Ls w K db d W → Calls Try.prog 7 #[.pointer (some ⟨db, 0, none⟩), .slice fa fn fc] W fun e w' => e = .returned (.tuple #[]) ∧ Hid (Ls w K db (crD d fates) w' ∧ Kt (fun i => ¬ K i) W w')) := hidb fun K db d W h => by
    have hf2 : FatO (fun i => ¬ K i) W (.slice fa fn fc) fates := by
      obtain ⟨a, c, e, q1, q2, q3⟩ := hf
      refine ⟨a, c, e, q1, q2, ?_⟩
      rcases q3 with q3 | ⟨b, o, r1, r2, r3⟩
      · exact .inl q3
      · have hbw : b < w.heap.size := Classical.not_not.1 r2
        exact .inr ⟨b, o, r1, fun x => x (h.kl b hbw), fun j hj => (h.bl.cell (p := ⟨b, o + j, none⟩) hbw).trans (r3 j hj)⟩
    exact (dcrash_any h.dk fa fn fc fates hf2).mono fun e w' ⟨e1, H⟩ => ⟨e1, hidb ⟨h.next H.out, H.out.2⟩⟩
  have H0 : Hid (∀ db W, DkAt (fun k => k < w.heap.size) db (newD 1000) W ∧ Below w.heap.size w W → ∀ W', Below W.heap.size W W' → Ls w (fun k => k < w.heap.size) db (newD 1000) W' ∧ OneF fB (newD 1000) ∧ WrP [] (oneC fB (newD 1000))) := hidb fun db W h W' hb => ⟨⟨h.1.below hb, h.2.trans (hb.mono h.2.size), fun _ x => x⟩, OneF.new _ _, ⟨by simp, fun i h => by simp at h, fun i h => absurd h (by simp [oneC, csOf, fileOf, newD]), fun i h => absurd h (by simp [oneC, csOf, fileOf, newD]), fun c h => by simp [oneC, csOf, fileOf, newD] at h⟩⟩
  clear hL hM hLo hMo hf hl hm
  unfold maxLen at hlc hmc
  go_enter Try.func5, Try.ntmps5
  go_wp2_with (first
    | (go_at_call 17; refine HN.out.mono ?_; clear HN; rintro e w1 ⟨db, rfl, D1⟩)
    | (go_at_call 9; refine (HU.out _ _).mono ?_; rintro e wn ⟨rfl, rfl⟩)
    | (go_at_call 16; refine (HK.out _).mono ?_; clear HK; rintro e w2 ⟨rfl, hb2⟩)
    | fail)
  replace H0 := hidb (H0.out db wn D1.out w2 hb2)
  clear D1 hb2
  go_loopw [9] (fun iv wr => ∃ i : Nat, iv = .int .i64 i ∧ i ≤ 100 ∧ i ≤ ln ∧ Hid (∃ d, Ls w (fun k => k < w.heap.size) db d wr ∧ OneF fB d ∧ WrP [] (oneC fB d))) (fun iv _ => 100 - (intOf iv).toNat)
  case atStart => exact ⟨0, rfl, by omega, by omega, hidb ⟨_, H0.out⟩⟩
  case round =>
    clear H0
    obtain ⟨i, rfl, hi1, hi2, HI⟩ := hrel
    obtain ⟨d, hls, hof, hwr⟩ := HI.out
    by_cases hgo : i < ln ∧ i < 100
    · obtain ⟨b, off, kd, nn, k, v, rfl, x0, x1, x2, x3, HX⟩ := HOl.out wr i hls.bl hgo.1
      have HC := hidb (HWr.out _ _ _ _ wr.drew nn v (hls.below ⟨rfl, rfl, rfl, Nat.le_refl _, fun _ _ => rfl⟩) hof hwr HX.out)
      have hd1 : decide ((i : Int) < ln) = true := by simp; omega
      have hd2 : decide ((i : Int) < 100) = true := by simp; omega
      clear hls hof hwr
      by_cases hkd : kd = 0
      · subst hkd
        go_wp2_with fail
        go_region_with (first
          | (go_at_call 10; refine HC.out.mono ?_; clear HC; rintro e w3 ⟨x, rfl, H3⟩)
          | fail)
        all_goals go_wp2_with fail
        all_goals exact ⟨⟨i + 1, by go_num, by omega, by omega, hidb (by obtain ⟨d', q1, q2, q3, _⟩ := H3.out; exact ⟨d', q1, q2, q3⟩)⟩, by simp [intOf]; omega⟩
      · have hk0 : (kd == 0) = false := by simpa using hkd
        go_wp2_with fail
        refine ⟨⟨i + 1, by go_num, by omega, by omega, HI⟩, by simp [intOf]; omega⟩
    · have HS1 := hidb (HSy.out _ _ _ wr hls hof hwr)
      clear hls hof hwr HI HOl HSy
      go_wp2_with (first
          | (go_at_call 11; refine HS1.out.mono ?_; clear HS1; rintro e w3 ⟨x, rfl, H3⟩; obtain ⟨d1, hls, hof, hwr⟩ := H3.out; have HR1 := hidb (HRd.out _ _ _ w3 hls); clear hls H3)
          | (go_at_call 8; refine HR1.out.mono ?_; clear HR1; rintro e w4 ⟨a, n, c, er, rfl, hnc, H4⟩)
          | fail)
      all_goals (
        obtain ⟨S, hS⟩ : ∃ S, S = readL d1 fB := ⟨_, rfl⟩
        rw [← hS] at hwr H4
        obtain ⟨hnS, R, hR, hls, hrd, hk4⟩ := H4.out
        have HB : Hid (∃ d, Ls w R db d w4 ∧ OneF fB d ∧ WrP S (oneC fB d) ∧ Rd R (.slice a n c) S w4) := hidb ⟨d1, hls, hof, hwr, hrd⟩
        have hncm : c ≤ maxLen := by
          obtain ⟨a', c', e, h1, h2, _⟩ := row_form hrd.row
          injection e with e1 e2 e3
          omega
        unfold maxLen at hncm
        clear hls hof hwr hrd hR H4 hS HU hi1 hi2 hnS hk4
        go_loopw [12] (fun iv wr => ∃ i : Nat, iv = .int .i64 i ∧ i ≤ 100 ∧ i ≤ mn ∧ Hid (∃ d, Ls w R db d wr ∧ OneF fB d ∧ WrP S (oneC fB d) ∧ Rd R (.slice a n c) S wr)) (fun iv _ => 100 - (intOf iv).toNat)
        case atStart => exact ⟨0, rfl, by omega, by omega, HB⟩
        case round =>
          clear HB
          obtain ⟨i, rfl, hi1, hi2, HI⟩ := hrel
          obtain ⟨d, hls, hof, hwr, hrd⟩ := HI.out
          by_cases hgo : i < mn ∧ i < 100
          · obtain ⟨b, off, kd, nn, k, v, rfl, x0, x1, x2, x3, HX⟩ := HOm.out wr i hls.bl hgo.1
            have hdr : Below wr.heap.size wr wr.drew := ⟨rfl, rfl, rfl, Nat.le_refl _, fun _ _ => rfl⟩
            have HC := hidb (HWr.out _ _ _ _ wr.drew nn v (hls.below hdr) hof hwr HX.out)
            have HRk := hidb (hrd.kt (Kt.below hdr))
            have hd1 : decide ((i : Int) < mn) = true := by simp; omega
            have hd2 : decide ((i : Int) < 100) = true := by simp; omega
            clear hls hof hwr hrd hdr
            by_cases hkd : kd = 0
            · subst hkd
              go_wp2_with fail
              go_region_with (first
                | (go_at_call 10; refine HC.out.mono ?_; clear HC; rintro e w3 ⟨x, rfl, H3⟩)
                | fail)
              all_goals go_wp2_with fail
              all_goals exact ⟨⟨i + 1, by go_num, by omega, by omega, hidb (by obtain ⟨d', q1, q2, q3, q4⟩ := H3.out; exact ⟨d', q1, q2, q3, HRk.out.kt q4⟩)⟩, by simp [intOf]; omega⟩
            · have hk0 : (kd == 0) = false := by simpa using hkd
              go_wp2_with fail
              refine ⟨⟨i + 1, by go_num, by omega, by omega, HI⟩, by simp [intOf]; omega⟩
          · have HT1 : Hid (Calls Try.prog 8 #[.pointer (some ⟨db, 0, none⟩), .string ⟨#[102]⟩] wr fun e w' => ∃ a2 n2 c2 er, e = .returned (.tuple #[.slice a2 n2 c2, .int .i64 er]) ∧ n2 ≤ c2 ∧ c2 ≤ 9223372036854775807 ∧ Hid (Calls Try.prog 7 #[.pointer (some ⟨db, 0, none⟩), .slice fa fn fc] w' fun e w2 => e = .returned (.tuple #[]) ∧ Hid (Calls Try.prog 8 #[.pointer (some ⟨db, 0, none⟩), .string ⟨#[102]⟩] w2 fun e w3 => ∃ a3 n3 c3 er, e = .returned (.tuple #[.slice a3 n3 c3, .int .i64 er]) ∧ n3 ≤ c3 ∧ c3 ≤ 9223372036854775807 ∧ n ≤ n3 ∧ n3 ≤ n2 ∧ Hid (∃ N L, Tail w a n a2 n2 a3 n3 S N L w3)))) := hidb (by
              refine (HRd.out _ _ _ wr hls).mono fun e w' ⟨a2, n2, c2, er, e1, h2, H⟩ => ?_
              obtain ⟨hn2, R2, hR2, hls2, hrd2, hk2⟩ := H.out
              obtain ⟨_, _, e9, _, hc2, _⟩ := row_form hrd2.row
              injection e9 with e91 e92 e93
              unfold maxLen at hc2
              refine ⟨a2, n2, c2, er, e1, h2, by omega, hidb ?_⟩
              refine (HCr.out _ _ _ w' hls2).mono fun e w2 ⟨e2, H2⟩ => ⟨e2, hidb ?_⟩
              obtain ⟨hls3, hk3⟩ := H2.out
              refine (HRd.out _ _ _ w2 hls3).mono fun e w3 ⟨a3, n3, c3, er, e3, h3, H3⟩ => ?_
              obtain ⟨hn3, R3, hR3, hls4, hrd4, hk4⟩ := H3.out
              obtain ⟨_, _, e8, _, hc3, _⟩ := row_form hrd4.row
              injection e8 with e81 e82 e83
              unfold maxLen at hc3
              have q1 := ((((hrd.kt hk2).mono hR2).kt hk3).kt hk4).sec
              have q2 := ((hrd2.kt hk3).kt hk4).sec
              have q3 := hrd4.sec
              have hE : EachP S (readL d fB) (readL (crD d fates) fB) := by
                rw [hof.crash, hof.read]
                exact each_plain hwr fates
              exact ⟨a3, n3, c3, er, e3, h3, by omega, by rw [q1.2, q3.2]; exact hE.lo, by rw [q2.2, q3.2]; exact hE.hi, hidb ⟨_, _, ⟨hE, q1.2, q2.2, q3.2, q1.1, q2.1, q3.1, hls4.bl⟩⟩⟩)
            clear hls hof hwr hrd HI HOm HWr HRd HCr
            go_wp2_with (first
              | (go_at_call 8; refine HT1.out.mono ?_; clear HT1; rintro e w5 ⟨a2, n2, c2, er2, rfl, hnc2, hc2, HT2⟩)
              | (go_at_call 7; refine HT2.out.mono ?_; clear HT2; rintro e w6 ⟨rfl, HT3⟩)
              | (go_at_call 8; refine HT3.out.mono ?_; clear HT3; rintro e w7 ⟨a3, n3, c3, er3, rfl, hnc3, hc3, hlo, hhi, HT⟩)
              | fail)
            all_goals as_aux_lemma => (
              obtain ⟨N, L', HT'⟩ := HT.out
              have HE : Hid (Tail w a n a2 n2 a3 n3 S N L' w7) := hidb HT'
              clear HT' HT
              have hz1 : decide (n3 < n) = false := by simp; omega
              have hz2 : decide (n2 < n3) = false := by simp; omega
              try simp only [hz1, hz2, Bool.or_false]
              clear hz1 hz2
              go_loopw [17] (fun iv wr => ∃ i : Nat, iv = .int .i64 i ∧ i ≤ n3 ∧ Hid (Tail w a n a2 n2 a3 n3 S N L' wr)) (fun iv _ => n3 - (intOf iv).toNat)
              case atStart => exact ⟨0, rfl, by omega, HE⟩
              case round =>
                clear HE
                obtain ⟨i, rfl, hi1, HE⟩ := hrel
                by_cases hgo : i < n3
                · obtain ⟨x, hx⟩ : ∃ x, L'[i]? = some x := ⟨L'[i]'(by have := HE.out.hn3; omega), List.getElem?_eq_getElem _⟩
                  obtain ⟨y, hy⟩ : ∃ y, N[i]? = some y := ⟨N[i]'(by have := HE.out.hn2; omega), List.getElem?_eq_getElem _⟩
                  obtain ⟨q3, rfl, hq3, c30, c31⟩ := HE.out.s3 i x hx
                  obtain ⟨q2, rfl, hq2, c20, c21⟩ := HE.out.s2 i y hy
                  have hE := HE.out.each.each i x hx
                  have HNx : Hid (∀ W, Below wr.heap.size wr W → Tail w a n (some ⟨q2, 0, none⟩) n2 (some ⟨q3, 0, none⟩) n3 S N L' W) := hidb fun W hb => HE.out.below hb
                  have hd1 : decide ((i : Int) < n3) = true := by simp; omega
                  obtain ⟨xb, xd⟩ := x
                  obtain ⟨yb, yd⟩ := y
                  have hE2 : (xb = [] ∧ xd = true) ∨ (xd = false ∧ ((xb = yb ∧ xd = yd) ∨ (¬ (xb = yb ∧ xd = yd) ∧ ((i < n ∧ ∃ q1, a = some ⟨q1, 0, none⟩ ∧ wr.cell? ⟨q1, i * 2, none⟩ = some (sv xb) ∧ wr.cell? ⟨q1, i * 2 + 1, none⟩ = some (.bool xd) ∧ q1 < wr.heap.size) ∨ (n ≤ i ∧ xb = padB []))))) := by
                    rcases hE with e | ⟨hg, e⟩
                    · injection e with e1 e2; exact .inl ⟨e1, e2⟩
                    · right
                      refine ⟨hg, ?_⟩
                      by_cases he : xb = yb ∧ xd = yd
                      · exact .inl he
                      · right
                        refine ⟨he, ?_⟩
                        rcases e with e | e | ⟨e1, e2⟩
                        · rw [hy] at e; injection e with e; injection e with e1 e2; exact absurd ⟨e1.symm, e2.symm⟩ he
                        · obtain ⟨q1, e1, hq1, z0, z1⟩ := HE.out.s1 i _ e
                          exact .inl ⟨by have := (List.getElem?_eq_some_iff.1 e).1; have := HE.out.hn; omega, q1, e1, z0, z1, hq1⟩
                        · exact .inr ⟨by have := HE.out.hn; omega, e2⟩
                  clear hx hy hE HE
                  obtain ⟨W4, hW4⟩ : ∃ W4, W4 = wr.alloc (.cells #[sv xb, .bool xd] 48) := ⟨_, rfl⟩
                  have hb4 : Below wr.heap.size wr W4 := by rw [hW4]; exact (Below.refl _ wr).alloc (Nat.le_refl _) _
                  have hbx : W4.heap[wr.heap.size]? = some (.cells #[sv xb, .bool xd] 48 (0, 0)) := by rw [hW4]; exact heap_alloc_new wr _
                  have k0 := Lib.cell_of_heap hbx 0
                  have k1 := Lib.cell_of_heap hbx 1
                  simp at k0 k1
                  have l0 := (hb4.cell (p := ⟨q2, i * 2, none⟩) hq2).trans c20
                  have l1 := (hb4.cell (p := ⟨q2, i * 2 + 1, none⟩) hq2).trans c21
                  simp only at l0 l1
                  replace HNx := hidb (fun W (hb : Below W4.heap.size W4 W) => HNx.out W (hb4.trans (hb.mono hb4.size)))
                  go_wp2_with fail
                  rw [← hW4]
                  have hb5 : Hid (∀ q k u, q < wr.heap.size → wr.cell? ⟨q, k, none⟩ = some u → W4.cell? ⟨q, k, none⟩ = some u) := hidb fun q k u hq e => (hb4.cell (p := ⟨q, k, none⟩) hq).trans e
                  clear hW4 hbx hb4 c20 c21 c30 c31 hd1
                  have HDr : Hid (∀ m, Tail w a n (some ⟨q2, 0, none⟩) n2 (some ⟨q3, 0, none⟩) n3 S N L' (W4.drewN m)) := hidb fun m => HNx.out _ ⟨rfl, rfl, rfl, Nat.le_refl _, fun _ _ => rfl⟩
                  have HPd : Hid (∀ W, Below W4.heap.size W4 W → Calls Try.prog 18 #[.string ⟨#[]⟩] W fun e w' => e = .returned (sv (padB [])) ∧ w'.cell? ⟨wr.heap.size, 0, none⟩ = some (sv xb) ∧ Below W4.heap.size W4 w') := hidb fun W hb => (pad15_any [] W (by simp)).mono fun e w' ⟨e1, b1⟩ => ⟨e1, by
                    have h4 := block_lt_of_cell k0
                    exact ((hb.trans (b1.mono hb.size)).cell (p := ⟨wr.heap.size, 0, none⟩) h4).trans k0, hb.trans (b1.mono hb.size)⟩
                  rcases hE2 with ⟨rfl, rfl⟩ | ⟨rfl, hE2⟩
                  · clear hb5 l0 l1 HPd HNx
                    go_quiet (fail)
                    go_wp2_with fail
                    go_roundw
                    case rel => first | exact ⟨i + 1, cnt17 i, by omega, hidb (HDr.out _)⟩ | exact ⟨_, _, _, _, _, _, _, _, _, _, _, _, _, _, _, _, _, _, _, _, _, _, _, _, _, _, _, _, _, _, _, _, _, _, _, _, _, _, _, _, _, _, _, _, _, _, _, _, _, _, _, _, ⟨i + 1, cnt17 i, by omega, hidb (HDr.out _)⟩, rfl⟩
                    case measure => simp [intOf]; omega
                  · have hin2 : (i : Int) < n2 := by omega
                    rcases hE2 with ⟨rfl, rfl⟩ | ⟨hne, hE2⟩
                    · clear hb5 HPd HNx
                      go_quiet (fail)
                      go_wp2_with fail
                      go_roundw
                      case rel => first | exact ⟨i + 1, cnt17 i, by omega, hidb (HDr.out _)⟩ | exact ⟨_, _, _, _, _, _, _, _, _, _, _, _, _, _, _, _, _, _, _, _, _, _, _, _, _, _, _, _, _, _, _, _, _, _, _, _, _, _, _, _, _, _, _, _, _, _, _, _, _, _, _, _, ⟨i + 1, cnt17 i, by omega, hidb (HDr.out _)⟩, rfl⟩
                      case measure => simp [intOf]; omega
                    · have hee : yd = true ∨ (yd = false ∧ (xb == yb) = false ∧ decide (xb = yb) = false ∧ ¬ xb = yb) := by
                        cases yd
                        · have : ¬ xb = yb := fun e => hne ⟨e, rfl⟩
                          right
                          simp [this]
                        · simp
                      clear hne
                      rcases hE2 with ⟨hin, q1, rfl, z0, z1, hq1⟩ | ⟨hni, rfl⟩
                      · have m0 := hb5.out _ _ _ hq1 z0
                        have m1 := hb5.out _ _ _ hq1 z1
                        have hdn : decide ((i : Int) < n) = true := by simp; omega
                        have hdm : decide ((n : Int) ≤ i) = false := by simp; omega
                        have hdm2 : decide (n ≤ i) = false := by simp; omega
                        have hdm3 : decide (i < n) = true := by simp; omega
                        clear hb5 HPd HNx z0 z1
                        rcases hee with rfl | ⟨rfl, hx1, hx2, hx3⟩
                        all_goals as_aux_lemma => (
                          go_quiet (fail)
                          go_wp2_with fail
                          go_quiet (fail)
                          go_wp2_with fail
                          go_roundw
                          case rel => first | exact ⟨i + 1, cnt17 i, by omega, hidb (HDr.out _)⟩ | exact ⟨_, _, _, _, _, _, _, _, _, _, _, _, _, _, _, _, _, _, _, _, _, _, _, _, _, _, _, _, _, _, _, _, _, _, _, _, _, _, _, _, _, _, _, _, _, _, _, _, _, _, _, _, ⟨i + 1, cnt17 i, by omega, hidb (HDr.out _)⟩, rfl⟩
                          case measure => simp [intOf]; omega)
                      · have hdn : decide ((i : Int) < n) = false := by simp; omega
                        have hdm : decide ((n : Int) ≤ i) = true := by simp; omega
                        have hdm2 : decide (n ≤ i) = true := by simp; omega
                        have hdm3 : decide (i < n) = false := by simp; omega
                        have hnl2 : ¬ i < n := by omega
                        have hk4 := block_lt_of_cell k0
                        clear hb5
                        rcases hee with rfl | ⟨rfl, hx1, hx2, hx3⟩
                        all_goals as_aux_lemma => (
                          go_quiet (fail)
                          go_wp2_with fail
                          generalize padB [] = pz at *
                          have hTab : ∃ T : Nat → Value, T 0 = .int .i64 (i : Int) ∧ T 1 = .slice a n c ∧ T 2 = .int .i64 (n : Int) ∧ T 3 = .bool false ∧ T 4 = .bool false ∧ T 5 = undef ∧ T 6 = undef ∧ T 7 = undef ∧ T 8 = undef ∧ T 9 = undef ∧ T 10 = undef ∧ T 11 = .bool false ∧ T 12 = .bool false ∧ T 13 = .int .i64 (i : Int) ∧ T 14 = .slice a n c ∧ T 15 = .int .i64 (n : Int) ∧ T 16 = .bool true ∧ T 17 = .bool true ∧ T 18 = .pointer (some ⟨wr.heap.size, 0, none⟩) ∧ T 19 = sv pz ∧ T 20 = sv pz ∧ T 21 = .bool false ∧ T 22 = .bool false ∧ T 23 = .bool false := ⟨fun z => match z with | 0 => .int .i64 (i : Int) | 1 => .slice a n c | 2 => .int .i64 (n : Int) | 3 => .bool false | 4 => .bool false | 5 => undef | 6 => undef | 7 => undef | 8 => undef | 9 => undef | 10 => undef | 11 => .bool false | 12 => .bool false | 13 => .int .i64 (i : Int) | 14 => .slice a n c | 15 => .int .i64 (n : Int) | 16 => .bool true | 17 => .bool true | 18 => .pointer (some ⟨wr.heap.size, 0, none⟩) | 19 => sv pz | 20 => sv pz | 21 => .bool false | 22 => .bool false | 23 => .bool false | _ => undef, rfl, rfl, rfl, rfl, rfl, rfl, rfl, rfl, rfl, rfl, rfl, rfl, rfl, rfl, rfl, rfl, rfl, rfl, rfl, rfl, rfl, rfl, rfl, rfl⟩
                          obtain ⟨T, T0, T1, T2, T3, T4, T5, T6, T7, T8, T9, T10, T11, T12, T13, T14, T15, T16, T17, T18, T19, T20, T21, T22, T23⟩ := hTab
                          refine wp_region_eachg (by kernel_rfl) 171 rfl (by kernel_rfl) (fun _ W => Below W4.heap.size W4 W) (fun _ z v _ => v = T z) ?start ?each ?_
                          case start => exact ⟨rfl, rfl, rfl, Nat.le_refl _, fun _ _ => rfl⟩
                          case each =>
                            intro ix o ho listed a9 W hE hnl haf
                            have hi : ix < 24 := (Array.getElem?_eq_some_iff.1 ho).1
                            have t18 : a9.tmps[18]?.getD undef = .pointer (some ⟨wr.heap.size, 0, none⟩) := hE.rest 18 (rest_of (by kernel_rfl))
                            have t17 : a9.tmps[17]?.getD undef = .int .i64 (i : Int) := hE.rest 17 (rest_of (by kernel_rfl))
                            have t10 : a9.tmps[10]?.getD undef = .slice a n c := hE.rest 10 (rest_of (by kernel_rfl))
                            have hG := hE.glob
                            have kk := (hG.cell (p := ⟨wr.heap.size, 0, none⟩) hk4).trans k0
                            match ix, hi, ho, hnl, haf with
                            | 0, _, ho, hnl, haf =>
                              obtain rfl := Option.some.inj ho
                              exact owesP_value (W' := _) rfl rfl (by simp [execOp, go_sem, t17]) T0.symm hG (fun _ _ _ h => h)
                            | 1, _, ho, hnl, haf =>
                              obtain rfl := Option.some.inj ho
                              exact owesP_value (W' := _) rfl rfl (by simp [execOp, go_sem, t10]) T1.symm hG (fun _ _ _ h => h)
                            | 2, _, ho, hnl, haf =>
                              obtain rfl := Option.some.inj ho
                              have h1 : a9.tmps[148]?.getD undef = .slice a n c := (hE.vals 1 _ 148 rfl (haf ⟨1, .data⟩ (by simp) rfl) rfl).trans T1
                              exact owesP_value (W' := _) rfl rfl (by simp [execOp, go_sem, h1]) T2.symm hG (fun _ _ _ h => h)
                            | 3, _, ho, hnl, haf =>
                              obtain rfl := Option.some.inj ho
                              have h0 : a9.tmps[147]?.getD undef = .int .i64 (i : Int) := (hE.vals 0 _ 147 rfl (haf ⟨0, .data⟩ (by simp) rfl) rfl).trans T0
                              have h2 : a9.tmps[149]?.getD undef = .int .i64 (n : Int) := (hE.vals 2 _ 149 rfl (haf ⟨2, .data⟩ (by simp) rfl) rfl).trans T2
                              exact owesP_value (W' := _) rfl rfl (by simp [execOp, go_sem, h0, h2, hnl2]) T3.symm hG (fun _ _ _ h => h)
                            | 4, _, ho, hnl, haf =>
                              obtain rfl := Option.some.inj ho
                              have h3 : a9.tmps[150]?.getD undef = .bool false := (hE.vals 3 _ 150 rfl (haf ⟨3, .data⟩ (by simp) rfl) rfl).trans T3
                              exact owesP_value (W' := _) rfl rfl (by simp [execOp, go_sem, h3]) T4.symm hG (fun _ _ _ h => h)
                            | 5, _, ho, hnl, haf =>
                              obtain rfl := Option.some.inj ho
                              have hg : a9.tmps[151]?.getD undef = .bool false := (hE.vals 4 _ 151 rfl (haf ⟨4, .guard⟩ (by simp) rfl) rfl).trans T4
                              exact owesP_none rfl ((wanted_is rfl rfl hg).trans rfl) T5.symm hG (fun _ _ _ h => h)
                            | 6, _, ho, hnl, haf =>
                              obtain rfl := Option.some.inj ho
                              have hg : a9.tmps[151]?.getD undef = .bool false := (hE.vals 4 _ 151 rfl (haf ⟨4, .guard⟩ (by simp) rfl) rfl).trans T4
                              exact owesP_none rfl ((wanted_is rfl rfl hg).trans rfl) T6.symm hG (fun _ _ _ h => h)
                            | 7, _, ho, hnl, haf =>
                              obtain rfl := Option.some.inj ho
                              have hg : a9.tmps[151]?.getD undef = .bool false := (hE.vals 4 _ 151 rfl (haf ⟨4, .guard⟩ (by simp) rfl) rfl).trans T4
                              exact owesP_none rfl ((wanted_is rfl rfl hg).trans rfl) T7.symm hG (fun _ _ _ h => h)
                            | 8, _, ho, hnl, haf =>
                              obtain rfl := Option.some.inj ho
                              have hg : a9.tmps[151]?.getD undef = .bool false := (hE.vals 4 _ 151 rfl (haf ⟨4, .guard⟩ (by simp) rfl) rfl).trans T4
                              exact owesP_none rfl ((wanted_is rfl rfl hg).trans rfl) T8.symm hG (fun _ _ _ h => h)
                            | 9, _, ho, hnl, haf =>
                              obtain rfl := Option.some.inj ho
                              have hg : a9.tmps[151]?.getD undef = .bool false := (hE.vals 4 _ 151 rfl (haf ⟨4, .guard⟩ (by simp) rfl) rfl).trans T4
                              exact owesP_none rfl ((wanted_is rfl rfl hg).trans rfl) T9.symm hG (fun _ _ _ h => h)
                            | 10, _, ho, hnl, haf =>
                              obtain rfl := Option.some.inj ho
                              have hg : a9.tmps[151]?.getD undef = .bool false := (hE.vals 4 _ 151 rfl (haf ⟨4, .guard⟩ (by simp) rfl) rfl).trans T4
                              exact owesP_none rfl ((wanted_is rfl rfl hg).trans rfl) T10.symm hG (fun _ _ _ h => h)
                            | 11, _, ho, hnl, haf =>
                              obtain rfl := Option.some.inj ho
                              have h4 : a9.tmps[151]?.getD undef = .bool false := (hE.vals 4 _ 151 rfl (haf ⟨4, .data⟩ (by simp) rfl) rfl).trans T4
                              exact owesP_value (W' := _) rfl rfl (by simp [execOp, go_sem, h4]) T11.symm hG (fun _ _ _ h => h)
                            | 12, _, ho, hnl, haf =>
                              obtain rfl := Option.some.inj ho
                              have h11 : a9.tmps[158]?.getD undef = .bool false := (hE.vals 11 _ 158 rfl (haf ⟨11, .data⟩ (by simp) rfl) rfl).trans T11
                              exact owesP_value (W' := _) rfl rfl (by simp [execOp, go_sem, h11]) T12.symm hG (fun _ _ _ h => h)
                            | 13, _, ho, hnl, haf =>
                              obtain rfl := Option.some.inj ho
                              have hg : a9.tmps[159]?.getD undef = .bool false := (hE.vals 12 _ 159 rfl (haf ⟨12, .guard⟩ (by simp) rfl) rfl).trans T12
                              exact owesP_value (W' := _) rfl ((wanted_is rfl rfl hg).trans rfl) (by simp [execOp, go_sem, t17]) T13.symm hG (fun _ _ _ h => h)
                            | 14, _, ho, hnl, haf =>
                              obtain rfl := Option.some.inj ho
                              have hg : a9.tmps[159]?.getD undef = .bool false := (hE.vals 12 _ 159 rfl (haf ⟨12, .guard⟩ (by simp) rfl) rfl).trans T12
                              exact owesP_value (W' := _) rfl ((wanted_is rfl rfl hg).trans rfl) (by simp [execOp, go_sem, t10]) T14.symm hG (fun _ _ _ h => h)
                            | 15, _, ho, hnl, haf =>
                              obtain rfl := Option.some.inj ho
                              have hg : a9.tmps[159]?.getD undef = .bool false := (hE.vals 12 _ 159 rfl (haf ⟨12, .guard⟩ (by simp) rfl) rfl).trans T12
                              have h14 : a9.tmps[161]?.getD undef = .slice a n c := (hE.vals 14 _ 161 rfl (haf ⟨14, .data⟩ (by simp) rfl) rfl).trans T14
                              exact owesP_value (W' := _) rfl ((wanted_is rfl rfl hg).trans rfl) (by simp [execOp, go_sem, h14]) T15.symm hG (fun _ _ _ h => h)
                            | 16, _, ho, hnl, haf =>
                              obtain rfl := Option.some.inj ho
                              have hg : a9.tmps[159]?.getD undef = .bool false := (hE.vals 12 _ 159 rfl (haf ⟨12, .guard⟩ (by simp) rfl) rfl).trans T12
                              have h13 : a9.tmps[160]?.getD undef = .int .i64 (i : Int) := (hE.vals 13 _ 160 rfl (haf ⟨13, .data⟩ (by simp) rfl) rfl).trans T13
                              have h15 : a9.tmps[162]?.getD undef = .int .i64 (n : Int) := (hE.vals 15 _ 162 rfl (haf ⟨15, .data⟩ (by simp) rfl) rfl).trans T15
                              exact owesP_value (W' := _) rfl ((wanted_is rfl rfl hg).trans rfl) (by simp [execOp, go_sem, h13, h15, hni]) T16.symm hG (fun _ _ _ h => h)
                            | 17, _, ho, hnl, haf =>
                              obtain rfl := Option.some.inj ho
                              have hg : a9.tmps[159]?.getD undef = .bool false := (hE.vals 12 _ 159 rfl (haf ⟨12, .guard⟩ (by simp) rfl) rfl).trans T12
                              have h16 : a9.tmps[163]?.getD undef = .bool true := (hE.vals 16 _ 163 rfl (haf ⟨16, .data⟩ (by simp) rfl) rfl).trans T16
                              exact owesP_value (W' := _) rfl ((wanted_is rfl rfl hg).trans rfl) (by simp [execOp, go_sem, h16]) T17.symm hG (fun _ _ _ h => h)
                            | 18, _, ho, hnl, haf =>
                              obtain rfl := Option.some.inj ho
                              have hg : a9.tmps[164]?.getD undef = .bool true := (hE.vals 17 _ 164 rfl (haf ⟨17, .guard⟩ (by simp) rfl) rfl).trans T17
                              exact owesP_value (W' := _) rfl ((wanted_is rfl rfl hg).trans rfl) (by simp [execOp, go_sem, t18]) T18.symm hG (fun _ _ _ h => h)
                            | 19, _, ho, hnl, haf =>
                              obtain rfl := Option.some.inj ho
                              have hg : a9.tmps[164]?.getD undef = .bool true := (hE.vals 17 _ 164 rfl (haf ⟨17, .guard⟩ (by simp) rfl) rfl).trans T17
                              have h18 : a9.tmps[165]?.getD undef = .pointer (some ⟨wr.heap.size, 0, none⟩) := (hE.vals 18 _ 165 rfl (haf ⟨18, .data⟩ (by simp) rfl) rfl).trans T18
                              exact owesP_value (W' := _) rfl ((wanted_is rfl rfl hg).trans rfl) (by simp [execOp, go_sem, h18, kk]) T19.symm hG (fun _ _ _ h => h)
                            | 20, _, ho, hnl, haf =>
                              obtain rfl := Option.some.inj ho
                              have hg : a9.tmps[164]?.getD undef = .bool true := (hE.vals 17 _ 164 rfl (haf ⟨17, .guard⟩ (by simp) rfl) rfl).trans T17
                              refine owesP_call rfl ((wanted_is rfl rfl hg).trans rfl) (R := _) (by simp [execOp, go_sem]) (HPd.out W hG) fun e W' h => ?_
                              obtain ⟨he, hb⟩ := h
                              exact ⟨_, he, T20.symm, hb.2, fun _ _ _ h => h⟩
                            | 21, _, ho, hnl, haf =>
                              obtain rfl := Option.some.inj ho
                              have hg : a9.tmps[164]?.getD undef = .bool true := (hE.vals 17 _ 164 rfl (haf ⟨17, .guard⟩ (by simp) rfl) rfl).trans T17
                              have h19 : a9.tmps[166]?.getD undef = sv pz := (hE.vals 19 _ 166 rfl (haf ⟨19, .data⟩ (by simp) rfl) rfl).trans T19
                              have h20 : a9.tmps[167]?.getD undef = sv pz := (hE.vals 20 _ 167 rfl (haf ⟨20, .data⟩ (by simp) rfl) rfl).trans T20
                              exact owesP_value (W' := _) rfl ((wanted_is rfl rfl hg).trans rfl) (by simp [execOp, go_sem, h19, h20]) T21.symm hG (fun _ _ _ h => h)
                            | 22, _, ho, hnl, haf =>
                              obtain rfl := Option.some.inj ho
                              have hg : a9.tmps[159]?.getD undef = .bool false := (hE.vals 12 _ 159 rfl (haf ⟨12, .guard⟩ (by simp) rfl) rfl).trans T12
                              have h17 : a9.tmps[164]?.getD undef = .bool true := (hE.vals 17 _ 164 rfl (haf ⟨17, .data⟩ (by simp) rfl) rfl).trans T17
                              have h21 : a9.tmps[168]?.getD undef = .bool false := (hE.vals 21 _ 168 rfl (haf ⟨21, .data⟩ (by simp) rfl) rfl).trans T21
                              exact owesP_value (W' := _) rfl ((wanted_is rfl rfl hg).trans rfl) (by simp [execOp, go_sem, h17, h21]) T22.symm hG (fun _ _ _ h => h)
                            | 23, _, ho, hnl, haf =>
                              obtain rfl := Option.some.inj ho
                              have h12 : a9.tmps[159]?.getD undef = .bool false := (hE.vals 12 _ 159 rfl (haf ⟨12, .data⟩ (by simp) rfl) rfl).trans T12
                              have h22 : a9.tmps[169]?.getD undef = .bool false := (hE.vals 22 _ 169 rfl (haf ⟨22, .data⟩ (by simp) rfl) rfl).trans T22
                              exact owesP_value (W' := _) rfl rfl (by simp [execOp, go_sem, h12, h22]) T23.symm hG (fun _ _ _ h => h)
                          intro a9 W9 hE
                          have h23 : a9.tmps[170]?.getD undef = .bool false := (hE.vals 23 _ 170 rfl (by rfl) rfl).trans T23
                          have hF : Below W4.heap.size W4 W9 := hE.glob
                          have hsz := hE.tsize
                          have hdf := hE.defers
                          have r := fun t h => hE.rest t h
                          obtain ⟨tm, df⟩ := a9
                          simp only at hsz hdf r h23
                          have htm := arr_out 171 tm (by rw [hsz]; rfl) undef
                          simp only [List.range, List.range.loop, List.map_cons, List.map_nil] at htm
                          rw [h23] at htm
                          rw [show tm[0]?.getD undef = _ from r 0 (rest_of (by kernel_rfl))] at htm
                          rw [show tm[1]?.getD undef = _ from r 1 (rest_of (by kernel_rfl))] at htm
                          rw [show tm[2]?.getD undef = _ from r 2 (rest_of (by kernel_rfl))] at htm
                          rw [show tm[3]?.getD undef = _ from r 3 (rest_of (by kernel_rfl))] at htm
                          rw [show tm[4]?.getD undef = _ from r 4 (rest_of (by kernel_rfl))] at htm
                          rw [show tm[5]?.getD undef = _ from r 5 (rest_of (by kernel_rfl))] at htm
                          rw [show tm[6]?.getD undef = _ from r 6 (rest_of (by kernel_rfl))] at htm
                          rw [show tm[7]?.getD undef = _ from r 7 (rest_of (by kernel_rfl))] at htm
                          rw [show tm[8]?.getD undef = _ from r 8 (rest_of (by kernel_rfl))] at htm
                          rw [show tm[9]?.getD undef = _ from r 9 (rest_of (by kernel_rfl))] at htm
                          rw [show tm[10]?.getD undef = _ from r 10 (rest_of (by kernel_rfl))] at htm
                          rw [show tm[11]?.getD undef = _ from r 11 (rest_of (by kernel_rfl))] at htm
                          rw [show tm[12]?.getD undef = _ from r 12 (rest_of (by kernel_rfl))] at htm
                          rw [show tm[13]?.getD undef = _ from r 13 (rest_of (by kernel_rfl))] at htm
                          rw [show tm[14]?.getD undef = _ from r 14 (rest_of (by kernel_rfl))] at htm
                          rw [show tm[15]?.getD undef = _ from r 15 (rest_of (by kernel_rfl))] at htm
                          rw [show tm[16]?.getD undef = _ from r 16 (rest_of (by kernel_rfl))] at htm
                          rw [show tm[17]?.getD undef = _ from r 17 (rest_of (by kernel_rfl))] at htm
                          rw [show tm[18]?.getD undef = _ from r 18 (rest_of (by kernel_rfl))] at htm
                          rw [show tm[19]?.getD undef = _ from r 19 (rest_of (by kernel_rfl))] at htm
                          rw [show tm[20]?.getD undef = _ from r 20 (rest_of (by kernel_rfl))] at htm
                          rw [show tm[21]?.getD undef = _ from r 21 (rest_of (by kernel_rfl))] at htm
                          rw [show tm[22]?.getD undef = _ from r 22 (rest_of (by kernel_rfl))] at htm
                          rw [show tm[23]?.getD undef = _ from r 23 (rest_of (by kernel_rfl))] at htm
                          rw [show tm[24]?.getD undef = _ from r 24 (rest_of (by kernel_rfl))] at htm
                          rw [show tm[25]?.getD undef = _ from r 25 (rest_of (by kernel_rfl))] at htm
                          rw [show tm[26]?.getD undef = _ from r 26 (rest_of (by kernel_rfl))] at htm
                          rw [show tm[27]?.getD undef = _ from r 27 (rest_of (by kernel_rfl))] at htm
                          rw [show tm[28]?.getD undef = _ from r 28 (rest_of (by kernel_rfl))] at htm
                          rw [show tm[29]?.getD undef = _ from r 29 (rest_of (by kernel_rfl))] at htm
                          rw [show tm[30]?.getD undef = _ from r 30 (rest_of (by kernel_rfl))] at htm
                          rw [show tm[31]?.getD undef = _ from r 31 (rest_of (by kernel_rfl))] at htm
                          rw [show tm[32]?.getD undef = _ from r 32 (rest_of (by kernel_rfl))] at htm
                          rw [show tm[33]?.getD undef = _ from r 33 (rest_of (by kernel_rfl))] at htm
                          rw [show tm[34]?.getD undef = _ from r 34 (rest_of (by kernel_rfl))] at htm
                          rw [show tm[35]?.getD undef = _ from r 35 (rest_of (by kernel_rfl))] at htm
                          rw [show tm[36]?.getD undef = _ from r 36 (rest_of (by kernel_rfl))] at htm
                          rw [show tm[37]?.getD undef = _ from r 37 (rest_of (by kernel_rfl))] at htm
                          rw [show tm[38]?.getD undef = _ from r 38 (rest_of (by kernel_rfl))] at htm
                          rw [show tm[39]?.getD undef = _ from r 39 (rest_of (by kernel_rfl))] at htm
                          rw [show tm[40]?.getD undef = _ from r 40 (rest_of (by kernel_rfl))] at htm
                          rw [show tm[41]?.getD undef = _ from r 41 (rest_of (by kernel_rfl))] at htm
                          rw [show tm[42]?.getD undef = _ from r 42 (rest_of (by kernel_rfl))] at htm
                          rw [show tm[43]?.getD undef = _ from r 43 (rest_of (by kernel_rfl))] at htm
                          rw [show tm[44]?.getD undef = _ from r 44 (rest_of (by kernel_rfl))] at htm
                          rw [show tm[45]?.getD undef = _ from r 45 (rest_of (by kernel_rfl))] at htm
                          rw [show tm[46]?.getD undef = _ from r 46 (rest_of (by kernel_rfl))] at htm
                          rw [show tm[47]?.getD undef = _ from r 47 (rest_of (by kernel_rfl))] at htm
                          rw [show tm[48]?.getD undef = _ from r 48 (rest_of (by kernel_rfl))] at htm
                          rw [show tm[49]?.getD undef = _ from r 49 (rest_of (by kernel_rfl))] at htm
                          rw [show tm[50]?.getD undef = _ from r 50 (rest_of (by kernel_rfl))] at htm
                          rw [show tm[51]?.getD undef = _ from r 51 (rest_of (by kernel_rfl))] at htm
                          rw [show tm[52]?.getD undef = _ from r 52 (rest_of (by kernel_rfl))] at htm
                          rw [show tm[53]?.getD undef = _ from r 53 (rest_of (by kernel_rfl))] at htm
                          rw [show tm[54]?.getD undef = _ from r 54 (rest_of (by kernel_rfl))] at htm
                          rw [show tm[55]?.getD undef = _ from r 55 (rest_of (by kernel_rfl))] at htm
                          rw [show tm[56]?.getD undef = _ from r 56 (rest_of (by kernel_rfl))] at htm
                          rw [show tm[57]?.getD undef = _ from r 57 (rest_of (by kernel_rfl))] at htm
                          rw [show tm[58]?.getD undef = _ from r 58 (rest_of (by kernel_rfl))] at htm
                          rw [show tm[59]?.getD undef = _ from r 59 (rest_of (by kernel_rfl))] at htm
                          rw [show tm[60]?.getD undef = _ from r 60 (rest_of (by kernel_rfl))] at htm
                          rw [show tm[61]?.getD undef = _ from r 61 (rest_of (by kernel_rfl))] at htm
                          rw [show tm[62]?.getD undef = _ from r 62 (rest_of (by kernel_rfl))] at htm
                          rw [show tm[63]?.getD undef = _ from r 63 (rest_of (by kernel_rfl))] at htm
                          rw [show tm[64]?.getD undef = _ from r 64 (rest_of (by kernel_rfl))] at htm
                          rw [show tm[65]?.getD undef = _ from r 65 (rest_of (by kernel_rfl))] at htm
                          rw [show tm[66]?.getD undef = _ from r 66 (rest_of (by kernel_rfl))] at htm
                          rw [show tm[67]?.getD undef = _ from r 67 (rest_of (by kernel_rfl))] at htm
                          rw [show tm[68]?.getD undef = _ from r 68 (rest_of (by kernel_rfl))] at htm
                          rw [show tm[69]?.getD undef = _ from r 69 (rest_of (by kernel_rfl))] at htm
                          rw [show tm[70]?.getD undef = _ from r 70 (rest_of (by kernel_rfl))] at htm
                          rw [show tm[71]?.getD undef = _ from r 71 (rest_of (by kernel_rfl))] at htm
                          rw [show tm[72]?.getD undef = _ from r 72 (rest_of (by kernel_rfl))] at htm
                          rw [show tm[73]?.getD undef = _ from r 73 (rest_of (by kernel_rfl))] at htm
                          rw [show tm[74]?.getD undef = _ from r 74 (rest_of (by kernel_rfl))] at htm
                          rw [show tm[75]?.getD undef = _ from r 75 (rest_of (by kernel_rfl))] at htm
                          rw [show tm[76]?.getD undef = _ from r 76 (rest_of (by kernel_rfl))] at htm
                          rw [show tm[77]?.getD undef = _ from r 77 (rest_of (by kernel_rfl))] at htm
                          rw [show tm[78]?.getD undef = _ from r 78 (rest_of (by kernel_rfl))] at htm
                          rw [show tm[79]?.getD undef = _ from r 79 (rest_of (by kernel_rfl))] at htm
                          rw [show tm[80]?.getD undef = _ from r 80 (rest_of (by kernel_rfl))] at htm
                          rw [show tm[81]?.getD undef = _ from r 81 (rest_of (by kernel_rfl))] at htm
                          rw [show tm[82]?.getD undef = _ from r 82 (rest_of (by kernel_rfl))] at htm
                          rw [show tm[83]?.getD undef = _ from r 83 (rest_of (by kernel_rfl))] at htm
                          rw [show tm[84]?.getD undef = _ from r 84 (rest_of (by kernel_rfl))] at htm
                          rw [show tm[85]?.getD undef = _ from r 85 (rest_of (by kernel_rfl))] at htm
                          rw [show tm[86]?.getD undef = _ from r 86 (rest_of (by kernel_rfl))] at htm
                          rw [show tm[87]?.getD undef = _ from r 87 (rest_of (by kernel_rfl))] at htm
                          rw [show tm[88]?.getD undef = _ from r 88 (rest_of (by kernel_rfl))] at htm
                          rw [show tm[89]?.getD undef = _ from r 89 (rest_of (by kernel_rfl))] at htm
                          rw [show tm[90]?.getD undef = _ from r 90 (rest_of (by kernel_rfl))] at htm
                          rw [show tm[91]?.getD undef = _ from r 91 (rest_of (by kernel_rfl))] at htm
                          rw [show tm[92]?.getD undef = _ from r 92 (rest_of (by kernel_rfl))] at htm
                          rw [show tm[93]?.getD undef = _ from r 93 (rest_of (by kernel_rfl))] at htm
                          rw [show tm[94]?.getD undef = _ from r 94 (rest_of (by kernel_rfl))] at htm
                          rw [show tm[95]?.getD undef = _ from r 95 (rest_of (by kernel_rfl))] at htm
                          rw [show tm[96]?.getD undef = _ from r 96 (rest_of (by kernel_rfl))] at htm
                          rw [show tm[97]?.getD undef = _ from r 97 (rest_of (by kernel_rfl))] at htm
                          rw [show tm[98]?.getD undef = _ from r 98 (rest_of (by kernel_rfl))] at htm
                          rw [show tm[99]?.getD undef = _ from r 99 (rest_of (by kernel_rfl))] at htm
                          rw [show tm[100]?.getD undef = _ from r 100 (rest_of (by kernel_rfl))] at htm
                          rw [show tm[101]?.getD undef = _ from r 101 (rest_of (by kernel_rfl))] at htm
                          rw [show tm[102]?.getD undef = _ from r 102 (rest_of (by kernel_rfl))] at htm
                          rw [show tm[103]?.getD undef = _ from r 103 (rest_of (by kernel_rfl))] at htm
                          rw [show tm[104]?.getD undef = _ from r 104 (rest_of (by kernel_rfl))] at htm
                          rw [show tm[105]?.getD undef = _ from r 105 (rest_of (by kernel_rfl))] at htm
                          rw [show tm[106]?.getD undef = _ from r 106 (rest_of (by kernel_rfl))] at htm
                          rw [show tm[107]?.getD undef = _ from r 107 (rest_of (by kernel_rfl))] at htm
                          rw [show tm[108]?.getD undef = _ from r 108 (rest_of (by kernel_rfl))] at htm
                          rw [show tm[109]?.getD undef = _ from r 109 (rest_of (by kernel_rfl))] at htm
                          rw [show tm[110]?.getD undef = _ from r 110 (rest_of (by kernel_rfl))] at htm
                          rw [show tm[111]?.getD undef = _ from r 111 (rest_of (by kernel_rfl))] at htm
                          rw [show tm[112]?.getD undef = _ from r 112 (rest_of (by kernel_rfl))] at htm
                          rw [show tm[113]?.getD undef = _ from r 113 (rest_of (by kernel_rfl))] at htm
                          rw [show tm[114]?.getD undef = _ from r 114 (rest_of (by kernel_rfl))] at htm
                          rw [show tm[115]?.getD undef = _ from r 115 (rest_of (by kernel_rfl))] at htm
                          rw [show tm[116]?.getD undef = _ from r 116 (rest_of (by kernel_rfl))] at htm
                          rw [show tm[117]?.getD undef = _ from r 117 (rest_of (by kernel_rfl))] at htm
                          rw [show tm[118]?.getD undef = _ from r 118 (rest_of (by kernel_rfl))] at htm
                          rw [show tm[119]?.getD undef = _ from r 119 (rest_of (by kernel_rfl))] at htm
                          rw [show tm[120]?.getD undef = _ from r 120 (rest_of (by kernel_rfl))] at htm
                          rw [show tm[121]?.getD undef = _ from r 121 (rest_of (by kernel_rfl))] at htm
                          rw [show tm[122]?.getD undef = _ from r 122 (rest_of (by kernel_rfl))] at htm
                          rw [show tm[123]?.getD undef = _ from r 123 (rest_of (by kernel_rfl))] at htm
                          rw [show tm[124]?.getD undef = _ from r 124 (rest_of (by kernel_rfl))] at htm
                          rw [show tm[125]?.getD undef = _ from r 125 (rest_of (by kernel_rfl))] at htm
                          rw [show tm[126]?.getD undef = _ from r 126 (rest_of (by kernel_rfl))] at htm
                          rw [show tm[127]?.getD undef = _ from r 127 (rest_of (by kernel_rfl))] at htm
                          rw [show tm[128]?.getD undef = _ from r 128 (rest_of (by kernel_rfl))] at htm
                          rw [show tm[129]?.getD undef = _ from r 129 (rest_of (by kernel_rfl))] at htm
                          rw [show tm[130]?.getD undef = _ from r 130 (rest_of (by kernel_rfl))] at htm
                          rw [show tm[131]?.getD undef = _ from r 131 (rest_of (by kernel_rfl))] at htm
                          rw [show tm[132]?.getD undef = _ from r 132 (rest_of (by kernel_rfl))] at htm
                          rw [show tm[133]?.getD undef = _ from r 133 (rest_of (by kernel_rfl))] at htm
                          rw [show tm[134]?.getD undef = _ from r 134 (rest_of (by kernel_rfl))] at htm
                          rw [show tm[135]?.getD undef = _ from r 135 (rest_of (by kernel_rfl))] at htm
                          rw [show tm[136]?.getD undef = _ from r 136 (rest_of (by kernel_rfl))] at htm
                          rw [show tm[137]?.getD undef = _ from r 137 (rest_of (by kernel_rfl))] at htm
                          rw [show tm[138]?.getD undef = _ from r 138 (rest_of (by kernel_rfl))] at htm
                          rw [show tm[139]?.getD undef = _ from r 139 (rest_of (by kernel_rfl))] at htm
                          rw [show tm[140]?.getD undef = _ from r 140 (rest_of (by kernel_rfl))] at htm
                          rw [show tm[141]?.getD undef = _ from r 141 (rest_of (by kernel_rfl))] at htm
                          rw [show tm[142]?.getD undef = _ from r 142 (rest_of (by kernel_rfl))] at htm
                          rw [show tm[143]?.getD undef = _ from r 143 (rest_of (by kernel_rfl))] at htm
                          rw [show tm[144]?.getD undef = _ from r 144 (rest_of (by kernel_rfl))] at htm
                          rw [show tm[145]?.getD undef = _ from r 145 (rest_of (by kernel_rfl))] at htm
                          rw [show tm[146]?.getD undef = _ from r 146 (rest_of (by kernel_rfl))] at htm
                          generalize tm[147]?.getD undef = v147 at htm
                          generalize tm[148]?.getD undef = v148 at htm
                          generalize tm[149]?.getD undef = v149 at htm
                          generalize tm[150]?.getD undef = v150 at htm
                          generalize tm[151]?.getD undef = v151 at htm
                          generalize tm[152]?.getD undef = v152 at htm
                          generalize tm[153]?.getD undef = v153 at htm
                          generalize tm[154]?.getD undef = v154 at htm
                          generalize tm[155]?.getD undef = v155 at htm
                          generalize tm[156]?.getD undef = v156 at htm
                          generalize tm[157]?.getD undef = v157 at htm
                          generalize tm[158]?.getD undef = v158 at htm
                          generalize tm[159]?.getD undef = v159 at htm
                          generalize tm[160]?.getD undef = v160 at htm
                          generalize tm[161]?.getD undef = v161 at htm
                          generalize tm[162]?.getD undef = v162 at htm
                          generalize tm[163]?.getD undef = v163 at htm
                          generalize tm[164]?.getD undef = v164 at htm
                          generalize tm[165]?.getD undef = v165 at htm
                          generalize tm[166]?.getD undef = v166 at htm
                          generalize tm[167]?.getD undef = v167 at htm
                          generalize tm[168]?.getD undef = v168 at htm
                          generalize tm[169]?.getD undef = v169 at htm
                          subst hdf
                          rw [htm]
                          clear hE htm hsz r h23
                          go_wp2_with fail
                          go_roundw
                          case rel => first | exact ⟨i + 1, cnt17 i, by omega, hidb (HNx.out _ hF)⟩ | exact ⟨_, _, _, _, _, _, _, _, _, _, _, _, _, _, _, _, _, _, _, _, _, _, _, _, _, _, _, _, _, _, _, _, _, _, _, _, _, _, _, _, _, _, _, _, _, _, _, _, _, _, _, _, ⟨i + 1, cnt17 i, by omega, hidb (HNx.out _ hF)⟩, rfl⟩
                          case measure => simp [intOf]; omega)
                · have hd1 : decide ((i : Int) < n3) = false := by simp; omega
                  have hbl := hidb HE.out.bl
                  clear HE
                  go_wp2_with fail
                  go_ret
                  exact ⟨rfl, hbl.out⟩))
end Go.Proofs.Ytghhhlbpolhkhaa
