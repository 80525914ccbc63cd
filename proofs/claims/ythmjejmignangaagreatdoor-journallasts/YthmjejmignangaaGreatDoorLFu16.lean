/- Layer 16: the law JournalFull. Layer 16: what the cards share: rows of bytes, and fates, that came in. -/
import Derived.Test.YthmjejmignangaaGreatDoorJLa
import Derived.Deep.Cut
import Derived.Test.YthmjejmignangaaGreatDoorJKn
import Derived.Deep.Matrix
namespace Go.Proofs.YthmjejmignangaaGreatDoor
open Go.RowKit
/-- Rows of bytes that came in. -/
def BssX (W : World) (a : Option Addr) (L : List Bt) : Prop := ∀ i (h : i < L.length), ∃ gb off av c, a = some ⟨gb, off, none⟩ ∧ gb < W.heap.size ∧ W.cell? ⟨gb, off + i, none⟩ = some (.slice av L[i].length c) ∧ BsX W av L[i].length c L[i] ∧ c ≤ 9223372036854775807
theorem BssX.at_ {w W : World} {a : Option Addr} {L : List Bt} (h : BssX w a L) (k : Below w.heap.size w W) (i : Nat) (hi : i < L.length) : ∃ gb off av c, a = some ⟨gb, off, none⟩ ∧ gb < W.heap.size ∧ W.cell? ⟨gb, off + i, none⟩ = some (.slice av L[i].length c) ∧ BsX W av L[i].length c L[i] ∧ c ≤ 9223372036854775807 := by
  obtain ⟨gb, off, av, c, e, h1, h2, h3, h4⟩ := h i hi
  exact ⟨gb, off, av, c, e, Nat.lt_of_lt_of_le h1 k.size, (k.cell (p := ⟨gb, off + i, none⟩) h1).trans h2, h3.below k, h4⟩
/-- A new disk. -/
theorem fc_new {w V : World} {db n : Nat} (h1 : DkAt (fun k => k < w.heap.size) db (newD (n : Int)) V) (h2 : Below w.heap.size w V) : FC w n db [] [] 0 0 (.slice none 0 0) none [] V :=
  ⟨_, newD n, h1, fun _ hk => hk, h2, ⟨rfl, rfl, [], .inl ⟨rfl, rfl⟩, fun c hc => by simp at hc, rfl, fun c hc => by simp at hc⟩, ⟨World.ownsRow_nil _ _ _ _, fun b h => by simp [Value.ownBlock] at h⟩, RecW.nil _ _ _, Nat.le_refl _, rfl⟩
theorem w64_in16 {x : Int} (h1 : -9223372036854775808 ≤ x) (h2 : x ≤ 9223372036854775807) : wrap64 x = x := by
  unfold wrap64
  omega
theorem most_nat (n : Int) : ∃ N : Nat, wrap64 (2 + (wrap64 (n.tmod 20 + 20)).tmod 20) = N ∧ 2 ≤ N ∧ N ≤ 21 := by
  have a1 : -20 < n.tmod 20 := by have := Int.lt_tmod_of_pos n (b := 20) (by decide); omega
  have a2 : n.tmod 20 < 20 := Int.tmod_lt_of_pos n (by decide)
  have a3 := Int.tmod_nonneg (a := n.tmod 20 + 20) 20 (by omega)
  have a4 := Int.tmod_lt_of_pos (n.tmod 20 + 20) (show (0 : Int) < 20 by omega)
  rw [w64_in16 (x := n.tmod 20 + 20) (by omega) (by omega), w64_in16 (by omega) (by omega)]
  exact ⟨(2 + (n.tmod 20 + 20).tmod 20).toNat, by omega, by omega, by omega⟩
set_option maxRecDepth 100000 in
set_option maxHeartbeats 4000000 in
theorem mfull16_any (la : Option Addr) (ln lc : Nat) (L : List Bt) (hl : L.length = ln) (w : World) (hL : BssX w la L) (hlc : ln ≤ 9223372036854775807) (most : Int) :
    Calls Tryz.prog 6 #[.slice la ln lc, .int .i64 most] w fun e w' => e = .returned (.bool true) ∧ Below w.heap.size w w' := by
  have HK := hidb knows_any16
  obtain ⟨mn, hmn, hm1, hm2⟩ := most_nat most
  obtain ⟨mo, hmo⟩ : ∃ mo : Int, mo = mn := ⟨_, rfl⟩
  have HD : Hid (Calls Tryz.prog 18 #[.int .i64 mn] w fun e w' => ∃ db, e = .returned (.pointer (some ⟨db, 0, none⟩)) ∧ Hid (FC w mo db [] [] 0 0 (.slice none 0 0) none [] w')) := hidb ((disk_any16 mn (by omega) (by omega) w).mono fun e w' ⟨db, h1, h2⟩ => ⟨db, h1, hidb (by rw [hmo]; exact fc_new h2.out.1 h2.out.2)⟩)
  have HEl : Hid (∀ i, i < ln → ∃ gb off av n c b, la = some ⟨gb, off, none⟩ ∧ c ≤ 9223372036854775807 ∧ (∀ W, Below w.heap.size w W → gb < W.heap.size ∧ W.cell? ⟨gb, off + i, none⟩ = some (.slice av n c)) ∧ Hid (BsX w av n c b)) := hidb fun i hi => by
    obtain ⟨gb, off, av, c, e, h1, h2, h3, h4⟩ := hL i (by omega)
    exact ⟨gb, off, av, _, c, _, e, h4, fun W hW => ⟨Nat.lt_of_lt_of_le h1 hW.size, (hW.cell (p := ⟨gb, off + i, none⟩) h1).trans h2⟩, hidb h3⟩
  clear hL hl
  go_enter Tryz.func6, Tryz.ntmps6
  go_upto_region 2 with (first | (go_at_call 18; rw [hmn]; refine HD.out.mono ?_; clear HD; rintro e V0 ⟨db, rfl, h0⟩) | fail)
  have HO := hidb h0.out.opens
  clear hmn hmo
  go_upto_region 7 with (first
    | (go_at_call 12; refine HO.out.mono ?_; clear HO; rintro e V1 ⟨jb, lb, a1, c1, rfl, h1⟩)
    | (go_at_call 13; refine (num_any16 _ _).mono ?_; rintro e wn ⟨rfl, e5⟩; obtain rfl := e5.symm)
    | (go_at_call 11; refine (HK.out _).mono ?_; clear HK; rintro e V2 ⟨rfl, hb2⟩)
    | fail)
  have H0 := hidb (h1.out.fj.below hb2)
  clear h0 h1 hb2
  go_loopw [9, 10] (fun wv iv wr => ∃ (i ml : Nat) (wa : Option Addr) (wc : Nat), wv = .slice wa ml wc ∧ iv = .int .i64 i ∧ i ≤ ln ∧ i ≤ 60 ∧ ml ≤ i ∧ ml ≤ wc ∧ wc ≤ 9223372036854775807 ∧ Hid (∃ want : List Bt, want.length = ml ∧ FJ w mo jb lb db want [] want (i + 1) (10 * i) (.slice wa ml wc) wr)) (fun _ iv _ => 60 - (intOf iv).toNat)
  case atStart => exact ⟨0, 0, none, 0, rfl, rfl, by omega, by omega, by omega, by omega, by omega, hidb ⟨[], rfl, H0.out⟩⟩
  case round =>
    clear H0
    obtain ⟨i, ml, wa, wc, rfl, rfl, hi1, hi2, hwl, hw1, hw2, HX⟩ := hrel
    obtain ⟨want, hW, hI⟩ := HX.out
    have HW := hidb hW
    have HI := hidb hI
    clear hW hI HX
    by_cases hgo : i < ln ∧ i < 60
    · have hbl := HI.out.bl
      obtain ⟨gb, off, av, n, c, b, rfl, hc9, hel, HB⟩ := HEl.out i hgo.1
      obtain ⟨x0, x1⟩ := hel wr hbl
      clear hel
      have hd1 : decide ((i : Int) < ln) = true := by simp; omega
      have hd2 : decide ((i : Int) < 60) = true := by simp; omega
      have hnc : n ≤ c := by
        obtain ⟨q1, q2 | ⟨_, _, _, q3, _⟩⟩ := HB.out
        · omega
        · exact q3
      by_cases h400 : 400 < n
      · obtain ⟨bB, bo, rfl, HB2⟩ : ∃ bB bo, av = some ⟨bB, bo, none⟩ ∧ Hid (BsX w (some ⟨bB, bo, none⟩) 400 c (b.take 400)) := by
          obtain ⟨q1, q2 | ⟨bB, bo, e, q3, q4, q5⟩⟩ := HB.out
          · omega
          · refine ⟨bB, bo, e, hidb ⟨by rw [List.length_take]; omega, .inr ⟨bB, bo, rfl, by omega, q4, fun j hj => ?_⟩⟩⟩
            rw [List.getElem_take]
            exact q5 j (by simp at hj; omega)
        clear HB
        have HS : Hid (∀ may shown v V, Hid (FJ w mo jb lb db want may shown (i + 2) (10 * i + 10) v V) → Calls Tryz.prog 15 #[.pointer (some ⟨jb, 0, none⟩)] V fun e w' => e = .returned (.int .i64 0) ∧ Hid (FJ w mo jb lb db (want ++ may) [] shown (i + 2) (10 * i + 10) v w')) := hidb fun may shown v V h => h.out.sync
        rcases HI.out.append (by omega) (some ⟨bB, bo, none⟩) 400 c (b.take 400) (HB2.out.below hbl) (by omega) with HA | ⟨-, HA⟩
        · rw [List.nil_append] at HA
          replace HA := hidb HA
          have HC : Hid (∀ V, Hid (FJ w mo jb lb db want [(b.take 400)] want (i + 2) (10 * i + 10) (.slice wa ml wc) V) → (convert 29 9 (.slice (some ⟨bB, bo, none⟩) 400 c)).run Tryz.prog V = .ok (sv (b.take 400)) V) := hidb fun V h => jst_str (HB2.out.below h.out.bl)
          have HO : Hid (∀ V, Hid (FJ w mo jb lb db want [(b.take 400)] want (i + 2) (10 * i + 10) (.slice wa ml wc) V) → (V.alloc (.cells #[sv (b.take 400)] 9)).ownsRow w.heap.size 9 1 (.slice wa ml wc) ml (svl want) ∧ Lies (V.alloc (.cells #[sv (b.take 400)] 9)) (.slice (some ⟨V.heap.size, 0, none⟩) 1 1) 1 [sv (b.take 400)] ∧ w.heap.size ≤ (V.alloc (.cells #[sv (b.take 400)] 9)).heap.size ∧ Hid (∀ v' w5, w5.ownsRow w.heap.size 9 1 v' (ml + 1) (svl want ++ [sv (b.take 400)]) → Step (V.alloc (.cells #[sv (b.take 400)] 9)) (.slice wa ml wc) w5 v' → ∃ a5 c5, v' = .slice a5 (ml + 1) c5 ∧ ml + 1 ≤ c5 ∧ c5 ≤ 9223372036854775807 ∧ Hid (FJ w mo jb lb db want [(b.take 400)] (want ++ [(b.take 400)]) (i + 2) (10 * i + 10) (.slice a5 (ml + 1) c5) w5))) := hidb fun V h => by
            obtain ⟨r1, r2, r3, r4⟩ := h.out.one (b.take 400)
            rw [HW.out] at r1 r4
            refine ⟨r1, r2, r3, hidb fun v' w5 h5 hs => ?_⟩
            have H5 := r4 v' w5 h5 hs
            obtain ⟨a5, c5, e5, hc5, hc6⟩ := H5.len_le
            rw [List.length_append, HW.out] at e5 hc5
            subst e5
            exact ⟨a5, c5, rfl, hc5, hc6, hidb H5⟩
          have HLn : Hid (∀ V v, Hid (FJ w mo jb lb db (want ++ [(b.take 400)]) [] (want ++ [(b.take 400)]) (i + 2) (10 * i + 10) v V) → Calls Tryz.prog 16 #[.pointer (some ⟨jb, 0, none⟩)] V fun e w' => e = .returned (.int .i64 (ml + 1 : Nat)) ∧ w' = V) := hidb fun V v h => by
            have := h.out.len
            rw [List.append_nil, List.length_append, HW.out] at this
            exact this
          have HR : Hid (∀ V v, Hid (FJ w mo jb lb db (want ++ [(b.take 400)]) [] (want ++ [(b.take 400)]) (i + 2) (10 * i + 10) v V) → ∃ want', want'.length = ml + 1 ∧ FJ w mo jb lb db want' [] want' (i + 1 + 1) (10 * (i + 1)) v V) := hidb fun V v h => ⟨_, by rw [List.length_append, HW.out]; rfl, h.out⟩
          generalize (b.take 400) = bb at *
          clear hbl HI HB2 HEl HW
          go_wp2_with (first
            | (go_at_call 14; refine HA.out.mono ?_; clear HA; rintro e w3 ⟨rfl, h3⟩; have hcv := HC.out _ h3; obtain ⟨o1, o2, o3, o4⟩ := HO.out _ h3; clear HC HO)
            | (go_at_call 13; refine (num_any16 _ _).mono ?_; rintro e wn ⟨rfl, e5⟩; obtain rfl := e5.symm)
            | (at_builtin; refine wpList_appN _ rfl _ _ 54 rfl elemS16 w.heap.size _ ml (svl want) rfl o1 _ rfl 1 [sv bb] o2 rfl (by simp [Value.oneCell']) (by unfold maxLen; omega) (by omega) o3 ?_; intro v' w5 hr5 hs5; obtain ⟨a5, c5, e5, hc5, hc6, H5⟩ := o4.out v' w5 hr5 hs5; subst e5; clear o4)
            | (go_at_call 15; refine (HS.out _ _ _ _ H5).mono ?_; clear HS; rintro e w6 ⟨rfl, h6⟩)
            | (go_at_call 16; refine (HLn.out _ _ h6).mono ?_; clear HLn; rintro e w7 ⟨rfl, e7⟩; obtain rfl := e7.symm)
            | fail)
          exact ⟨⟨i + 1, ml + 1, _, _, rfl, by simp, by omega, by omega, by omega, hc5, hc6, hidb (HR.out _ _ h6)⟩, by simp [intOf]; omega⟩
        · replace HA := hidb HA
          have HLn : Hid (∀ V v, Hid (FJ w mo jb lb db (want ++ []) [] want (i + 2) (10 * i + 10) v V) → Calls Tryz.prog 16 #[.pointer (some ⟨jb, 0, none⟩)] V fun e w' => e = .returned (.int .i64 (ml : Nat)) ∧ w' = V) := hidb fun V v h => by
            have := h.out.len
            rw [List.append_nil, List.append_nil, HW.out] at this
            exact this
          have HR : Hid (∀ V v, Hid (FJ w mo jb lb db (want ++ []) [] want (i + 2) (10 * i + 10) v V) → ∃ want', want'.length = ml ∧ FJ w mo jb lb db want' [] want' (i + 1 + 1) (10 * (i + 1)) v V) := hidb fun V v h => ⟨want, HW.out, by have := h.out; rw [List.append_nil] at this; exact this⟩
          clear hbl HI HB2 HEl HW
          go_wp2_with (first
            | (go_at_call 14; refine HA.out.mono ?_; clear HA; rintro e w3 ⟨rfl, h3⟩)
            | (go_at_call 13; refine (num_any16 _ _).mono ?_; rintro e wn ⟨rfl, e5⟩; obtain rfl := e5.symm)
            | (go_at_call 15; refine (HS.out _ _ _ _ h3).mono ?_; clear HS; rintro e w6 ⟨rfl, h6⟩)
            | (go_at_call 16; refine (HLn.out _ _ h6).mono ?_; clear HLn; rintro e w7 ⟨rfl, e7⟩; obtain rfl := e7.symm)
            | fail)
          exact ⟨⟨i + 1, ml, _, _, rfl, by simp, by omega, by omega, by omega, hw1, hw2, hidb (HR.out _ _ h6)⟩, by simp [intOf]; omega⟩
      · have hn4 : n ≤ 400 := by omega
        have HS : Hid (∀ may shown v V, Hid (FJ w mo jb lb db want may shown (i + 2) (10 * i + 10) v V) → Calls Tryz.prog 15 #[.pointer (some ⟨jb, 0, none⟩)] V fun e w' => e = .returned (.int .i64 0) ∧ Hid (FJ w mo jb lb db (want ++ may) [] shown (i + 2) (10 * i + 10) v w')) := hidb fun may shown v V h => h.out.sync
        rcases HI.out.append (by omega) av n c b (HB.out.below hbl) (by omega) with HA | ⟨-, HA⟩
        · rw [List.nil_append] at HA
          replace HA := hidb HA
          have HC : Hid (∀ V, Hid (FJ w mo jb lb db want [b] want (i + 2) (10 * i + 10) (.slice wa ml wc) V) → (convert 29 9 (.slice av n c)).run Tryz.prog V = .ok (sv b) V) := hidb fun V h => jst_str (HB.out.below h.out.bl)
          have HO : Hid (∀ V, Hid (FJ w mo jb lb db want [b] want (i + 2) (10 * i + 10) (.slice wa ml wc) V) → (V.alloc (.cells #[sv b] 9)).ownsRow w.heap.size 9 1 (.slice wa ml wc) ml (svl want) ∧ Lies (V.alloc (.cells #[sv b] 9)) (.slice (some ⟨V.heap.size, 0, none⟩) 1 1) 1 [sv b] ∧ w.heap.size ≤ (V.alloc (.cells #[sv b] 9)).heap.size ∧ Hid (∀ v' w5, w5.ownsRow w.heap.size 9 1 v' (ml + 1) (svl want ++ [sv b]) → Step (V.alloc (.cells #[sv b] 9)) (.slice wa ml wc) w5 v' → ∃ a5 c5, v' = .slice a5 (ml + 1) c5 ∧ ml + 1 ≤ c5 ∧ c5 ≤ 9223372036854775807 ∧ Hid (FJ w mo jb lb db want [b] (want ++ [b]) (i + 2) (10 * i + 10) (.slice a5 (ml + 1) c5) w5))) := hidb fun V h => by
            obtain ⟨r1, r2, r3, r4⟩ := h.out.one b
            rw [HW.out] at r1 r4
            refine ⟨r1, r2, r3, hidb fun v' w5 h5 hs => ?_⟩
            have H5 := r4 v' w5 h5 hs
            obtain ⟨a5, c5, e5, hc5, hc6⟩ := H5.len_le
            rw [List.length_append, HW.out] at e5 hc5
            subst e5
            exact ⟨a5, c5, rfl, hc5, hc6, hidb H5⟩
          have HLn : Hid (∀ V v, Hid (FJ w mo jb lb db (want ++ [b]) [] (want ++ [b]) (i + 2) (10 * i + 10) v V) → Calls Tryz.prog 16 #[.pointer (some ⟨jb, 0, none⟩)] V fun e w' => e = .returned (.int .i64 (ml + 1 : Nat)) ∧ w' = V) := hidb fun V v h => by
            have := h.out.len
            rw [List.append_nil, List.length_append, HW.out] at this
            exact this
          have HR : Hid (∀ V v, Hid (FJ w mo jb lb db (want ++ [b]) [] (want ++ [b]) (i + 2) (10 * i + 10) v V) → ∃ want', want'.length = ml + 1 ∧ FJ w mo jb lb db want' [] want' (i + 1 + 1) (10 * (i + 1)) v V) := hidb fun V v h => ⟨_, by rw [List.length_append, HW.out]; rfl, h.out⟩
          clear hbl HI HB HEl HW
          go_wp2_with (first
            | (go_at_call 14; refine HA.out.mono ?_; clear HA; rintro e w3 ⟨rfl, h3⟩; have hcv := HC.out _ h3; obtain ⟨o1, o2, o3, o4⟩ := HO.out _ h3; clear HC HO)
            | (go_at_call 13; refine (num_any16 _ _).mono ?_; rintro e wn ⟨rfl, e5⟩; obtain rfl := e5.symm)
            | (at_builtin; refine wpList_appN _ rfl _ _ 54 rfl elemS16 w.heap.size _ ml (svl want) rfl o1 _ rfl 1 [sv b] o2 rfl (by simp [Value.oneCell']) (by unfold maxLen; omega) (by omega) o3 ?_; intro v' w5 hr5 hs5; obtain ⟨a5, c5, e5, hc5, hc6, H5⟩ := o4.out v' w5 hr5 hs5; subst e5; clear o4)
            | (go_at_call 15; refine (HS.out _ _ _ _ H5).mono ?_; clear HS; rintro e w6 ⟨rfl, h6⟩)
            | (go_at_call 16; refine (HLn.out _ _ h6).mono ?_; clear HLn; rintro e w7 ⟨rfl, e7⟩; obtain rfl := e7.symm)
            | fail)
          exact ⟨⟨i + 1, ml + 1, _, _, rfl, by simp, by omega, by omega, by omega, hc5, hc6, hidb (HR.out _ _ h6)⟩, by simp [intOf]; omega⟩
        · replace HA := hidb HA
          have HLn : Hid (∀ V v, Hid (FJ w mo jb lb db (want ++ []) [] want (i + 2) (10 * i + 10) v V) → Calls Tryz.prog 16 #[.pointer (some ⟨jb, 0, none⟩)] V fun e w' => e = .returned (.int .i64 (ml : Nat)) ∧ w' = V) := hidb fun V v h => by
            have := h.out.len
            rw [List.append_nil, List.append_nil, HW.out] at this
            exact this
          have HR : Hid (∀ V v, Hid (FJ w mo jb lb db (want ++ []) [] want (i + 2) (10 * i + 10) v V) → ∃ want', want'.length = ml ∧ FJ w mo jb lb db want' [] want' (i + 1 + 1) (10 * (i + 1)) v V) := hidb fun V v h => ⟨want, HW.out, by have := h.out; rw [List.append_nil] at this; exact this⟩
          clear hbl HI HB HEl HW
          go_wp2_with (first
            | (go_at_call 14; refine HA.out.mono ?_; clear HA; rintro e w3 ⟨rfl, h3⟩)
            | (go_at_call 13; refine (num_any16 _ _).mono ?_; rintro e wn ⟨rfl, e5⟩; obtain rfl := e5.symm)
            | (go_at_call 15; refine (HS.out _ _ _ _ h3).mono ?_; clear HS; rintro e w6 ⟨rfl, h6⟩)
            | (go_at_call 16; refine (HLn.out _ _ h6).mono ?_; clear HLn; rintro e w7 ⟨rfl, e7⟩; obtain rfl := e7.symm)
            | fail)
          exact ⟨⟨i + 1, ml, _, _, rfl, by simp, by omega, by omega, by omega, hw1, hw2, hidb (HR.out _ _ h6)⟩, by simp [intOf]; omega⟩
    · have HCr : Hid (Calls Tryz.prog 23 #[.pointer (some ⟨db, 0, none⟩), .slice none 0 0] wr fun e w' => e = .returned (.tuple #[]) ∧ Hid (FC w mo db want want (i + 1) 65536 (.slice wa ml wc) none [] w')) := hidb ((HI.out.crash none 0 0 [] fun K hK => ⟨none, 0, rfl, Nat.le_refl _, by decide, .inl rfl⟩).mono fun e w' ⟨e1, e2⟩ => ⟨e1, hidb (by
        obtain ⟨k, hk, hf⟩ := e2.out
        simpa using hf)⟩)
      have HOp : Hid (∀ V, Hid (FC w mo db want want (i + 1) 65536 (.slice wa ml wc) none [] V) → Calls Tryz.prog 12 #[.pointer (some ⟨db, 0, none⟩), .string ⟨#[108, 111, 103]⟩] V fun e W => ∃ jb2 a c, e = .returned (.tuple #[.pointer (some ⟨jb2, 0, none⟩), .slice a ml c, .int .i64 0]) ∧ Hid (∃ lb2, OC w mo jb2 lb2 db want want (i + 2) 65536 (.slice wa ml wc) none [] a W)) := hidb fun V h => h.out.opens.mono fun e W ⟨jb2, lb2, a, c, e1, e2⟩ => ⟨jb2, a, c, by rw [e1, HW.out], hidb ⟨lb2, e2.out⟩⟩
      have HM : Hid (∀ V jb2 a, Hid (∃ lb2, OC w mo jb2 lb2 db want want (i + 2) 65536 (.slice wa ml wc) none [] a V) → Below w.heap.size w V ∧ Hid (∀ W, Below V.heap.size V W → ∀ k, k < ml → ∃ g h xa r xc, a = some ⟨g, 0, none⟩ ∧ wa = some ⟨h, 0, none⟩ ∧ W.cell? ⟨g, k, none⟩ = some (.slice xa r xc) ∧ ∃ b : Bt, W.cell? ⟨h, k, none⟩ = some (.string ⟨b.toArray⟩) ∧ (convert 29 9 (.slice xa r xc)).run Tryz.prog W = .ok (.string ⟨b.toArray⟩) W)) := hidb fun V jb2 a h => by
        obtain ⟨lb2, hO⟩ := h.out
        refine ⟨hO.fj.bl, hidb fun W hW k hk => ?_⟩
        have hO2 := hO.below hW
        obtain ⟨r, hr⟩ : ∃ r, want[k]? = some r := ⟨want[k]'(by rw [HW.out]; exact hk), List.getElem?_eq_getElem _⟩
        obtain ⟨g, xa, xc, e1, e2, e3⟩ := hO2.recs.1 k r hr
        obtain ⟨a', c', e', _, _, h4⟩ := row_form hO2.fj.row
        injection e' with y1 y2 y3
        subst y1
        rcases h4 with ⟨_, h0, _⟩ | ⟨q, eq, _, _, hc⟩
        · rw [HW.out] at h0; omega
        · exact ⟨g, q, xa, r.length, xc, e1, eq, e2, r, hc k _ (by rw [List.getElem?_map, hr]; rfl), run_str e3 xc⟩
      have hml60 : ml ≤ 60 := by omega
      have hdd : decide ((i : Int) < ln) = false ∨ (decide ((i : Int) < ln) = true ∧ decide ((i : Int) < 60) = false) := by
        by_cases h1 : i < ln
        · exact .inr ⟨decide_eq_true (by omega), decide_eq_false (by omega)⟩
        · exact .inl (decide_eq_false (by omega))
      clear HI HW HEl
      rcases hdd with hd | ⟨hd, hd2⟩
      all_goals (
        go_upto_region 24 with (first
          | (go_at_call 23; refine HCr.out.mono ?_; clear HCr; rintro e w3 ⟨rfl, h3⟩)
          | (go_at_call 12; refine (HOp.out _ h3).mono ?_; clear HOp; rintro e V3 ⟨jb2, a2, c2, rfl, h4⟩; obtain ⟨hbw, HQ⟩ := HM.out _ _ _ h4; have HB3 := hidb hbw; clear hbw HM h3 h4)
          | (go_at_call 13; refine (num_any16 _ _).mono ?_; rintro e wn ⟨rfl, e5⟩; obtain rfl := e5.symm)
          | fail))
      all_goals (
        go_loopw [16] (fun iv wr => ∃ k : Nat, iv = .int .i64 k ∧ k ≤ ml ∧ Hid (Below V3.heap.size V3 wr)) (fun iv _ => ml - (intOf iv).toNat)
        case atStart => exact ⟨0, rfl, Nat.zero_le _, hidb (Below.refl _ _)⟩
        case round =>
          obtain ⟨k, rfl, hk, HB⟩ := hrel
          by_cases hkm : k < ml
          · have hkm2 : (k : Int) < (ml : Int) := by omega
            obtain ⟨g, h, xa', r, xc', rfl, rfl, c1, b, c2, v1⟩ := HQ.out wr HB.out k hkm
            obtain ⟨g', h', xa2, r2, xc2, e1, e2, d1, b2, d2, u1⟩ := HQ.out wr.drew HB.out.drew k hkm
            cases e1
            cases e2
            have q1 : (Value.slice xa2 r2 xc2) = .slice xa' r xc' := by have := d1.symm.trans (show wr.drew.cell? ⟨g, k, none⟩ = some (.slice xa' r xc') from c1); injection this
            injection q1 with q3 q4 q5
            subst q3 q4 q5
            have q2 : (Value.string ⟨b2.toArray⟩) = .string ⟨b.toArray⟩ := by have := d2.symm.trans (show wr.drew.cell? ⟨h, k, none⟩ = some (.string ⟨b.toArray⟩) from c2); injection this
            have c1' : wr.drew.cell? ⟨g, k, none⟩ = some (.slice xa2 r2 xc2) := c1
            have c2' : wr.drew.cell? ⟨h, k, none⟩ = some (.string ⟨b.toArray⟩) := c2
            rw [q2] at u1
            clear d1 d2 q2
            go_upto_region 26 with fail
            go_region_held (fun W => W.cell? ⟨g, k, none⟩ = some (.slice xa2 r2 xc2) ∧ W.cell? ⟨h, k, none⟩ = some (.string ⟨b.toArray⟩) ∧ (convert 29 9 (.slice xa2 r2 xc2)).run Tryz.prog W = .ok (.string ⟨b.toArray⟩) W) (first | exact ⟨c1', c2', u1⟩ | go_keep) (fail)
            all_goals
              go_wp2_with fail
              exact ⟨⟨k + 1, by simp, by omega, hidb HB.out.drew⟩, by simp [intOf]; omega⟩
          · obtain rfl : k = ml := by omega
            go_wp2_with fail
            go_ret
            exact ⟨rfl, HB3.out.trans (HB.out.mono HB3.out.size)⟩)
end Go.Proofs.YthmjejmignangaaGreatDoor
namespace Go.Proofs.YthmjejmignangaaGreatDoor
set_option maxRecDepth 100000
open Go.ChangeShapes Go.WideShapes Go.ChangeAt Go.RowKit
theorem byte_wf16 {x : Int} (h : (Lit.int .u8 x).wf = true) : 0 ≤ x ∧ x < 256 := by
  have h1 : IntKind.u8.min = 0 := rfl
  have h2 : IntKind.u8.max = 255 := rfl
  simp only [Lit.wf, Bool.and_eq_true, decide_eq_true_eq] at h
  omega
/-- Rows of bytes that came in. -/
theorem open_bssx {H : Type} {enc : TypeId × Value → H} {W : World} {a0 : Option Addr} {len cap : Nat} {d0 : DataW H} {p0 : List MemPlace} (h : DataW.Trod enc Tryz.prog W 0 (fun _ => true) true 23 (.slice a0 len cap) d0 p0) :
    ∃ L : List (List UInt8), L.length = len ∧ BssX W a0 L ∧ len ≤ 9223372036854775807 := by
  obtain ⟨fuel, hf⟩ := h
  rcases Go.Deep.open_int_rows Tryz.underlying23 Tryz.underlying29 Tryz.underlying5 (by kernel_rfl) (by kernel_rfl) hf with ⟨hcs, hx⟩ | ⟨a, l, c, A, Ln, C, Z, hcs, _, hl, hm, hx, hr⟩
  · simp [Value.cells] at hcs
    obtain ⟨rfl, rfl, rfl⟩ := hcs
    exact ⟨[], rfl, fun i hi => absurd hi (Nat.not_lt_zero _), by omega⟩
  · simp [Value.cells] at hcs
    obtain ⟨rfl, rfl, rfl⟩ := hcs
    have hlen : len ≤ 9223372036854775807 := Nat.le_trans hl hm
    refine ⟨(List.range len).map fun r => ((Z r).take (Ln r)).map fun z => UInt8.ofNat z.toNat, by simp, fun i hi => ?_, hlen⟩
    simp only [List.length_map, List.length_range] at hi
    obtain ⟨b, off, spot⟩ := a
    have hspot : spot = none := by simpa [Addr.add] using World.cell?_spot (hr 0 (by omega)).1
    subst hspot
    have hadd : ∀ (b off k : Nat), (⟨b, off, none⟩ : Addr).add k = ⟨b, off + k, none⟩ := fun b off k => by unfold Addr.add; split <;> simp_all
    obtain ⟨q1, q2, q3, q4, q5, q6, q7⟩ := hr i (by omega)
    rw [hadd] at q1
    have hlen2 : (((Z i).take (Ln i)).map fun z => UInt8.ofNat z.toNat).length = Ln i := by simp; omega
    simp only [List.getElem_map, List.getElem_range]
    refine ⟨b, off, A i, C i, rfl, World.block_lt_of_cell? _ _ q1, by rw [hlen2]; exact q1, ⟨rfl, ?_⟩, q3⟩
    by_cases hz : C i = 0
    · exact .inl ⟨by rw [hlen2]; omega, hz⟩
    · cases hA : A i with
      | none => exact absurd (q6 hA) hz
      | some a' =>
        obtain ⟨_, q8⟩ := q7 a' hA
        obtain ⟨b', off', spot'⟩ := a'
        have hspot' : spot' = none := by simpa [Addr.add] using World.cell?_spot (q8 0 (by omega))
        subst hspot'
        have hblk : b' < W.heap.size := World.block_lt_of_cell? _ _ (q8 0 (by omega))
        refine .inr ⟨b', off', rfl, by rw [hlen2]; exact q2, hblk, fun k hk => ?_⟩
        rw [hlen2] at hk
        have hkz : k < (Z i).length := by omega
        have := q8 k (by omega)
        rw [hadd] at this
        rw [this]
        have hw := byte_wf16 (q5 (Z i)[k] (List.getElem_mem hkz))
        simp only [List.getD, List.getElem?_eq_getElem hkz, Option.getD_some, List.getElem_map, List.getElem_take, UInt8.toNat_ofNat']
        congr 2
        omega
end Go.Proofs.YthmjejmignangaaGreatDoor
