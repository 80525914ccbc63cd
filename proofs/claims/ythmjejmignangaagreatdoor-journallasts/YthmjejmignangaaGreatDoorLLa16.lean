/- Layer 16: the law JournalLasts. -/
import Derived.Test.YthmjejmignangaaGreatDoorLSt16
namespace Go.Proofs.YthmjejmignangaaGreatDoor
open Go.RowKit
theorem most2_nat (n : Int) : ∃ N : Nat, wrap64 (3 + (wrap64 (n.tmod 200 + 200)).tmod 200) = N ∧ 3 ≤ N ∧ N ≤ 202 := by
  have a1 : -200 < n.tmod 200 := by have := Int.lt_tmod_of_pos n (b := 200) (by decide); omega
  have a2 : n.tmod 200 < 200 := Int.tmod_lt_of_pos n (by decide)
  have a3 := Int.tmod_nonneg (a := n.tmod 200 + 200) 200 (by omega)
  have a4 := Int.tmod_lt_of_pos (n.tmod 200 + 200) (show (0 : Int) < 200 by omega)
  rw [w64_in16 (x := n.tmod 200 + 200) (by omega) (by omega), w64_in16 (by omega) (by omega)]
  exact ⟨(3 + (n.tmod 200 + 200).tmod 200).toNat, by omega, by omega, by omega⟩
/-- Steps that came in: kind, fuse, bytes, fates. -/
def StepsAt (w : World) (a : Option Addr) (n : Nat) : Prop := ∀ i, i < n → ∃ gb off, a = some ⟨gb, off, none⟩ ∧ gb < w.heap.size ∧ ∃ kind fuse : Int, ∃ (ba : Option Addr) (bn bc : Nat) (b : Bt) (fa : Option Addr) (fn fc : Nat) (fates : List Int),
  w.cell? ⟨gb, off + i * 4, none⟩ = some (.int .i64 kind) ∧ w.cell? ⟨gb, off + i * 4 + 1, none⟩ = some (.int .i64 fuse) ∧ w.cell? ⟨gb, off + i * 4 + 2, none⟩ = some (.slice ba bn bc) ∧ w.cell? ⟨gb, off + i * 4 + 3, none⟩ = some (.slice fa fn fc) ∧ BsX w ba bn bc b ∧ bc ≤ 9223372036854775807 ∧ FatO (fun i => ¬ i < w.heap.size) w (.slice fa fn fc) fates
/-- The run's box is new. -/
theorem rc_new {w V : World} {db n : Nat} (h1 : DkAt (fun k => k < w.heap.size) db (newD (n : Int)) V) (h2 : Below w.heap.size w V) : RC w none V.heap.size db 0 (.slice none 0 0) (.slice none 0 0) [] [] [] (V.alloc (.cells #[.pointer (some ⟨db, 0, none⟩), .pointer none, .slice none 0 0, .slice none 0 0] 56)) := by
  have hb : Below V.heap.size V (V.alloc (.cells #[.pointer (some ⟨db, 0, none⟩), .pointer none, .slice none 0 0, .slice none 0 0] 56)) := (Below.refl _ V).alloc (Nat.le_refl _) _
  have hn := heap_alloc_new V (.cells #[.pointer (some ⟨db, 0, none⟩), .pointer none, .slice none 0 0, .slice none 0 0] 56)
  refine ⟨fun k => k < w.heap.size ∨ k = V.heap.size, newD n, .pointer none, ?_, fun k hk => .inl hk, h2.trans (hb.mono h2.size), ⟨rfl, rfl, [], .inl ⟨rfl, rfl⟩, fun c hc => by simp at hc, rfl, fun c hc => by simp at hc⟩, ⟨hn, ⟨.inr rfl, id, h2.size⟩, ⟨World.ownsRow_nil _ _ _ _, fun b h => by simp [Value.ownBlock] at h⟩, ⟨World.ownsRow_nil _ _ _ _, fun b h => by simp [Value.ownBlock] at h⟩, by simp [Value.ownBlock], by simp [Value.ownBlock], fun b h => by simp [Value.ownBlock] at h, fun p o e => by cases e⟩⟩
  exact h1.turn16 hb.size (fun k hk _ => hb.block k hk) fun k hk => hk.imp id fun e => ⟨by omega, by rw [e]; simp⟩
set_option maxRecDepth 100000 in
set_option maxHeartbeats 4000000 in
theorem mlasts16_any (la : Option Addr) (ln lc : Nat) (w : World) (hL : StepsAt w la ln) (hlc : ln ≤ 9223372036854775807) (most : Int) :
    Calls Tryz.prog 5 #[.slice la ln lc, .int .i64 most] w fun e w' => e = .returned (.bool true) ∧ Below w.heap.size w w' := by
  have HK := hidb knows_any16
  obtain ⟨mn, hmn, hm1, hm2⟩ := most2_nat most
  have HD := hidb (disk_any16 mn (by omega) (by omega) w)
  have HSt := hidb hL
  clear hL
  have HRC : Hid (∀ (V : World) db, Hid (DkAt (fun k => k < w.heap.size) db (newD mn) V ∧ Below w.heap.size w V) → RC w none V.heap.size db 0 (.slice none 0 0) (.slice none 0 0) [] [] [] (V.alloc (.cells #[.pointer (some ⟨db, 0, none⟩), .pointer none, .slice none 0 0, .slice none 0 0] 56))) := hidb fun V db h => rc_new h.out.1 h.out.2
  go_enter Tryz.func5, Tryz.ntmps5
  go_upto_region 2 with (first | (go_at_call 18; rw [hmn]; refine HD.out.mono ?_; clear HD; rintro e V0 ⟨db, rfl, h0⟩) | fail)
  have HR0 := hidb (HRC.out V0 db h0)
  clear hmn HRC h0
  generalize V0.alloc (.cells #[.pointer (some ⟨db, 0, none⟩), .pointer none, .slice none 0 0, .slice none 0 0] 56) = W0 at HR0 ⊢
  generalize V0.heap.size = rb at HR0 ⊢
  have HC : Hid (∀ E vs vm sure lm rs W, RC w none rb db E vs vm sure lm rs W → W.cell? ⟨rb, 0, none⟩ = some (.pointer (some ⟨db, 0, none⟩)) ∧ rb < W.heap.size) := hidb fun E vs vm sure lm rs W hh => by
    obtain ⟨K, d, jv, h1, h2, h3, h4, h5⟩ := hh.ex
    exact ⟨h5.at_.1.1, h5.at_.2.2⟩
  have HOp0 : Hid (∀ W, Below W0.heap.size W0 W → Calls Tryz.prog 21 #[.pointer (some ⟨rb, 0, none⟩)] W fun e w' => e = .returned (.bool true) ∧ Hid (∃ jb vs', RJ w none rb db jb 1 false (-1) vs' (.slice none 0 0) [] [] [] w')) := hidb fun W hW => opened16 (HR0.out.below hW) (by omega) 0 (Nat.le_refl _) rfl (by simp)
  obtain ⟨c0, cl⟩ := HC.out _ _ _ _ _ _ _ HR0.out
  clear HR0
  go_upto_region 5 with (first
    | (go_at_call 11; refine (HK.out _).mono ?_; clear HK; rintro e V2 ⟨rfl, hb2⟩)
    | (go_at_call 21; refine (HOp0.out _ hb2).mono ?_; clear HOp0; rintro e V3 ⟨rfl, h3⟩)
    | fail)
  have H0 : Hid (∃ jb vs vm sure may, RJ w none rb db jb 1 false (-1) vs vm sure may may V3 ∧ may.length ≤ 0) := hidb (by
    obtain ⟨jb, vs', h⟩ := h3.out
    exact ⟨jb, vs', _, _, [], h, by simp⟩)
  clear hb2 h3 c0 cl
  go_loopw [6] (fun iv wr => ∃ i : Nat, iv = .int .i64 i ∧ i ≤ ln ∧ i ≤ 80 ∧ Hid (∃ jb vs vm sure may, RJ w none rb db jb (2 * i + 1) false (-1) vs vm sure may may wr ∧ may.length ≤ i)) (fun iv _ => 80 - (intOf iv).toNat)
  case atStart => exact ⟨0, rfl, by omega, by omega, H0⟩
  case round =>
    clear H0
    obtain ⟨i, rfl, hi1, hi2, HX⟩ := hrel
    obtain ⟨jb, vs, vm, sure, may, hR, hml⟩ := HX.out
    have HR := hidb hR
    clear hR HX
    by_cases hgo : i < ln ∧ i < 80
    · have hbl := HR.out.bl
      obtain ⟨gb, off, rfl, hg, kind, fuse, ba, bn, bc, b, fa, fn, fc, fates, s0, s1, s2, s3, s4, s5, s6⟩ := HSt.out i hgo.1
      have HS := hidb (step16 HR.out (by omega) (by omega) kind fuse ba bn bc b fa fn fc fates s4 s5 s6)
      have x0 := (hbl.cell (p := ⟨gb, off + i * 4, none⟩) hg).trans s0
      have x1 := (hbl.cell (p := ⟨gb, off + i * 4 + 1, none⟩) hg).trans s1
      have x2 := (hbl.cell (p := ⟨gb, off + i * 4 + 2, none⟩) hg).trans s2
      have x3 := (hbl.cell (p := ⟨gb, off + i * 4 + 3, none⟩) hg).trans s3
      have hgl : gb < wr.heap.size := Nat.lt_of_lt_of_le hg hbl.size
      have hd1 : decide ((i : Int) < ln) = true := by simp; omega
      have hd2 : decide ((i : Int) < 80) = true := by simp; omega
      clear hbl hg s0 s1 s2 s3 s4 s5 s6 HR HSt
      go_wp2_with (first
        | (go_at_call 22; refine HS.out.mono ?_; clear HS; rintro e w6 ⟨rfl, h6⟩)
        | fail)
      refine ⟨⟨i + 1, by simp, by omega, by omega, hidb ?_⟩, by simp [intOf]; omega⟩
      obtain ⟨jb', vs', vm', sure', may', h7, h8⟩ := h6.out
      exact ⟨jb', vs', vm', sure', may', h7, by omega⟩
    · have hdd : decide ((i : Int) < ln) = false ∨ (decide ((i : Int) < ln) = true ∧ decide ((i : Int) < 80) = false) := by
        by_cases h1 : i < ln
        · exact .inr ⟨decide_eq_true (by omega), decide_eq_false (by omega)⟩
        · exact .inl (decide_eq_false (by omega))
      have HCr := hidb (HR.out.crash none 0 0 [] fun K hK => ⟨none, 0, rfl, Nat.le_refl _, by decide, .inl rfl⟩)
      obtain ⟨⟨c0, -, -, -⟩, -, cl⟩ := HR.out.at_
      have HF : Hid (∀ (W : World) k, k ≤ may.length → RC w none rb db (2 * i + 1) vs vm sure may (sure ++ may.take k) W → _) := hidb fun W k hk h => opened16 h (by omega) k hk rfl (by omega)
      clear HR HSt
      rcases hdd with hd | ⟨hd, hd2⟩
      all_goals
        go_wp2_with (first
          | (go_at_call 23; refine HCr.out.mono ?_; clear HCr; rintro e w5 ⟨rfl, h5⟩; obtain ⟨k, hk, hrc⟩ := h5.out; have HOp := hidb (HF.out _ k hk hrc); clear HF hrc h5)
          | (go_at_call 21; refine HOp.out.mono ?_; clear HOp; rintro e w6 ⟨rfl, h6⟩)
          | fail)
      all_goals go_ret
      all_goals (
        obtain ⟨jb', vs', h7⟩ := h6.out
        exact ⟨rfl, h7.bl⟩)
end Go.Proofs.YthmjejmignangaaGreatDoor
