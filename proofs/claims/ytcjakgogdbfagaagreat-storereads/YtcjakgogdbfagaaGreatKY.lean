/- Layer 11: a store read as it was written. -/
import Derived.Test.YtcjakgogdbfagaaGreatKU
import Derived.Test.YtcjakgogdbfagaaGreatWI
namespace Go.Proofs.YtcjakgogdbfagaaGreat
open Go.RowKit
/-- While a store is read: the Reader at p, h, its bytes at g; the tree at tb. -/
structure RdI (B K p h g tb : Nat) (L : Kvs) (j : Nat) (w W : World) : Prop where
  rd : RdS W p h g ((L.drop j).flatMap pairB) 0
  t : ∃ gt, TreeAt tb gt (L.take j) W ∧ K ≤ gt
  bel : Below B w W
  lo : B ≤ h ∧ p < K ∧ h < K ∧ g < K ∧ K ≤ tb ∧ B ≤ K
theorem chg_of_kt {S : Nat → Prop} {w w' : World} (k : Kt S w w') : Chg w w' S := ⟨k.os, k.tape, k.output, k.size, k.block⟩
theorem kt_of_chg {S : Nat → Prop} {w w' : World} (k : Chg w w' S) : Kt S w w' := ⟨k.os, k.tape, k.output, k.size, k.block⟩
theorem rtext_w (p h g : Nat) (s r : List UInt8) (w : World) (H : RdS w p h g (text s ++ r) 0) (hs : s.length ≤ 65535) :
    Calls Tryz.prog 16 #[.pointer (some ⟨p, 0, none⟩)] w fun e w' => e = .returned (sv s) ∧ Hid (RdS w' p h g r 0 ∧ Chg w w' (fun k => k = h)) := by
  obtain ⟨e1, e2, e3, e4⟩ := read_text s r hs
  refine (rtext_ok p h g _ w H (by rw [e1]; exact e4)).mono ?_
  rintro e w' ⟨rfl, h1, h2⟩
  rw [e1, e2]
  rw [e1, e3] at h1
  exact ⟨rfl, hidb ⟨h1, h2⟩⟩
theorem rint_w (p h g : Nat) (x : Int) (r : List UInt8) (w : World) (H : RdS w p h g (be64 x ++ r) 0) (h1 : -9223372036854775808 ≤ x) (h2 : x ≤ 9223372036854775807) :
    Calls Tryz.prog 15 #[.pointer (some ⟨p, 0, none⟩)] w fun e w' => e = .returned (.int .i64 x) ∧ Hid (RdS w' p h g r 0 ∧ Chg w w' (fun k => k = h)) := by
  obtain ⟨e1, e2⟩ := read_int x r
  refine (rint_ok p h g _ w H (by rw [List.length_append, be64_length]; omega)).mono ?_
  rintro e w' ⟨rfl, h3, h4⟩
  rw [e1, back_int x h1 h2]
  rw [e2] at h3
  exact ⟨rfl, hidb ⟨h3, h4⟩⟩
/-- The key ahead of the j-th. -/
def abv (L : Kvs) : Nat → Bt
  | 0 => []
  | j + 1 => (L[j]?.map (·.1)).getD []
theorem put_last {L : Kvs} (s : SrtL L) {j : Nat} (h : j < L.length) : putL (L.take j) L[j].1 L[j].2 = L.take (j + 1) := by
  have := putL_new (A := L.take j) (B := []) (k := L[j].1) (u := L[j].2) (fun x hx => ?_) (fun x hx => by cases hx)
  · rw [List.append_nil] at this
    rw [this, List.take_succ_eq_append_getElem h]
  · obtain ⟨i, hi, rfl⟩ := List.mem_iff_getElem.1 hx
    rw [List.length_take] at hi
    rw [List.getElem_take]
    exact (List.pairwise_iff_getElem.1 s) i j (by omega) h (by omega)
theorem abv_lt {L : Kvs} (s : SrtL L) {j : Nat} (h : j < L.length) : ¬ 0 < j ∨ 0 < j ∧ Op.bytesLess L[j].1 (abv L j) = false ∧ (L[j].1 == abv L j) = false := by
  cases j with
  | zero => exact .inl (Nat.lt_irrefl _)
  | succ j =>
    have hj : j < L.length := by omega
    rw [abv, List.getElem?_eq_getElem hj]
    have := (List.pairwise_iff_getElem.1 s) j (j + 1) hj h (by omega)
    exact .inr ⟨by omega, by simpa using klt_asymm this, by simpa using (klt_ne this).symm⟩
theorem pairB_drop {L : Kvs} {j : Nat} (h : j < L.length) : (L.drop j).flatMap pairB = text L[j].1 ++ (text L[j].2 ++ (L.drop (j + 1)).flatMap pairB) := by
  rw [List.drop_eq_getElem_cons h, List.flatMap_cons, pairB, texts]
  simp
section
variable {B K p h g tb : Nat} {L : Kvs} {j : Nat} {w : World}
/-- What one round does. -/
theorem RdI.round {W : World} (I : RdI B K p h g tb L j w W) (s : SrtL L) (hL : L.length ≤ 512) (hsm : ∀ x ∈ L, x.1.length ≤ 32 ∧ x.2.length ≤ 256) (hj : j < L.length) :
    Calls Tryz.prog 16 #[.pointer (some ⟨p, 0, none⟩)] W fun e w1 => e = .returned (sv L[j].1) ∧ Hid (Calls Tryz.prog 16 #[.pointer (some ⟨p, 0, none⟩)] w1 fun e w2 => e = .returned (sv L[j].2) ∧
      Hid (Calls Tryz.prog 17 #[sv L[j].1, sv L[j].2] w2 fun e w3 => e = .returned (.bool false) ∧ w3 = w2) ∧
      Hid (Calls Tryz.prog 18 #[.pointer (some ⟨tb, 0, none⟩), sv L[j].1, sv L[j].2] w2 fun e w3 => e = .returned (.tuple #[]) ∧ Hid (RdI B K p h g tb L (j + 1) w w3))) := by
  obtain ⟨b1, b2⟩ := hsm L[j] (List.getElem_mem hj)
  have hrd := I.rd
  rw [pairB_drop hj] at hrd
  refine (rtext_w p h g _ _ W hrd (by omega)).mono ?_
  rintro e w1 ⟨rfl, H1⟩
  obtain ⟨r1, c1⟩ := H1.out
  refine ⟨rfl, hidb ((rtext_w p h g _ _ w1 r1 (by omega)).mono ?_)⟩
  rintro e w2 ⟨rfl, H2⟩
  obtain ⟨r2, c2⟩ := H2.out
  refine ⟨rfl, hidb ?_, hidb ?_⟩
  · refine (isLong_any _ _ w2 (by omega) (by omega)).mono ?_
    rintro e w3 ⟨rfl, rfl⟩
    have : longB L[j].1 L[j].2 = false := by simp [longB]; omega
    exact ⟨by rw [this], rfl⟩
  · obtain ⟨gt, t, hgt⟩ := I.t
    obtain ⟨o1, o2, o3, o4, o5, o6⟩ := I.lo
    have lt := t.lts
    have hs1 := c1.size
    have c12 := c1.trans c2 fun i _ e => e
    have t2 : TreeAt tb gt (L.take j) w2 := t.keep (c12.block _ lt.1 (by omega)) (c12.block _ lt.2.1 (by omega))
    refine (put_any tb gt (L.take j) w2 _ _ t2 (by omega) (by omega) (by rw [List.length_take]; omega)).mono ?_
    rintro e w3 ⟨rfl, H3⟩
    obtain ⟨g', t3, hg', k3⟩ := H3.out
    rw [put_last s hj] at t3
    have hs2 := c12.size
    refine ⟨rfl, hidb ⟨r2.chg (chg_of_kt k3) (by omega) (by omega) (by omega), ⟨g', t3, by omega⟩, ?_, I.lo⟩⟩
    have hsz := I.bel.size
    refine (I.bel.trans (c12.below (by omega) fun i e => by omega)).trans ?_
    exact (chg_of_kt k3).below (by omega) fun i e => by omega
end
set_option maxRecDepth 100000 in
set_option maxHeartbeats 1000000 in
theorem sread_back (ao : Option Addr) (m cap : Nat) (L : Kvs) (w : World) (hm : (stB L).length = m) (hb : Bs w ao (stB L)) (s : SrtL L) (hL : L.length ≤ 512) (hsm : ∀ x ∈ L, x.1.length ≤ 32 ∧ x.2.length ≤ 256) :
    Calls Tryz.prog 5 #[.slice ao m cap] w fun e w' => ∃ s2, e = .returned (.tuple #[.pointer (some ⟨s2, 0, none⟩), .int .i64 0]) ∧ Hid (∃ t2 g2, StAt s2 t2 g2 L w' ∧ w.heap.size ≤ s2 ∧ w.heap.size ≤ t2 ∧ w.heap.size ≤ g2 ∧ Below w.heap.size w w') := by
  have hln : m ≤ 140737488355328 := by
    have := flatB_le hsm
    rw [← hm, stB, List.length_append, ints_length, List.length_singleton]
    omega
  have HN : Hid (Calls Tryz.prog 13 #[.slice ao m cap] w fun e w1 => ∃ h, e = .returned (.pointer (some ⟨h + 1, 0, none⟩)) ∧ Hid (Calls Tryz.prog 14 #[] w1 fun e w2 => ∃ tb, e = .returned (.pointer (some ⟨tb, 0, none⟩)) ∧
      Hid (Calls Tryz.prog 15 #[.pointer (some ⟨h + 1, 0, none⟩)] w2 fun e w3 => e = .returned (.int .i64 (L.length : Nat)) ∧ Hid (RdI w.heap.size w1.heap.size (h + 1) h w.heap.size tb L 0 w w3)))) := hidb (by
    refine (rnew_any ao m cap (stB L) w hm hln hb).mono ?_
    rintro e w1 ⟨h, rfl, hlt, r1, b1⟩
    refine ⟨h, rfl, hidb ((newTree_any w1).mono ?_)⟩
    rintro e w2 ⟨tb, rfl, H⟩
    obtain ⟨gt, t, l1, l2, b2⟩ := H.out
    obtain ⟨⟨_, _, hE, _⟩, _⟩ := id r1
    have z1 := lt_of_block hE.hp
    have z2 := b2.size
    have r2 : RdS w2 (h + 1) h w.heap.size (stB L) 0 := r1.chg (Chg.of_below (S := fun _ => False) b2) id id id
    rw [stB, ints, List.flatMap_cons, List.flatMap_nil, List.append_nil] at r2
    refine ⟨tb, rfl, hidb ((rint_w (h + 1) h _ _ _ w2 r2 (by omega) (by omega)).mono ?_)⟩
    rintro e w3 ⟨rfl, H3⟩
    obtain ⟨r3, c3⟩ := H3.out
    have lt := t.lts
    have z3 := b1.size
    exact ⟨rfl, hidb ⟨r3, ⟨gt, t.keep (c3.block _ lt.1 (by omega)) (c3.block _ lt.2.1 (by omega)), l2⟩, (b1.trans (b2.mono (by omega))).trans (c3.below (by omega) fun i e => by omega), by omega⟩⟩)
  have HS := hidb s
  have Hsm := hidb hsm
  obtain ⟨n, hn⟩ : ∃ n, n = L.length := ⟨_, rfl⟩
  have Hn := hidb hn
  rw [← hn] at hL HN
  have d1 : decide ((n : Int) < 0) = false := by simp
  have d2 : decide ((512 : Int) < (n : Int)) = false := by simp; omega
  clear hn hm hb s hsm
  go_enter Tryz.func5, Tryz.ntmps5
  go_wp2_with (first
    | (go_at_call 13; refine HN.out.mono ?_; clear HN; rintro e w1 ⟨h, rfl, HT⟩)
    | (go_at_call 14; refine HT.out.mono ?_; clear HT; rintro e w2 ⟨tb, rfl, HI⟩)
    | (go_at_call 15; refine HI.out.mono ?_; clear HI; rintro e w3 ⟨rfl, K3⟩)
    | fail)
  clear d1 d2 hln
  go_loopw [7, 23] (fun av iv wr => ∃ j : Nat, iv = .int .i64 j ∧ j ≤ n ∧ av = sv (abv L j) ∧ Hid (RdI w.heap.size w1.heap.size (h + 1) h w.heap.size tb L j w wr)) (fun _ iv _ => n - (intOf iv).toNat)
  case atStart => exact ⟨0, rfl, Nat.zero_le _, rfl, K3⟩
  case round =>
    obtain ⟨j, rfl, hj, rfl, HK⟩ := hrel
    clear K3
    by_cases hlt : j < n
    · have hjl : j < L.length := by rw [← Hn.out]; exact hlt
      have HR := hidb (HK.out.round HS.out (by rw [← Hn.out]; exact hL) Hsm.out hjl)
      have HA : Hid (abv L (j + 1) = L[j].1) := hidb (by rw [abv, List.getElem?_eq_getElem hjl]; rfl)
      have hab := abv_lt HS.out hjl
      clear HK
      generalize L[j] = x at HR HA hab
      obtain ⟨xa, xb⟩ := x
      simp only at HR HA hab
      generalize abv L j = av at hab ⊢
      rcases hab with hd | ⟨hd, hab, hab2⟩
      all_goals
        go_wp2_with (first
          | (go_at_call 16; first | (refine HR.out.mono ?_; clear HR; rintro e w4 ⟨rfl, HR2⟩) | (refine HR2.out.mono ?_; clear HR2; rintro e w5 ⟨rfl, HL5, HP5⟩))
          | (go_at_call 17; refine HL5.out.mono ?_; clear HL5; rintro e w6 ⟨rfl, rfl⟩)
          | (go_at_call 18; refine HP5.out.mono ?_; clear HP5; rintro e w7 ⟨rfl, K7⟩)
          | fail)
        exact ⟨⟨j + 1, by go_num, by omega, by rw [HA.out], K7⟩, by simp [intOf]; omega⟩
    · have hjn : j = L.length := by have := Hn.out; omega
      have HD : Hid (Calls Tryz.prog 19 #[.pointer (some ⟨h + 1, 0, none⟩)] wr fun e w' => e = .returned (.int .i64 0) ∧ w' = wr) := hidb (by
        have := rdone_any (h + 1) h w.heap.size _ 0 wr HK.out.rd
        rw [hjn, List.drop_length] at this
        exact this)
      have HE : Hid (∃ g2, TreeAt tb g2 L wr ∧ w.heap.size ≤ tb ∧ w.heap.size ≤ g2 ∧ Below w.heap.size w wr) := hidb (by
        obtain ⟨gt, t, hgt⟩ := HK.out.t
        rw [hjn, List.take_length] at t
        obtain ⟨o1, o2, o3, o4, o5, o6⟩ := HK.out.lo
        exact ⟨gt, t, by omega, by omega, HK.out.bel⟩)
      clear HK hjn
      go_wp2_with (first
        | (go_at_call 19; refine HD.out.mono ?_; clear HD; rintro e w4 ⟨rfl, rfl⟩)
        | fail)
      go_ret2
      obtain ⟨g2, t, h1, h2, h3⟩ := HE.out
      have hb := (Below.refl w4.heap.size w4).alloc (Nat.le_refl _) (.cells #[.pointer (some ⟨tb, 0, none⟩)] 49)
      have := h3.size
      exact ⟨_, rfl, hidb ⟨tb, g2, ⟨heap_alloc_new w4 _, t.below hb, by have := t.lts; omega, by have := t.lts; omega⟩, by omega, h1, h2, h3.alloc (by omega) _⟩⟩
end Go.Proofs.YtcjakgogdbfagaaGreat
