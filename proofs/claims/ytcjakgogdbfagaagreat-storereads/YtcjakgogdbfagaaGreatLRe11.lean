/- The law StoreReads. -/
import Derived.Test.YtcjakgogdbfagaaGreatKZe
import Derived.Test.YtcjakgogdbfagaaGreatWS
import Derived.Test.YtcjakgogdbfagaaGreatKU
namespace Go.Proofs.YtcjakgogdbfagaaGreat
open Go.RowKit
theorem lent_bs11 {w : World} {base g len c : Nat} {bs : List UInt8} (hl : bs.length = len) (hO : OwnB w base (.slice (some ⟨g, 0, none⟩) (len + 2) c) (bs ++ [77, 78])) : Bs w (some ⟨g, 0, none⟩) bs := by
  obtain ⟨ao', cap', hv, h1, h2, hB, _, _⟩ := Own.bs hO
  simp only [Value.slice.injEq] at hv
  obtain ⟨rfl, _, rfl⟩ := hv
  rcases hB with h0 | ⟨b, off, e, hc⟩
  · simp at h0
  · refine .inr ⟨b, off, e, fun j hj => ?_⟩
    have := hc j (by rw [List.length_append]; omega)
    rw [List.getElem_append_left hj] at this
    exact this
theorem wanted_un {ops : Array Oper} {o : Oper} {tmps : Array Value} {j t : Nat} {c : Bool} (hg : o.guard = some (j, c)) (hd : (ops[j]?).bind (·.dst) = some t) (hv : tmps[t]?.getD undef = undef) : Region.wanted o (yielded ops tmps) = false := by
  unfold Region.wanted yielded
  rw [hg]
  simp only [hd, Option.bind_some]
  cases h : tmps[t]? with
  | none => cases c <;> rfl
  | some v => rw [h] at hv; simp at hv; rw [hv]; cases c <;> rfl
/-- A slice of these bytes. -/
def Cv (XB : List UInt8) (W : World) (v : Value) : Prop := ∃ ao n c, v = .slice ao n c ∧ n = XB.length ∧ Bs W ao XB
theorem Cv.below {XB : List UInt8} {W W' : World} {v : Value} (h : Cv XB W v) (k : Below W.heap.size W W') : Cv XB W' v := by
  obtain ⟨ao, n, c, h1, h2, h3⟩ := h
  exact ⟨ao, n, c, h1, h2, h3.keep (below_keep k)⟩
def Pz (T : Nat → Value) (XB : List UInt8) (i : Nat) (v : Value) (W : World) : Prop := (i = 4 ∨ i = 7 → ∃ ao n c, v = .slice ao n c ∧ Cv XB W (.slice ao n c)) ∧ (i ≠ 4 → i ≠ 7 → v = T i)
theorem Pz.t {T : Nat → Value} {XB : List UInt8} {i : Nat} {v : Value} {W : World} (h4 : i ≠ 4) (h7 : i ≠ 7) (h : v = T i) : Pz T XB i v W := ⟨fun e => by rcases e with e | e; exact absurd e h4; exact absurd e h7, fun _ _ => h⟩
theorem Pz.c {T : Nat → Value} {XB : List UInt8} {i : Nat} {v : Value} {W : World} (hi : i = 4 ∨ i = 7) (h : Cv XB W v) : Pz T XB i v W := ⟨fun _ => by
  obtain ⟨ao, n, c, rfl, h2⟩ := h
  exact ⟨ao, n, c, rfl, ao, n, c, rfl, h2⟩, fun h4 h7 => by rcases hi with e | e; exact absurd e h4; exact absurd e h7⟩
theorem Pz.below {T : Nat → Value} {XB : List UInt8} {i : Nat} {v : Value} {W W' : World} (h : Pz T XB i v W) (k : Below W.heap.size W W') : Pz T XB i v W' := ⟨fun e => by
  obtain ⟨ao, n, c, h1, h2⟩ := h.1 e
  exact ⟨ao, n, c, h1, h2.below k⟩, h.2⟩
theorem Cv.run {XB : List UInt8} {W : World} {ao : Option Addr} {n c : Nat} (h : Cv XB W (.slice ao n c)) : (convert 22 9 (.slice ao n c)).run Tryz.prog W = .ok (sv XB) W := by
  obtain ⟨a, n', c', e, h2, h3⟩ := h
  cases e
  subst h2
  exact run_str h3 _
/-- What is held behind both Reads. -/
structure RR (sb tb g rb : Nat) (v : Value) (L : Kvs) (w W : World) : Prop where
  st : StAt sb tb g L W
  rf : RfAt rb v L W
  bel : Below w.heap.size w W
theorem RR.below {sb tb g rb : Nat} {v : Value} {L : Kvs} {w W W' : World} (h : RR sb tb g rb v L w W) (k : Below W.heap.size W W') : RR sb tb g rb v L w W' := ⟨h.st.below k, h.rf.below k, h.bel.trans (k.mono h.bel.size)⟩
set_option maxRecDepth 100000 in
set_option maxHeartbeats 1000000 in
theorem storeReads_none (ao : Option Addr) (len cap : Nat) (bs : List UInt8) (w : World) (hl : bs.length = len) (hm : len ≤ 140737488351232) (hb : Bs w ao bs) (hR : rdF bs = none) :
    Calls Tryz.prog 3 #[.slice ao len cap] w fun e w' => e = .returned (.bool true) ∧ Below w.heap.size w w' := by
  have HL : Hid (Calls Tryz.prog 4 #[.slice ao len cap] w fun e w1 => ∃ gl c, e = .returned (.slice (some ⟨gl, 0, none⟩) len c) ∧
      Hid (Calls Tryz.prog 5 #[.slice (some ⟨gl, 0, none⟩) len c] w1 fun e w2 => e = .returned (.tuple #[.pointer none, .int .i64 21]) ∧
      Hid (Calls Tryz.prog 6 #[.slice ao len cap] w2 fun e w3 => e = .returned (.tuple #[.pointer none, .int .i64 21]) ∧
      Hid (∀ W, Below w3.heap.size w3 W → Calls Tryz.prog 8 #[.slice (some ⟨gl, 0, none⟩) len c, .slice ao len cap] W fun e w4 => e = .returned (.bool true) ∧ Hid (Below w.heap.size w w4))))) := hidb (by
    refine (lent_any ao len cap bs w hl hm hb).mono ?_
    rintro e w1 ⟨gl, c, rfl, o1, b1⟩
    refine ⟨gl, c, rfl, hidb ((sread_any _ len c bs w1 hl (by omega) (lent_bs11 hl o1)).mono ?_)⟩
    rintro e w2 ⟨b2, h2⟩
    rw [hR] at h2
    have b12 := b1.trans (b2.mono b1.size)
    refine ⟨h2, hidb ((rread_any ao len cap bs w2 hl hm (hb.keep (below_keep b12))).mono ?_)⟩
    rintro e w3 ⟨b3, h3⟩
    rw [hR] at h3
    have b13 := b12.trans (b3.mono b12.size)
    refine ⟨h3, hidb fun W bW => ?_⟩
    have bw := b13.trans (bW.mono b13.size)
    have o3 := Own.below (Own.below (Own.below o1 b2) b3) bW
    refine (stays_any gl len c w.heap.size bs ao cap W hl hm o3 (hb.keep (below_keep bw))).mono ?_
    rintro e w4 ⟨rfl, b4⟩
    exact ⟨rfl, hidb (bw.trans (b4.mono bw.size))⟩)
  clear hb hR hl
  go_enter Tryz.func3, Tryz.ntmps3
  go_wp2_with (first
    | (go_at_call 4; refine HL.out.mono ?_; clear HL; rintro e w1 ⟨gl, c, rfl, HS⟩)
    | (go_at_call 5; refine HS.out.mono ?_; clear HS; rintro e w2 ⟨rfl, HD⟩)
    | (go_at_call 6; refine HD.out.mono ?_; clear HD; rintro e w3 ⟨rfl, HT⟩)
    | (go_at_call 7; refine (num11_any _ _).mono ?_; rintro e wn ⟨rfl, wne⟩; rw [wne]; clear wne)
    | (go_at_call 8; refine (HT.out _ (by first | exact Below.refl _ _ | exact (Below.refl _ _).drew)).mono ?_; clear HT; rintro e w4 ⟨rfl, B4⟩)
    | (go_at_call 12; refine (knows11_any _).mono ?_; rintro e w5 ⟨rfl, b5⟩)
    | fail)
  have hTab : ∃ T : Nat → Value, T 0 = .pointer none ∧ T 1 = .bool true ∧ T 2 = .bool true ∧ T 3 = undef ∧ T 4 = undef ∧ T 5 = undef ∧ T 6 = undef ∧ T 7 = undef ∧ T 8 = undef ∧ T 9 = undef ∧ T 10 = undef ∧ T 11 = undef ∧ T 12 = undef ∧ T 13 = undef ∧ T 14 = undef ∧ T 15 = undef ∧ T 16 = undef ∧ T 17 = undef ∧ T 18 = undef ∧ T 19 = undef ∧ T 20 = .bool true ∧ T 21 = .bool true ∧ T 22 = .bool true ∧ T 23 = .bool true ∧ T 24 = .bool true := ⟨fun i => match i with | 0 => .pointer none | 1 => .bool true | 2 => .bool true | 3 => undef | 4 => undef | 5 => undef | 6 => undef | 7 => undef | 8 => undef | 9 => undef | 10 => undef | 11 => undef | 12 => undef | 13 => undef | 14 => undef | 15 => undef | 16 => undef | 17 => undef | 18 => undef | 19 => undef | 20 => .bool true | 21 => .bool true | 22 => .bool true | 23 => .bool true | 24 => .bool true | _ => undef, rfl, rfl, rfl, rfl, rfl, rfl, rfl, rfl, rfl, rfl, rfl, rfl, rfl, rfl, rfl, rfl, rfl, rfl, rfl, rfl, rfl, rfl, rfl, rfl, rfl⟩
  obtain ⟨T, T0, T1, T2, T3, T4, T5, T6, T7, T8, T9, T10, T11, T12, T13, T14, T15, T16, T17, T18, T19, T20, T21, T22, T23, T24⟩ := hTab
  refine wp_region_eachg (by kernel_rfl) 61 rfl (by kernel_rfl) (fun _ W => Below w4.heap.size w4 W) (fun _ i v _ => v = T i) ?start ?each ?_
  case start => exact (Below.refl _ _).drew
  case each =>
    intro i o ho listed a W hE hnl haf
    have hi : i < 25 := (Array.getElem?_eq_some_iff.1 ho).1
    have t4 : a.tmps[4]?.getD undef = .pointer none := hE.rest 4 (rest_of (by kernel_rfl))
    have hG := hE.glob
    match i, hi, ho, hnl, haf with
    | 0, _, ho, hnl, haf =>
      obtain rfl := Option.some.inj ho
      exact owesP_value (W' := _) rfl rfl (by simp [execOp, go_sem, t4]) T0.symm hG (fun _ _ _ h => h)
    | 1, _, ho, hnl, haf =>
      obtain rfl := Option.some.inj ho
      have h0 : a.tmps[37]?.getD undef = .pointer none := (hE.vals 0 _ 37 rfl (haf ⟨0, .data⟩ (by simp) rfl) rfl).trans T0
      exact owesP_value (W' := _) rfl rfl (by simp [execOp, go_sem, h0]) T1.symm hG (fun _ _ _ h => h)
    | 2, _, ho, hnl, haf =>
      obtain rfl := Option.some.inj ho
      have h1 : a.tmps[38]?.getD undef = .bool true := (hE.vals 1 _ 38 rfl (haf ⟨1, .data⟩ (by simp) rfl) rfl).trans T1
      exact owesP_value (W' := _) rfl rfl (by simp [execOp, go_sem, h1]) T2.symm hG (fun _ _ _ h => h)
    | 3, _, ho, hnl, haf =>
      obtain rfl := Option.some.inj ho
      have hg : a.tmps[39]?.getD undef = .bool true := (hE.vals 2 _ 39 rfl (haf ⟨2, .guard⟩ (by simp) rfl) rfl).trans T2
      exact owesP_none rfl ((wanted_is rfl rfl hg).trans rfl) T3.symm hG (fun _ _ _ h => h)
    | 4, _, ho, hnl, haf =>
      obtain rfl := Option.some.inj ho
      have hg : a.tmps[39]?.getD undef = .bool true := (hE.vals 2 _ 39 rfl (haf ⟨2, .guard⟩ (by simp) rfl) rfl).trans T2
      exact owesP_none rfl ((wanted_is rfl rfl hg).trans rfl) T4.symm hG (fun _ _ _ h => h)
    | 5, _, ho, hnl, haf =>
      obtain rfl := Option.some.inj ho
      have hg : a.tmps[39]?.getD undef = .bool true := (hE.vals 2 _ 39 rfl (haf ⟨2, .guard⟩ (by simp) rfl) rfl).trans T2
      exact owesP_none rfl ((wanted_is rfl rfl hg).trans rfl) T5.symm hG (fun _ _ _ h => h)
    | 6, _, ho, hnl, haf =>
      obtain rfl := Option.some.inj ho
      have hg : a.tmps[39]?.getD undef = .bool true := (hE.vals 2 _ 39 rfl (haf ⟨2, .guard⟩ (by simp) rfl) rfl).trans T2
      exact owesP_none rfl ((wanted_is rfl rfl hg).trans rfl) T6.symm hG (fun _ _ _ h => h)
    | 7, _, ho, hnl, haf =>
      obtain rfl := Option.some.inj ho
      have hg : a.tmps[39]?.getD undef = .bool true := (hE.vals 2 _ 39 rfl (haf ⟨2, .guard⟩ (by simp) rfl) rfl).trans T2
      exact owesP_none rfl ((wanted_is rfl rfl hg).trans rfl) T7.symm hG (fun _ _ _ h => h)
    | 8, _, ho, hnl, haf =>
      obtain rfl := Option.some.inj ho
      have hg : a.tmps[39]?.getD undef = .bool true := (hE.vals 2 _ 39 rfl (haf ⟨2, .guard⟩ (by simp) rfl) rfl).trans T2
      exact owesP_none rfl ((wanted_is rfl rfl hg).trans rfl) T8.symm hG (fun _ _ _ h => h)
    | 9, _, ho, hnl, haf =>
      obtain rfl := Option.some.inj ho
      have hg : a.tmps[39]?.getD undef = .bool true := (hE.vals 2 _ 39 rfl (haf ⟨2, .guard⟩ (by simp) rfl) rfl).trans T2
      exact owesP_none rfl ((wanted_is rfl rfl hg).trans rfl) T9.symm hG (fun _ _ _ h => h)
    | 10, _, ho, hnl, haf =>
      obtain rfl := Option.some.inj ho
      have hg : a.tmps[39]?.getD undef = .bool true := (hE.vals 2 _ 39 rfl (haf ⟨2, .guard⟩ (by simp) rfl) rfl).trans T2
      exact owesP_none rfl ((wanted_is rfl rfl hg).trans rfl) T10.symm hG (fun _ _ _ h => h)
    | 11, _, ho, hnl, haf =>
      obtain rfl := Option.some.inj ho
      have hg : a.tmps[47]?.getD undef = undef := (hE.vals 10 _ 47 rfl (haf ⟨10, .guard⟩ (by simp) rfl) rfl).trans T10
      exact owesP_none rfl (wanted_un rfl rfl hg) T11.symm hG (fun _ _ _ h => h)
    | 12, _, ho, hnl, haf =>
      obtain rfl := Option.some.inj ho
      have hg : a.tmps[47]?.getD undef = undef := (hE.vals 10 _ 47 rfl (haf ⟨10, .guard⟩ (by simp) rfl) rfl).trans T10
      exact owesP_none rfl (wanted_un rfl rfl hg) T12.symm hG (fun _ _ _ h => h)
    | 13, _, ho, hnl, haf =>
      obtain rfl := Option.some.inj ho
      have hg : a.tmps[47]?.getD undef = undef := (hE.vals 10 _ 47 rfl (haf ⟨10, .guard⟩ (by simp) rfl) rfl).trans T10
      exact owesP_none rfl (wanted_un rfl rfl hg) T13.symm hG (fun _ _ _ h => h)
    | 14, _, ho, hnl, haf =>
      obtain rfl := Option.some.inj ho
      have hg : a.tmps[47]?.getD undef = undef := (hE.vals 10 _ 47 rfl (haf ⟨10, .guard⟩ (by simp) rfl) rfl).trans T10
      exact owesP_none rfl (wanted_un rfl rfl hg) T14.symm hG (fun _ _ _ h => h)
    | 15, _, ho, hnl, haf =>
      obtain rfl := Option.some.inj ho
      have hg : a.tmps[47]?.getD undef = undef := (hE.vals 10 _ 47 rfl (haf ⟨10, .guard⟩ (by simp) rfl) rfl).trans T10
      exact owesP_none rfl (wanted_un rfl rfl hg) T15.symm hG (fun _ _ _ h => h)
    | 16, _, ho, hnl, haf =>
      obtain rfl := Option.some.inj ho
      have hg : a.tmps[47]?.getD undef = undef := (hE.vals 10 _ 47 rfl (haf ⟨10, .guard⟩ (by simp) rfl) rfl).trans T10
      exact owesP_none rfl (wanted_un rfl rfl hg) T16.symm hG (fun _ _ _ h => h)
    | 17, _, ho, hnl, haf =>
      obtain rfl := Option.some.inj ho
      have hg : a.tmps[47]?.getD undef = undef := (hE.vals 10 _ 47 rfl (haf ⟨10, .guard⟩ (by simp) rfl) rfl).trans T10
      exact owesP_none rfl (wanted_un rfl rfl hg) T17.symm hG (fun _ _ _ h => h)
    | 18, _, ho, hnl, haf =>
      obtain rfl := Option.some.inj ho
      have hg : a.tmps[47]?.getD undef = undef := (hE.vals 10 _ 47 rfl (haf ⟨10, .guard⟩ (by simp) rfl) rfl).trans T10
      exact owesP_none rfl (wanted_un rfl rfl hg) T18.symm hG (fun _ _ _ h => h)
    | 19, _, ho, hnl, haf =>
      obtain rfl := Option.some.inj ho
      have hg : a.tmps[39]?.getD undef = .bool true := (hE.vals 2 _ 39 rfl (haf ⟨2, .guard⟩ (by simp) rfl) rfl).trans T2
      exact owesP_none rfl ((wanted_is rfl rfl hg).trans rfl) T19.symm hG (fun _ _ _ h => h)
    | 20, _, ho, hnl, haf =>
      obtain rfl := Option.some.inj ho
      have h2 : a.tmps[39]?.getD undef = .bool true := (hE.vals 2 _ 39 rfl (haf ⟨2, .data⟩ (by simp) rfl) rfl).trans T2
      exact owesP_value (W' := _) rfl rfl (by simp [execOp, go_sem, h2]) T20.symm hG (fun _ _ _ h => h)
    | 21, _, ho, hnl, haf =>
      obtain rfl := Option.some.inj ho
      have h20 : a.tmps[57]?.getD undef = .bool true := (hE.vals 20 _ 57 rfl (haf ⟨20, .data⟩ (by simp) rfl) rfl).trans T20
      exact owesP_value (W' := _) rfl rfl (by simp [execOp, go_sem, h20]) T21.symm hG (fun _ _ _ h => h)
    | 22, _, ho, hnl, haf =>
      obtain rfl := Option.some.inj ho
      have hg : a.tmps[58]?.getD undef = .bool true := (hE.vals 21 _ 58 rfl (haf ⟨21, .guard⟩ (by simp) rfl) rfl).trans T21
      refine owesP_call rfl ((wanted_is rfl rfl hg).trans rfl) (R := _) (by simp [execOp, go_sem]) (knows11_any W) fun e W' h => ?_
      obtain ⟨he, hb⟩ := h
      exact ⟨_, he, T22.symm, hG.trans (hb.mono hG.size), fun _ _ _ h => h⟩
    | 23, _, ho, hnl, haf =>
      obtain rfl := Option.some.inj ho
      have h21 : a.tmps[58]?.getD undef = .bool true := (hE.vals 21 _ 58 rfl (haf ⟨21, .data⟩ (by simp) rfl) rfl).trans T21
      have h22 : a.tmps[59]?.getD undef = .bool true := (hE.vals 22 _ 59 rfl (haf ⟨22, .data⟩ (by simp) rfl) rfl).trans T22
      exact owesP_value (W' := _) rfl rfl (by simp [execOp, go_sem, h21, h22]) T23.symm hG (fun _ _ _ h => h)
    | 24, _, ho, hnl, haf =>
      obtain rfl := Option.some.inj ho
      have h23 : a.tmps[60]?.getD undef = .bool true := (hE.vals 23 _ 60 rfl (haf ⟨23, .data⟩ (by simp) rfl) rfl).trans T23
      exact owesP_value (W' := _) rfl rfl (by simp [execOp, go_sem, h23]) T24.symm hG (fun _ _ _ h => h)
  intro a W hE
  have h24 : a.tmps[2]?.getD undef = .bool true := (hE.vals 24 _ 2 rfl (by rfl) rfl).trans T24
  have hF : Below w4.heap.size w4 W := hE.glob
  have hsz := hE.tsize
  have hdf := hE.defers
  have r := fun t h => hE.rest t h
  obtain ⟨tm, df⟩ := a
  simp only at hsz hdf r h24
  have htm := arr_out 61 tm (by rw [hsz]; rfl) undef
  simp only [List.range, List.range.loop, List.map_cons, List.map_nil] at htm
  rw [h24] at htm
  rw [show tm[0]?.getD undef = _ from r 0 (rest_of (by kernel_rfl))] at htm
  rw [show tm[1]?.getD undef = _ from r 1 (rest_of (by kernel_rfl))] at htm
  rw [show tm[3]?.getD undef = _ from r 3 (rest_of (by kernel_rfl))] at htm
  rw [show tm[4]?.getD undef = _ from r 4 (rest_of (by kernel_rfl))] at htm
  rw [show tm[5]?.getD undef = _ from r 5 (rest_of (by kernel_rfl))] at htm
  rw [show tm[6]?.getD undef = _ from r 6 (rest_of (by kernel_rfl))] at htm
  rw [show tm[7]?.getD undef = _ from r 7 (rest_of (by kernel_rfl))] at htm
  rw [show tm[8]?.getD undef = _ from r 8 (rest_of (by kernel_rfl))] at htm
  rw [show tm[9]?.getD undef = _ from r 9 (rest_of (by kernel_rfl))] at htm
  rw [show tm[10]?.getD undef = _ from r 10 (rest_of (by kernel_rfl))] at htm
  rw [show tm[11]?.getD undef = _ from r 11 (rest_of (by kernel_rfl))] at htm
  rw [show tm[12]?.getD undef = _ from r 12 (rest_of (by kernel_rfl))] at htm
  rw [show tm[13]?.getD undef = _ from r 13 (rest_of (by kernel_rfl))] at htm
  rw [show tm[14]?.getD undef = _ from r 14 (rest_of (by kernel_rfl))] at htm
  rw [show tm[15]?.getD undef = _ from r 15 (rest_of (by kernel_rfl))] at htm
  rw [show tm[16]?.getD undef = _ from r 16 (rest_of (by kernel_rfl))] at htm
  rw [show tm[17]?.getD undef = _ from r 17 (rest_of (by kernel_rfl))] at htm
  rw [show tm[18]?.getD undef = _ from r 18 (rest_of (by kernel_rfl))] at htm
  rw [show tm[19]?.getD undef = _ from r 19 (rest_of (by kernel_rfl))] at htm
  rw [show tm[20]?.getD undef = _ from r 20 (rest_of (by kernel_rfl))] at htm
  rw [show tm[21]?.getD undef = _ from r 21 (rest_of (by kernel_rfl))] at htm
  rw [show tm[22]?.getD undef = _ from r 22 (rest_of (by kernel_rfl))] at htm
  rw [show tm[23]?.getD undef = _ from r 23 (rest_of (by kernel_rfl))] at htm
  rw [show tm[24]?.getD undef = _ from r 24 (rest_of (by kernel_rfl))] at htm
  rw [show tm[25]?.getD undef = _ from r 25 (rest_of (by kernel_rfl))] at htm
  rw [show tm[26]?.getD undef = _ from r 26 (rest_of (by kernel_rfl))] at htm
  rw [show tm[27]?.getD undef = _ from r 27 (rest_of (by kernel_rfl))] at htm
  rw [show tm[28]?.getD undef = _ from r 28 (rest_of (by kernel_rfl))] at htm
  rw [show tm[29]?.getD undef = _ from r 29 (rest_of (by kernel_rfl))] at htm
  rw [show tm[30]?.getD undef = _ from r 30 (rest_of (by kernel_rfl))] at htm
  rw [show tm[31]?.getD undef = _ from r 31 (rest_of (by kernel_rfl))] at htm
  rw [show tm[32]?.getD undef = _ from r 32 (rest_of (by kernel_rfl))] at htm
  rw [show tm[33]?.getD undef = _ from r 33 (rest_of (by kernel_rfl))] at htm
  rw [show tm[34]?.getD undef = _ from r 34 (rest_of (by kernel_rfl))] at htm
  rw [show tm[35]?.getD undef = _ from r 35 (rest_of (by kernel_rfl))] at htm
  rw [show tm[36]?.getD undef = _ from r 36 (rest_of (by kernel_rfl))] at htm
  generalize tm[37]?.getD undef = u37 at htm
  generalize tm[38]?.getD undef = u38 at htm
  generalize tm[39]?.getD undef = u39 at htm
  generalize tm[40]?.getD undef = u40 at htm
  generalize tm[41]?.getD undef = u41 at htm
  generalize tm[42]?.getD undef = u42 at htm
  generalize tm[43]?.getD undef = u43 at htm
  generalize tm[44]?.getD undef = u44 at htm
  generalize tm[45]?.getD undef = u45 at htm
  generalize tm[46]?.getD undef = u46 at htm
  generalize tm[47]?.getD undef = u47 at htm
  generalize tm[48]?.getD undef = u48 at htm
  generalize tm[49]?.getD undef = u49 at htm
  generalize tm[50]?.getD undef = u50 at htm
  generalize tm[51]?.getD undef = u51 at htm
  generalize tm[52]?.getD undef = u52 at htm
  generalize tm[53]?.getD undef = u53 at htm
  generalize tm[54]?.getD undef = u54 at htm
  generalize tm[55]?.getD undef = u55 at htm
  generalize tm[56]?.getD undef = u56 at htm
  generalize tm[57]?.getD undef = u57 at htm
  generalize tm[58]?.getD undef = u58 at htm
  generalize tm[59]?.getD undef = u59 at htm
  generalize tm[60]?.getD undef = u60 at htm
  subst hdf
  rw [htm]
  clear hE htm hsz r h24
  go_wp2_with fail
  go_ret
  exact ⟨rfl, B4.out.trans (hF.mono B4.out.size)⟩
theorem cv_own {XB : List UInt8} {W : World} {B : Nat} {v : Value} (h : OwnB W B v XB) : Cv XB W v := by
  obtain ⟨ao, cap, rfl, _, _, hB, _⟩ := Own.bs h
  exact ⟨ao, _, cap, rfl, rfl, hB⟩
set_option maxRecDepth 100000 in
set_option maxHeartbeats 1000000 in
theorem storeReads_some (ao : Option Addr) (len cap : Nat) (bs : List UInt8) (w : World) (hl : bs.length = len) (hm : len ≤ 140737488351232) (hb : Bs w ao bs) (L : Kvs) (hR : rdF bs = some L) :
    Calls Tryz.prog 3 #[.slice ao len cap] w fun e w' => e = .returned (.bool true) ∧ Below w.heap.size w w' := by
  have HL : Hid (Calls Tryz.prog 4 #[.slice ao len cap] w fun e w1 => ∃ gl c, e = .returned (.slice (some ⟨gl, 0, none⟩) len c) ∧
      Hid (Calls Tryz.prog 5 #[.slice (some ⟨gl, 0, none⟩) len c] w1 fun e w2 => ∃ sb, e = .returned (.tuple #[.pointer (some ⟨sb, 0, none⟩), .int .i64 0]) ∧
      Hid (Calls Tryz.prog 6 #[.slice ao len cap] w2 fun e w3 => ∃ rb, e = .returned (.tuple #[.pointer (some ⟨rb, 0, none⟩), .int .i64 0]) ∧
      Hid (∀ W, Below w3.heap.size w3 W → Calls Tryz.prog 8 #[.slice (some ⟨gl, 0, none⟩) len c, .slice ao len cap] W fun e w4 => e = .returned (.bool true) ∧ Hid ((∃ tb g v, RR sb tb g rb v L w w4) ∧ MOk L))))) := hidb (by
    refine (lent_any ao len cap bs w hl hm hb).mono ?_
    rintro e w1 ⟨gl, c, rfl, o1, b1⟩
    refine ⟨gl, c, rfl, hidb ((sread_any _ len c bs w1 hl (by omega) (lent_bs11 hl o1)).mono ?_)⟩
    rintro e w2 ⟨b2, h2⟩
    rw [hR] at h2
    obtain ⟨sb, tb, g, rfl, hst, _, _, _, m1, m2, m3⟩ := h2
    have b12 := b1.trans (b2.mono b1.size)
    refine ⟨sb, rfl, hidb ((rread_any ao len cap bs w2 hl hm (hb.keep (below_keep b12))).mono ?_)⟩
    rintro e w3 ⟨b3, h3⟩
    rw [hR] at h3
    obtain ⟨rb, v, rfl, hrf, _⟩ := h3
    have b13 := b12.trans (b3.mono b12.size)
    refine ⟨rb, rfl, hidb fun W bW => ?_⟩
    have bw := b13.trans (bW.mono b13.size)
    have o3 := Own.below (Own.below (Own.below o1 b2) b3) bW
    refine (stays_any gl len c w.heap.size bs ao cap W hl hm o3 (hb.keep (below_keep bw))).mono ?_
    rintro e w4 ⟨rfl, b4⟩
    exact ⟨rfl, hidb ⟨⟨tb, g, v, ((hst.below b3).below bW).below b4, (hrf.below bW).below b4, bw.trans (b4.mono bw.size)⟩, ⟨m1, m2, m3⟩⟩⟩)
  clear hb hR hl
  go_enter Tryz.func3, Tryz.ntmps3
  go_wp2_with (first
    | (go_at_call 4; refine HL.out.mono ?_; clear HL; rintro e w1 ⟨gl, c, rfl, HS⟩)
    | (go_at_call 5; refine HS.out.mono ?_; clear HS; rintro e w2 ⟨sb, rfl, HD⟩)
    | (go_at_call 6; refine HD.out.mono ?_; clear HD; rintro e w3 ⟨rb, rfl, HT⟩)
    | (go_at_call 7; refine (num11_any _ _).mono ?_; rintro e wn ⟨rfl, wne⟩; rw [wne]; clear wne)
    | (go_at_call 8; refine (HT.out _ (by first | exact Below.refl _ _ | exact (Below.refl _ _).drew)).mono ?_; clear HT; rintro e w4 ⟨rfl, B4⟩)
    | fail)
  obtain ⟨n, hn⟩ : ∃ n, n = L.length := ⟨_, rfl⟩
  obtain ⟨ca, cc, HCl, HB⟩ : ∃ ca cc, Hid (∀ W, Below w4.heap.size w4 W → W.cell? ⟨rb, 0, none⟩ = some (.slice ca n cc)) ∧ Hid (Below w.heap.size w w4) := by
    obtain ⟨⟨tb, g, v, K⟩, hM⟩ := B4.out
    obtain ⟨ca, cc, rfl, _⟩ := K.rf.form
    exact ⟨ca, cc, hidb fun W hW => by rw [hn]; exact (K.below hW).rf.c, hidb K.bel⟩
  have HBy : Hid (∀ W, Below w4.heap.size w4 W → Calls Tryz.prog 9 #[.pointer (some ⟨sb, 0, none⟩)] W fun e W' => ∃ v, e = .returned v ∧ Cv (stB L) W' v ∧ Below W.heap.size W W') := hidb fun W hW => by
    obtain ⟨⟨tb, g, v, K⟩, hM⟩ := B4.out
    refine (bytes_s (K.below hW).st hM).mono ?_
    rintro e W' ⟨q, k, rfl, _, H⟩
    obtain ⟨_, ho, hb⟩ := H.out
    exact ⟨_, rfl, cv_own ho, hb⟩
  have HRb : Hid (∀ W, Below w4.heap.size w4 W → Calls Tryz.prog 10 #[.pointer (some ⟨rb, 0, none⟩)] W fun e W' => ∃ v, e = .returned v ∧ Cv (stB L) W' v ∧ Below W.heap.size W W') := hidb fun W hW => by
    obtain ⟨⟨tb, g, v, K⟩, hM⟩ := B4.out
    refine (rbytes_any rb v L W (K.below hW).rf hM.len hM.small).mono ?_
    rintro e W' ⟨v', rfl, ho, hb⟩
    exact ⟨_, rfl, cv_own ho, hb⟩
  have HLn : Hid (∀ W, Below w4.heap.size w4 W → Calls Tryz.prog 11 #[.pointer (some ⟨sb, 0, none⟩)] W fun e W' => e = .returned (.int .i64 (n : Int)) ∧ W' = W) := hidb fun W hW => by
    obtain ⟨⟨tb, g, v, K⟩, hM⟩ := B4.out
    rw [hn]
    exact slen_any sb tb g L W (K.below hW).st
  clear B4 hn
  generalize stB L = XB at HBy HRb
  have hTab : ∃ T : Nat → Value, T 0 = .pointer (some ⟨sb, 0, none⟩) ∧ T 1 = .bool false ∧ T 2 = .bool false ∧ T 3 = .pointer (some ⟨sb, 0, none⟩) ∧ T 4 = undef ∧ T 5 = sv XB ∧ T 6 = .pointer (some ⟨rb, 0, none⟩) ∧ T 7 = undef ∧ T 8 = sv XB ∧ T 9 = .bool true ∧ T 10 = .bool true ∧ T 11 = .pointer (some ⟨sb, 0, none⟩) ∧ T 12 = .int .i64 (n : Int) ∧ T 13 = .pointer (some ⟨rb, 0, none⟩) ∧ T 14 = .pointer (some ⟨rb, 0, none⟩) ∧ T 15 = .pointer (some ⟨rb, 0, none⟩) ∧ T 16 = .slice ca n cc ∧ T 17 = .int .i64 (n : Int) ∧ T 18 = .bool true ∧ T 19 = .bool true ∧ T 20 = .bool true ∧ T 21 = .bool true ∧ T 22 = .bool true ∧ T 23 = .bool true ∧ T 24 = .bool true := ⟨fun i => match i with | 0 => .pointer (some ⟨sb, 0, none⟩) | 1 => .bool false | 2 => .bool false | 3 => .pointer (some ⟨sb, 0, none⟩) | 4 => undef | 5 => sv XB | 6 => .pointer (some ⟨rb, 0, none⟩) | 7 => undef | 8 => sv XB | 9 => .bool true | 10 => .bool true | 11 => .pointer (some ⟨sb, 0, none⟩) | 12 => .int .i64 (n : Int) | 13 => .pointer (some ⟨rb, 0, none⟩) | 14 => .pointer (some ⟨rb, 0, none⟩) | 15 => .pointer (some ⟨rb, 0, none⟩) | 16 => .slice ca n cc | 17 => .int .i64 (n : Int) | 18 => .bool true | 19 => .bool true | 20 => .bool true | 21 => .bool true | 22 => .bool true | 23 => .bool true | 24 => .bool true | _ => undef, rfl, rfl, rfl, rfl, rfl, rfl, rfl, rfl, rfl, rfl, rfl, rfl, rfl, rfl, rfl, rfl, rfl, rfl, rfl, rfl, rfl, rfl, rfl, rfl, rfl⟩
  obtain ⟨T, T0, T1, T2, T3, T4, T5, T6, T7, T8, T9, T10, T11, T12, T13, T14, T15, T16, T17, T18, T19, T20, T21, T22, T23, T24⟩ := hTab
  refine wp_region_eachg (by kernel_rfl) 61 rfl (by kernel_rfl) (fun _ W => Below w4.heap.size w4 W) (fun _ i v W => Pz T XB i v W) ?start ?each ?_
  case start => exact (Below.refl _ _).drew
  case each =>
    intro i o ho listed a W hE hnl haf
    have hi : i < 25 := (Array.getElem?_eq_some_iff.1 ho).1
    have t4 : a.tmps[4]?.getD undef = .pointer (some ⟨sb, 0, none⟩) := hE.rest 4 (rest_of (by kernel_rfl))
    have t6 : a.tmps[6]?.getD undef = .pointer (some ⟨rb, 0, none⟩) := hE.rest 6 (rest_of (by kernel_rfl))
    have hG := hE.glob
    match i, hi, ho, hnl, haf with
    | 0, _, ho, hnl, haf =>
      obtain rfl := Option.some.inj ho
      exact owesP_value (W' := _) rfl rfl (by simp [execOp, go_sem, t4]) (Pz.t (by decide) (by decide) T0.symm) hG (fun _ _ _ h => h)
    | 1, _, ho, hnl, haf =>
      obtain rfl := Option.some.inj ho
      have h0 : a.tmps[37]?.getD undef = .pointer (some ⟨sb, 0, none⟩) := ((hE.vals 0 _ 37 rfl (haf ⟨0, .data⟩ (by simp) rfl) rfl).2 (by decide) (by decide)).trans T0
      exact owesP_value (W' := _) rfl rfl (by simp [execOp, go_sem, h0]) (Pz.t (by decide) (by decide) T1.symm) hG (fun _ _ _ h => h)
    | 2, _, ho, hnl, haf =>
      obtain rfl := Option.some.inj ho
      have h1 : a.tmps[38]?.getD undef = .bool false := ((hE.vals 1 _ 38 rfl (haf ⟨1, .data⟩ (by simp) rfl) rfl).2 (by decide) (by decide)).trans T1
      exact owesP_value (W' := _) rfl rfl (by simp [execOp, go_sem, h1]) (Pz.t (by decide) (by decide) T2.symm) hG (fun _ _ _ h => h)
    | 3, _, ho, hnl, haf =>
      obtain rfl := Option.some.inj ho
      have hg : a.tmps[39]?.getD undef = .bool false := ((hE.vals 2 _ 39 rfl (haf ⟨2, .guard⟩ (by simp) rfl) rfl).2 (by decide) (by decide)).trans T2
      exact owesP_value (W' := _) rfl ((wanted_is rfl rfl hg).trans rfl) (by simp [execOp, go_sem, t4]) (Pz.t (by decide) (by decide) T3.symm) hG (fun _ _ _ h => h)
    | 4, _, ho, hnl, haf =>
      obtain rfl := Option.some.inj ho
      have hg : a.tmps[39]?.getD undef = .bool false := ((hE.vals 2 _ 39 rfl (haf ⟨2, .guard⟩ (by simp) rfl) rfl).2 (by decide) (by decide)).trans T2
      have h3 : a.tmps[40]?.getD undef = .pointer (some ⟨sb, 0, none⟩) := ((hE.vals 3 _ 40 rfl (haf ⟨3, .data⟩ (by simp) rfl) rfl).2 (by decide) (by decide)).trans T3
      refine owesP_call rfl ((wanted_is rfl rfl hg).trans rfl) (R := _) (by simp [execOp, go_sem, h3]) (HBy.out W hG) fun e W' h => ?_
      obtain ⟨v, he, hv, hb⟩ := h
      exact ⟨v, he, Pz.c (by decide) hv, hG.trans (hb.mono hG.size), fun _ _ _ h => h.below hb⟩
    | 5, _, ho, hnl, haf =>
      obtain rfl := Option.some.inj ho
      have hg : a.tmps[39]?.getD undef = .bool false := ((hE.vals 2 _ 39 rfl (haf ⟨2, .guard⟩ (by simp) rfl) rfl).2 (by decide) (by decide)).trans T2
      obtain ⟨ba, bn, bc, h4, cv⟩ := (hE.vals 4 _ 41 rfl (haf ⟨4, .data⟩ (by simp) rfl) rfl).1 (by decide)
      replace cv := cv.run
      exact owesP_value (W' := _) rfl ((wanted_is rfl rfl hg).trans rfl) (by simp [execOp, go_sem, cv, h4]) (Pz.t (by decide) (by decide) T5.symm) hG (fun _ _ _ h => h)
    | 6, _, ho, hnl, haf =>
      obtain rfl := Option.some.inj ho
      have hg : a.tmps[39]?.getD undef = .bool false := ((hE.vals 2 _ 39 rfl (haf ⟨2, .guard⟩ (by simp) rfl) rfl).2 (by decide) (by decide)).trans T2
      exact owesP_value (W' := _) rfl ((wanted_is rfl rfl hg).trans rfl) (by simp [execOp, go_sem, t6]) (Pz.t (by decide) (by decide) T6.symm) hG (fun _ _ _ h => h)
    | 7, _, ho, hnl, haf =>
      obtain rfl := Option.some.inj ho
      have hg : a.tmps[39]?.getD undef = .bool false := ((hE.vals 2 _ 39 rfl (haf ⟨2, .guard⟩ (by simp) rfl) rfl).2 (by decide) (by decide)).trans T2
      have h6 : a.tmps[43]?.getD undef = .pointer (some ⟨rb, 0, none⟩) := ((hE.vals 6 _ 43 rfl (haf ⟨6, .data⟩ (by simp) rfl) rfl).2 (by decide) (by decide)).trans T6
      refine owesP_call rfl ((wanted_is rfl rfl hg).trans rfl) (R := _) (by simp [execOp, go_sem, h6]) (HRb.out W hG) fun e W' h => ?_
      obtain ⟨v, he, hv, hb⟩ := h
      exact ⟨v, he, Pz.c (by decide) hv, hG.trans (hb.mono hG.size), fun _ _ _ h => h.below hb⟩
    | 8, _, ho, hnl, haf =>
      obtain rfl := Option.some.inj ho
      have hg : a.tmps[39]?.getD undef = .bool false := ((hE.vals 2 _ 39 rfl (haf ⟨2, .guard⟩ (by simp) rfl) rfl).2 (by decide) (by decide)).trans T2
      obtain ⟨ba, bn, bc, h7, cv⟩ := (hE.vals 7 _ 44 rfl (haf ⟨7, .data⟩ (by simp) rfl) rfl).1 (by decide)
      replace cv := cv.run
      exact owesP_value (W' := _) rfl ((wanted_is rfl rfl hg).trans rfl) (by simp [execOp, go_sem, cv, h7]) (Pz.t (by decide) (by decide) T8.symm) hG (fun _ _ _ h => h)
    | 9, _, ho, hnl, haf =>
      obtain rfl := Option.some.inj ho
      have hg : a.tmps[39]?.getD undef = .bool false := ((hE.vals 2 _ 39 rfl (haf ⟨2, .guard⟩ (by simp) rfl) rfl).2 (by decide) (by decide)).trans T2
      have h5 : a.tmps[42]?.getD undef = sv XB := ((hE.vals 5 _ 42 rfl (haf ⟨5, .data⟩ (by simp) rfl) rfl).2 (by decide) (by decide)).trans T5
      have h8 : a.tmps[45]?.getD undef = sv XB := ((hE.vals 8 _ 45 rfl (haf ⟨8, .data⟩ (by simp) rfl) rfl).2 (by decide) (by decide)).trans T8
      exact owesP_value (W' := _) rfl ((wanted_is rfl rfl hg).trans rfl) (by simp [execOp, go_sem, h5, h8]) (Pz.t (by decide) (by decide) T9.symm) hG (fun _ _ _ h => h)
    | 10, _, ho, hnl, haf =>
      obtain rfl := Option.some.inj ho
      have hg : a.tmps[39]?.getD undef = .bool false := ((hE.vals 2 _ 39 rfl (haf ⟨2, .guard⟩ (by simp) rfl) rfl).2 (by decide) (by decide)).trans T2
      have h9 : a.tmps[46]?.getD undef = .bool true := ((hE.vals 9 _ 46 rfl (haf ⟨9, .data⟩ (by simp) rfl) rfl).2 (by decide) (by decide)).trans T9
      exact owesP_value (W' := _) rfl ((wanted_is rfl rfl hg).trans rfl) (by simp [execOp, go_sem, h9]) (Pz.t (by decide) (by decide) T10.symm) hG (fun _ _ _ h => h)
    | 11, _, ho, hnl, haf =>
      obtain rfl := Option.some.inj ho
      have hg : a.tmps[47]?.getD undef = .bool true := ((hE.vals 10 _ 47 rfl (haf ⟨10, .guard⟩ (by simp) rfl) rfl).2 (by decide) (by decide)).trans T10
      exact owesP_value (W' := _) rfl ((wanted_is rfl rfl hg).trans rfl) (by simp [execOp, go_sem, t4]) (Pz.t (by decide) (by decide) T11.symm) hG (fun _ _ _ h => h)
    | 12, _, ho, hnl, haf =>
      obtain rfl := Option.some.inj ho
      have hg : a.tmps[47]?.getD undef = .bool true := ((hE.vals 10 _ 47 rfl (haf ⟨10, .guard⟩ (by simp) rfl) rfl).2 (by decide) (by decide)).trans T10
      have h11 : a.tmps[48]?.getD undef = .pointer (some ⟨sb, 0, none⟩) := ((hE.vals 11 _ 48 rfl (haf ⟨11, .data⟩ (by simp) rfl) rfl).2 (by decide) (by decide)).trans T11
      refine owesP_call rfl ((wanted_is rfl rfl hg).trans rfl) (R := _) (by simp [execOp, go_sem, h11]) (HLn.out W hG) fun e W' h => ?_
      obtain ⟨he, hv⟩ := h
      subst hv
      exact ⟨_, he, (Pz.t (by decide) (by decide) T12.symm), hG, fun _ _ _ h => h⟩
    | 13, _, ho, hnl, haf =>
      obtain rfl := Option.some.inj ho
      have hg : a.tmps[47]?.getD undef = .bool true := ((hE.vals 10 _ 47 rfl (haf ⟨10, .guard⟩ (by simp) rfl) rfl).2 (by decide) (by decide)).trans T10
      exact owesP_value (W' := _) rfl ((wanted_is rfl rfl hg).trans rfl) (by simp [execOp, go_sem, t6]) (Pz.t (by decide) (by decide) T13.symm) hG (fun _ _ _ h => h)
    | 14, _, ho, hnl, haf =>
      obtain rfl := Option.some.inj ho
      have hg : a.tmps[47]?.getD undef = .bool true := ((hE.vals 10 _ 47 rfl (haf ⟨10, .guard⟩ (by simp) rfl) rfl).2 (by decide) (by decide)).trans T10
      have h13 : a.tmps[50]?.getD undef = .pointer (some ⟨rb, 0, none⟩) := ((hE.vals 13 _ 50 rfl (haf ⟨13, .data⟩ (by simp) rfl) rfl).2 (by decide) (by decide)).trans T13
      exact owesP_value (W' := _) rfl ((wanted_is rfl rfl hg).trans rfl) (by simp [execOp, go_sem, h13]) (Pz.t (by decide) (by decide) T14.symm) hG (fun _ _ _ h => h)
    | 15, _, ho, hnl, haf =>
      obtain rfl := Option.some.inj ho
      have hg : a.tmps[47]?.getD undef = .bool true := ((hE.vals 10 _ 47 rfl (haf ⟨10, .guard⟩ (by simp) rfl) rfl).2 (by decide) (by decide)).trans T10
      have h14 : a.tmps[51]?.getD undef = .pointer (some ⟨rb, 0, none⟩) := ((hE.vals 14 _ 51 rfl (haf ⟨14, .data⟩ (by simp) rfl) rfl).2 (by decide) (by decide)).trans T14
      exact owesP_value (W' := _) rfl ((wanted_is rfl rfl hg).trans rfl) (by simp [execOp, go_sem, h14]) (Pz.t (by decide) (by decide) T15.symm) hG (fun _ _ _ h => h)
    | 16, _, ho, hnl, haf =>
      obtain rfl := Option.some.inj ho
      have hg : a.tmps[47]?.getD undef = .bool true := ((hE.vals 10 _ 47 rfl (haf ⟨10, .guard⟩ (by simp) rfl) rfl).2 (by decide) (by decide)).trans T10
      have h15 : a.tmps[52]?.getD undef = .pointer (some ⟨rb, 0, none⟩) := ((hE.vals 15 _ 52 rfl (haf ⟨15, .data⟩ (by simp) rfl) rfl).2 (by decide) (by decide)).trans T15
      have hcl := HCl.out W hG
      exact owesP_value (W' := _) rfl ((wanted_is rfl rfl hg).trans rfl) (by simp [execOp, go_sem, h15, hcl]) (Pz.t (by decide) (by decide) T16.symm) hG (fun _ _ _ h => h)
    | 17, _, ho, hnl, haf =>
      obtain rfl := Option.some.inj ho
      have hg : a.tmps[47]?.getD undef = .bool true := ((hE.vals 10 _ 47 rfl (haf ⟨10, .guard⟩ (by simp) rfl) rfl).2 (by decide) (by decide)).trans T10
      have h16 : a.tmps[53]?.getD undef = .slice ca n cc := ((hE.vals 16 _ 53 rfl (haf ⟨16, .data⟩ (by simp) rfl) rfl).2 (by decide) (by decide)).trans T16
      exact owesP_value (W' := _) rfl ((wanted_is rfl rfl hg).trans rfl) (by simp [execOp, go_sem, h16]) (Pz.t (by decide) (by decide) T17.symm) hG (fun _ _ _ h => h)
    | 18, _, ho, hnl, haf =>
      obtain rfl := Option.some.inj ho
      have hg : a.tmps[47]?.getD undef = .bool true := ((hE.vals 10 _ 47 rfl (haf ⟨10, .guard⟩ (by simp) rfl) rfl).2 (by decide) (by decide)).trans T10
      have h12 : a.tmps[49]?.getD undef = .int .i64 (n : Int) := ((hE.vals 12 _ 49 rfl (haf ⟨12, .data⟩ (by simp) rfl) rfl).2 (by decide) (by decide)).trans T12
      have h17 : a.tmps[54]?.getD undef = .int .i64 (n : Int) := ((hE.vals 17 _ 54 rfl (haf ⟨17, .data⟩ (by simp) rfl) rfl).2 (by decide) (by decide)).trans T17
      exact owesP_value (W' := _) rfl ((wanted_is rfl rfl hg).trans rfl) (by simp [execOp, go_sem, h12, h17]) (Pz.t (by decide) (by decide) T18.symm) hG (fun _ _ _ h => h)
    | 19, _, ho, hnl, haf =>
      obtain rfl := Option.some.inj ho
      have hg : a.tmps[39]?.getD undef = .bool false := ((hE.vals 2 _ 39 rfl (haf ⟨2, .guard⟩ (by simp) rfl) rfl).2 (by decide) (by decide)).trans T2
      have h10 : a.tmps[47]?.getD undef = .bool true := ((hE.vals 10 _ 47 rfl (haf ⟨10, .data⟩ (by simp) rfl) rfl).2 (by decide) (by decide)).trans T10
      have h18 : a.tmps[55]?.getD undef = .bool true := ((hE.vals 18 _ 55 rfl (haf ⟨18, .data⟩ (by simp) rfl) rfl).2 (by decide) (by decide)).trans T18
      exact owesP_value (W' := _) rfl ((wanted_is rfl rfl hg).trans rfl) (by simp [execOp, go_sem, h10, h18]) (Pz.t (by decide) (by decide) T19.symm) hG (fun _ _ _ h => h)
    | 20, _, ho, hnl, haf =>
      obtain rfl := Option.some.inj ho
      have h2 : a.tmps[39]?.getD undef = .bool false := ((hE.vals 2 _ 39 rfl (haf ⟨2, .data⟩ (by simp) rfl) rfl).2 (by decide) (by decide)).trans T2
      have h19 : a.tmps[56]?.getD undef = .bool true := ((hE.vals 19 _ 56 rfl (haf ⟨19, .data⟩ (by simp) rfl) rfl).2 (by decide) (by decide)).trans T19
      exact owesP_value (W' := _) rfl rfl (by simp [execOp, go_sem, h2, h19]) (Pz.t (by decide) (by decide) T20.symm) hG (fun _ _ _ h => h)
    | 21, _, ho, hnl, haf =>
      obtain rfl := Option.some.inj ho
      have h20 : a.tmps[57]?.getD undef = .bool true := ((hE.vals 20 _ 57 rfl (haf ⟨20, .data⟩ (by simp) rfl) rfl).2 (by decide) (by decide)).trans T20
      exact owesP_value (W' := _) rfl rfl (by simp [execOp, go_sem, h20]) (Pz.t (by decide) (by decide) T21.symm) hG (fun _ _ _ h => h)
    | 22, _, ho, hnl, haf =>
      obtain rfl := Option.some.inj ho
      have hg : a.tmps[58]?.getD undef = .bool true := ((hE.vals 21 _ 58 rfl (haf ⟨21, .guard⟩ (by simp) rfl) rfl).2 (by decide) (by decide)).trans T21
      refine owesP_call rfl ((wanted_is rfl rfl hg).trans rfl) (R := _) (by simp [execOp, go_sem]) (knows11_any W) fun e W' h => ?_
      obtain ⟨he, hb⟩ := h
      exact ⟨_, he, (Pz.t (by decide) (by decide) T22.symm), hG.trans (hb.mono hG.size), fun _ _ _ h => h.below hb⟩
    | 23, _, ho, hnl, haf =>
      obtain rfl := Option.some.inj ho
      have h21 : a.tmps[58]?.getD undef = .bool true := ((hE.vals 21 _ 58 rfl (haf ⟨21, .data⟩ (by simp) rfl) rfl).2 (by decide) (by decide)).trans T21
      have h22 : a.tmps[59]?.getD undef = .bool true := ((hE.vals 22 _ 59 rfl (haf ⟨22, .data⟩ (by simp) rfl) rfl).2 (by decide) (by decide)).trans T22
      exact owesP_value (W' := _) rfl rfl (by simp [execOp, go_sem, h21, h22]) (Pz.t (by decide) (by decide) T23.symm) hG (fun _ _ _ h => h)
    | 24, _, ho, hnl, haf =>
      obtain rfl := Option.some.inj ho
      have h23 : a.tmps[60]?.getD undef = .bool true := ((hE.vals 23 _ 60 rfl (haf ⟨23, .data⟩ (by simp) rfl) rfl).2 (by decide) (by decide)).trans T23
      exact owesP_value (W' := _) rfl rfl (by simp [execOp, go_sem, h23]) (Pz.t (by decide) (by decide) T24.symm) hG (fun _ _ _ h => h)
  intro a W hE
  have h24 : a.tmps[2]?.getD undef = .bool true := ((hE.vals 24 _ 2 rfl (by rfl) rfl).2 (by decide) (by decide)).trans T24
  have hF : Below w4.heap.size w4 W := hE.glob
  have hsz := hE.tsize
  have hdf := hE.defers
  have r := fun t h => hE.rest t h
  obtain ⟨tm, df⟩ := a
  simp only at hsz hdf r h24
  have htm := arr_out 61 tm (by rw [hsz]; rfl) undef
  simp only [List.range, List.range.loop, List.map_cons, List.map_nil] at htm
  rw [h24] at htm
  rw [show tm[0]?.getD undef = _ from r 0 (rest_of (by kernel_rfl))] at htm
  rw [show tm[1]?.getD undef = _ from r 1 (rest_of (by kernel_rfl))] at htm
  rw [show tm[3]?.getD undef = _ from r 3 (rest_of (by kernel_rfl))] at htm
  rw [show tm[4]?.getD undef = _ from r 4 (rest_of (by kernel_rfl))] at htm
  rw [show tm[5]?.getD undef = _ from r 5 (rest_of (by kernel_rfl))] at htm
  rw [show tm[6]?.getD undef = _ from r 6 (rest_of (by kernel_rfl))] at htm
  rw [show tm[7]?.getD undef = _ from r 7 (rest_of (by kernel_rfl))] at htm
  rw [show tm[8]?.getD undef = _ from r 8 (rest_of (by kernel_rfl))] at htm
  rw [show tm[9]?.getD undef = _ from r 9 (rest_of (by kernel_rfl))] at htm
  rw [show tm[10]?.getD undef = _ from r 10 (rest_of (by kernel_rfl))] at htm
  rw [show tm[11]?.getD undef = _ from r 11 (rest_of (by kernel_rfl))] at htm
  rw [show tm[12]?.getD undef = _ from r 12 (rest_of (by kernel_rfl))] at htm
  rw [show tm[13]?.getD undef = _ from r 13 (rest_of (by kernel_rfl))] at htm
  rw [show tm[14]?.getD undef = _ from r 14 (rest_of (by kernel_rfl))] at htm
  rw [show tm[15]?.getD undef = _ from r 15 (rest_of (by kernel_rfl))] at htm
  rw [show tm[16]?.getD undef = _ from r 16 (rest_of (by kernel_rfl))] at htm
  rw [show tm[17]?.getD undef = _ from r 17 (rest_of (by kernel_rfl))] at htm
  rw [show tm[18]?.getD undef = _ from r 18 (rest_of (by kernel_rfl))] at htm
  rw [show tm[19]?.getD undef = _ from r 19 (rest_of (by kernel_rfl))] at htm
  rw [show tm[20]?.getD undef = _ from r 20 (rest_of (by kernel_rfl))] at htm
  rw [show tm[21]?.getD undef = _ from r 21 (rest_of (by kernel_rfl))] at htm
  rw [show tm[22]?.getD undef = _ from r 22 (rest_of (by kernel_rfl))] at htm
  rw [show tm[23]?.getD undef = _ from r 23 (rest_of (by kernel_rfl))] at htm
  rw [show tm[24]?.getD undef = _ from r 24 (rest_of (by kernel_rfl))] at htm
  rw [show tm[25]?.getD undef = _ from r 25 (rest_of (by kernel_rfl))] at htm
  rw [show tm[26]?.getD undef = _ from r 26 (rest_of (by kernel_rfl))] at htm
  rw [show tm[27]?.getD undef = _ from r 27 (rest_of (by kernel_rfl))] at htm
  rw [show tm[28]?.getD undef = _ from r 28 (rest_of (by kernel_rfl))] at htm
  rw [show tm[29]?.getD undef = _ from r 29 (rest_of (by kernel_rfl))] at htm
  rw [show tm[30]?.getD undef = _ from r 30 (rest_of (by kernel_rfl))] at htm
  rw [show tm[31]?.getD undef = _ from r 31 (rest_of (by kernel_rfl))] at htm
  rw [show tm[32]?.getD undef = _ from r 32 (rest_of (by kernel_rfl))] at htm
  rw [show tm[33]?.getD undef = _ from r 33 (rest_of (by kernel_rfl))] at htm
  rw [show tm[34]?.getD undef = _ from r 34 (rest_of (by kernel_rfl))] at htm
  rw [show tm[35]?.getD undef = _ from r 35 (rest_of (by kernel_rfl))] at htm
  rw [show tm[36]?.getD undef = _ from r 36 (rest_of (by kernel_rfl))] at htm
  generalize tm[37]?.getD undef = u37 at htm
  generalize tm[38]?.getD undef = u38 at htm
  generalize tm[39]?.getD undef = u39 at htm
  generalize tm[40]?.getD undef = u40 at htm
  generalize tm[41]?.getD undef = u41 at htm
  generalize tm[42]?.getD undef = u42 at htm
  generalize tm[43]?.getD undef = u43 at htm
  generalize tm[44]?.getD undef = u44 at htm
  generalize tm[45]?.getD undef = u45 at htm
  generalize tm[46]?.getD undef = u46 at htm
  generalize tm[47]?.getD undef = u47 at htm
  generalize tm[48]?.getD undef = u48 at htm
  generalize tm[49]?.getD undef = u49 at htm
  generalize tm[50]?.getD undef = u50 at htm
  generalize tm[51]?.getD undef = u51 at htm
  generalize tm[52]?.getD undef = u52 at htm
  generalize tm[53]?.getD undef = u53 at htm
  generalize tm[54]?.getD undef = u54 at htm
  generalize tm[55]?.getD undef = u55 at htm
  generalize tm[56]?.getD undef = u56 at htm
  generalize tm[57]?.getD undef = u57 at htm
  generalize tm[58]?.getD undef = u58 at htm
  generalize tm[59]?.getD undef = u59 at htm
  generalize tm[60]?.getD undef = u60 at htm
  subst hdf
  rw [htm]
  clear hE htm hsz r h24
  go_wp2_with fail
  go_ret
  exact ⟨rfl, HB.out.trans (hF.mono HB.out.size)⟩
theorem storeReads_any (ao : Option Addr) (len cap : Nat) (bs : List UInt8) (w : World) (hl : bs.length = len) (hm : len ≤ 140737488351232) (hb : Bs w ao bs) :
    Calls Tryz.prog 3 #[.slice ao len cap] w fun e w' => e = .returned (.bool true) ∧ Below w.heap.size w w' := by
  cases h : rdF bs with
  | none => exact storeReads_none ao len cap bs w hl hm hb h
  | some L => exact storeReads_some ao len cap bs w hl hm hb L h
end Go.Proofs.YtcjakgogdbfagaaGreat

