/- Layer 17: message.Put, PutRecord. -/
import Derived.Test.YtmaecpmdikdclaaMK
namespace Go.Proofs.Ytmaecpmdikdclaa
open Go.RowKit
/-- How a whole text ends: its bytes, or ErrSize. -/
def EndW (w0 : World) (bs : List UInt8) (e : Ending) (w' : World) : Prop := Below w0.heap.size w0 w' ∧ ((bs.length ≤ 1048576 ∧ ∃ g, e = .returned (.tuple #[.slice (some ⟨g, 0, none⟩) bs.length bs.length, .int .i64 0]) ∧ Bs w' (some ⟨g, 0, none⟩) bs) ∨ (1048576 < bs.length ∧ e = .returned (.tuple #[.slice none 0 0, .int .i64 6])))
theorem flat_take_le (L : List Ent) (k : Nat) : ((L.take k).flatMap entB).length ≤ (L.flatMap entB).length := by
  have : L.flatMap entB = (L.take k).flatMap entB ++ (L.drop k).flatMap entB := by rw [← List.flatMap_append, List.take_append_drop]
  rw [this, List.length_append]; omega
theorem flat_snoc (L : List Ent) (k : Nat) (h : k < L.length) : (L.take (k + 1)).flatMap entB = (L.take k).flatMap entB ++ entB L[k] := by
  rw [List.take_add_one, List.getElem?_eq_getElem h, List.flatMap_append]
  simp
theorem and255w (n : Nat) (h : n ≤ 2048) : bits BinOp.and IntKind.i64 (n : Int) 255 = ((n : Int) % 256) := by
  have : ∀ k : Fin 2049, bits BinOp.and IntKind.i64 ((k.val : Nat) : Int) 255 = (((k.val : Nat) : Int) % 256) := by decide +kernel
  exact this ⟨n, by omega⟩
set_option maxRecDepth 100000 in
set_option maxHeartbeats 1000000 in
theorem end_any17 (w0 : World) (v : Value) (bs : List UInt8) (W : World) (M : MineW w0 W v bs) (a : Option Addr) (n c : Nat) (L : List Ent) (hn : L.length = n) (hN : EsAt w0.cell? a L) (hm : n ≤ 2048) (hs : ∀ x ∈ L, x.d.length ≤ 16384) (hbs : bs.length ≤ 1000000) : Calls Try.prog 39 #[.agg #[.pointer (some ⟨w0.heap.size + 1, 0, none⟩)], .slice a n c] W (EndW w0 (bs ++ logB L)) := by
  obtain ⟨W1, hW1⟩ : ∃ W1, W1 = W.alloc (.cells #[.pointer (some ⟨w0.heap.size + 1, 0, none⟩)] 87) := ⟨_, rfl⟩
  have hz1 : W1.heap.size = W.heap.size + 1 := by rw [hW1]; simp
  have M1 : MineW w0 W1 v bs := by rw [hW1]; exact M.alloc _
  have KW : Kept w0 W1 v W.heap.size (.cells #[.pointer (some ⟨w0.heap.size + 1, 0, none⟩)] 87 (0, 0)) := by
    rw [hW1]; exact M.kept #[.pointer (some ⟨w0.heap.size + 1, 0, none⟩)] 87
  have hB := bytesN_W w0 W1 v bs M1 (W.heap.size + 1) 2 hz1 [(n : Int) / 256, bits BinOp.and IntKind.i64 (n : Int) 255] rfl (by omega) #[.int .i64 ((n : Int) / 256), .int .i64 (bits BinOp.and IntKind.i64 (n : Int) 255)] rfl (by rw [and255w n hm]; simp; omega) (by omega)
  have hby : byts [(n : Int) / 256, bits BinOp.and IntKind.i64 (n : Int) 255] = [UInt8.ofNat (n / 256), UInt8.ofNat (n % 256)] := by
    rw [and255w n hm]
    unfold byts
    rw [List.map_cons, List.map_cons, List.map_nil, show ((n : Int) / 256).toNat = n / 256 by omega, show ((n : Int) % 256).toNat = n % 256 by omega]
  rw [hby] at hB
  have hlog : ∀ k, bs ++ [UInt8.ofNat (n / 256), UInt8.ofNat (n % 256)] ++ (L.take k).flatMap entB = bs ++ ([UInt8.ofNat (n / 256), UInt8.ofNat (n % 256)] ++ (L.take k).flatMap entB) := fun k => List.append_assoc _ _ _
  have HL : Hid (bs ++ logB L = bs ++ [UInt8.ofNat (n / 256), UInt8.ofNat (n % 256)] ++ L.flatMap entB) := hid (by unfold logB; rw [hn, List.append_assoc])
  have hbs0 : (bs ++ [UInt8.ofNat (n / 256), UInt8.ofNat (n % 256)]).length ≤ 1000002 := by simp; omega
  generalize bs ++ [UInt8.ofNat (n / 256), UInt8.ofNat (n % 256)] = b0 at *
  have HN := hid hn
  have HZ := hid hN
  have HS := hid hs
  have e0 : ∀ (w3 : World) (v3 : Value), Kept w0 w3 v3 W.heap.size (.cells #[.pointer (some ⟨w0.heap.size + 1, 0, none⟩)] 87 (0, 0)) → w3.cell? ⟨W.heap.size, 0, none⟩ = some (.pointer (some ⟨w0.heap.size + 1, 0, none⟩)) ∧ W.heap.size < w3.heap.size := fun w3 v3 K => ⟨by rw [Lib.cell_of_heap K.there]; rfl, lt_of_block K.there⟩
  clear hn hN hs hlog hby M M1
  subst hW1
  go_enter Try.func39, Try.ntmps39
  go_wp2_with (go_at_call 37; refine hB.mono ?_; clear hB; rintro e w3 ⟨v3, rfl, M3, s3⟩; have K3 := KW.step s3; obtain ⟨x0, x0l⟩ := e0 w3 v3 K3; have HM3 := hid M3; have HK3 := hid K3; clear M3 K3 s3 x0 x0l)
  go_loopw [21] (fun iv wr => ∃ (k : Nat) (vr : Value), iv = .int .i64 k ∧ k ≤ n ∧ Hid (MineW w0 wr vr (b0 ++ (L.take k).flatMap entB) ∧ (b0 ++ (L.take k).flatMap entB).length ≤ 1048576) ∧ Hid (Kept w0 wr vr W.heap.size (.cells #[.pointer (some ⟨w0.heap.size + 1, 0, none⟩)] 87 (0, 0)))) (fun iv _ => n - (intOf iv).toNat)
  case atStart => exact ⟨0, v3, rfl, Nat.zero_le _, hid ⟨by simpa using HM3.out, by simp; omega⟩, HK3⟩
  case round =>
    obtain ⟨k, vr, rfl, hk, HM, HK⟩ := hrel
    obtain ⟨x0, x0l⟩ := e0 wr vr HK.out
    by_cases hlt : k < n
    · have hkl : k < L.length := by rw [HN.out]; exact hlt
      obtain ⟨zb, zo, e1, z0, z1⟩ := (HZ.out.keep (below_keep HM.out.1.hb)).get hkl
      subst e1
      have hsn := flat_snoc L k hkl
      have hle := flat_take_le L (k + 1)
      have ME := HM.out.1.alloc (.cells #[.int .i64 L[k].v, .string ⟨L[k].d.toArray⟩] 109)
      have hE := entry_any w0 vr _ _ ME L[k] (by have := HS.out L[k] (List.getElem_mem hkl); omega) HM.out.2
      have HK2 := hid fun (w3 : World) (v3 : Value) (s : WStep w0.heap.size (wr.alloc (.cells #[.int .i64 L[k].v, .string ⟨L[k].d.toArray⟩] 109)) vr w3 v3) => (HK.out.step (WStep.alloc _ _ _ (.cells #[.int .i64 L[k].v, .string ⟨L[k].d.toArray⟩] 109))).step s
      rw [show EntW w0 (b0 ++ (L.take k).flatMap entB) L[k] = fun W v e w' => ((b0 ++ (L.take (k + 1)).flatMap entB).length ≤ 1048576 ∧ WroteW w0 (b0 ++ (L.take (k + 1)).flatMap entB) (.int .i64 0) W v e w') ∨ (1048576 < (b0 ++ (L.take (k + 1)).flatMap entB).length ∧ FullW w0 e w') from by
        rw [hsn]; unfold EntW; simp only [List.append_assoc, List.length_append, Nat.add_assoc]] at hE
      have HG : Hid (1048576 < (b0 ++ (L.take (k + 1)).flatMap entB).length → 1048576 < (bs ++ logB L).length) := hid fun h => by
        rw [HL.out]; simp only [List.length_append] at h ⊢; omega
      clear hsn hle ME HM HK
      generalize L[k].v = xv at *
      generalize L[k].d = xd at *
      obtain ⟨bk, hbk⟩ : ∃ x, x = b0 ++ (L.take (k + 1)).flatMap entB := ⟨_, rfl⟩
      rw [← hbk] at hE HG
      have HBk := hid hbk
      clear hbk
      go_wp2_with fail
      refine hE.mono ?_
      clear hE
      rintro e w4 (⟨hl4, v4, rfl, M4, s4⟩ | ⟨hl4, rfl, hb4⟩)
      · have K4 := HK2.out _ _ s4
        rw [HBk.out] at M4 hl4
        clear HK2 s4 HBk
        go_wp2_with fail
        exact ⟨⟨k + 1, v4, by go_num, by omega, hid ⟨M4, hl4⟩, hid K4⟩, by simp [intOf]; omega⟩
      · have hfin := HG.out hl4
        clear HK2 HBk hl4
        go_wp2_with fail
        go_ret2
        exact ⟨hb4, .inr ⟨hfin, rfl⟩⟩
    · have e : L.take k = L := List.take_of_length_le (by rw [HN.out]; omega)
      rw [e, ← HL.out] at HM
      have hY := bytes_any _ _ _ vr _ wr HM.out.1.H HM.out.1.hO HM.out.2
      have hfin := HM.out.2
      have hbb := HM.out.1.hb
      clear HM HK HL
      generalize bs ++ logB L = by_ at *
      generalize hlen : by_.length = bl at *
      have HLen := hid hlen
      clear hlen
      go_wp2_with (go_at_call 67; refine hY.mono ?_; clear hY; rintro e w5 ⟨rfl, hO5, hb5⟩)
      go_ret2
      obtain ⟨ao, cap, hv, _, _, hBs, _⟩ := Own.bs hO5
      injection hv with hv1 hv2 hv3
      subst hv1
      exact ⟨hbb.trans (hb5.mono hbb.size), .inl ⟨by rw [HLen.out]; exact hfin, wr.heap.size, by rw [HLen.out]; rfl, hBs⟩⟩
/-- What Put answers: the bytes, and the error. -/
def pB (ok : Bool) (bs : List UInt8) : List UInt8 := if ok = true ∧ bs.length ≤ 1048576 then bs else []
def pE (ok : Bool) (bs : List UInt8) : Int := if ok = false then 1 else if 1048576 < bs.length then 6 else 0
def PutEnd17 (ok : Bool) (bs : List UInt8) (w : World) (e : Ending) (w' : World) : Prop := Below w.heap.size w w' ∧ ∃ ao cap, e = .returned (.tuple #[.slice ao (pB ok bs).length cap, .int .i64 (pE ok bs)]) ∧ Bs w' ao (pB ok bs) ∧ (pB ok bs).length ≤ cap
theorem putNo {bs : List UInt8} {w w3 w4 : World} (h3 : Below w.heap.size w w3) (h4 : Below w3.heap.size w3 w4) : PutEnd17 false bs w (.returned (.tuple #[.slice none 0 0, .int .i64 1])) w4 :=
  ⟨h3.trans (h4.mono h3.size), none, 0, by simp [pB, pE], .inl (by simp [pB]), by simp [pB]⟩
theorem EndW.form {w0 : World} {bs : List UInt8} {e : Ending} {w' : World} (h : EndW w0 bs e w') : ∃ ao nn cc er, e = .returned (.tuple #[.slice ao nn cc, .int .i64 er]) := by
  obtain ⟨_, ⟨_, g, h, _⟩ | ⟨_, h⟩⟩ := h
  · exact ⟨_, _, _, _, h⟩
  · exact ⟨_, _, _, _, h⟩
theorem putEnd {bs : List UInt8} {w w4 : World} {e : Ending} {w' : World} (h4 : Below w.heap.size w w4) (h : EndW w4 bs e w') : PutEnd17 true bs w e w' := by
  obtain ⟨hb, ⟨hl, g, rfl, hB⟩ | ⟨hl, rfl⟩⟩ := h
  · have e1 : pB true bs = bs := by simp [pB, hl]
    have e2 : pE true bs = 0 := by simp only [pE]; rw [if_neg (by decide), if_neg (by omega)]
    exact ⟨h4.trans (hb.mono h4.size), _, _, by rw [e1, e2], by rw [e1]; exact hB, by rw [e1]; exact Nat.le_refl _⟩
  · have e1 : pB true bs = [] := by simp only [pB]; rw [if_neg (by omega)]
    have e2 : pE true bs = 6 := by simp only [pE]; rw [if_neg (by decide), if_pos hl]
    exact ⟨h4.trans (hb.mono h4.size), none, 0, by rw [e1, e2]; rfl, by rw [e1]; exact .inl rfl, by rw [e1]; exact Nat.zero_le _⟩
set_option maxRecDepth 100000 in
set_option maxHeartbeats 1000000 in
theorem put17_any (m : Msg) (a : Option Addr) (n c : Nat) (w : World) (hn : m.log.length = n) (hN : EsAt w.cell? a m.log) (hs : ∀ x ∈ m.log, x.d.length ≤ 9223372036854775807) : Calls Try.prog 11 #[msgV m.kd m.fr m.tt m.vw m.op m.cm m.nm (.slice a n c)] w (PutEnd17 m.ok m.b w) := by
  have hfin := fun e w' h => (h : PutEnd17 m.ok m.b w e w')
  obtain ⟨kd, fr, tt, vw, op, cm, nm, L⟩ := m
  simp only at hn hN hs ⊢
  have hC : ∀ W, Calls Try.prog 34 #[msgV kd fr tt vw op cm nm (.slice a n c)] W fun e w' => e = .returned (letV kd fr tt vw op cm nm (.slice a n c)) ∧ Below W.heap.size W w' := fun W => letterOf_any kd fr tt vw op cm nm a n c W
  have hR : ∀ W, Below w.heap.size w W → Calls Try.prog 35 #[letV kd fr tt vw op cm nm (.slice a n c)] W fun e w' => e = .returned (.bool (Msg.ok ⟨kd, fr, tt, vw, op, cm, nm, L⟩)) ∧ Below W.heap.size W w' := fun W hW => by
    refine (letRight_any kd fr tt vw op cm nm a n c L W hn (hN.keep (below_keep hW)) hs).mono ?_
    rintro e w' ⟨rfl, hb⟩
    refine ⟨congrArg (fun b => Ending.returned (.bool b)) ?_, hb⟩
    unfold Msg.ok headOk
    simp only [List.contains_cons, List.contains_nil, Bool.or_false, Bool.or_assoc]
  have hb1 : Below w.heap.size w (w.alloc (.cells #[.int .i64 kd, .int .i64 fr, .int .i64 tt, .int .i64 vw, .int .i64 op, .int .i64 cm, .int .i64 nm, .slice a n c] 29)) := (Below.refl _ w).alloc (Nat.le_refl _) _
  have hNew : ∀ w4, Calls Try.prog 36 #[] w4 fun e w5 => e = .returned (.pointer (some ⟨w4.heap.size + 1, 0, none⟩)) ∧ MineW w4 w5 (.slice none 0 0) [] := fun w4 => (newWriter_any w4).mono (by rintro e w5 ⟨rfl, hw5⟩; exact ⟨rfl, by rw [hw5]; exact ⟨newWriter_wr w4, Own.nil _ _ _, ((Below.refl _ _).alloc (Nat.le_refl _) _).alloc (by simp) _, by simp⟩⟩)
  have box : ∀ W2 : World, (∀ B, B = W2.heap.size → ∀ W, Below (W2.alloc (.cells #[.int .i64 kd, .int .i64 vw, .int .i64 nm, .int .i64 op, .slice a n c, .int .i64 fr, .int .i64 tt, .int .i64 cm] 82)).heap.size (W2.alloc (.cells #[.int .i64 kd, .int .i64 vw, .int .i64 nm, .int .i64 op, .slice a n c, .int .i64 fr, .int .i64 tt, .int .i64 cm] 82)) W → (W.cell? ⟨B, 0, none⟩ = some (.int .i64 kd) ∧ W.cell? ⟨B, 1, none⟩ = some (.int .i64 vw) ∧ W.cell? ⟨B, 2, none⟩ = some (.int .i64 nm) ∧ W.cell? ⟨B, 3, none⟩ = some (.int .i64 op) ∧ W.cell? ⟨B, 4, none⟩ = some (.slice a n c) ∧ W.cell? ⟨B, 5, none⟩ = some (.int .i64 fr) ∧ W.cell? ⟨B, 6, none⟩ = some (.int .i64 tt) ∧ W.cell? ⟨B, 7, none⟩ = some (.int .i64 cm)) ∧ B < W.heap.size) := fun W2 B hB W h => by
    subst hB
    have e := (h.block _ (by simp)).trans (heap_alloc_new W2 (.cells #[.int .i64 kd, .int .i64 vw, .int .i64 nm, .int .i64 op, .slice a n c, .int .i64 fr, .int .i64 tt, .int .i64 cm] 82))
    refine ⟨⟨?_, ?_, ?_, ?_, ?_, ?_, ?_, ?_⟩, lt_of_block e⟩ <;> (rw [Lib.cell_of_heap e]; rfl)
  cases hok : Msg.ok ⟨kd, fr, tt, vw, op, cm, nm, L⟩ with
  | false =>
    rw [hok] at hfin
    have hR2 := fun W hW => (hok ▸ hR W hW : Calls Try.prog 35 #[letV kd fr tt vw op cm nm (.slice a n c)] W fun e w' => e = .returned (.bool false) ∧ Below W.heap.size W w')
    clear hN hs hNew hR hok
    go_enter Try.func11, Try.ntmps11
    go_wp2_with (go_at_call 34; refine (hC _).mono ?_; clear hC; rintro e w2 ⟨rfl, hb2'⟩; have hb2 := hb1.trans (hb2'.mono hb1.size); clear hb2')
    have hb3 : Below w.heap.size w (w2.alloc (.cells #[.int .i64 kd, .int .i64 vw, .int .i64 nm, .int .i64 op, .slice a n c, .int .i64 fr, .int .i64 tt, .int .i64 cm] 82)) := hb2.alloc hb2.size _
    go_wp2_with (go_at_call 35; refine (hR2 _ hb3).mono ?_; clear hR2; rintro e w4 ⟨rfl, hb4⟩)
    go_ret2
    exact hfin _ _ (putNo hb3 hb4)
  | true =>
    have hR2 := fun W hW => (hok ▸ hR W hW : Calls Try.prog 35 #[letV kd fr tt vw op cm nm (.slice a n c)] W fun e w' => e = .returned (.bool true) ∧ Below W.heap.size W w')
    obtain ⟨⟨a1, a2⟩, ⟨b1, b2⟩, ⟨c1, c2⟩, ⟨d1, d2⟩, e1, ⟨f1, f2⟩, ⟨g1, g2⟩, ⟨i1, i2⟩⟩ := Msg.facts hok
    obtain ⟨hl1, hl2⟩ := logOk.facts e1
    have hsm : ∀ x ∈ L, x.d.length ≤ 16384 := fun x hx => (Ent.facts (hl2 x hx)).2.2
    simp only at hl1 a1 a2 b1 b2 c1 c2 d1 d2 f1 f2 g1 g2 i1 i2
    rw [hok] at hfin
    have hMb : Msg.b ⟨kd, fr, tt, vw, op, cm, nm, L⟩ = (([] ++ byts [kd, fr, tt]) ++ ints [vw, op, cm, nm]) ++ logB L := by unfold Msg.b byts; simp only [List.map_cons, List.map_nil, List.nil_append]
    have HM := hid hMb
    have HFin := hid hfin
    have hBy : ∀ w4 W v (M : MineW w4 W v []), Calls Try.prog 37 #[.pointer (some ⟨w4.heap.size + 1, 0, none⟩), .slice (some ⟨W.heap.size, 0, none⟩) 3 3] (W.alloc (.cells #[.int .i64 kd, .int .i64 fr, .int .i64 tt] 3)) (WroteW w4 ([] ++ byts [kd, fr, tt]) (.int .i64 0) W v) := fun w4 W v M => bytesN_W w4 W v [] M _ 3 rfl [kd, fr, tt] rfl (by omega) _ rfl (by intro x hx; simp only [List.mem_cons, List.not_mem_nil, or_false] at hx; rcases hx with rfl | rfl | rfl <;> omega) (by simp)
    have hIn : ∀ w4 W v (M : MineW w4 W v ([] ++ byts [kd, fr, tt])), Calls Try.prog 38 #[.pointer (some ⟨w4.heap.size + 1, 0, none⟩), .slice (some ⟨W.heap.size, 0, none⟩) 4 4] (W.alloc (.cells #[.int .i64 vw, .int .i64 op, .int .i64 cm, .int .i64 nm] 3)) (WroteW w4 (([] ++ byts [kd, fr, tt]) ++ ints [vw, op, cm, nm]) (.int .i64 0) W v) := fun w4 W v M => intsN_W w4 W v _ M _ 4 rfl [vw, op, cm, nm] rfl _ rfl (by simp [byts])
    have hlen : (([] ++ byts [kd, fr, tt]) ++ ints [vw, op, cm, nm]).length ≤ 1000000 := by simp [byts, ints_length]
    generalize ([] ++ byts [kd, fr, tt]) ++ ints [vw, op, cm, nm] = b2_ at *
    generalize [] ++ byts [kd, fr, tt] = b1_ at *
    have hEn : ∀ w4 W v (M : MineW w4 W v b2_), Below w.heap.size w w4 → Calls Try.prog 39 #[.agg #[.pointer (some ⟨w4.heap.size + 1, 0, none⟩)], .slice a n c] W (EndW w4 (b2_ ++ logB L)) := fun w4 W v M h4 => end_any17 w4 v b2_ W M a n c L hn (hN.keep (below_keep h4)) (by omega) hsm hlen
    clear hN hs hR hok hMb hfin e1 hl1 hl2 hsm hlen
    go_enter Try.func11, Try.ntmps11
    go_wp2_with (go_at_call 34; refine (hC _).mono ?_; clear hC; rintro e w2 ⟨rfl, hb2'⟩; have hb2 := hb1.trans (hb2'.mono hb1.size); clear hb2')
    obtain ⟨B, hB⟩ : ∃ B, B = w2.heap.size := ⟨_, rfl⟩
    have hbx := box w2 B hB
    clear box
    obtain ⟨W3, hW3⟩ : ∃ W, W = w2.alloc (.cells #[.int .i64 kd, .int .i64 vw, .int .i64 nm, .int .i64 op, .slice a n c, .int .i64 fr, .int .i64 tt, .int .i64 cm] 82) := ⟨_, rfl⟩
    have hb3 : Below w.heap.size w W3 := by rw [hW3]; exact hb2.alloc hb2.size _
    rw [← hW3] at hbx
    go_wp2_with (go_at_call 35; rw [← hW3]; refine (hR2 _ hb3).mono ?_; clear hR2; rintro e w4 ⟨rfl, hb4⟩)
    clear hW3
    rw [← hB]
    clear hB hb2
    have h04 : Below w.heap.size w w4 := hb3.trans (hb4.mono hb3.size)
    have hbx4 : ∀ W, Below w4.heap.size w4 W → (W.cell? ⟨B, 0, none⟩ = some (.int .i64 kd) ∧ W.cell? ⟨B, 1, none⟩ = some (.int .i64 vw) ∧ W.cell? ⟨B, 2, none⟩ = some (.int .i64 nm) ∧ W.cell? ⟨B, 3, none⟩ = some (.int .i64 op) ∧ W.cell? ⟨B, 4, none⟩ = some (.slice a n c) ∧ W.cell? ⟨B, 5, none⟩ = some (.int .i64 fr) ∧ W.cell? ⟨B, 6, none⟩ = some (.int .i64 tt) ∧ W.cell? ⟨B, 7, none⟩ = some (.int .i64 cm)) ∧ B < W.heap.size := fun W h => hbx W (hb4.trans (h.mono hb4.size))
    clear hbx hb4 hb3
    go_upto_region 5 with (go_at_call 36; refine (hNew w4).mono ?_; clear hNew; rintro e w5 ⟨rfl, M5⟩)
    have M6 := M5.alloc (.cells #[.pointer (some ⟨w4.heap.size + 1, 0, none⟩)] 87)
    have K6 := M5.kept #[.pointer (some ⟨w4.heap.size + 1, 0, none⟩)] 87
    generalize w5.heap.size = D at K6 ⊢
    generalize w5.alloc (.cells #[.pointer (some ⟨w4.heap.size + 1, 0, none⟩)] 87) = W6 at M6 K6 ⊢
    clear M5
    have hK : ∀ W v, Kept w4 W v D (.cells #[.pointer (some ⟨w4.heap.size + 1, 0, none⟩)] 87 (0, 0)) → W.cell? ⟨D, 0, none⟩ = some (.pointer (some ⟨w4.heap.size + 1, 0, none⟩)) ∧ D < W.heap.size := fun W v K => ⟨by rw [Lib.cell_of_heap K.there]; rfl, lt_of_block K.there⟩
    obtain ⟨⟨x0, x1, x2, x3, x4, x5, x6, x7⟩, xl⟩ := hbx4 _ M6.hb
    obtain ⟨k0, kl⟩ := hK _ _ K6
    have hB1 := hBy w4 W6 _ M6
    have hI1 := fun W v M => hIn w4 W v M
    have hE1 := fun W v M => hEn w4 W v M h04
    clear hBy hIn hEn
    go_wp2_with (first
      | (go_at_call 37; refine hB1.mono ?_; clear hB1; rintro e w7 ⟨v7, rfl, M7, s7⟩; have K7 := K6.step s7; obtain ⟨⟨y0, y1, y2, y3, y4, y5, y6, y7⟩, yl⟩ := hbx4 _ M7.hb; obtain ⟨k7, kl7⟩ := hK _ _ K7; have hI2 := hI1 w7 v7 M7; clear hI1)
      | (go_at_call 38; refine hI2.mono ?_; clear hI2; rintro e w8 ⟨v8, rfl, M8, s8⟩; have K8 := K7.step s8; obtain ⟨⟨u0, u1, u2, u3, u4, u5, u6, u7⟩, ul⟩ := hbx4 _ M8.hb; obtain ⟨k8, kl8⟩ := hK _ _ K8; have hE2 := hE1 w8 v8 M8; clear hE1)
      | (go_at_call 39; refine hE2.mono ?_; clear hE2; rintro e w9 hX; obtain ⟨ao, nn, cc, er, rfl⟩ := hX.form; have hX2 := hid hX; clear hX))
    go_ret2
    exact HFin.out _ _ (by rw [HM.out]; exact putEnd h04 hX2.out)
set_option maxRecDepth 100000 in
set_option maxHeartbeats 1000000 in
theorem putRec17_any (m : Rec17) (a : Option Addr) (n c : Nat) (w : World) (hn : m.log.length = n) (hN : EsAt w.cell? a m.log) (hs : ∀ x ∈ m.log, x.d.length ≤ 9223372036854775807) : Calls Try.prog 22 #[recV m.kd m.vw m.nm m.op (.slice a n c)] w (PutEnd17 m.ok m.b w) := by
  have hfin := fun e w' h => (h : PutEnd17 m.ok m.b w e w')
  obtain ⟨kd, vw, nm, op, L⟩ := m
  simp only at hn hN hs ⊢
  have hC : ∀ W, Calls Try.prog 55 #[recV kd vw nm op (.slice a n c)] W fun e w' => e = .returned (recV kd vw nm op (.slice a n c)) ∧ Below W.heap.size W w' := fun W => noteOf_any kd vw nm op a n c W
  have hR : ∀ W, Below w.heap.size w W → Calls Try.prog 56 #[recV kd vw nm op (.slice a n c)] W fun e w' => e = .returned (.bool (Rec17.ok ⟨kd, vw, nm, op, L⟩)) ∧ Below W.heap.size W w' := fun W hW => by
    refine (noteRight_any kd vw nm op a n c L W hn (hN.keep (below_keep hW)) hs).mono ?_
    rintro e w' ⟨rfl, hb⟩
    refine ⟨congrArg (fun b => Ending.returned (.bool b)) ?_, hb⟩
    unfold Rec17.ok headOk
    simp only [List.contains_cons, List.contains_nil, Bool.or_false]
  have hb1 : Below w.heap.size w (w.alloc (.cells #[.int .i64 kd, .int .i64 vw, .int .i64 nm, .int .i64 op, .slice a n c] 50)) := (Below.refl _ w).alloc (Nat.le_refl _) _
  have hNew : ∀ w4, Calls Try.prog 36 #[] w4 fun e w5 => e = .returned (.pointer (some ⟨w4.heap.size + 1, 0, none⟩)) ∧ MineW w4 w5 (.slice none 0 0) [] := fun w4 => (newWriter_any w4).mono (by rintro e w5 ⟨rfl, hw5⟩; exact ⟨rfl, by rw [hw5]; exact ⟨newWriter_wr w4, Own.nil _ _ _, ((Below.refl _ _).alloc (Nat.le_refl _) _).alloc (by simp) _, by simp⟩⟩)
  have box : ∀ W2 : World, (∀ B, B = W2.heap.size → ∀ W, Below (W2.alloc (.cells #[.int .i64 kd, .int .i64 vw, .int .i64 nm, .int .i64 op, .slice a n c] 111)).heap.size (W2.alloc (.cells #[.int .i64 kd, .int .i64 vw, .int .i64 nm, .int .i64 op, .slice a n c] 111)) W → (W.cell? ⟨B, 0, none⟩ = some (.int .i64 kd) ∧ W.cell? ⟨B, 1, none⟩ = some (.int .i64 vw) ∧ W.cell? ⟨B, 2, none⟩ = some (.int .i64 nm) ∧ W.cell? ⟨B, 3, none⟩ = some (.int .i64 op) ∧ W.cell? ⟨B, 4, none⟩ = some (.slice a n c)) ∧ B < W.heap.size) := fun W2 B hB W h => by
    subst hB
    have e := (h.block _ (by simp)).trans (heap_alloc_new W2 (.cells #[.int .i64 kd, .int .i64 vw, .int .i64 nm, .int .i64 op, .slice a n c] 111))
    refine ⟨⟨?_, ?_, ?_, ?_, ?_⟩, lt_of_block e⟩ <;> (rw [Lib.cell_of_heap e]; rfl)
  cases hok : Rec17.ok ⟨kd, vw, nm, op, L⟩ with
  | false =>
    rw [hok] at hfin
    have hR2 := fun W hW => (hok ▸ hR W hW : Calls Try.prog 56 #[recV kd vw nm op (.slice a n c)] W fun e w' => e = .returned (.bool false) ∧ Below W.heap.size W w')
    clear hN hs hNew hR hok
    go_enter Try.func22, Try.ntmps22
    go_wp2_with (go_at_call 55; refine (hC _).mono ?_; clear hC; rintro e w2 ⟨rfl, hb2'⟩; have hb2 := hb1.trans (hb2'.mono hb1.size); clear hb2')
    have hb3 : Below w.heap.size w (w2.alloc (.cells #[.int .i64 kd, .int .i64 vw, .int .i64 nm, .int .i64 op, .slice a n c] 111)) := hb2.alloc hb2.size _
    go_wp2_with (go_at_call 56; refine (hR2 _ hb3).mono ?_; clear hR2; rintro e w4 ⟨rfl, hb4⟩)
    go_ret2
    exact hfin _ _ (putNo hb3 hb4)
  | true =>
    have hR2 := fun W hW => (hok ▸ hR W hW : Calls Try.prog 56 #[recV kd vw nm op (.slice a n c)] W fun e w' => e = .returned (.bool true) ∧ Below W.heap.size W w')
    obtain ⟨⟨a1, a2⟩, ⟨b1, b2⟩, ⟨c1, c2⟩, ⟨d1, d2⟩, e1⟩ := Rec17.facts hok
    obtain ⟨hl1, hl2⟩ := logOk.facts e1
    have hsm : ∀ x ∈ L, x.d.length ≤ 16384 := fun x hx => (Ent.facts (hl2 x hx)).2.2
    simp only at hl1 a1 a2 b1 b2 c1 c2 d1 d2 
    rw [hok] at hfin
    have hMb : Rec17.b ⟨kd, vw, nm, op, L⟩ = (([] ++ byts [kd]) ++ ints [vw, nm, op]) ++ logB L := by unfold Rec17.b byts; simp only [List.map_cons, List.map_nil, List.nil_append]
    have HM := hid hMb
    have HFin := hid hfin
    have hBy : ∀ w4 W v (M : MineW w4 W v []), Calls Try.prog 37 #[.pointer (some ⟨w4.heap.size + 1, 0, none⟩), .slice (some ⟨W.heap.size, 0, none⟩) 1 1] (W.alloc (.cells #[.int .i64 kd] 3)) (WroteW w4 ([] ++ byts [kd]) (.int .i64 0) W v) := fun w4 W v M => bytesN_W w4 W v [] M _ 1 rfl [kd] rfl (by omega) _ rfl (by intro x hx; simp only [List.mem_cons, List.not_mem_nil, or_false] at hx; rcases hx with rfl <;> omega) (by simp)
    have hIn : ∀ w4 W v (M : MineW w4 W v ([] ++ byts [kd])), Calls Try.prog 38 #[.pointer (some ⟨w4.heap.size + 1, 0, none⟩), .slice (some ⟨W.heap.size, 0, none⟩) 3 3] (W.alloc (.cells #[.int .i64 vw, .int .i64 nm, .int .i64 op] 3)) (WroteW w4 (([] ++ byts [kd]) ++ ints [vw, nm, op]) (.int .i64 0) W v) := fun w4 W v M => intsN_W w4 W v _ M _ 3 rfl [vw, nm, op] rfl _ rfl (by simp [byts])
    have hlen : (([] ++ byts [kd]) ++ ints [vw, nm, op]).length ≤ 1000000 := by simp [byts, ints_length]
    generalize ([] ++ byts [kd]) ++ ints [vw, nm, op] = b2_ at *
    generalize [] ++ byts [kd] = b1_ at *
    have hEn : ∀ w4 W v (M : MineW w4 W v b2_), Below w.heap.size w w4 → Calls Try.prog 39 #[.agg #[.pointer (some ⟨w4.heap.size + 1, 0, none⟩)], .slice a n c] W (EndW w4 (b2_ ++ logB L)) := fun w4 W v M h4 => end_any17 w4 v b2_ W M a n c L hn (hN.keep (below_keep h4)) (by omega) hsm hlen
    clear hN hs hR hok hMb hfin e1 hl1 hl2 hsm hlen
    go_enter Try.func22, Try.ntmps22
    go_wp2_with (go_at_call 55; refine (hC _).mono ?_; clear hC; rintro e w2 ⟨rfl, hb2'⟩; have hb2 := hb1.trans (hb2'.mono hb1.size); clear hb2')
    obtain ⟨B, hB⟩ : ∃ B, B = w2.heap.size := ⟨_, rfl⟩
    have hbx := box w2 B hB
    clear box
    obtain ⟨W3, hW3⟩ : ∃ W, W = w2.alloc (.cells #[.int .i64 kd, .int .i64 vw, .int .i64 nm, .int .i64 op, .slice a n c] 111) := ⟨_, rfl⟩
    have hb3 : Below w.heap.size w W3 := by rw [hW3]; exact hb2.alloc hb2.size _
    rw [← hW3] at hbx
    go_wp2_with (go_at_call 56; rw [← hW3]; refine (hR2 _ hb3).mono ?_; clear hR2; rintro e w4 ⟨rfl, hb4⟩)
    clear hW3
    rw [← hB]
    clear hB hb2
    have h04 : Below w.heap.size w w4 := hb3.trans (hb4.mono hb3.size)
    have hbx4 : ∀ W, Below w4.heap.size w4 W → (W.cell? ⟨B, 0, none⟩ = some (.int .i64 kd) ∧ W.cell? ⟨B, 1, none⟩ = some (.int .i64 vw) ∧ W.cell? ⟨B, 2, none⟩ = some (.int .i64 nm) ∧ W.cell? ⟨B, 3, none⟩ = some (.int .i64 op) ∧ W.cell? ⟨B, 4, none⟩ = some (.slice a n c)) ∧ B < W.heap.size := fun W h => hbx W (hb4.trans (h.mono hb4.size))
    clear hbx hb4 hb3
    go_upto_region 5 with (go_at_call 36; refine (hNew w4).mono ?_; clear hNew; rintro e w5 ⟨rfl, M5⟩)
    have M6 := M5.alloc (.cells #[.pointer (some ⟨w4.heap.size + 1, 0, none⟩)] 87)
    have K6 := M5.kept #[.pointer (some ⟨w4.heap.size + 1, 0, none⟩)] 87
    generalize w5.heap.size = D at K6 ⊢
    generalize w5.alloc (.cells #[.pointer (some ⟨w4.heap.size + 1, 0, none⟩)] 87) = W6 at M6 K6 ⊢
    clear M5
    have hK : ∀ W v, Kept w4 W v D (.cells #[.pointer (some ⟨w4.heap.size + 1, 0, none⟩)] 87 (0, 0)) → W.cell? ⟨D, 0, none⟩ = some (.pointer (some ⟨w4.heap.size + 1, 0, none⟩)) ∧ D < W.heap.size := fun W v K => ⟨by rw [Lib.cell_of_heap K.there]; rfl, lt_of_block K.there⟩
    obtain ⟨⟨x0, x1, x2, x3, x4⟩, xl⟩ := hbx4 _ M6.hb
    obtain ⟨k0, kl⟩ := hK _ _ K6
    have hB1 := hBy w4 W6 _ M6
    have hI1 := fun W v M => hIn w4 W v M
    have hE1 := fun W v M => hEn w4 W v M h04
    clear hBy hIn hEn
    go_wp2_with (first
      | (go_at_call 37; refine hB1.mono ?_; clear hB1; rintro e w7 ⟨v7, rfl, M7, s7⟩; have K7 := K6.step s7; obtain ⟨⟨y0, y1, y2, y3, y4⟩, yl⟩ := hbx4 _ M7.hb; obtain ⟨k7, kl7⟩ := hK _ _ K7; have hI2 := hI1 w7 v7 M7; clear hI1)
      | (go_at_call 38; refine hI2.mono ?_; clear hI2; rintro e w8 ⟨v8, rfl, M8, s8⟩; have K8 := K7.step s8; obtain ⟨⟨u0, u1, u2, u3, u4⟩, ul⟩ := hbx4 _ M8.hb; obtain ⟨k8, kl8⟩ := hK _ _ K8; have hE2 := hE1 w8 v8 M8; clear hE1)
      | (go_at_call 39; refine hE2.mono ?_; clear hE2; rintro e w9 hX; obtain ⟨ao, nn, cc, er, rfl⟩ := hX.form; have hX2 := hid hX; clear hX))
    go_ret2
    exact HFin.out _ _ (by rw [HM.out]; exact putEnd h04 hX2.out)
end Go.Proofs.Ytmaecpmdikdclaa
