/- Layer 15: the law SectorSure. -/
import Derived.Test.YtghhhlbpolhkhaaJA
import Derived.Test.YtghhhlbpolhkhaaJB
import Derived.Test.YtghhhlbpolhkhaaRIg
import Derived.Test.YtghhhlbpolhkhaaES
namespace Go.Proofs.Ytghhhlbpolhkhaa
open Go.RowKit
def sureB : Bt := [115, 117, 114, 101]
/-- While it is filled. -/
def FI (w : World) (db : Nat) (v : Value) (i : Nat) (W : World) : Prop := ∃ K d want, want.length = i ∧ Ls w K db d W ∧ FillP sureB want d ∧ TxR w K v want W
/-- Filled and synced. -/
def SJ (w : World) (db : Nat) (v : Value) (i : Nat) (W : World) : Prop := ∃ K d want, want.length = i ∧ (∀ b ∈ want, b.length ≤ 64) ∧ Ls w K db d W ∧ (want = [] ∨ ∃ cs, SureP sureB want (fun _ => false) d cs) ∧ TxR w K v want W
theorem FI.sj {w : World} {db : Nat} {v : Value} {W : World} (h : FI w db v 0 W) : SJ w db v 0 W := by
  obtain ⟨K, d, want, h1, h2, h3, h4⟩ := h
  exact ⟨K, d, want, h1, h3.w64, h2, .inl (List.eq_nil_of_length_eq_zero h1), h4⟩
theorem FI.sync {w : World} {db : Nat} {v : Value} {i : Nat} {W : World} (h : FI w db v i W) (hi : i ≠ 0) : Calls Try.prog 11 #[.pointer (some ⟨db, 0, none⟩), .string ⟨#[115, 117, 114, 101]⟩] W fun e w' => e = .returned (.int .i64 0) ∧ Hid (SJ w db v i w') := by
  obtain ⟨K, d, want, h1, h2, h3, h4⟩ := h
  obtain ⟨e1, hs⟩ := h3.sync (fun e => hi (by rw [← h1, e]; rfl))
  refine (dsync_any h2.dk sureB).mono fun e w' ⟨e2, H⟩ => ⟨by rw [e2, e1], hidb ⟨K, _, want, h1, h3.w64, h2.next H.out, .inr hs, h4.kt H.out.2⟩⟩
/-- While others are written. -/
structure SI (w : World) (K : Nat → Prop) (db mb : Nat) (v : Value) (want : List Bt) (i : Nat) (W : World) : Prop where
  ex : ∃ d T, Ls w K db d W ∧ (want = [] ∨ ∃ cs, SureP sureB want T d cs) ∧ MapT W mb i T
  tx : TxR w K v want W
  km : K mb
  mw : w.heap.size ≤ mb
theorem kt_map {K : Nat → Prop} {W W' : World} {mb i : Nat} {T : Int → Bool} (h : MapT W mb i T) (hk : K mb) (k : Kt (fun i => ¬ K i) W W') : MapT W' mb i T := h.keep (k.block mb h.lt fun x => x hk)
theorem SI.below {w : World} {K : Nat → Prop} {db mb : Nat} {v : Value} {want : List Bt} {i : Nat} {W W' : World} (h : SI w K db mb v want i W) (b : Below W.heap.size W W') : SI w K db mb v want i W' := by
  obtain ⟨⟨d, T, h1, h2, h3⟩, h4, h5, h6⟩ := h
  exact ⟨⟨d, T, h1.below b, h2, h3.keep (b.block mb h3.lt)⟩, h4.below b, h5, h6⟩
theorem SI.more {w : World} {K : Nat → Prop} {db mb : Nat} {v : Value} {want : List Bt} {i j : Nat} {W : World} (h : SI w K db mb v want i W) (e : i ≤ j) : SI w K db mb v want j W := by
  obtain ⟨⟨d, T, h1, h2, h3⟩, h4, h5, h6⟩ := h
  exact ⟨⟨d, T, h1, h2, h3.more e⟩, h4, h5, h6⟩
theorem SJ.map {w : World} {db : Nat} {v : Value} {i : Nat} {W : World} (h : SJ w db v i W) : ∃ K want, want.length = i ∧ (∀ b ∈ want, b.length ≤ 64) ∧ SI w K db W.heap.size v want 0 (W.alloc (.map #[] 0)) := by
  obtain ⟨K, d, want, h1, h64, h2, h3, h4⟩ := h
  have hb : Below W.heap.size W (W.alloc (.map #[] 0)) := (Below.refl _ W).alloc (Nat.le_refl _) _
  refine ⟨fun k => K k ∨ k = W.heap.size, want, h1, h64, ⟨d, _, ⟨h2.dk.more hb _ fun k hk => ?_, h2.bl.trans (hb.mono h2.bl.size), fun k hk => .inl (h2.kl k hk)⟩, h3, MapT.new W⟩, ⟨(h4.below hb).row, fun b hb => .inl (h4.k b hb)⟩, .inr rfl, h2.bl.size⟩
  subst hk
  exact ⟨Nat.le_refl _, by simp⟩
/-- A call of the disk's. -/
theorem SI.next {w : World} {K : Nat → Prop} {db mb : Nat} {v : Value} {want : List Bt} {i : Nat} {W W' : World} {d d' : Dk} {T T' : Int → Bool} (tx : TxR w K v want W) (km : K mb) (mw : w.heap.size ≤ mb) (h1 : Ls w K db d W) (h3 : MapT W mb i T') (hs : want = [] ∨ ∃ cs, SureP sureB want T d cs) (hn : (∃ cs, SureP sureB want T d cs) → ∃ cs, SureP sureB want T' d' cs) (H : DkEnd K db d' W W') : SI w K db mb v want i W' :=
  ⟨⟨d', T', h1.next H, hs.imp id hn, kt_map h3 km H.2⟩, tx.kt H.2, km, mw⟩
theorem SI.other {w : World} {K : Nat → Prop} {db mb : Nat} {v : Value} {want : List Bt} {i : Nat} {W : World} (h : SI w K db mb v want i W) (name : Bt) (at_ : Int) (b : Bt) (hn : name ≠ sureB) (hl : name.length ≤ 9223372036854775807) (hbl : b.length ≤ 9223372036854775807) (hat : -9223372036854775808 ≤ at_ ∧ at_ ≤ 9223372036854775807) : Calls Try.prog 10 #[.pointer (some ⟨db, 0, none⟩), sv name, .int .i64 at_, sv b] W fun e w' => ∃ x, e = .returned (.int .i64 x) ∧ Hid (SI w K db mb v want i w') := by
  obtain ⟨⟨d, T, h1, h2, h3⟩, h4, h5, h6⟩ := h
  exact (dwrite_all h1.dk name at_ b hl hbl hat).mono fun e w' ⟨e1, H⟩ => ⟨_, e1, hidb (SI.next h4 h5 h6 h1 h3 h2 (fun ⟨cs, hs⟩ => ⟨cs, hs.other hn at_ b⟩) H.out)⟩
theorem SI.sync {w : World} {K : Nat → Prop} {db mb : Nat} {v : Value} {want : List Bt} {i : Nat} {W : World} (h : SI w K db mb v want i W) (name : Bt) (hn : name ≠ sureB) : Calls Try.prog 11 #[.pointer (some ⟨db, 0, none⟩), sv name] W fun e w' => ∃ x, e = .returned (.int .i64 x) ∧ Hid (SI w K db mb v want i w') := by
  obtain ⟨⟨d, T, h1, h2, h3⟩, h4, h5, h6⟩ := h
  exact (dsync_any h1.dk name).mono fun e w' ⟨e1, H⟩ => ⟨_, e1, hidb (SI.next h4 h5 h6 h1 h3 h2 (fun ⟨cs, hs⟩ => ⟨cs, hs.sync hn⟩) H.out)⟩
theorem SI.cut {w : World} {K : Nat → Prop} {db mb : Nat} {v : Value} {want : List Bt} {i : Nat} {W : World} (h : SI w K db mb v want i W) (k : Int) (hk : -9223372036854775808 ≤ k ∧ k ≤ 9223372036854775807) : Calls Try.prog 15 #[.pointer (some ⟨db, 0, none⟩), .int .i64 k] W fun e w' => e = .returned (.tuple #[]) ∧ Hid (SI w K db mb v want i w') := by
  obtain ⟨⟨d, T, h1, h2, h3⟩, h4, h5, h6⟩ := h
  exact (cut15_any h1.dk k hk).mono fun e w' ⟨e1, H⟩ => ⟨e1, hidb (SI.next (d' := { d with fuse := k }) h4 h5 h6 h1 h3 h2 (fun ⟨cs, hs⟩ => ⟨cs, hs.same rfl⟩) H.out)⟩
/-- A place of the file is named, then written. -/
theorem SI.own {w : World} {K : Nat → Prop} {db mb : Nat} {v : Value} {want : List Bt} {i : Nat} {W : World} (h : SI w K db mb v want i W) (hi : i ≤ 1000) (at_ : Int) (b : Bt) (hbl : b.length ≤ 9223372036854775807) (hat : -9223372036854775808 ≤ at_ ∧ at_ ≤ 9223372036854775807) :
    ∃ w5, (Instr.mapUpdate 46 (.map (some mb)) (.int .i64 at_) (.bool true)).run Try.prog W = .ok () w5 ∧ (∀ a x, W.cell? a = some x → w5.cell? a = some x) ∧ Hid (Calls Try.prog 10 #[.pointer (some ⟨db, 0, none⟩), sv sureB, .int .i64 at_, sv b] w5 fun e w' => ∃ x, e = .returned (.int .i64 x) ∧ Hid (SI w K db mb v want (i + 1) w')) := by
  obtain ⟨⟨d, T, h1, h2, h3⟩, h4, h5, h6⟩ := h
  obtain ⟨w5, hu, m5, g5, z5⟩ := h3.put hi at_ hat
  have hne : ∀ a x, W.cell? a = some x → a.block ≠ mb := fun a x hx e => by
    obtain ⟨D, ⟨es, cl, q1, _⟩, _⟩ := h3
    rw [← e] at q1
    simp [World.cell?, q1] at hx
  have hdk : DkAt K db d w5 := h1.dk.turn g5.size (fun k hk hn => g5.block k hk fun e => hn (by injection e with e; rw [e]; exact h5)) fun k hk => .inl hk
  have hbl5 : Below w.heap.size w w5 := h1.bl.trans ⟨g5.os, g5.tape, g5.output, g5.size, fun k hk => g5.block k (Nat.lt_of_lt_of_le hk h1.bl.size) fun e => by injection e with e; omega⟩
  have hvm : v.ownBlock ≠ some mb := fun e => by
    rcases h4.row.2 with ⟨rfl, _⟩ | ⟨g, cap, cur, rfl, _, hg, _⟩
    · simp [Value.ownBlock] at e
    · obtain ⟨D, ⟨es, cl, q1, _⟩, _⟩ := h3
      simp [Value.ownBlock] at e
      subst e
      rw [hg] at q1
      cases q1
  have htx : TxR w K v want w5 := ⟨row_keep h4.row fun b hb => g5.block b (h4.row.lt b hb).2 fun e => hvm (by rw [hb, e]), h4.k⟩
  refine ⟨w5, hu, fun a x hx => g5.cell hx fun e => hne a x hx (by injection e), hidb ?_⟩
  refine (dwrite_all hdk sureB at_ b (by decide) hbl hat).mono fun e w' ⟨e1, H⟩ => ⟨_, e1, hidb (SI.next (d' := writeD d sureB at_ b) htx h5 h6 ⟨hdk, hbl5, h1.kl⟩ m5 h2 (fun ⟨cs, hs⟩ => hs.write at_ b) H.out)⟩
theorem cnt_j (i : Nat) : Value.int .i64 ((i : Int) + 1) = .int .i64 ((i + 1 : Nat) : Int) := by go_num
theorem cut_fr15 (l : List UInt8) (o : Nat) : (⟨l.toArray⟩ : ByteArray).extract 0 o = ⟨(l.take o).toArray⟩ := by
  apply ByteArray.ext
  rw [ByteArray.data_extract]
  simp only [List.extract_toArray, List.extract_eq_take_drop]
  simp
/-- The last rows. -/
structure SEnd15 (w : World) (mb : Nat) (T : Int → Bool) (wa sa : Option Addr) (sn : Nat) (want : List Bt) (W : World) : Prop where
  bl : Below w.heap.size w W
  mp : MapT W mb 100 T
  ts : ∀ j (h : j < want.length), ∃ q, wa = some ⟨q, 0, none⟩ ∧ W.cell? ⟨q, j, none⟩ = some (sv want[j]) ∧ want[j].length ≤ 64
  se : ∀ j (h : j < want.length), T j = false → ∃ q, sa = some ⟨q, 0, none⟩ ∧ W.cell? ⟨q, j * 2, none⟩ = some (sv (padB want[j])) ∧ W.cell? ⟨q, j * 2 + 1, none⟩ = some (.bool false)
  ge : want.length ≤ sn
theorem SEnd15.below {w : World} {mb : Nat} {T : Int → Bool} {wa sa : Option Addr} {sn : Nat} {want : List Bt} {W W' : World} (h : SEnd15 w mb T wa sa sn want W) (b : Below W.heap.size W W') : SEnd15 w mb T wa sa sn want W' :=
  ⟨h.bl.trans (b.mono h.bl.size), h.mp.keep (b.block mb h.mp.lt), fun j hj => by
    obtain ⟨q, e, c, l⟩ := h.ts j hj
    exact ⟨q, e, below_keep b _ _ c, l⟩, fun j hj ht => by
    obtain ⟨q, e, c, l⟩ := h.se j hj ht
    exact ⟨q, e, below_keep b _ _ c, below_keep b _ _ l⟩, h.ge⟩
theorem SI.crash {w : World} {K : Nat → Prop} {db mb : Nat} {wa : Option Addr} {i0 wc : Nat} {want : List Bt} {i : Nat} {W : World} (h : SI w K db mb (.slice wa i0 wc) want i W) (hi : i ≤ 100) (hw : want.length = i0) (h64 : ∀ b ∈ want, b.length ≤ 64) (fa : Option Addr) (fn fc : Nat) (fates : List Int) (hf : FatO (fun i => ¬ i < w.heap.size) w (.slice fa fn fc) fates) : Calls Try.prog 7 #[.pointer (some ⟨db, 0, none⟩), .slice fa fn fc] W fun e w2 => e = .returned (.tuple #[]) ∧ Hid (Calls Try.prog 8 #[.pointer (some ⟨db, 0, none⟩), .string ⟨#[115, 117, 114, 101]⟩] w2 fun e w3 => ∃ sa sn sc er, e = .returned (.tuple #[.slice sa sn sc, .int .i64 er]) ∧ sn ≤ sc ∧ sc ≤ 9223372036854775807 ∧ (i0 ≠ 0 → er = 0 ∧ i0 ≤ sn) ∧ Hid (Below w.heap.size w w3 ∧ (want ≠ [] → ∃ T, SEnd15 w mb T wa sa sn want w3))) := by
  obtain ⟨⟨d, T, h1, h2, h3⟩, h4, h5, h6⟩ := h
  have hf2 : FatO (fun i => ¬ K i) W (.slice fa fn fc) fates := by
    obtain ⟨a, c, e, q1, q2, q3⟩ := hf
    refine ⟨a, c, e, q1, q2, ?_⟩
    rcases q3 with q3 | ⟨b, o, r1, r2, r3⟩
    · exact .inl q3
    · have hbw : b < w.heap.size := Classical.not_not.1 r2
      exact .inr ⟨b, o, r1, fun x => x (h1.kl b hbw), fun j hj => (h1.bl.cell (p := ⟨b, o + j, none⟩) hbw).trans (r3 j hj)⟩
  refine (dcrash_any h1.dk fa fn fc fates hf2).mono fun e w2 ⟨e1, H⟩ => ⟨e1, hidb ?_⟩
  have h1b := h1.next H.out
  have h3b := kt_map h3 h5 H.out.2
  have h4b := h4.kt H.out.2
  refine (read15_any h1b.dk sureB).mono fun e w3 ⟨v, e3, H3⟩ => ?_
  obtain ⟨hrow, hb3⟩ := H3.out
  obtain ⟨sa, sc, rfl, q1, q2, q3⟩ := row_form hrow
  unfold maxLen at q2
  refine ⟨sa, _, sc, _, e3, q1, by omega, fun hi0 => ?_, hidb ⟨h1b.bl.trans (hb3.mono h1b.bl.size), fun hne => ?_⟩⟩
  · rcases h2 with e | ⟨cs, hs⟩
    · rw [e] at hw; exact absurd hw.symm hi0
    · have hne : want ≠ [] := fun e => hi0 (by rw [← hw, e]; rfl)
      obtain ⟨c1, c2, _⟩ := hs.crash hne h64 fates
      exact ⟨c1, by rw [← hw]; exact c2⟩
  · rcases h2 with e | ⟨cs, hs⟩
    · exact absurd e hne
    · obtain ⟨c1, c2, c3⟩ := hs.crash hne h64 fates
      refine ⟨T, h1b.bl.trans (hb3.mono h1b.bl.size), (h3b.more hi).keep (hb3.block mb h3b.lt), fun j hj => ?_, fun j hj ht => ?_, c2⟩
      · have hr := (h4b.below hb3).row
        obtain ⟨a', c', e', _, _, q⟩ := row_form hr
        injection e' with e1' _ _
        subst e1'
        rcases q with ⟨_, q0, _⟩ | ⟨g, rfl, _, _, hc⟩
        · omega
        · exact ⟨g, rfl, hc j _ (by rw [List.getElem?_map, List.getElem?_eq_getElem hj]; rfl), h64 _ (List.getElem_mem hj)⟩
      · have hx := c3 j hj ht
        rcases q3 with ⟨_, q0, _⟩ | ⟨g, rfl, _, _, hc⟩
        · have := (List.getElem?_eq_some_iff.1 hx).1; omega
        · exact ⟨g, rfl, hc _ _ (secCs_at hx).1, hc _ _ (secCs_at hx).2⟩
theorem SI.crash_p {w : World} {K : Nat → Prop} {db mb : Nat} {wa : Option Addr} {i0 wc : Nat} {want : List Bt} {i : Nat} {W : World} (h : SI w K db mb (.slice wa i0 wc) want i W) (hi : i ≤ 100) (hw : want.length = i0) (h64 : ∀ b ∈ want, b.length ≤ 64) (fa : Option Addr) (fn fc : Nat) (fates : List Int) (hf : FatO (fun i => ¬ i < w.heap.size) w (.slice fa fn fc) fates) (hp : 0 < i0) : Calls Try.prog 7 #[.pointer (some ⟨db, 0, none⟩), .slice fa fn fc] W fun e w2 => e = .returned (.tuple #[]) ∧ Hid (Calls Try.prog 8 #[.pointer (some ⟨db, 0, none⟩), .string ⟨#[115, 117, 114, 101]⟩] w2 fun e w3 => ∃ sa sn sc, e = .returned (.tuple #[.slice sa sn sc, .int .i64 0]) ∧ sn ≤ sc ∧ sc ≤ 9223372036854775807 ∧ i0 ≤ sn ∧ Hid (∃ T, SEnd15 w mb T wa sa sn want w3)) := by
  refine (h.crash hi hw h64 fa fn fc fates hf).mono fun e w2 ⟨e1, H⟩ => ⟨e1, hidb ?_⟩
  refine H.out.mono fun e w3 ⟨sa, sn, sc, er, e3, q1, q2, hz, H3⟩ => ?_
  obtain ⟨rfl, hle⟩ := hz (by omega)
  exact ⟨sa, sn, sc, e3, q1, q2, hle, hidb (H3.out.2 fun e => by rw [e] at hw; simp at hw; omega)⟩
set_option maxRecDepth 100000 in
set_option maxHeartbeats 8000000 in
theorem sectorSure_any (la : Option Addr) (ln lc : Nat) (L : List Bt) (ma : Option Addr) (mn mc : Nat) (M : List Opn) (fa : Option Addr) (fn fc : Nat) (fates : List Int) (w : World) (hl : L.length = ln) (hm : M.length = mn) (hL : StrAt w la L) (hM : OpsAt w ma M) (hLo : ∀ x ∈ L, x.length ≤ 9223372036854775807) (hMo : ∀ x ∈ M, x.ok) (hlc : ln ≤ maxLen) (hmc : mn ≤ maxLen) (hf : FatO (fun i => ¬ i < w.heap.size) w (.slice fa fn fc) fates) : Calls Try.prog 4 #[.slice la ln lc, .slice ma mn mc, .slice fa fn fc] w fun e w' => e = .returned (.bool true) ∧ Below w.heap.size w w' := by
  have HN := hidb (new15_yes 1000 w (by decide) (by decide))
  have HU := hidb num15_any
  have HK := hidb knows15_any
  have HOl : Hid (∀ W j, Below w.heap.size w W → (hj : j < ln) → ∃ b off x, la = some ⟨b, off, none⟩ ∧ W.cell? ⟨b, off + j, none⟩ = some (sv x) ∧ x.length ≤ 9223372036854775807) := hidb fun W j hb hj => by
    obtain ⟨b, off, e, x0⟩ := hL.at_ hb j (by omega)
    exact ⟨b, off, _, e, x0, hLo _ (List.getElem_mem _)⟩
  have HOm : Hid (∀ W j, Below w.heap.size w W → (hj : j < mn) → ∃ b off kd nn k v ua un uc, ma = some ⟨b, off, none⟩ ∧ b < W.heap.size ∧ W.cell? ⟨b, off + j * 5, none⟩ = some (.int .i64 kd) ∧ W.cell? ⟨b, off + j * 5 + 1, none⟩ = some (.int .i64 nn) ∧ W.cell? ⟨b, off + j * 5 + 2, none⟩ = some (sv k) ∧ W.cell? ⟨b, off + j * 5 + 3, none⟩ = some (sv v) ∧ W.cell? ⟨b, off + j * 5 + 4, none⟩ = some (.slice ua un uc) ∧ Hid ((-9223372036854775808 ≤ nn ∧ nn ≤ 9223372036854775807) ∧ k.length ≤ 9223372036854775807 ∧ v.length ≤ 9223372036854775807)) := hidb fun W j hb hj => by
    obtain ⟨b, off, e, x0, x1, x2, x3, ua, un, uc, x4⟩ := hM.at_ hb j (by omega)
    have := hMo _ (List.getElem_mem (by omega : j < M.length))
    exact ⟨b, off, _, _, _, _, ua, un, uc, e, block_lt_of_cell x0, x0, x1, x2, x3, x4, hidb ⟨this.2.1, by have := this.2.2.1; unfold maxLen at this; omega, by have := this.2.2.2; unfold maxLen at this; omega⟩⟩
  -- a sector more
  have HWr : Hid (∀ db v i W x, FI w db v i W → i < 50 → x.length ≤ 64 → Calls Try.prog 10 #[.pointer (some ⟨db, 0, none⟩), .string ⟨#[115, 117, 114, 101]⟩, .int .i64 i, sv x] W fun e w' => e = .returned (.int .i64 0) ∧ ∃ a c, v = .slice a i c ∧ i ≤ c ∧ c ≤ maxLen ∧ Hid (∃ want, want.length = i ∧ (w'.alloc (.cells #[sv x] 9)).ownsRow w.heap.size 9 1 v i (svs want) ∧ Lies (w'.alloc (.cells #[sv x] 9)) (.slice (some ⟨w'.heap.size, 0, none⟩) 1 1) 1 [sv x] ∧ w.heap.size ≤ (w'.alloc (.cells #[sv x] 9)).heap.size ∧ ∀ v' w5, w5.ownsRow w.heap.size 9 1 v' (i + 1) (svs want ++ [sv x]) → Step (w'.alloc (.cells #[sv x] 9)) v w5 v' → FI w db v' (i + 1) w5)) := hidb fun db v i W x h hi hx => by
    obtain ⟨K, d, want, hw, hls, hfl, htx⟩ := h
    obtain ⟨e1, hfl2⟩ := hfl.write (by decide) x hx (by omega)
    rw [hw] at e1 hfl2
    refine (dwrite_any hls.dk sureB i x (by decide) (by omega) (by omega) (.inl insOk)).mono fun e w' ⟨e2, H⟩ => ⟨by rw [e2, e1], ?_⟩
    obtain ⟨a, c, ev, hc1, hc2, _⟩ := row_form htx.row
    rw [hw] at ev hc1
    have htx2 := htx.kt H.out.2
    have hls2 := hls.next H.out
    have hbl := (Below.refl _ w').alloc (Nat.le_refl _) (.cells #[sv x] 9)
    refine ⟨a, c, ev, hc1, hc2, hidb ⟨want, hw, ?_, .inr ⟨_, _, rfl, fun j u hu => ?_⟩, Nat.le_trans hls2.bl.size hbl.size, fun v' w5 h5 hs => ?_⟩⟩
    · rw [← hw]; exact (htx2.below hbl).row
    · rw [Addr.add_lit, Lib.cell_of_heap (heap_alloc_new w' _)]
      cases j with
      | zero => simpa using hu
      | succ j => simp at hu
    · rw [← hw] at h5
      obtain ⟨R, _, hlsR, htxR⟩ := TxR.push hls2 htx2 hbl h5 hs
      exact ⟨R, _, want ++ [x], by simp [hw], hlsR, hfl2, htxR⟩
  have H0 : Hid (∀ db W, DkAt (fun k => k < w.heap.size) db (newD 1000) W ∧ Below w.heap.size w W → ∀ W', Below W.heap.size W W' → FI w db (.slice none 0 0) 0 W') := hidb fun db W h W' hb => ⟨_, _, [], rfl, ⟨h.1.below hb, h.2.trans (hb.mono h.2.size), fun _ x => x⟩, FillP.start _, TxR.nil _ _ _⟩
  have HCr : Hid (∀ K db mb wa i0 wc want i W, SI w K db mb (.slice wa i0 wc) want i W → i ≤ 100 → want.length = i0 → (∀ b ∈ want, b.length ≤ 64) → Calls Try.prog 7 #[.pointer (some ⟨db, 0, none⟩), .slice fa fn fc] W fun e w2 => e = .returned (.tuple #[]) ∧ Hid (Calls Try.prog 8 #[.pointer (some ⟨db, 0, none⟩), .string ⟨#[115, 117, 114, 101]⟩] w2 fun e w3 => ∃ sa sn sc er, e = .returned (.tuple #[.slice sa sn sc, .int .i64 er]) ∧ sn ≤ sc ∧ sc ≤ 9223372036854775807 ∧ (i0 ≠ 0 → er = 0 ∧ i0 ≤ sn) ∧ Hid (Below w.heap.size w w3 ∧ (want ≠ [] → ∃ T, SEnd15 w mb T wa sa sn want w3)))) := hidb fun K db mb wa i0 wc want i W h hi hw h64 => h.crash hi hw h64 fa fn fc fates hf
  have HCp : Hid (∀ K db mb wa i0 wc want i W, SI w K db mb (.slice wa i0 wc) want i W → i ≤ 100 → want.length = i0 → (∀ b ∈ want, b.length ≤ 64) → 0 < i0 → Calls Try.prog 7 #[.pointer (some ⟨db, 0, none⟩), .slice fa fn fc] W fun e w2 => e = .returned (.tuple #[]) ∧ Hid (Calls Try.prog 8 #[.pointer (some ⟨db, 0, none⟩), .string ⟨#[115, 117, 114, 101]⟩] w2 fun e w3 => ∃ sa sn sc, e = .returned (.tuple #[.slice sa sn sc, .int .i64 0]) ∧ sn ≤ sc ∧ sc ≤ 9223372036854775807 ∧ i0 ≤ sn ∧ Hid (∃ T, SEnd15 w mb T wa sa sn want w3))) := hidb fun K db mb wa i0 wc want i W h hi hw h64 hp => h.crash_p hi hw h64 fa fn fc fates hf hp
  clear hL hM hLo hMo hf hl hm
  unfold maxLen at hlc hmc
  go_enter Try.func4, Try.ntmps4
  go_wp2_with (first
    | (go_at_call 17; refine HN.out.mono ?_; clear HN; rintro e w1 ⟨db, rfl, D1⟩)
    | (go_at_call 9; refine (HU.out _ _).mono ?_; rintro e wn ⟨rfl, rfl⟩)
    | (go_at_call 16; refine (HK.out _).mono ?_; clear HK; rintro e w2 ⟨rfl, hb2⟩)
    | fail)
  replace H0 := hidb (H0.out db wn D1.out w2 hb2)
  clear D1 hb2
  go_loopw [9, 10] (fun wv iv wr => ∃ i : Nat, iv = .int .i64 i ∧ i ≤ 50 ∧ i ≤ ln ∧ ∃ wa wc, wv = .slice wa i wc ∧ i ≤ wc ∧ wc ≤ 9223372036854775807 ∧ Hid (FI w db wv i wr)) (fun _ iv _ => 50 - (intOf iv).toNat)
  case atStart => exact ⟨0, rfl, by omega, by omega, _, _, rfl, by omega, by omega, H0⟩
  case round =>
    clear H0
    obtain ⟨i, rfl, hi1, hi2, wa, wc, rfl, hw1, hw2, HI⟩ := hrel
    by_cases hgo : i < ln ∧ i < 50
    · have hbl : Below w.heap.size w wr := by obtain ⟨K, d, want, hw, hls, _⟩ := HI.out; exact hls.bl
      obtain ⟨b, off, x, rfl, x0, hx⟩ := HOl.out wr i hbl hgo.1
      have hd1 : decide ((i : Int) < ln) = true := by simp; omega
      have hd2 : decide ((i : Int) < 50) = true := by simp; omega
      by_cases h64 : 64 < x.length
      · have hcut := cut_fr15 x 64
        have hcl : (x.take 64).length ≤ 64 := by rw [List.length_take]; omega
        have HC := hidb (HWr.out db _ i wr (x.take 64) HI.out hgo.2 hcl)
        generalize x.take 64 = xc at *
        clear hbl hcl HI
        go_wp2_with (first
          | (go_at_call 10; refine HC.out.mono ?_; clear HC; rintro e w3 ⟨rfl, a, c, ev, hc1, hc2, H3⟩; injection ev with e1 e2 e3; subst e1 e3; obtain ⟨want, hwl, h31, h32, h33, h34⟩ := H3.out; unfold maxLen at hc2)
          | (go_at_call 9; refine (HU.out _ _).mono ?_; rintro e wn ⟨rfl, rfl⟩)
          | (at_builtin; refine wpList_appN _ rfl _ _ 34 rfl elemS15 w.heap.size _ i (svs want) rfl h31 _ rfl 1 [sv xc] h32 rfl (by simp [Value.oneCell']) (by unfold maxLen; omega) (by omega) h33 ?_; intro v' w5 hr5 hs5; have H5 := hidb (h34 v' w5 hr5 hs5); obtain ⟨a5, c5, e5, hc5, hc6, _⟩ := row_form hr5; subst e5; unfold maxLen at hc6)
          | fail)
        exact ⟨⟨i + 1, by go_num, by omega, by omega, a5, c5, rfl, by omega, by omega, H5⟩, by simp [intOf]; omega⟩
      · have HC := hidb (HWr.out db _ i wr x HI.out hgo.2 (by omega))
        clear hbl HI
        go_wp2_with (first
          | (go_at_call 10; refine HC.out.mono ?_; clear HC; rintro e w3 ⟨rfl, a, c, ev, hc1, hc2, H3⟩; injection ev with e1 e2 e3; subst e1 e3; obtain ⟨want, hwl, h31, h32, h33, h34⟩ := H3.out; unfold maxLen at hc2)
          | (go_at_call 9; refine (HU.out _ _).mono ?_; rintro e wn ⟨rfl, rfl⟩)
          | (at_builtin; refine wpList_appN _ rfl _ _ 34 rfl elemS15 w.heap.size _ i (svs want) rfl h31 _ rfl 1 [sv x] h32 rfl (by simp [Value.oneCell']) (by unfold maxLen; omega) (by omega) h33 ?_; intro v' w5 hr5 hs5; have H5 := hidb (h34 v' w5 hr5 hs5); obtain ⟨a5, c5, e5, hc5, hc6, _⟩ := row_form hr5; subst e5; unfold maxLen at hc6)
          | fail)
        exact ⟨⟨i + 1, by go_num, by omega, by omega, a5, c5, rfl, by omega, by omega, H5⟩, by simp [intOf]; omega⟩
    · clear HOl HWr
      have hdl : ¬ (i < ln ∧ i < 50) := hgo
      have HJ : Hid (∀ W, SJ w db (.slice wa i wc) i W → ∃ K want mb W0, mb = W.heap.size ∧ W0 = W.alloc (.map #[] 0) ∧ want.length = i ∧ (∀ b ∈ want, b.length ≤ 64) ∧ Hid (SI w K db mb (.slice wa i wc) want 0 W0)) := hidb fun W h => by
        obtain ⟨K, want, h1, h2, h3⟩ := h.map
        exact ⟨K, want, _, _, rfl, rfl, h1, h2, hidb h3⟩
      have hmk : ∀ W : World, (Instr.makeMap 46 none).run Try.prog W = .ok (.map (some W.heap.size)) (W.alloc (.map #[] 0)) := fun W => by kernel_rfl
      have HQ : Hid (i = 0 → SJ w db (.slice wa i wc) i wr) := hidb fun e => by subst e; exact HI.out.sj
      have HS : Hid (0 < i → Calls Try.prog 11 #[.pointer (some ⟨db, 0, none⟩), .string ⟨#[115, 117, 114, 101]⟩] wr fun e w' => e = .returned (.int .i64 0) ∧ Hid (SJ w db (.slice wa i wc) i w')) := hidb fun e => HI.out.sync (by omega)
      clear HI
      rcases Nat.eq_zero_or_pos i with hi0 | hi0
      all_goals (
        go_wp2_with (first
          | (go_at_call 11; refine (HS.out hi0).mono ?_; clear HS; rintro e w3 ⟨rfl, H3⟩)
          | (go_at_call 9; refine (HU.out _ _).mono ?_; rintro e wn ⟨rfl, rfl⟩)
          | fail))
      all_goals (
        have HX := by first | exact HJ.out _ H3.out | exact HJ.out _ (HQ.out hi0)
        obtain ⟨K, want, mb, W0, hmb, hW0, hwl, h64, HSI⟩ := HX
        rw [← hmb, ← hW0]
        clear HJ HQ hmk hgo hdl hmb hW0
        have Hwl := hidb hwl
        have H64 := hidb h64
        clear hwl h64
        go_loopw [13] (fun jv wr => ∃ j : Nat, jv = .int .i64 j ∧ j ≤ 100 ∧ j ≤ mn ∧ Hid (SI w K db mb (.slice wa i wc) want j wr)) (fun jv _ => 100 - (intOf jv).toNat)
        case atStart => exact ⟨0, rfl, by omega, by omega, HSI⟩
        case round =>
          clear HSI
          obtain ⟨j, rfl, hj1, hj2, HI⟩ := hrel
          by_cases hgo : j < mn ∧ j < 100
          · have hbl : Below w.heap.size w wr := by obtain ⟨⟨d, T, hls, _⟩, _⟩ := HI.out; exact hls.bl
            obtain ⟨b, off, kd, nn, k, v, ua, un, uc, rfl, hbw, x0, x1, x2, x3, x4, HX⟩ := HOm.out wr j hbl hgo.1
            have hd1 : decide ((j : Int) < mn) = true := by simp; omega
            have hd2 : decide ((j : Int) < 100) = true := by simp; omega
            obtain ⟨W4, hW4⟩ : ∃ W4, W4 = wr.alloc (.cells #[.int .i64 kd, .int .i64 nn, sv k, sv v, .slice ua un uc] 24) := ⟨_, rfl⟩
            have hb4 : Below wr.heap.size wr W4 := by rw [hW4]; exact (Below.refl _ wr).alloc (Nat.le_refl _) _
            have hbx : W4.heap[wr.heap.size]? = some (.cells #[.int .i64 kd, .int .i64 nn, sv k, sv v, .slice ua un uc] 24 (0, 0)) := by rw [hW4]; exact heap_alloc_new wr _
            have k0 := Lib.cell_of_heap hbx 0
            have k1 := Lib.cell_of_heap hbx 1
            have k2 := Lib.cell_of_heap hbx 2
            have k3 := Lib.cell_of_heap hbx 3
            simp at k0 k1 k2 k3
            have HI4 := HI.out.below hb4
            obtain ⟨q1, q2, q3⟩ := HX.out
            have HC := hidb (HI4.cut nn q1)
            have HS : Hid (k ≠ sureB → Calls Try.prog 11 #[.pointer (some ⟨db, 0, none⟩), sv k] W4 fun e w' => ∃ x, e = .returned (.int .i64 x) ∧ Hid (SI w K db mb (.slice wa i wc) want j w')) := hidb fun h => HI4.sync k h
            have HW : Hid (k ≠ sureB → Calls Try.prog 10 #[.pointer (some ⟨db, 0, none⟩), sv k, .int .i64 nn, sv v] W4 fun e w' => ∃ x, e = .returned (.int .i64 x) ∧ Hid (SI w K db mb (.slice wa i wc) want j w')) := hidb fun h => HI4.other k nn v h q2 q3 q1
            have HO : Hid (k = sureB → ∃ w5, (Instr.mapUpdate 46 (.map (some mb)) (.int .i64 nn) (.bool true)).run Try.prog W4 = .ok () w5 ∧ (w5.cell? ⟨wr.heap.size, 1, none⟩ = some (.int .i64 nn) ∧ w5.cell? ⟨wr.heap.size, 2, none⟩ = some (.string ⟨#[115, 117, 114, 101]⟩) ∧ w5.cell? ⟨wr.heap.size, 3, none⟩ = some (sv v)) ∧ Hid (Calls Try.prog 10 #[.pointer (some ⟨db, 0, none⟩), .string ⟨#[115, 117, 114, 101]⟩, .int .i64 nn, sv v] w5 fun e w' => ∃ x, e = .returned (.int .i64 x) ∧ Hid (SI w K db mb (.slice wa i wc) want (j + 1) w'))) := hidb fun e => by
              obtain ⟨w5, h1, h2, h3⟩ := HI4.own (by omega) nn v q3 q1
              rw [e] at k2
              exact ⟨w5, h1, ⟨h2 _ _ k1, h2 _ _ k2, h2 _ _ k3⟩, h3⟩
            have HN4 := hidb HI4
            subst hW4
            have hcy : Hid ((k = sureB → (k == [115, 117, 114, 101]) = true) ∧ (k ≠ sureB → (k == [115, 117, 114, 101]) = false)) := hidb ⟨fun e => by rw [e]; rfl, fun e => by simpa [sureB] using e⟩
            clear hbl HI HI4 HX q1 q2 q3 hbx hb4 k0 k1 k2 k3
            by_cases hk0 : kd = 0
            · subst hk0
              by_cases hks : k = sureB
              · obtain ⟨w5, hu, ⟨y1, y2, y3⟩, HW5⟩ := HO.out hks
                have hcz := hcy.out.1 hks
                clear HO HW HS HC HN4 hcy hks
                go_wp2_with (first
                  | (go_at_call 10; refine HW5.out.mono ?_; clear HW5; rintro e w6 ⟨x, rfl, H6⟩)
                  | fail)
                exact ⟨⟨j + 1, by go_num, by omega, by omega, H6⟩, by simp [intOf]; omega⟩
              · have HW5 := hidb (HW.out hks)
                have hcz := hcy.out.2 hks
                clear HO HW HS HC HN4 hcy hks
                go_wp2_with (first
                  | (go_at_call 10; refine HW5.out.mono ?_; clear HW5; rintro e w6 ⟨x, rfl, H6⟩)
                  | fail)
                exact ⟨⟨j + 1, by go_num, by omega, by omega, hidb (H6.out.more (Nat.le_succ _))⟩, by simp [intOf]; omega⟩
            · have hz0 : (kd == 0) = false := by simpa using hk0
              by_cases hk1 : kd = 1
              · subst hk1
                by_cases hks : k = sureB
                · have hcz := hcy.out.1 hks
                  clear HO HW HS HC hcy hks
                  go_wp2_with fail
                  exact ⟨⟨j + 1, by go_num, by omega, by omega, hidb (HN4.out.more (Nat.le_succ _))⟩, by simp [intOf]; omega⟩
                · have HW5 := hidb (HS.out hks)
                  have hcz := hcy.out.2 hks
                  clear HO HW HS HC HN4 hcy hks
                  go_wp2_with (first
                    | (go_at_call 11; refine HW5.out.mono ?_; clear HW5; rintro e w6 ⟨x, rfl, H6⟩)
                    | fail)
                  exact ⟨⟨j + 1, by go_num, by omega, by omega, hidb (H6.out.more (Nat.le_succ _))⟩, by simp [intOf]; omega⟩
              · have hz1 : (kd == 1) = false := by simpa using hk1
                by_cases hk2 : kd = 2
                · subst hk2
                  clear HO HW HS HN4 hcy
                  go_wp2_with (first
                    | (go_at_call 15; refine HC.out.mono ?_; clear HC; rintro e w6 ⟨rfl, H6⟩)
                    | fail)
                  exact ⟨⟨j + 1, by go_num, by omega, by omega, hidb (H6.out.more (Nat.le_succ _))⟩, by simp [intOf]; omega⟩
                · have hz2 : (kd == 2) = false := by simpa using hk2
                  clear HO HW HS HC hcy
                  go_wp2_with fail
                  exact ⟨⟨j + 1, by go_num, by omega, by omega, hidb (HN4.out.more (Nat.le_succ _))⟩, by simp [intOf]; omega⟩
          · first
              | (have HTp := hidb (HCp.out K db mb wa i wc want j wr HI.out hj1 Hwl.out H64.out hi0))
              | (have HTz := hidb (HCr.out K db mb wa i wc want j wr HI.out hj1 Hwl.out H64.out))
            clear HOm HCr HCp HI
            go_wp2_with (first
              | (go_at_call 7; refine HTp.out.mono ?_; clear HTp; rintro e w6 ⟨rfl, HTp2⟩)
              | (go_at_call 7; refine HTz.out.mono ?_; clear HTz; rintro e w6 ⟨rfl, HTz2⟩)
              | (go_at_call 8; refine HTp2.out.mono ?_; clear HTp2; rintro e w7 ⟨sa, sn, sc, rfl, hsc, hsc2, hle, H7⟩)
              | (go_at_call 8; refine HTz2.out.mono ?_; clear HTz2; rintro e w7 ⟨sa, sn, sc, er, rfl, hsc, hsc2, _, H7⟩)
              | (go_at_call 9; refine (HU.out _ _).mono ?_; rintro e wn ⟨rfl, rfl⟩)
              | fail)
            all_goals first
              | (have hz0 : i = 0 := hi0
                 go_ret
                 exact ⟨rfl, H7.out.1⟩)
              | skip
            all_goals as_aux_lemma => (
              obtain ⟨T, hT⟩ := H7.out
              have HE := hidb hT
              clear hT H7
              have hz1 : decide (sn < i) = false := by simp; omega
              try simp only [hz1]
              clear hz1 HU
              go_loopw [17] (fun jv wr => ∃ j : Nat, jv = .int .i64 j ∧ j ≤ i ∧ Hid (SEnd15 w mb T wa sa sn want wr)) (fun jv _ => i - (intOf jv).toNat)
              case atStart => exact ⟨0, rfl, by omega, HE⟩
              case round =>
                clear HE
                obtain ⟨j, rfl, hj, HE⟩ := hrel
                by_cases hgo : j < i
                · have hjw : j < want.length := by rw [Hwl.out]; exact hgo
                  have hd1 : decide ((j : Int) < i) = true := by simp; omega
                  have hlk : Hid (∀ W, Below wr.heap.size wr W → (Instr.lookup 46 (.map (some mb)) (.int .i64 (j : Int)) false).run Try.prog W = .ok (.bool (T j)) W) := hidb fun W hb => (HE.out.mp.keep (hb.block mb HE.out.mp.lt)).at _ (by omega)
                  have HNx : Hid (∀ W, Below wr.heap.size wr W → SEnd15 w mb T wa sa sn want W) := hidb fun W hb => HE.out.below hb
                  cases hTj : T j with
                  | true =>
                    rw [hTj] at hlk
                    have hlk2 : ∀ m, (Instr.lookup 46 (.map (some mb)) (.int .i64 (j : Int)) false).run Try.prog (wr.drewN m) = .ok (.bool true) (wr.drewN m) := fun m => hlk.out _ ⟨rfl, rfl, rfl, Nat.le_refl _, fun _ _ => rfl⟩
                    clear hlk HE
                    go_wp2_with fail
                    go_quiet (fail)
                    go_wp2_with fail
                    exact ⟨⟨j + 1, by go_num, by omega, hidb (HNx.out _ ⟨rfl, rfl, rfl, Nat.le_refl _, fun _ _ => rfl⟩)⟩, by simp [intOf]; omega⟩
                  | false =>
                    rw [hTj] at hlk
                    obtain ⟨q, rfl, c2, hx64⟩ := HE.out.ts j hjw
                    obtain ⟨sq, rfl, c0, c1⟩ := HE.out.se j hjw hTj
                    have hjs : j < sn := Nat.lt_of_lt_of_le hgo hle
                    have hji := hgo
                    generalize want[j] = x at c0 c2 hx64
                    have HPd : Hid (∀ W, Below wr.heap.size wr W → Calls Try.prog 18 #[sv x] W fun e w' => e = .returned (sv (padB x)) ∧ Below wr.heap.size wr w') := hidb fun W hb => (pad15_any x W hx64).mono fun e w' ⟨e1, b1⟩ => ⟨e1, hb.trans (b1.mono hb.size)⟩
                    generalize padB x = px at *
                    clear HE
                    go_wp2_with fail
                    have hTab : ∃ T : Nat → Value, T 0 = .map (some mb) ∧ T 1 = .int .i64 (j : Int) ∧ T 2 = .bool false ∧ T 3 = .bool true ∧ T 4 = .bool true ∧ T 5 = .slice (some ⟨sq, 0, none⟩) sn sc ∧ T 6 = .int .i64 (j : Int) ∧ T 7 = .pointer (some ⟨sq, j * 2, none⟩) ∧ T 8 = .pointer (some ⟨sq, j * 2 + 1, none⟩) ∧ T 9 = .bool false ∧ T 10 = .bool false ∧ T 11 = .slice (some ⟨sq, 0, none⟩) sn sc ∧ T 12 = .int .i64 (j : Int) ∧ T 13 = .pointer (some ⟨sq, j * 2, none⟩) ∧ T 14 = .pointer (some ⟨sq, j * 2, none⟩) ∧ T 15 = sv px ∧ T 16 = .slice (some ⟨q, 0, none⟩) i wc ∧ T 17 = .int .i64 (j : Int) ∧ T 18 = .pointer (some ⟨q, j, none⟩) ∧ T 19 = sv x ∧ T 20 = sv px ∧ T 21 = .bool false ∧ T 22 = .bool false ∧ T 23 = .bool false := ⟨fun z => match z with | 0 => .map (some mb) | 1 => .int .i64 (j : Int) | 2 => .bool false | 3 => .bool true | 4 => .bool true | 5 => .slice (some ⟨sq, 0, none⟩) sn sc | 6 => .int .i64 (j : Int) | 7 => .pointer (some ⟨sq, j * 2, none⟩) | 8 => .pointer (some ⟨sq, j * 2 + 1, none⟩) | 9 => .bool false | 10 => .bool false | 11 => .slice (some ⟨sq, 0, none⟩) sn sc | 12 => .int .i64 (j : Int) | 13 => .pointer (some ⟨sq, j * 2, none⟩) | 14 => .pointer (some ⟨sq, j * 2, none⟩) | 15 => sv px | 16 => .slice (some ⟨q, 0, none⟩) i wc | 17 => .int .i64 (j : Int) | 18 => .pointer (some ⟨q, j, none⟩) | 19 => sv x | 20 => sv px | 21 => .bool false | 22 => .bool false | 23 => .bool false | _ => undef, rfl, rfl, rfl, rfl, rfl, rfl, rfl, rfl, rfl, rfl, rfl, rfl, rfl, rfl, rfl, rfl, rfl, rfl, rfl, rfl, rfl, rfl, rfl, rfl⟩
                    obtain ⟨T, T0, T1, T2, T3, T4, T5, T6, T7, T8, T9, T10, T11, T12, T13, T14, T15, T16, T17, T18, T19, T20, T21, T22, T23⟩ := hTab
                    refine wp_region_eachg (by kernel_rfl) 170 rfl (by kernel_rfl) (fun _ W => Below wr.heap.size wr W) (fun _ z v _ => v = T z) ?start ?each ?_
                    case start => exact ⟨rfl, rfl, rfl, Nat.le_refl _, fun _ _ => rfl⟩
                    case each =>
                      intro ix o ho listed a9 W hE hnl haf
                      have hi : ix < 24 := (Array.getElem?_eq_some_iff.1 ho).1
                      have t12 : a9.tmps[12]?.getD undef = .map (some mb) := hE.rest 12 (rest_of (by kernel_rfl))
                      have t17 : a9.tmps[17]?.getD undef = .int .i64 (j : Int) := hE.rest 17 (rest_of (by kernel_rfl))
                      have t15 : a9.tmps[15]?.getD undef = .slice (some ⟨sq, 0, none⟩) sn sc := hE.rest 15 (rest_of (by kernel_rfl))
                      have t9 : a9.tmps[9]?.getD undef = .slice (some ⟨q, 0, none⟩) i wc := hE.rest 9 (rest_of (by kernel_rfl))
                      have hG := hE.glob
                      have k0 := below_keep hG _ _ c0
                      have k1 := below_keep hG _ _ c1
                      have k2 := below_keep hG _ _ c2
                      have kl := hlk.out W hG
                      match ix, hi, ho, hnl, haf with
                      | 0, _, ho, hnl, haf =>
                        obtain rfl := Option.some.inj ho
                        exact owesP_value (W' := _) rfl rfl (by simp [execOp, go_sem, t12]) T0.symm hG (fun _ _ _ h => h)
                      | 1, _, ho, hnl, haf =>
                        obtain rfl := Option.some.inj ho
                        exact owesP_value (W' := _) rfl rfl (by simp [execOp, go_sem, t17]) T1.symm hG (fun _ _ _ h => h)
                      | 2, _, ho, hnl, haf =>
                        obtain rfl := Option.some.inj ho
                        have h0 : a9.tmps[146]?.getD undef = .map (some mb) := (hE.vals 0 _ 146 rfl (haf ⟨0, .data⟩ (by simp) rfl) rfl).trans T0
                        have h1 : a9.tmps[147]?.getD undef = .int .i64 (j : Int) := (hE.vals 1 _ 147 rfl (haf ⟨1, .data⟩ (by simp) rfl) rfl).trans T1
                        exact owesP_value (W' := _) rfl rfl (by simp [execOp, go_sem, h0, h1, kl]) T2.symm hG (fun _ _ _ h => h)
                      | 3, _, ho, hnl, haf =>
                        obtain rfl := Option.some.inj ho
                        have h2 : a9.tmps[148]?.getD undef = .bool false := (hE.vals 2 _ 148 rfl (haf ⟨2, .data⟩ (by simp) rfl) rfl).trans T2
                        exact owesP_value (W' := _) rfl rfl (by simp [execOp, go_sem, h2]) T3.symm hG (fun _ _ _ h => h)
                      | 4, _, ho, hnl, haf =>
                        obtain rfl := Option.some.inj ho
                        have h3 : a9.tmps[149]?.getD undef = .bool true := (hE.vals 3 _ 149 rfl (haf ⟨3, .data⟩ (by simp) rfl) rfl).trans T3
                        exact owesP_value (W' := _) rfl rfl (by simp [execOp, go_sem, h3]) T4.symm hG (fun _ _ _ h => h)
                      | 5, _, ho, hnl, haf =>
                        obtain rfl := Option.some.inj ho
                        have hg : a9.tmps[150]?.getD undef = .bool true := (hE.vals 4 _ 150 rfl (haf ⟨4, .guard⟩ (by simp) rfl) rfl).trans T4
                        exact owesP_value (W' := _) rfl ((wanted_is rfl rfl hg).trans rfl) (by simp [execOp, go_sem, t15]) T5.symm hG (fun _ _ _ h => h)
                      | 6, _, ho, hnl, haf =>
                        obtain rfl := Option.some.inj ho
                        have hg : a9.tmps[150]?.getD undef = .bool true := (hE.vals 4 _ 150 rfl (haf ⟨4, .guard⟩ (by simp) rfl) rfl).trans T4
                        exact owesP_value (W' := _) rfl ((wanted_is rfl rfl hg).trans rfl) (by simp [execOp, go_sem, t17]) T6.symm hG (fun _ _ _ h => h)
                      | 7, _, ho, hnl, haf =>
                        obtain rfl := Option.some.inj ho
                        have hg : a9.tmps[150]?.getD undef = .bool true := (hE.vals 4 _ 150 rfl (haf ⟨4, .guard⟩ (by simp) rfl) rfl).trans T4
                        have h5 : a9.tmps[151]?.getD undef = .slice (some ⟨sq, 0, none⟩) sn sc := (hE.vals 5 _ 151 rfl (haf ⟨5, .data⟩ (by simp) rfl) rfl).trans T5
                        have h6 : a9.tmps[152]?.getD undef = .int .i64 (j : Int) := (hE.vals 6 _ 152 rfl (haf ⟨6, .data⟩ (by simp) rfl) rfl).trans T6
                        exact owesP_value (W' := _) rfl ((wanted_is rfl rfl hg).trans rfl) (by simp [execOp, go_sem, h5, h6, hjs]) T7.symm hG (fun _ _ _ h => h)
                      | 8, _, ho, hnl, haf =>
                        obtain rfl := Option.some.inj ho
                        have hg : a9.tmps[150]?.getD undef = .bool true := (hE.vals 4 _ 150 rfl (haf ⟨4, .guard⟩ (by simp) rfl) rfl).trans T4
                        have h7 : a9.tmps[153]?.getD undef = .pointer (some ⟨sq, j * 2, none⟩) := (hE.vals 7 _ 153 rfl (haf ⟨7, .data⟩ (by simp) rfl) rfl).trans T7
                        exact owesP_value (W' := _) rfl ((wanted_is rfl rfl hg).trans rfl) (by simp [execOp, go_sem, h7]) T8.symm hG (fun _ _ _ h => h)
                      | 9, _, ho, hnl, haf =>
                        obtain rfl := Option.some.inj ho
                        have hg : a9.tmps[150]?.getD undef = .bool true := (hE.vals 4 _ 150 rfl (haf ⟨4, .guard⟩ (by simp) rfl) rfl).trans T4
                        have h8 : a9.tmps[154]?.getD undef = .pointer (some ⟨sq, j * 2 + 1, none⟩) := (hE.vals 8 _ 154 rfl (haf ⟨8, .data⟩ (by simp) rfl) rfl).trans T8
                        exact owesP_value (W' := _) rfl ((wanted_is rfl rfl hg).trans rfl) (by simp [execOp, go_sem, h8, k1]) T9.symm hG (fun _ _ _ h => h)
                      | 10, _, ho, hnl, haf =>
                        obtain rfl := Option.some.inj ho
                        have hg : a9.tmps[150]?.getD undef = .bool true := (hE.vals 4 _ 150 rfl (haf ⟨4, .guard⟩ (by simp) rfl) rfl).trans T4
                        have h9 : a9.tmps[155]?.getD undef = .bool false := (hE.vals 9 _ 155 rfl (haf ⟨9, .data⟩ (by simp) rfl) rfl).trans T9
                        exact owesP_value (W' := _) rfl ((wanted_is rfl rfl hg).trans rfl) (by simp [execOp, go_sem, h9]) T10.symm hG (fun _ _ _ h => h)
                      | 11, _, ho, hnl, haf =>
                        obtain rfl := Option.some.inj ho
                        have hg : a9.tmps[156]?.getD undef = .bool false := (hE.vals 10 _ 156 rfl (haf ⟨10, .guard⟩ (by simp) rfl) rfl).trans T10
                        exact owesP_value (W' := _) rfl ((wanted_is rfl rfl hg).trans rfl) (by simp [execOp, go_sem, t15]) T11.symm hG (fun _ _ _ h => h)
                      | 12, _, ho, hnl, haf =>
                        obtain rfl := Option.some.inj ho
                        have hg : a9.tmps[156]?.getD undef = .bool false := (hE.vals 10 _ 156 rfl (haf ⟨10, .guard⟩ (by simp) rfl) rfl).trans T10
                        exact owesP_value (W' := _) rfl ((wanted_is rfl rfl hg).trans rfl) (by simp [execOp, go_sem, t17]) T12.symm hG (fun _ _ _ h => h)
                      | 13, _, ho, hnl, haf =>
                        obtain rfl := Option.some.inj ho
                        have hg : a9.tmps[156]?.getD undef = .bool false := (hE.vals 10 _ 156 rfl (haf ⟨10, .guard⟩ (by simp) rfl) rfl).trans T10
                        have h11 : a9.tmps[157]?.getD undef = .slice (some ⟨sq, 0, none⟩) sn sc := (hE.vals 11 _ 157 rfl (haf ⟨11, .data⟩ (by simp) rfl) rfl).trans T11
                        have h12 : a9.tmps[158]?.getD undef = .int .i64 (j : Int) := (hE.vals 12 _ 158 rfl (haf ⟨12, .data⟩ (by simp) rfl) rfl).trans T12
                        exact owesP_value (W' := _) rfl ((wanted_is rfl rfl hg).trans rfl) (by simp [execOp, go_sem, h11, h12, hjs]) T13.symm hG (fun _ _ _ h => h)
                      | 14, _, ho, hnl, haf =>
                        obtain rfl := Option.some.inj ho
                        have hg : a9.tmps[156]?.getD undef = .bool false := (hE.vals 10 _ 156 rfl (haf ⟨10, .guard⟩ (by simp) rfl) rfl).trans T10
                        have h13 : a9.tmps[159]?.getD undef = .pointer (some ⟨sq, j * 2, none⟩) := (hE.vals 13 _ 159 rfl (haf ⟨13, .data⟩ (by simp) rfl) rfl).trans T13
                        exact owesP_value (W' := _) rfl ((wanted_is rfl rfl hg).trans rfl) (by simp [execOp, go_sem, h13]) T14.symm hG (fun _ _ _ h => h)
                      | 15, _, ho, hnl, haf =>
                        obtain rfl := Option.some.inj ho
                        have hg : a9.tmps[156]?.getD undef = .bool false := (hE.vals 10 _ 156 rfl (haf ⟨10, .guard⟩ (by simp) rfl) rfl).trans T10
                        have h14 : a9.tmps[160]?.getD undef = .pointer (some ⟨sq, j * 2, none⟩) := (hE.vals 14 _ 160 rfl (haf ⟨14, .data⟩ (by simp) rfl) rfl).trans T14
                        exact owesP_value (W' := _) rfl ((wanted_is rfl rfl hg).trans rfl) (by simp [execOp, go_sem, h14, k0]) T15.symm hG (fun _ _ _ h => h)
                      | 16, _, ho, hnl, haf =>
                        obtain rfl := Option.some.inj ho
                        have hg : a9.tmps[156]?.getD undef = .bool false := (hE.vals 10 _ 156 rfl (haf ⟨10, .guard⟩ (by simp) rfl) rfl).trans T10
                        exact owesP_value (W' := _) rfl ((wanted_is rfl rfl hg).trans rfl) (by simp [execOp, go_sem, t9]) T16.symm hG (fun _ _ _ h => h)
                      | 17, _, ho, hnl, haf =>
                        obtain rfl := Option.some.inj ho
                        have hg : a9.tmps[156]?.getD undef = .bool false := (hE.vals 10 _ 156 rfl (haf ⟨10, .guard⟩ (by simp) rfl) rfl).trans T10
                        exact owesP_value (W' := _) rfl ((wanted_is rfl rfl hg).trans rfl) (by simp [execOp, go_sem, t17]) T17.symm hG (fun _ _ _ h => h)
                      | 18, _, ho, hnl, haf =>
                        obtain rfl := Option.some.inj ho
                        have hg : a9.tmps[156]?.getD undef = .bool false := (hE.vals 10 _ 156 rfl (haf ⟨10, .guard⟩ (by simp) rfl) rfl).trans T10
                        have h16 : a9.tmps[162]?.getD undef = .slice (some ⟨q, 0, none⟩) i wc := (hE.vals 16 _ 162 rfl (haf ⟨16, .data⟩ (by simp) rfl) rfl).trans T16
                        have h17 : a9.tmps[163]?.getD undef = .int .i64 (j : Int) := (hE.vals 17 _ 163 rfl (haf ⟨17, .data⟩ (by simp) rfl) rfl).trans T17
                        exact owesP_value (W' := _) rfl ((wanted_is rfl rfl hg).trans rfl) (by simp [execOp, go_sem, h16, h17, hji]) T18.symm hG (fun _ _ _ h => h)
                      | 19, _, ho, hnl, haf =>
                        obtain rfl := Option.some.inj ho
                        have hg : a9.tmps[156]?.getD undef = .bool false := (hE.vals 10 _ 156 rfl (haf ⟨10, .guard⟩ (by simp) rfl) rfl).trans T10
                        have h18 : a9.tmps[164]?.getD undef = .pointer (some ⟨q, j, none⟩) := (hE.vals 18 _ 164 rfl (haf ⟨18, .data⟩ (by simp) rfl) rfl).trans T18
                        exact owesP_value (W' := _) rfl ((wanted_is rfl rfl hg).trans rfl) (by simp [execOp, go_sem, h18, k2]) T19.symm hG (fun _ _ _ h => h)
                      | 20, _, ho, hnl, haf =>
                        obtain rfl := Option.some.inj ho
                        have hg : a9.tmps[156]?.getD undef = .bool false := (hE.vals 10 _ 156 rfl (haf ⟨10, .guard⟩ (by simp) rfl) rfl).trans T10
                        have h19 : a9.tmps[165]?.getD undef = sv x := (hE.vals 19 _ 165 rfl (haf ⟨19, .data⟩ (by simp) rfl) rfl).trans T19
                        refine owesP_call rfl ((wanted_is rfl rfl hg).trans rfl) (R := _) (by simp [execOp, go_sem, h19]) (HPd.out W hG) fun e W' h => ?_
                        obtain ⟨he, hb⟩ := h
                        exact ⟨_, he, T20.symm, hb, fun _ _ _ h => h⟩
                      | 21, _, ho, hnl, haf =>
                        obtain rfl := Option.some.inj ho
                        have hg : a9.tmps[156]?.getD undef = .bool false := (hE.vals 10 _ 156 rfl (haf ⟨10, .guard⟩ (by simp) rfl) rfl).trans T10
                        have h15 : a9.tmps[161]?.getD undef = sv px := (hE.vals 15 _ 161 rfl (haf ⟨15, .data⟩ (by simp) rfl) rfl).trans T15
                        have h20 : a9.tmps[166]?.getD undef = sv px := (hE.vals 20 _ 166 rfl (haf ⟨20, .data⟩ (by simp) rfl) rfl).trans T20
                        exact owesP_value (W' := _) rfl ((wanted_is rfl rfl hg).trans rfl) (by simp [execOp, go_sem, h15, h20]) T21.symm hG (fun _ _ _ h => h)
                      | 22, _, ho, hnl, haf =>
                        obtain rfl := Option.some.inj ho
                        have hg : a9.tmps[150]?.getD undef = .bool true := (hE.vals 4 _ 150 rfl (haf ⟨4, .guard⟩ (by simp) rfl) rfl).trans T4
                        have h10 : a9.tmps[156]?.getD undef = .bool false := (hE.vals 10 _ 156 rfl (haf ⟨10, .data⟩ (by simp) rfl) rfl).trans T10
                        have h21 : a9.tmps[167]?.getD undef = .bool false := (hE.vals 21 _ 167 rfl (haf ⟨21, .data⟩ (by simp) rfl) rfl).trans T21
                        exact owesP_value (W' := _) rfl ((wanted_is rfl rfl hg).trans rfl) (by simp [execOp, go_sem, h10, h21]) T22.symm hG (fun _ _ _ h => h)
                      | 23, _, ho, hnl, haf =>
                        obtain rfl := Option.some.inj ho
                        have h4 : a9.tmps[150]?.getD undef = .bool true := (hE.vals 4 _ 150 rfl (haf ⟨4, .data⟩ (by simp) rfl) rfl).trans T4
                        have h22 : a9.tmps[168]?.getD undef = .bool false := (hE.vals 22 _ 168 rfl (haf ⟨22, .data⟩ (by simp) rfl) rfl).trans T22
                        exact owesP_value (W' := _) rfl rfl (by simp [execOp, go_sem, h4, h22]) T23.symm hG (fun _ _ _ h => h)
                    intro a9 W9 hE
                    have hlast : a9.tmps[169]?.getD undef = .bool false := (hE.vals 23 _ 169 rfl (by rfl) rfl).trans T23
                    have hF : Below wr.heap.size wr W9 := hE.glob
                    have hsz := hE.tsize
                    have hdf := hE.defers
                    have r := fun t h => hE.rest t h
                    obtain ⟨tm, df⟩ := a9
                    simp only at hsz hdf r hlast
                    have htm := arr_out 170 tm (by rw [hsz]; rfl) undef
                    simp only [List.range, List.range.loop, List.map_cons, List.map_nil] at htm
                    rw [hlast] at htm
                    rw [show tm[0]?.getD undef = _ from r 0 (rest_of (by kernel_rfl))] at htm
                    rw [show tm[1]?.getD undef = _ from r 1 (rest_of (by kernel_rfl))] at htm
                    rw [show tm[2]?.getD undef = _ from r 2 (rest_of (by kernel_rfl))] at htm
                    rw [show tm[3]?.getD undef = _ from r 3 (rest_of (by kernel_rfl))] at htm
                    rw [show tm[4]?.getD undef = _ from r 4 (rest_of (by kernel_rfl))] at htm
                    rw [show tm[5]?.getD undef = _ from r 5 (rest_of (by kernel_rfl))] at htm
                    rw [show tm[6]?.getD undef = _ from r 6 (rest_of (by kernel_rfl))] at htm
                    rw [show tm[7]?.getD undef = _ from r 7 (rest_of (by kernel_rfl))] at htm
                    rw [show tm[8]?.getD undef = _ from r 8 (rest_of (by kernel_rfl))] at htm
                    rw [show tm[9]?.getD undef = _ from r 9 (rest_of (by kernel_rfl))] at htm
                    rw [show tm[10]?.getD undef = _ from r 10 (rest_of (by kernel_rfl))] at htm
                    rw [show tm[11]?.getD undef = _ from r 11 (rest_of (by kernel_rfl))] at htm
                    rw [show tm[12]?.getD undef = _ from r 12 (rest_of (by kernel_rfl))] at htm
                    rw [show tm[13]?.getD undef = _ from r 13 (rest_of (by kernel_rfl))] at htm
                    rw [show tm[14]?.getD undef = _ from r 14 (rest_of (by kernel_rfl))] at htm
                    rw [show tm[15]?.getD undef = _ from r 15 (rest_of (by kernel_rfl))] at htm
                    rw [show tm[16]?.getD undef = _ from r 16 (rest_of (by kernel_rfl))] at htm
                    rw [show tm[17]?.getD undef = _ from r 17 (rest_of (by kernel_rfl))] at htm
                    rw [show tm[18]?.getD undef = _ from r 18 (rest_of (by kernel_rfl))] at htm
                    rw [show tm[19]?.getD undef = _ from r 19 (rest_of (by kernel_rfl))] at htm
                    rw [show tm[20]?.getD undef = _ from r 20 (rest_of (by kernel_rfl))] at htm
                    rw [show tm[21]?.getD undef = _ from r 21 (rest_of (by kernel_rfl))] at htm
                    rw [show tm[22]?.getD undef = _ from r 22 (rest_of (by kernel_rfl))] at htm
                    rw [show tm[23]?.getD undef = _ from r 23 (rest_of (by kernel_rfl))] at htm
                    rw [show tm[24]?.getD undef = _ from r 24 (rest_of (by kernel_rfl))] at htm
                    rw [show tm[25]?.getD undef = _ from r 25 (rest_of (by kernel_rfl))] at htm
                    rw [show tm[26]?.getD undef = _ from r 26 (rest_of (by kernel_rfl))] at htm
                    rw [show tm[27]?.getD undef = _ from r 27 (rest_of (by kernel_rfl))] at htm
                    rw [show tm[28]?.getD undef = _ from r 28 (rest_of (by kernel_rfl))] at htm
                    rw [show tm[29]?.getD undef = _ from r 29 (rest_of (by kernel_rfl))] at htm
                    rw [show tm[30]?.getD undef = _ from r 30 (rest_of (by kernel_rfl))] at htm
                    rw [show tm[31]?.getD undef = _ from r 31 (rest_of (by kernel_rfl))] at htm
                    rw [show tm[32]?.getD undef = _ from r 32 (rest_of (by kernel_rfl))] at htm
                    rw [show tm[33]?.getD undef = _ from r 33 (rest_of (by kernel_rfl))] at htm
                    rw [show tm[34]?.getD undef = _ from r 34 (rest_of (by kernel_rfl))] at htm
                    rw [show tm[35]?.getD undef = _ from r 35 (rest_of (by kernel_rfl))] at htm
                    rw [show tm[36]?.getD undef = _ from r 36 (rest_of (by kernel_rfl))] at htm
                    rw [show tm[37]?.getD undef = _ from r 37 (rest_of (by kernel_rfl))] at htm
                    rw [show tm[38]?.getD undef = _ from r 38 (rest_of (by kernel_rfl))] at htm
                    rw [show tm[39]?.getD undef = _ from r 39 (rest_of (by kernel_rfl))] at htm
                    rw [show tm[40]?.getD undef = _ from r 40 (rest_of (by kernel_rfl))] at htm
                    rw [show tm[41]?.getD undef = _ from r 41 (rest_of (by kernel_rfl))] at htm
                    rw [show tm[42]?.getD undef = _ from r 42 (rest_of (by kernel_rfl))] at htm
                    rw [show tm[43]?.getD undef = _ from r 43 (rest_of (by kernel_rfl))] at htm
                    rw [show tm[44]?.getD undef = _ from r 44 (rest_of (by kernel_rfl))] at htm
                    rw [show tm[45]?.getD undef = _ from r 45 (rest_of (by kernel_rfl))] at htm
                    rw [show tm[46]?.getD undef = _ from r 46 (rest_of (by kernel_rfl))] at htm
                    rw [show tm[47]?.getD undef = _ from r 47 (rest_of (by kernel_rfl))] at htm
                    rw [show tm[48]?.getD undef = _ from r 48 (rest_of (by kernel_rfl))] at htm
                    rw [show tm[49]?.getD undef = _ from r 49 (rest_of (by kernel_rfl))] at htm
                    rw [show tm[50]?.getD undef = _ from r 50 (rest_of (by kernel_rfl))] at htm
                    rw [show tm[51]?.getD undef = _ from r 51 (rest_of (by kernel_rfl))] at htm
                    rw [show tm[52]?.getD undef = _ from r 52 (rest_of (by kernel_rfl))] at htm
                    rw [show tm[53]?.getD undef = _ from r 53 (rest_of (by kernel_rfl))] at htm
                    rw [show tm[54]?.getD undef = _ from r 54 (rest_of (by kernel_rfl))] at htm
                    rw [show tm[55]?.getD undef = _ from r 55 (rest_of (by kernel_rfl))] at htm
                    rw [show tm[56]?.getD undef = _ from r 56 (rest_of (by kernel_rfl))] at htm
                    rw [show tm[57]?.getD undef = _ from r 57 (rest_of (by kernel_rfl))] at htm
                    rw [show tm[58]?.getD undef = _ from r 58 (rest_of (by kernel_rfl))] at htm
                    rw [show tm[59]?.getD undef = _ from r 59 (rest_of (by kernel_rfl))] at htm
                    rw [show tm[60]?.getD undef = _ from r 60 (rest_of (by kernel_rfl))] at htm
                    rw [show tm[61]?.getD undef = _ from r 61 (rest_of (by kernel_rfl))] at htm
                    rw [show tm[62]?.getD undef = _ from r 62 (rest_of (by kernel_rfl))] at htm
                    rw [show tm[63]?.getD undef = _ from r 63 (rest_of (by kernel_rfl))] at htm
                    rw [show tm[64]?.getD undef = _ from r 64 (rest_of (by kernel_rfl))] at htm
                    rw [show tm[65]?.getD undef = _ from r 65 (rest_of (by kernel_rfl))] at htm
                    rw [show tm[66]?.getD undef = _ from r 66 (rest_of (by kernel_rfl))] at htm
                    rw [show tm[67]?.getD undef = _ from r 67 (rest_of (by kernel_rfl))] at htm
                    rw [show tm[68]?.getD undef = _ from r 68 (rest_of (by kernel_rfl))] at htm
                    rw [show tm[69]?.getD undef = _ from r 69 (rest_of (by kernel_rfl))] at htm
                    rw [show tm[70]?.getD undef = _ from r 70 (rest_of (by kernel_rfl))] at htm
                    rw [show tm[71]?.getD undef = _ from r 71 (rest_of (by kernel_rfl))] at htm
                    rw [show tm[72]?.getD undef = _ from r 72 (rest_of (by kernel_rfl))] at htm
                    rw [show tm[73]?.getD undef = _ from r 73 (rest_of (by kernel_rfl))] at htm
                    rw [show tm[74]?.getD undef = _ from r 74 (rest_of (by kernel_rfl))] at htm
                    rw [show tm[75]?.getD undef = _ from r 75 (rest_of (by kernel_rfl))] at htm
                    rw [show tm[76]?.getD undef = _ from r 76 (rest_of (by kernel_rfl))] at htm
                    rw [show tm[77]?.getD undef = _ from r 77 (rest_of (by kernel_rfl))] at htm
                    rw [show tm[78]?.getD undef = _ from r 78 (rest_of (by kernel_rfl))] at htm
                    rw [show tm[79]?.getD undef = _ from r 79 (rest_of (by kernel_rfl))] at htm
                    rw [show tm[80]?.getD undef = _ from r 80 (rest_of (by kernel_rfl))] at htm
                    rw [show tm[81]?.getD undef = _ from r 81 (rest_of (by kernel_rfl))] at htm
                    rw [show tm[82]?.getD undef = _ from r 82 (rest_of (by kernel_rfl))] at htm
                    rw [show tm[83]?.getD undef = _ from r 83 (rest_of (by kernel_rfl))] at htm
                    rw [show tm[84]?.getD undef = _ from r 84 (rest_of (by kernel_rfl))] at htm
                    rw [show tm[85]?.getD undef = _ from r 85 (rest_of (by kernel_rfl))] at htm
                    rw [show tm[86]?.getD undef = _ from r 86 (rest_of (by kernel_rfl))] at htm
                    rw [show tm[87]?.getD undef = _ from r 87 (rest_of (by kernel_rfl))] at htm
                    rw [show tm[88]?.getD undef = _ from r 88 (rest_of (by kernel_rfl))] at htm
                    rw [show tm[89]?.getD undef = _ from r 89 (rest_of (by kernel_rfl))] at htm
                    rw [show tm[90]?.getD undef = _ from r 90 (rest_of (by kernel_rfl))] at htm
                    rw [show tm[91]?.getD undef = _ from r 91 (rest_of (by kernel_rfl))] at htm
                    rw [show tm[92]?.getD undef = _ from r 92 (rest_of (by kernel_rfl))] at htm
                    rw [show tm[93]?.getD undef = _ from r 93 (rest_of (by kernel_rfl))] at htm
                    rw [show tm[94]?.getD undef = _ from r 94 (rest_of (by kernel_rfl))] at htm
                    rw [show tm[95]?.getD undef = _ from r 95 (rest_of (by kernel_rfl))] at htm
                    rw [show tm[96]?.getD undef = _ from r 96 (rest_of (by kernel_rfl))] at htm
                    rw [show tm[97]?.getD undef = _ from r 97 (rest_of (by kernel_rfl))] at htm
                    rw [show tm[98]?.getD undef = _ from r 98 (rest_of (by kernel_rfl))] at htm
                    rw [show tm[99]?.getD undef = _ from r 99 (rest_of (by kernel_rfl))] at htm
                    rw [show tm[100]?.getD undef = _ from r 100 (rest_of (by kernel_rfl))] at htm
                    rw [show tm[101]?.getD undef = _ from r 101 (rest_of (by kernel_rfl))] at htm
                    rw [show tm[102]?.getD undef = _ from r 102 (rest_of (by kernel_rfl))] at htm
                    rw [show tm[103]?.getD undef = _ from r 103 (rest_of (by kernel_rfl))] at htm
                    rw [show tm[104]?.getD undef = _ from r 104 (rest_of (by kernel_rfl))] at htm
                    rw [show tm[105]?.getD undef = _ from r 105 (rest_of (by kernel_rfl))] at htm
                    rw [show tm[106]?.getD undef = _ from r 106 (rest_of (by kernel_rfl))] at htm
                    rw [show tm[107]?.getD undef = _ from r 107 (rest_of (by kernel_rfl))] at htm
                    rw [show tm[108]?.getD undef = _ from r 108 (rest_of (by kernel_rfl))] at htm
                    rw [show tm[109]?.getD undef = _ from r 109 (rest_of (by kernel_rfl))] at htm
                    rw [show tm[110]?.getD undef = _ from r 110 (rest_of (by kernel_rfl))] at htm
                    rw [show tm[111]?.getD undef = _ from r 111 (rest_of (by kernel_rfl))] at htm
                    rw [show tm[112]?.getD undef = _ from r 112 (rest_of (by kernel_rfl))] at htm
                    rw [show tm[113]?.getD undef = _ from r 113 (rest_of (by kernel_rfl))] at htm
                    rw [show tm[114]?.getD undef = _ from r 114 (rest_of (by kernel_rfl))] at htm
                    rw [show tm[115]?.getD undef = _ from r 115 (rest_of (by kernel_rfl))] at htm
                    rw [show tm[116]?.getD undef = _ from r 116 (rest_of (by kernel_rfl))] at htm
                    rw [show tm[117]?.getD undef = _ from r 117 (rest_of (by kernel_rfl))] at htm
                    rw [show tm[118]?.getD undef = _ from r 118 (rest_of (by kernel_rfl))] at htm
                    rw [show tm[119]?.getD undef = _ from r 119 (rest_of (by kernel_rfl))] at htm
                    rw [show tm[120]?.getD undef = _ from r 120 (rest_of (by kernel_rfl))] at htm
                    rw [show tm[121]?.getD undef = _ from r 121 (rest_of (by kernel_rfl))] at htm
                    rw [show tm[122]?.getD undef = _ from r 122 (rest_of (by kernel_rfl))] at htm
                    rw [show tm[123]?.getD undef = _ from r 123 (rest_of (by kernel_rfl))] at htm
                    rw [show tm[124]?.getD undef = _ from r 124 (rest_of (by kernel_rfl))] at htm
                    rw [show tm[125]?.getD undef = _ from r 125 (rest_of (by kernel_rfl))] at htm
                    rw [show tm[126]?.getD undef = _ from r 126 (rest_of (by kernel_rfl))] at htm
                    rw [show tm[127]?.getD undef = _ from r 127 (rest_of (by kernel_rfl))] at htm
                    rw [show tm[128]?.getD undef = _ from r 128 (rest_of (by kernel_rfl))] at htm
                    rw [show tm[129]?.getD undef = _ from r 129 (rest_of (by kernel_rfl))] at htm
                    rw [show tm[130]?.getD undef = _ from r 130 (rest_of (by kernel_rfl))] at htm
                    rw [show tm[131]?.getD undef = _ from r 131 (rest_of (by kernel_rfl))] at htm
                    rw [show tm[132]?.getD undef = _ from r 132 (rest_of (by kernel_rfl))] at htm
                    rw [show tm[133]?.getD undef = _ from r 133 (rest_of (by kernel_rfl))] at htm
                    rw [show tm[134]?.getD undef = _ from r 134 (rest_of (by kernel_rfl))] at htm
                    rw [show tm[135]?.getD undef = _ from r 135 (rest_of (by kernel_rfl))] at htm
                    rw [show tm[136]?.getD undef = _ from r 136 (rest_of (by kernel_rfl))] at htm
                    rw [show tm[137]?.getD undef = _ from r 137 (rest_of (by kernel_rfl))] at htm
                    rw [show tm[138]?.getD undef = _ from r 138 (rest_of (by kernel_rfl))] at htm
                    rw [show tm[139]?.getD undef = _ from r 139 (rest_of (by kernel_rfl))] at htm
                    rw [show tm[140]?.getD undef = _ from r 140 (rest_of (by kernel_rfl))] at htm
                    rw [show tm[141]?.getD undef = _ from r 141 (rest_of (by kernel_rfl))] at htm
                    rw [show tm[142]?.getD undef = _ from r 142 (rest_of (by kernel_rfl))] at htm
                    rw [show tm[143]?.getD undef = _ from r 143 (rest_of (by kernel_rfl))] at htm
                    rw [show tm[144]?.getD undef = _ from r 144 (rest_of (by kernel_rfl))] at htm
                    rw [show tm[145]?.getD undef = _ from r 145 (rest_of (by kernel_rfl))] at htm
                    generalize tm[146]?.getD undef = v146 at htm
                    generalize tm[147]?.getD undef = v147 at htm
                    generalize tm[148]?.getD undef = v148 at htm
                    generalize tm[149]?.getD undef = v149 at htm
                    generalize tm[150]?.getD undef = v150 at htm
                    generalize tm[151]?.getD undef = v151 at htm
                    generalize tm[152]?.getD undef = v152 at htm
                    generalize tm[153]?.getD undef = v153 at htm
                    generalize tm[154]?.getD undef = v154 at htm
                    generalize tm[155]?.getD undef = v155 at htm
                    generalize tm[156]?.getD undef = v156 at htm
                    generalize tm[157]?.getD undef = v157 at htm
                    generalize tm[158]?.getD undef = v158 at htm
                    generalize tm[159]?.getD undef = v159 at htm
                    generalize tm[160]?.getD undef = v160 at htm
                    generalize tm[161]?.getD undef = v161 at htm
                    generalize tm[162]?.getD undef = v162 at htm
                    generalize tm[163]?.getD undef = v163 at htm
                    generalize tm[164]?.getD undef = v164 at htm
                    generalize tm[165]?.getD undef = v165 at htm
                    generalize tm[166]?.getD undef = v166 at htm
                    generalize tm[167]?.getD undef = v167 at htm
                    generalize tm[168]?.getD undef = v168 at htm
                    subst hdf
                    rw [htm]
                    clear hE htm hsz r hlast
                    go_wp2_with fail
                    go_roundw
                    case rel => first | exact ⟨j + 1, cnt_j j, by omega, hidb (HNx.out _ hF)⟩ | exact ⟨_, _, _, _, _, _, _, _, _, _, _, _, _, _, _, _, _, _, _, _, _, _, _, _, _, _, _, _, _, _, _, _, ⟨j + 1, cnt_j j, by omega, hidb (HNx.out _ hF)⟩, rfl⟩
                    case measure => simp [intOf]; omega
                · have hbl := hidb HE.out.bl
                  clear HE
                  go_wp2_with fail
                  go_ret
                  exact ⟨rfl, hbl.out⟩))
end Go.Proofs.Ytghhhlbpolhkhaa
