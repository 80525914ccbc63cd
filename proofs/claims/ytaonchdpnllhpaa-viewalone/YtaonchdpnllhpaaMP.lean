/- Plain: what a reader reads, one thing behind the other (out of layer 4's CG). Layer 17, plain: messages, records, their bytes. -/
import Derived.Test.YtaonchdpnllhpaaRH
import Derived.Test.YtaonchdpnllhpaaNums
import Derived.Test.YtaonchdpnllhpaaWI
namespace Go.Proofs.Ytaonchdpnllhpaa
open Go.RowKit
/-- What a reader has: the bytes, and its error. -/
abbrev RSt := List UInt8 × Int
def rB (s : RSt) (nd : Nat) : RSt := (s.1.drop (cutOf s.1 s.2 nd), errOf s.1 s.2 nd)
def gByte (s : RSt) : Int × RSt := (ansByte s.1 s.2, rB s 1)
def gInt (s : RSt) : Int × RSt := (ansInt s.1 s.2, rB s 8)
def gText (s : RSt) : List UInt8 × RSt := (ansText s.1 s.2, rB s (2 + tlOf s.1))
/-- Up to n things, one behind the other, till an error. -/
def gMany {α : Type} (one : RSt → α × RSt) : Nat → RSt → List α × RSt
  | 0, s => ([], s)
  | n + 1, s => if s.2 ≠ 0 then ([], s) else ((one s).1 :: (gMany one n (one s).2).1, (gMany one n (one s).2).2)
/-- What is written is read. -/
def Reads {α : Type} (one : RSt → α × RSt) (x : α) (bs : List UInt8) : Prop := ∀ r, one (bs ++ r, 0) = (x, (r, 0))
theorem gByte_reads (x : UInt8) : Reads gByte (x.toNat : Int) [x] := fun r => by
  simp [gByte, ansByte, rB, cutOf, errOf]
theorem gByte_reads' (n : Int) (h : 0 ≤ n ∧ n ≤ 255) : Reads gByte n [UInt8.ofNat n.toNat] := by
  have := gByte_reads (UInt8.ofNat n.toNat)
  rw [UInt8.toNat_ofNat', Nat.mod_eq_of_lt (by omega)] at this
  rw [show ((n.toNat : Nat) : Int) = n from by omega] at this
  exact this
theorem gInt_reads (x : Int) (h1 : -9223372036854775808 ≤ x) (h2 : x ≤ 9223372036854775807) : Reads gInt x (be64 x) := fun r => by
  obtain ⟨e1, e2⟩ := read_int x r
  have hl : ¬ (be64 x ++ r).length < 8 := by rw [List.length_append, be64_length]; omega
  have e3 := (of_ok hl).1
  have e4 := (of_ok hl).2
  simp only [gInt, rB, ansInt, if_neg hl]
  rw [e3, e4, e1, e2, back_int x h1 h2]
  rfl
theorem gText_reads (s : List UInt8) (h : s.length ≤ 65535) : Reads gText s (text s) := fun r => by
  obtain ⟨e1, e2, e3, e4⟩ := read_text s r h
  have hl : ¬ (text s ++ r).length < 2 + s.length := by omega
  simp only [gText, rB, ansText]
  rw [e1, if_neg (by decide), if_neg hl, (of_ok hl).1, (of_ok hl).2, e2, e3]
theorem gMany_reads {α : Type} {one : RSt → α × RSt} (enc : α → List UInt8) : ∀ (L : List α), (∀ x ∈ L, Reads one x (enc x)) → Reads (gMany one L.length) L (L.flatMap enc)
  | [], _ => fun r => rfl
  | x :: L, h => fun r => by
    have ih := gMany_reads enc L (fun y hy => h y (List.mem_cons_of_mem _ hy)) r
    have h0 := h x (List.mem_cons_self ..) (L.flatMap enc ++ r)
    show gMany one (L.length + 1) _ = _
    unfold gMany
    rw [List.flatMap_cons, List.append_assoc, if_neg (by simp), h0]
    simp only
    rw [ih]
/-- An error stays, and what was read without one is read the same where more stands behind. -/
structure Steady {α : Type} (one : RSt → α × RSt) : Prop where
  err : ∀ s, s.2 ≠ 0 → (one s).2.2 ≠ 0
  ext : ∀ bs r, (one (bs, 0)).2.2 = 0 → one (bs ++ r, 0) = ((one (bs, 0)).1, ((one (bs, 0)).2.1 ++ r, 0))
theorem rB_err (s : RSt) (nd : Nat) (h : s.2 ≠ 0) : (rB s nd).2 ≠ 0 := by
  unfold rB
  rw [(of_bad nd h).1]
  exact h
theorem rB_ok {bs : List UInt8} {nd : Nat} (h : (rB (bs, 0) nd).2 = 0) : ¬ bs.length < nd := fun hl => by
  unfold rB at h
  simp only at h
  rw [(of_end hl).1] at h
  cases h
theorem rB_ext {bs : List UInt8} {nd : Nat} (h : ¬ bs.length < nd) (r : List UInt8) : rB (bs ++ r, 0) nd = ((rB (bs, 0) nd).1 ++ r, 0) := by
  unfold rB
  simp only
  rw [(of_ok h).2, (of_ok (bs := bs ++ r) (nd := nd) (by rw [List.length_append]; omega)).1, (of_ok (bs := bs ++ r) (nd := nd) (by rw [List.length_append]; omega)).2, List.drop_append_of_le_length (by omega)]
theorem gByte_steady : Steady gByte := by
  refine ⟨fun s h => rB_err s 1 h, fun bs r h => ?_⟩
  have hl := rB_ok h
  have e := rB_ext hl r
  unfold gByte at h ⊢
  rw [e]
  simp only [ansByte, Prod.mk.injEq, and_true, ne_eq, not_true_eq_false, if_false]
  rw [if_neg hl, if_neg (by rw [List.length_append]; omega), List.getD_eq_getElem?_getD, List.getD_eq_getElem?_getD, List.getElem?_append_left (by omega)]
theorem gInt_steady : Steady gInt := by
  refine ⟨fun s h => rB_err s 8 h, fun bs r h => ?_⟩
  have hl := rB_ok h
  have e := rB_ext hl r
  unfold gInt at h ⊢
  rw [e]
  simp only [ansInt, Prod.mk.injEq, and_true, ne_eq, not_true_eq_false, if_false]
  rw [if_neg hl, if_neg (by rw [List.length_append]; omega), List.take_append_of_le_length (by omega)]
theorem tlOf_ext {bs : List UInt8} (r : List UInt8) (h : ¬ bs.length < 2) : tlOf (bs ++ r) = tlOf bs := by
  unfold tlOf
  rw [if_neg h, if_neg (by rw [List.length_append]; omega), List.take_append_of_le_length (by omega)]
theorem gText_steady : Steady gText := by
  refine ⟨fun s h => rB_err s _ h, fun bs r h => ?_⟩
  have hl : ¬ bs.length < 2 + tlOf bs := rB_ok h
  have e : rB (bs ++ r, 0) (2 + tlOf bs) = _ := rB_ext hl r
  have ht := tlOf_ext r (bs := bs) (by omega)
  unfold gText at h ⊢
  simp only
  rw [ht, e]
  simp only [ansText, Prod.mk.injEq, and_true, ne_eq, not_true_eq_false, if_false]
  rw [ht, if_neg hl, if_neg (by rw [List.length_append]; omega), List.drop_append_of_le_length (by omega), List.take_append_of_le_length (by rw [List.length_drop]; omega)]
theorem gMany_err {α : Type} {one : RSt → α × RSt} : ∀ (n : Nat) (s : RSt), s.2 ≠ 0 → gMany one n s = ([], s)
  | 0, _, _ => rfl
  | n + 1, s, h => by unfold gMany; rw [if_pos h]
theorem gMany_steady {α : Type} {one : RSt → α × RSt} (h1 : Steady one) : ∀ n, Steady (gMany one n)
  | 0 => ⟨fun s h => h, fun bs r _ => rfl⟩
  | n + 1 => by
    have ih := gMany_steady h1 n
    refine ⟨fun s h => by rw [gMany_err _ s h]; exact h, fun bs r h => ?_⟩
    unfold gMany at h ⊢
    rw [if_neg (by simp)] at h ⊢
    rw [if_neg (by simp)]
    simp only at h ⊢
    have h0 : (one (bs, 0)).2.2 = 0 := Decidable.byContradiction fun hne => ih.err _ hne h
    have e1 := h1.ext bs r h0
    rw [e1]
    simp only
    have hs : (one (bs, 0)).2 = ((one (bs, 0)).2.1, 0) := Prod.ext rfl h0
    rw [hs] at h
    have e2 := ih.ext (one (bs, 0)).2.1 r h
    rw [e2, ← hs]
/-- One behind the other. -/
theorem Steady.bind {α β γ : Type} {one : RSt → α × RSt} {two : α → RSt → β × RSt} (f : α → β → γ) (h1 : Steady one) (h2 : ∀ x, Steady (two x)) : Steady (fun s => (f (one s).1 (two (one s).1 (one s).2).1, (two (one s).1 (one s).2).2)) := by
  refine ⟨fun s h => (h2 _).err _ (h1.err s h), fun bs r h => ?_⟩
  simp only at h ⊢
  have h0 : (one (bs, 0)).2.2 = 0 := Decidable.byContradiction fun hne => (h2 _).err _ hne h
  have hs : (one (bs, 0)).2 = ((one (bs, 0)).2.1, 0) := Prod.ext rfl h0
  rw [h1.ext bs r h0]
  simp only
  rw [hs] at h
  have e2 := (h2 _).ext (one (bs, 0)).2.1 r h
  rw [e2, ← hs]
theorem Steady.map {α β : Type} {one : RSt → α × RSt} (f : α → β) (h1 : Steady one) : Steady (fun s => (f (one s).1, (one s).2)) := ⟨fun s h => h1.err s h, fun bs r h => by simp only; rw [h1.ext bs r h]⟩
end Go.Proofs.Ytaonchdpnllhpaa
namespace Go.Proofs.Ytaonchdpnllhpaa
open Go.RowKit
/-- One of a log; a message; a record. -/
structure Ent where
  v : Int
  d : List UInt8
  deriving DecidableEq
structure Msg where
  kd : Int
  fr : Int
  tt : Int
  vw : Int
  op : Int
  cm : Int
  nm : Int
  log : List Ent
  deriving DecidableEq
structure Rec17 where
  kd : Int
  vw : Int
  nm : Int
  op : Int
  log : List Ent
  deriving DecidableEq
def inB (lo hi n : Int) : Bool := decide (lo ≤ n) && decide (n ≤ hi)
theorem inB_iff {lo hi n : Int} : inB lo hi n = true ↔ lo ≤ n ∧ n ≤ hi := by simp [inB]
def Ent.ok (x : Ent) : Bool := inB 0 1099511627776 x.v && decide (x.d.length ≤ 16384)
def logOk (L : List Ent) : Bool := decide (L.length ≤ 2048) && L.all Ent.ok
def Msg.ok (m : Msg) : Bool := inB 1 8 m.kd && (inB 0 1099511627776 m.vw && inB 0 1099511627776 m.nm && inB 0 1099511627776 m.op) && (decide (m.log.length = 0) || (m.kd == 1 || m.kd == 5 || m.kd == 6 || m.kd == 8)) && logOk m.log && (inB 0 7 m.fr && inB 0 7 m.tt) && inB 0 1099511627776 m.cm
def Rec17.ok (m : Rec17) : Bool := inB 1 3 m.kd && (inB 0 1099511627776 m.vw && inB 0 1099511627776 m.nm && inB 0 1099511627776 m.op) && (decide (m.log.length = 0) || m.kd == 2) && logOk m.log
def entB (x : Ent) : List UInt8 := be64 x.v ++ text x.d
def logB (L : List Ent) : List UInt8 := [UInt8.ofNat (L.length / 256), UInt8.ofNat (L.length % 256)] ++ L.flatMap entB
def Msg.b (m : Msg) : List UInt8 := [UInt8.ofNat m.kd.toNat, UInt8.ofNat m.fr.toNat, UInt8.ofNat m.tt.toNat] ++ ints [m.vw, m.op, m.cm, m.nm] ++ logB m.log
def Rec17.b (m : Rec17) : List UInt8 := [UInt8.ofNat m.kd.toNat] ++ ints [m.vw, m.nm, m.op] ++ logB m.log
def gEnt (s : RSt) : Ent × RSt := (⟨(gInt s).1, (gText (gInt s).2).1⟩, (gText (gInt s).2).2)
def gLogA (hi : Int) (s : RSt) : List Ent × RSt := gMany gEnt (hi.toNat * 256 + (gByte s).1.toNat) (gByte s).2
def gLog (s : RSt) : List Ent × RSt := gLogA (gByte s).1 (gByte s).2
/-- One behind the other. -/
def gTwo {α β : Type} (one : RSt → α × RSt) (two : RSt → β × RSt) (s : RSt) : (α × β) × RSt := (((one s).1, (two (one s).2).1), (two (one s).2).2)
theorem gTwo_steady {α β : Type} {one : RSt → α × RSt} {two : RSt → β × RSt} (h1 : Steady one) (h2 : Steady two) : Steady (gTwo one two) := h1.bind (two := fun _ s => two s) (fun a b => (a, b)) (fun _ => h2)
theorem gTwo_reads {α β : Type} {one : RSt → α × RSt} {two : RSt → β × RSt} {x : α} {y : β} {bs cs : List UInt8} (h1 : Reads one x bs) (h2 : Reads two y cs) : Reads (gTwo one two) (x, y) (bs ++ cs) := fun r => by
  unfold gTwo
  rw [List.append_assoc, h1]
  simp only
  rw [h2]
abbrev g3b := gTwo gByte (gTwo gByte gByte)
abbrev g3i := gTwo gInt (gTwo gInt gInt)
abbrev g4i := gTwo gInt g3i
abbrev gM := gTwo g3b (gTwo g4i gLog)
abbrev gR := gTwo gByte (gTwo g3i gLog)
def gMsg (s : RSt) : Msg × RSt := (⟨(gM s).1.1.1, (gM s).1.1.2.1, (gM s).1.1.2.2, (gM s).1.2.1.1, (gM s).1.2.1.2.1, (gM s).1.2.1.2.2.1, (gM s).1.2.1.2.2.2, (gM s).1.2.2⟩, (gM s).2)
def gRec (s : RSt) : Rec17 × RSt := (⟨(gR s).1.1, (gR s).1.2.1.1, (gR s).1.2.1.2.1, (gR s).1.2.1.2.2, (gR s).1.2.2⟩, (gR s).2)
theorem gEnt_steady : Steady gEnt := gInt_steady.bind (two := fun _ s => gText s) (fun a b => Ent.mk a b) (fun _ => gText_steady)
theorem gLogA_steady (x : Int) : Steady (gLogA x) := gByte_steady.bind (two := fun (y : Int) (s : RSt) => gMany gEnt (x.toNat * 256 + y.toNat) s) (fun _ l => l) (fun _ => gMany_steady gEnt_steady _)
theorem gLog_steady : Steady gLog := gByte_steady.bind (two := gLogA) (fun _ l => l) gLogA_steady
theorem g3b_steady : Steady g3b := gTwo_steady gByte_steady (gTwo_steady gByte_steady gByte_steady)
theorem g3i_steady : Steady g3i := gTwo_steady gInt_steady (gTwo_steady gInt_steady gInt_steady)
theorem gMsg_steady : Steady gMsg := (gTwo_steady g3b_steady (gTwo_steady (gTwo_steady gInt_steady g3i_steady) gLog_steady)).map fun x => (⟨x.1.1, x.1.2.1, x.1.2.2, x.2.1.1, x.2.1.2.1, x.2.1.2.2.1, x.2.1.2.2.2, x.2.2⟩ : Msg)
theorem gRec_steady : Steady gRec := (gTwo_steady gByte_steady (gTwo_steady g3i_steady gLog_steady)).map fun x => (⟨x.1, x.2.1.1, x.2.1.2.1, x.2.1.2.2, x.2.2⟩ : Rec17)
theorem Ent.facts {x : Ent} (h : x.ok = true) : 0 ≤ x.v ∧ x.v ≤ 1099511627776 ∧ x.d.length ≤ 16384 := by
  unfold Ent.ok at h
  simp only [Bool.and_eq_true, inB_iff, decide_eq_true_eq] at h
  exact ⟨h.1.1, h.1.2, h.2⟩
theorem logOk.facts {L : List Ent} (h : logOk L = true) : L.length ≤ 2048 ∧ ∀ x ∈ L, x.ok = true := by
  unfold logOk at h
  simp only [Bool.and_eq_true, decide_eq_true_eq, List.all_eq_true] at h
  exact h
theorem gEnt_reads {x : Ent} (h : x.ok = true) : Reads gEnt x (entB x) := fun r => by
  obtain ⟨h0, h1, h2⟩ := Ent.facts h
  unfold gEnt entB
  rw [List.append_assoc, gInt_reads x.v (by omega) (by omega)]
  simp only
  rw [gText_reads x.d (by omega)]
theorem gLog_reads {L : List Ent} (h : logOk L = true) : Reads gLog L (logB L) := fun r => by
  obtain ⟨h0, h1⟩ := logOk.facts h
  unfold gLog logB
  have a1 := gByte_reads' ((L.length / 256 : Nat) : Int) (by omega) (UInt8.ofNat (L.length % 256) :: (L.flatMap entB ++ r))
  have a2 := gByte_reads' ((L.length % 256 : Nat) : Int) (by omega) (L.flatMap entB ++ r)
  rw [Int.toNat_natCast] at a1 a2
  simp only [List.cons_append, List.nil_append] at a1 a2 ⊢
  rw [a1]
  unfold gLogA
  simp only
  rw [a2]
  simp only [Int.toNat_natCast]
  rw [show L.length / 256 * 256 + L.length % 256 = L.length by omega]
  exact gMany_reads _ L (fun x hx => gEnt_reads (h1 x hx)) r
theorem Msg.facts {m : Msg} (h : m.ok = true) : (1 ≤ m.kd ∧ m.kd ≤ 8) ∧ (0 ≤ m.vw ∧ m.vw ≤ 1099511627776) ∧ (0 ≤ m.nm ∧ m.nm ≤ 1099511627776) ∧ (0 ≤ m.op ∧ m.op ≤ 1099511627776) ∧ logOk m.log = true ∧ (0 ≤ m.fr ∧ m.fr ≤ 7) ∧ (0 ≤ m.tt ∧ m.tt ≤ 7) ∧ (0 ≤ m.cm ∧ m.cm ≤ 1099511627776) := by
  unfold Msg.ok at h
  simp only [Bool.and_eq_true, inB_iff] at h
  obtain ⟨⟨⟨⟨⟨a, ⟨b, c⟩, d⟩, e⟩, f⟩, g, i⟩, j⟩ := h
  exact ⟨a, b, c, d, f, g, i, j⟩
theorem Rec17.facts {m : Rec17} (h : m.ok = true) : (1 ≤ m.kd ∧ m.kd ≤ 3) ∧ (0 ≤ m.vw ∧ m.vw ≤ 1099511627776) ∧ (0 ≤ m.nm ∧ m.nm ≤ 1099511627776) ∧ (0 ≤ m.op ∧ m.op ≤ 1099511627776) ∧ logOk m.log = true := by
  unfold Rec17.ok at h
  simp only [Bool.and_eq_true, inB_iff] at h
  obtain ⟨⟨⟨a, ⟨b, c⟩, d⟩, e⟩, f⟩ := h
  exact ⟨a, b, c, d, f⟩
theorem gMsg_reads {m : Msg} (h : m.ok = true) : Reads gMsg m m.b := fun r => by
  obtain ⟨a, b, c, d, e, f, g, i⟩ := Msg.facts h
  have r1 := gByte_reads' m.kd (by omega)
  have r2 := gByte_reads' m.fr (by omega)
  have r3 := gByte_reads' m.tt (by omega)
  have i1 := gInt_reads m.vw (by omega) (by omega)
  have i2 := gInt_reads m.op (by omega) (by omega)
  have i3 := gInt_reads m.cm (by omega) (by omega)
  have i4 := gInt_reads m.nm (by omega) (by omega)
  have R : gM _ = _ := gTwo_reads (gTwo_reads r1 (gTwo_reads r2 r3)) (gTwo_reads (gTwo_reads i1 (gTwo_reads i2 (gTwo_reads i3 i4))) (gLog_reads e)) r
  have hb : m.b = ([UInt8.ofNat m.kd.toNat] ++ ([UInt8.ofNat m.fr.toNat] ++ [UInt8.ofNat m.tt.toNat])) ++ ((be64 m.vw ++ (be64 m.op ++ (be64 m.cm ++ be64 m.nm))) ++ logB m.log) := by
    unfold Msg.b ints
    simp only [List.flatMap_cons, List.flatMap_nil, List.append_nil, List.append_assoc, List.cons_append, List.nil_append]
  unfold gMsg
  rw [hb, R]
theorem gRec_reads {m : Rec17} (h : m.ok = true) : Reads gRec m m.b := fun r => by
  obtain ⟨a, b, c, d, e⟩ := Rec17.facts h
  have r1 := gByte_reads' m.kd (by omega)
  have i1 := gInt_reads m.vw (by omega) (by omega)
  have i2 := gInt_reads m.nm (by omega) (by omega)
  have i3 := gInt_reads m.op (by omega) (by omega)
  have R : gR _ = _ := gTwo_reads r1 (gTwo_reads (gTwo_reads i1 (gTwo_reads i2 i3)) (gLog_reads e)) r
  have hb : m.b = [UInt8.ofNat m.kd.toNat] ++ ((be64 m.vw ++ (be64 m.nm ++ be64 m.op)) ++ logB m.log) := by
    unfold Rec17.b ints
    simp only [List.flatMap_cons, List.flatMap_nil, List.append_nil, List.append_assoc, List.cons_append, List.nil_append]
  unfold gRec
  rw [hb, R]
/-- Whether any bytes are a thing's, and the thing. -/
def readOk {α : Type} (one : RSt → α × RSt) (ok : α → Bool) (bs : List UInt8) : Bool := decide (bs.length ≤ 1048576) && (decide (doneOf (one (bs, 0)).2.1 (one (bs, 0)).2.2 = 0) && ok (one (bs, 0)).1)
theorem readOk_self {α : Type} {one : RSt → α × RSt} {ok : α → Bool} {x : α} {bs : List UInt8} (h : Reads one x bs) (hx : ok x = true) (hl : bs.length ≤ 1048576) : readOk one ok bs = true ∧ (one (bs, 0)).1 = x := by
  have h1 := h []
  rw [List.append_nil] at h1
  unfold readOk
  rw [h1]
  exact ⟨by simp [doneOf, hx, hl], rfl⟩
theorem readOk_more {α : Type} {one : RSt → α × RSt} {ok : α → Bool} {x : α} {bs : List UInt8} (h : Reads one x bs) (y : UInt8) : readOk one ok (bs ++ [y]) = false := by
  have h1 := h [y]
  unfold readOk
  rw [h1]
  simp [doneOf]
theorem readOk_cut {α : Type} {one : RSt → α × RSt} {ok : α → Bool} {x : α} {bs : List UInt8} (h : Reads one x bs) (hs : Steady one) (k : Nat) (hk : k < bs.length) : readOk one ok (bs.take k) = false := by
  cases hg : readOk one ok (bs.take k) with
  | false => rfl
  | true =>
    exfalso
    unfold readOk at hg
    simp only [Bool.and_eq_true, decide_eq_true_eq] at hg
    have hd := hg.2.1
    have h0 : (one (bs.take k, 0)).2.2 = 0 := by
      unfold doneOf at hd
      split at hd
      · exact hd
      · rename_i h; exact Decidable.byContradiction fun hne => h hne
    have e := hs.ext (bs.take k) (bs.drop k) h0
    rw [List.take_append_drop] at e
    have h1 := h []
    rw [List.append_nil, e] at h1
    have h2 : (one (bs.take k, 0)).2.1 ++ bs.drop k = [] := congrArg (fun q => q.2.1) h1
    have h3 := congrArg List.length h2
    simp only [List.length_append, List.length_drop, List.length_nil] at h3
    omega
theorem reads_inj {α : Type} {one : RSt → α × RSt} {x y : α} {bs cs : List UInt8} (h : Reads one x bs) (k : Reads one y cs) (e : bs = cs) : x = y := by
  have h1 := h []
  have h2 := k []
  rw [e, h2] at h1
  exact (congrArg Prod.fst h1).symm
end Go.Proofs.Ytaonchdpnllhpaa
