/- What wire's frames come to: Sum, Frame, firstFrame and Frames of any bytes. Layer 11: the tree in memory: its box, its list of nodes; side, count. -/
import Derived.Test.YticihfbhnbkjjaaDoorWB
import Derived.Test.YticihfbhnbkjjaaDoorQC
import Derived.Test.YticihfbhnbkjjaaDoorAN
import Derived.Deep.RegionLaw
import Derived.BigQuiet
import Derived.Shelf.Abstract
import Derived.Outline
import Derived.Deep.LoopGhost
namespace Go.Proofs.YticihfbhnbkjjaaDoor
open Go.RowKit

theorem Bs.keep {w w' : World} {ao : Option Addr} {bs : List UInt8} (h : Bs w ao bs) (hk : ∀ a v, w.cell? a = some v → w'.cell? a = some v) : Bs w' ao bs := by
  rcases h with h | ⟨b, off, h, hc⟩
  · exact .inl h
  · exact .inr ⟨b, off, h, fun j hj => hk _ _ (hc j hj)⟩
theorem below_keep {w w' : World} (hb : Below w.heap.size w w') : ∀ a v, w.cell? a = some v → w'.cell? a = some v := fun a v h => by
  rw [hb.cell (p := a) (World.block_lt_of_cell? _ _ h)]; exact h
theorem Tab.keep {w w' : World} (h : Tab w) (hk : ∀ a v, w.cell? a = some v → w'.cell? a = some v) : Tab w' := fun j hj => hk _ _ (h j hj)
theorem alloc_keep (w : World) (o : Obj) : ∀ a v, w.cell? a = some v → (w.alloc o).cell? a = some v :=
  below_keep ((Below.refl _ w).alloc (Nat.le_refl _) o)

/-- The sum of bytes. -/
def crc (bs : List UInt8) : Nat := 4294967295 - crcFold 4294967295 bs
theorem crc_lt (bs : List UInt8) : crc bs < 4294967296 := by unfold crc; omega
theorem crcParts_one (bs : List UInt8) : 4294967295 - crcParts 4294967295 [bs] = crc bs := rfl
theorem crcParts_two (a b : List UInt8) : 4294967295 - crcParts 4294967295 [a, b] = crc (a ++ b) := by
  simp only [crcParts, crc, crcFold, List.foldl_cons, List.foldl_nil, List.foldl_append]
/-- A frame's bytes. -/
def frameOf (bs : List UInt8) : List UInt8 := be bs.length 4 ++ be (rev4 (crc (be bs.length 4 ++ bs))) 4 ++ bs

theorem new_cell (w : World) (cs : Array Value) (t : TypeId) (k : Nat) (v : Value) (h : cs[k]? = some v) : (w.alloc (.cells cs t)).cell? ⟨w.heap.size, k, none⟩ = some v := by
  rw [cell_of_row _ _ k cs t (0, 0) (heap_alloc_new w _)]
  exact h
theorem sum_two (ao1 ao2 : Option Addr) (n1 n2 c1 c2 : Nat) (b1 b2 : List UInt8) (w : World) (t : TypeId) (h1 : b1.length = n1) (h2 : b2.length = n2) (m1 : n1 ≤ 140737488355328) (m2 : n2 ≤ 140737488355328)
    (hb1 : Bs w ao1 b1) (hb2 : Bs w ao2 b2) (ht : Tab w) :
    Calls Tryd.prog 72 #[.slice (some ⟨w.heap.size, 0, none⟩) 2 2] (w.alloc (.cells #[.slice ao1 n1 c1, .slice ao2 n2 c2] t)) fun e w' => e = .returned (.int .u32 (crc (b1 ++ b2) : Nat)) ∧ w' = w.alloc (.cells #[.slice ao1 n1 c1, .slice ao2 n2 c2] t) := by
  rw [← crcParts_two]
  refine sumOf_any w.heap.size 2 2 [b1, b2] _ rfl (by decide) (ht.keep (alloc_keep _ _)) (fun k hk => ?_)
  match k, hk with
  | 0, _ => exact ⟨ao1, c1, by subst h1; exact new_cell w _ t 0 _ rfl, by show b1.length ≤ _; omega, hb1.keep (alloc_keep _ _)⟩
  | 1, _ => exact ⟨ao2, c2, by subst h2; exact new_cell w _ t 1 _ rfl, by show b2.length ≤ _; omega, hb2.keep (alloc_keep _ _)⟩
theorem sum_one (ao1 : Option Addr) (n1 c1 : Nat) (b1 : List UInt8) (w : World) (t : TypeId) (h1 : b1.length = n1) (m1 : n1 ≤ 140737488355328)
    (hb1 : Bs w ao1 b1) (ht : Tab w) :
    Calls Tryd.prog 72 #[.slice (some ⟨w.heap.size, 0, none⟩) 1 1] (w.alloc (.cells #[.slice ao1 n1 c1] t)) fun e w' => e = .returned (.int .u32 (crc b1 : Nat)) ∧ w' = w.alloc (.cells #[.slice ao1 n1 c1] t) := by
  rw [← crcParts_one]
  refine sumOf_any w.heap.size 1 1 [b1] _ rfl (by decide) (ht.keep (alloc_keep _ _)) (fun k hk => ?_)
  match k, hk with
  | 0, _ => exact ⟨ao1, c1, by subst h1; exact new_cell w _ t 0 _ rfl, by show b1.length ≤ _; omega, hb1.keep (alloc_keep _ _)⟩

end Go.Proofs.YticihfbhnbkjjaaDoor
namespace Go.Proofs.YticihfbhnbkjjaaDoor
open Go.RowKit
theorem hidb {p : Prop} (h : p) : Hid p := h
abbrev sv (b : Bt) : Value := .string ⟨b.toArray⟩
/-- A node's cells. -/
def Nd.c (x : Nd) : Nat → Value
  | 0 => sv x.k
  | 1 => sv x.v
  | 2 => .int .i64 x.l
  | 3 => .int .i64 x.r
  | _ => .int .i64 x.h
/-- Block g has room for so many nodes; the first n are those that f tells. -/
def NB (w : World) (g n cap : Nat) (f : Nat → Nd) : Prop := ∃ cur : Array Value, w.heap[g]? = some (.cells cur 99 (0, 0)) ∧ cur.size = cap * 5 ∧ n ≤ cap ∧ ∀ p < n, ∀ k < 5, cur[p * 5 + k]? = some ((f p).c k)
/-- The tree's box at tb, its nodes at g. -/
structure TS (tb g n cap root : Nat) (f : Nat → Nd) (w : World) : Prop where
  box : w.heap[tb]? = some (.cells #[.slice (some ⟨g, 0, none⟩) n cap, .int .i64 root] 90 (0, 0))
  nb : NB w g n cap f
  ne : tb ≠ g
  cm : cap ≤ maxLen
  lt : n ≤ 4398046511104
theorem heap_ltb {w : World} {k : Nat} {o : Obj} (h : w.heap[k]? = some o) : k < w.heap.size := (Array.getElem?_eq_some_iff.1 h).1
section
variable {tb g n cap root : Nat} {f : Nat → Nd} {w : World}
theorem TS.c0 (h : TS tb g n cap root f w) : w.cell? ⟨tb, 0, none⟩ = some (.slice (some ⟨g, 0, none⟩) n cap) := Lib.cell_of_heap h.box 0
theorem TS.c1 (h : TS tb g n cap root f w) : w.cell? ⟨tb, 1, none⟩ = some (.int .i64 root) := Lib.cell_of_heap h.box 1
theorem TS.k (h : TS tb g n cap root f w) {p : Nat} (hp : p < n) : w.cell? ⟨g, p * 5, none⟩ = some (sv (f p).k) := by
  obtain ⟨cur, h1, _, _, h2⟩ := h.nb; rw [Lib.cell_of_heap h1]; exact h2 p hp 0 (by omega)
theorem TS.v (h : TS tb g n cap root f w) {p : Nat} (hp : p < n) : w.cell? ⟨g, p * 5 + 1, none⟩ = some (sv (f p).v) := by
  obtain ⟨cur, h1, _, _, h2⟩ := h.nb; rw [Lib.cell_of_heap h1]; exact h2 p hp 1 (by omega)
theorem TS.l (h : TS tb g n cap root f w) {p : Nat} (hp : p < n) : w.cell? ⟨g, p * 5 + 2, none⟩ = some (.int .i64 (f p).l) := by
  obtain ⟨cur, h1, _, _, h2⟩ := h.nb; rw [Lib.cell_of_heap h1]; exact h2 p hp 2 (by omega)
theorem TS.r (h : TS tb g n cap root f w) {p : Nat} (hp : p < n) : w.cell? ⟨g, p * 5 + 3, none⟩ = some (.int .i64 (f p).r) := by
  obtain ⟨cur, h1, _, _, h2⟩ := h.nb; rw [Lib.cell_of_heap h1]; exact h2 p hp 3 (by omega)
theorem TS.h (h : TS tb g n cap root f w) {p : Nat} (hp : p < n) : w.cell? ⟨g, p * 5 + 4, none⟩ = some (.int .i64 (f p).h) := by
  obtain ⟨cur, h1, _, _, h2⟩ := h.nb; rw [Lib.cell_of_heap h1]; exact h2 p hp 4 (by omega)
theorem TS.fr (h : TS tb g n cap root f w) (j : Nat) : w.frozen? ⟨g, j, none⟩ = false := by obtain ⟨cur, h1, _⟩ := h.nb; exact Lib.frozen_of_heap h1 j
theorem TS.frb (h : TS tb g n cap root f w) (j : Nat) : w.frozen? ⟨tb, j, none⟩ = false := Lib.frozen_of_heap h.box j
theorem TS.ltb (h : TS tb g n cap root f w) : tb < w.heap.size := heap_ltb h.box
theorem TS.ltg (h : TS tb g n cap root f w) : g < w.heap.size := by obtain ⟨cur, h1, _⟩ := h.nb; exact heap_ltb h1
theorem TS.keep {w' : World} (h : TS tb g n cap root f w) (e1 : w'.heap[tb]? = w.heap[tb]?) (e2 : w'.heap[g]? = w.heap[g]?) : TS tb g n cap root f w' := by
  obtain ⟨h1, ⟨cur, h2, h3⟩, h4, h5, h6⟩ := h
  exact ⟨e1.trans h1, ⟨cur, e2.trans h2, h3⟩, h4, h5, h6⟩
theorem TS.drewN (h : TS tb g n cap root f w) (k : Nat) : TS tb g n cap root f (w.drewN k) := h.keep rfl rfl
theorem TS.congr {f' : Nat → Nd} (h : TS tb g n cap root f w) (e : ∀ p < n, f' p = f p) : TS tb g n cap root f' w := by
  obtain ⟨h1, ⟨cur, h2, h3, h3b, h3c⟩, h4, h5, h6⟩ := h
  exact ⟨h1, ⟨cur, h2, h3, h3b, fun p hp k hk => by rw [e p hp]; exact h3c p hp k hk⟩, h4, h5, h6⟩
end
/-- On which side a key stands. -/
def sideN (a b : Bt) : Nat := if Op.bytesLess a b = true then 0 else 1
theorem sideN_lt {a b : Bt} (h : klt a b) : sideN a b = 0 := if_pos h
theorem sideN_ge {a b : Bt} (h : ¬ klt a b) : sideN a b = 1 := if_neg h
theorem side_any (tb g n cap root : Nat) (f : Nat → Nd) (w : World) (at_ : Nat) (key : Bt) (h : TS tb g n cap root f w) (ha : at_ < n) :
    Calls Tryd.prog 88 #[.pointer (some ⟨tb, 0, none⟩), .int .i64 at_, sv key] w fun e w' => e = .returned (.int .i64 (sideN key (f at_).k)) ∧ w' = w := by
  have c0 := h.c0
  have ck := h.k ha
  have hl := h.lt
  clear h
  unfold sideN
  generalize (f at_).k = kk at *
  cases hb : Op.bytesLess key kk <;>
  · go_enter Tryd.func88, Tryd.ntmps88
    go_wp2_with fail
    go_ret
    exact ⟨rfl, rfl⟩
theorem count_any (tb g n cap root : Nat) (f : Nat → Nd) (w : World) (h : TS tb g n cap root f w) (hn : 0 < n) :
    Calls Tryd.prog 43 #[.pointer (some ⟨tb, 0, none⟩)] w fun e w' => e = .returned (.int .i64 ((n - 1 : Nat) : Int)) ∧ w' = w := by
  have c0 := h.c0
  have hl := h.lt
  clear h
  obtain ⟨k, rfl⟩ : ∃ k, n = k + 1 := ⟨n - 1, by omega⟩
  go_enter Tryd.func43, Tryd.ntmps43
  go_wp2_with fail
  go_ret
  refine ⟨?_, rfl⟩
  rw [Nat.add_sub_cancel]; rfl
theorem Tr.top_lt {T : Tr} {n : Nat} (hn : 0 < n) (hm : ∀ p ∈ T.pl, p < n) : T.top < n := by
  cases T with
  | e => exact hn
  | n l p r => exact hm p (by simp [Tr.pl])
/-- A search goes on in this tree. -/
def Srch (tb g n cap root : Nat) (f : Nat → Nd) (w : World) (F : Tr → Nat) (R : Nat) (k at_ : Nat) (wr : World) : Prop := ∃ S : Tr, Lk f S ∧ (∀ p ∈ S.pl, p < n) ∧ F S = R ∧ S.pl.length = k ∧ S.top = at_ ∧ TS tb g n cap root f wr ∧ ∃ m, wr = w.drewN m
set_option maxRecDepth 100000 in
set_option maxHeartbeats 1000000 in
theorem find_any (tb g n cap root : Nat) (f : Nat → Nd) (T : Tr) (w : World) (key : Bt) (h : TS tb g n cap root f w) (hT : Lk f T) (hr : root = T.top) (hm : ∀ p ∈ T.pl, p < n) :
    Calls Tryd.prog 66 #[.pointer (some ⟨tb, 0, none⟩), sv key] w fun e w' => e = .returned (.int .i64 (T.find f key : Nat)) ∧ ∃ m, w' = w.drewN m := by
  have c1 := h.c1
  have hl := h.lt
  obtain ⟨R, hR⟩ : ∃ R, R = T.find f key := ⟨_, rfl⟩
  rw [← hR]
  have H0 : Hid (Srch tb g n cap root f w (fun S => S.find f key) R T.pl.length root w) := hidb ⟨T, hT, hm, hR.symm, rfl, hr.symm, h, 0, rfl⟩
  clear h hT hm hR hr
  go_enter Tryd.func66, Tryd.ntmps66
  go_wp2_with fail
  go_loopg [5] T.pl.length (fun k v wr => ∃ at_ : Nat, v = .int .i64 at_ ∧ Hid (Srch tb g n cap root f w (fun S => S.find f key) R k at_ wr))
  case atStart => exact ⟨root, rfl, H0⟩
  case round =>
    obtain ⟨at_, rfl, HS⟩ := hrel
    obtain ⟨S, k1, k2, k3, k4, k5, k6, m, k7⟩ := HS.out
    have c0 := k6.c0
    clear HS H0 c1
    cases S with
    | e =>
      have e0 : at_ = 0 := k5.symm
      subst e0
      have e1 : R = 0 := k3.symm
      subst e1
      have HE := hidb k7
      clear k1 k2 k3 k4 k5 k6 k7
      go_wp2_with fail
      go_ret
      exact ⟨rfl, m, HE.out⟩
    | n l p r =>
      have e0 : at_ = p := k5.symm
      subst e0
      have hp := k2 at_ (by simp [Tr.pl])
      have hp0 : at_ ≠ 0 := k1.2.2.2.2.1
      have ck := k6.k hp
      have cl := k6.l hp
      have cr := k6.r hp
      have hz : ((at_ : Int) == 0) = false := by simpa using hp0
      simp only [Tr.find] at k3
      by_cases e : (f at_).k = key
      · rw [if_pos e] at k3
        subst k3
        have HE := hidb k7
        clear k1 k2 k4 k5 k6 k7
        generalize (f at_).k = kk at *
        go_wp2_with fail
        go_ret
        exact ⟨rfl, m, HE.out⟩
      · rw [if_neg e] at k3
        have HC := hidb fun M => side_any tb g n cap root f (wr.drewN M) at_ key (k6.drewN M) hp
        have hne : ((f at_).k == key) = false := by simpa using e
        by_cases c : klt key (f at_).k
        · rw [if_pos c] at k3
          rw [sideN_lt c] at HC
          have HN : Hid (∀ M, Srch tb g n cap root f w (fun S => S.find f key) R l.pl.length (f at_).l (wr.drewN M)) := hidb fun M => ⟨l, k1.1, fun p hp => k2 p (by simp [Tr.pl, hp]), k3, rfl, k1.2.2.1.symm, k6.drewN M, m + M, by rw [k7, World.drewN_drewN]⟩
          have HL : Hid (l.pl.length < gk) := hidb (by rw [← k4]; simp [Tr.pl])
          clear k1 k2 k4 k5 k6 k7 k3 c e
          generalize (f at_).l = kl at *
          generalize (f at_).k = kk at *
          go_wp2_with fail
          go_quiet ((go_at_call 88; exact Calls.quiet_of_same (HC.out _)))
          go_wp2_with fail
          go_roundg l.pl.length
          case measure => exact HL.out
          case rel => exact ⟨kl, rfl, HN.out _⟩
        · rw [if_neg c] at k3
          rw [sideN_ge c] at HC
          have HN : Hid (∀ M, Srch tb g n cap root f w (fun S => S.find f key) R r.pl.length (f at_).r (wr.drewN M)) := hidb fun M => ⟨r, k1.2.1, fun p hp => k2 p (by simp [Tr.pl, hp]), k3, rfl, k1.2.2.2.1.symm, k6.drewN M, m + M, by rw [k7, World.drewN_drewN]⟩
          have HL : Hid (r.pl.length < gk) := hidb (by rw [← k4]; simp [Tr.pl]; omega)
          clear k1 k2 k4 k5 k6 k7 k3 c e
          generalize (f at_).r = kl at *
          generalize (f at_).k = kk at *
          go_wp2_with fail
          go_quiet ((go_at_call 88; exact Calls.quiet_of_same (HC.out _)))
          go_wp2_with fail
          go_roundg r.pl.length
          case measure => exact HL.out
          case rel => exact ⟨kl, rfl, HN.out _⟩
end Go.Proofs.YticihfbhnbkjjaaDoor
