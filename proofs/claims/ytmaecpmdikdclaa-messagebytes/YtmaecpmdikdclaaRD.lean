/- What a Reader of package wire does: NewReader, take, Byte, Int, Text, Left, Err and Done. What a Reader's Byte, Int and Text do. -/
import Derived.Test.YtmaecpmdikdclaaWF
import Derived.Test.YtmaecpmdikdclaaWA
import Derived.Test.YtmaecpmdikdclaaWH
namespace Go.Proofs.Ytmaecpmdikdclaa
open Go.RowKit

/-- A Reader at block p whose held struct is block h: its bytes are the slice v, its error err. -/
structure RdE (w : World) (p h : Nat) (v : Value) (err : Int) : Prop where
  hp : w.heap[p]? = some (.cells #[.pointer (some ⟨h, 0, none⟩)] 142 (0, 0))
  hh : w.heap[h]? = some (.cells #[v, .int .i64 err] 119 (0, 0))
theorem RdE.ne {w : World} {p h : Nat} {v : Value} {err : Int} (H : RdE w p h v err) : p ≠ h := fun e => by
  have h1 := H.hp; have h2 := H.hh; rw [e, h2] at h1; cases h1
theorem RdE.set0 {w : World} {p h : Nat} {v : Value} {err : Int} (H : RdE w p h v err) (u : Value) : RdE (w.setCell ⟨h, 0, none⟩ u) p h u err :=
  ⟨by rw [Below.heap_setCell _ _ _ _ H.ne]; exact H.hp, set2_0 H.hh⟩
theorem RdE.set1 {w : World} {p h : Nat} {v : Value} {err : Int} (H : RdE w p h v err) (e : Int) : RdE (w.setCell ⟨h, 1, none⟩ (.int .i64 e)) p h v e :=
  ⟨by rw [Below.heap_setCell _ _ _ _ H.ne]; exact H.hp, set2_1 H.hh⟩
theorem RdE.chg {w w' : World} {p h : Nat} {v : Value} {err : Int} {S : Nat → Prop} (H : RdE w p h v err) (k : Chg w w' S) (h1 : ¬ S p) (h2 : ¬ S h) : RdE w' p h v err :=
  ⟨by rw [k.block p (lt_of_block H.hp) h1]; exact H.hp, by rw [k.block h (lt_of_block H.hh) h2]; exact H.hh⟩

/-- The bytes bs lie at ao, in block g. -/
def BsAt (w : World) (g : Nat) (ao : Option Addr) (bs : List UInt8) : Prop :=
  bs = [] ∨ ∃ off, ao = some ⟨g, off, none⟩ ∧ ∀ j (h : j < bs.length), w.cell? ⟨g, off + j, none⟩ = some (.int .u8 (bs[j].toNat : Int))
theorem BsAt.bs {w : World} {g : Nat} {ao : Option Addr} {bs : List UInt8} (h : BsAt w g ao bs) : Bs w ao bs := by
  rcases h with h | ⟨off, h, hc⟩
  · exact .inl h
  · exact .inr ⟨g, off, h, hc⟩
theorem BsAt.chg {w w' : World} {g : Nat} {ao : Option Addr} {bs : List UInt8} {S : Nat → Prop} (h : BsAt w g ao bs) (k : Chg w w' S) (hg : ¬ S g) : BsAt w' g ao bs := by
  rcases h with h | ⟨off, h, hc⟩
  · exact .inl h
  · exact .inr ⟨off, h, fun j hj => k.cell (hc j hj) hg⟩
theorem BsAt.from {w : World} {g : Nat} {ao : Option Addr} {bs : List UInt8} (h : BsAt w g ao bs) (k cap : Nat) (hcap : bs.length ≤ cap) : BsAt w g (if cap = k then ao else ao.map (fun a => a.add k)) (bs.drop k) := by
  rcases h with rfl | ⟨off, rfl, hc⟩
  · left; simp
  · split
    · left; exact List.drop_eq_nil_of_le (by omega)
    · refine .inr ⟨off + k, ?_, fun j hj => ?_⟩
      · have hadd : (⟨g, off, none⟩ : Addr).add k = ⟨g, off + k, none⟩ := by unfold Addr.add; split <;> simp_all
        simp [hadd]
      · simp only [List.length_drop] at hj
        have := hc (k + j) (by omega)
        rw [← Nat.add_assoc] at this
        rw [this]
        simp
theorem BsAt.take {w : World} {g : Nat} {ao : Option Addr} {bs : List UInt8} (h : BsAt w g ao bs) (k : Nat) : BsAt w g ao (bs.take k) := by
  rcases h with rfl | ⟨off, rfl, hc⟩
  · left; simp
  · refine .inr ⟨off, rfl, fun j hj => ?_⟩
    simp only [List.length_take] at hj
    rw [hc j (by omega), List.getElem_take]

/-- A Reader that has the bytes bs before it, in block g, and the error err. -/
structure RdS (w : World) (p h g : Nat) (bs : List UInt8) (err : Int) : Prop where
  st : ∃ ao cap, RdE w p h (.slice ao bs.length cap) err ∧ BsAt w g ao bs ∧ bs.length ≤ cap ∧ cap ≤ 140737488355328
  gh : g ≠ h
theorem RdS.chg {w w' : World} {p h g : Nat} {bs : List UInt8} {err : Int} {S : Nat → Prop} (H : RdS w p h g bs err) (k : Chg w w' S) (h1 : ¬ S p) (h2 : ¬ S h) (h3 : ¬ S g) : RdS w' p h g bs err := by
  obtain ⟨⟨ao, cap, hE, hB, hc, hm⟩, hg⟩ := H
  exact ⟨⟨ao, cap, hE.chg k h1 h2, hB.chg k h3, hc, hm⟩, hg⟩

set_option maxHeartbeats 400000 in
theorem rnew_any (ao : Option Addr) (len cap : Nat) (bs : List UInt8) (w : World) (hl : bs.length = len) (hm : len ≤ 140737488355328) (hb : Bs w ao bs) :
    Calls Try.prog 70 #[.slice ao len cap] w fun e w' => ∃ h, e = .returned (.pointer (some ⟨h + 1, 0, none⟩)) ∧ w.heap.size < h ∧ RdS w' (h + 1) h w.heap.size bs 0 ∧ Below w.heap.size w w' := by
  go_enter Try.func70, Try.ntmps70
  go_wp2_with fail
  refine (fresh_any ao len cap bs w hl hm hb).mono ?_
  rintro e w1 ⟨rfl, hO1, hb1⟩
  go_wp2
  go_ret
  have hsz : w.heap.size < w1.heap.size := (hO1.lt _ rfl).2
  have hbz := (hb1.alloc hb1.size (.cells #[.slice (some ⟨w.heap.size, 0, none⟩) len len, .int .i64 0] 119)).alloc (by simp; omega) (.cells #[.pointer (some ⟨w1.heap.size, 0, none⟩)] 142)
  refine ⟨w1.heap.size, rfl, hsz, ⟨⟨some ⟨w.heap.size, 0, none⟩, len, ⟨?_, ?_⟩, ?_, by omega, hm⟩, by omega⟩, hbz⟩
  · have := heap_alloc_new (w1.alloc (.cells #[.slice (some ⟨w.heap.size, 0, none⟩) len len, .int .i64 0] 119)) (.cells #[.pointer (some ⟨w1.heap.size, 0, none⟩)] 142)
    simpa using this
  · rw [Below.heap_alloc _ _ _ (by simp), hl]; exact heap_alloc_new w1 _
  · obtain ⟨ao', cap', hv, _, _, hB, _, _⟩ := Own.bs hO1
    simp only [Value.slice.injEq] at hv
    obtain ⟨rfl, _, _⟩ := hv
    rcases hB with hB | ⟨b, off, hB, hc⟩
    · exact .inl hB
    · cases hB
      exact .inr ⟨0, rfl, fun j hj => alloc_keep _ _ _ _ (alloc_keep _ _ _ _ (hc j hj))⟩

theorem rmade_any (p h : Nat) (v : Value) (err : Int) (w : World) (H : RdE w p h v err) :
    Calls Try.prog 88 #[.pointer (some ⟨p, 0, none⟩)] w fun e w' => e = .returned (.bool true) ∧ w' = w := by
  have c0 := cell_of_one H.hp
  go_enter Try.func88, Try.ntmps88
  go_wp2
  go_ret
  exact ⟨rfl, rfl⟩

set_option maxHeartbeats 400000 in
theorem rfail_any (p h : Nat) (v : Value) (err e0 : Int) (w : World) (H : RdE w p h v err) (h0 : err = 0) :
    Calls Try.prog 62 #[.pointer (some ⟨h, 0, none⟩), .int .i64 e0] w fun e w' => e = .returned (.tuple #[]) ∧ w' = w.setCell ⟨h, 1, none⟩ (.int .i64 e0) := by
  obtain ⟨c0, c1, f0, f1⟩ := cells2 H.hh
  subst h0
  go_enter Try.func62, Try.ntmps62
  go_wp2
  go_end0
  exact ⟨rfl, rfl⟩

set_option maxHeartbeats 400000 in
theorem take_bad (p h : Nat) (ao : Option Addr) (len cap : Nat) (err n : Int) (w : World) (H : RdE w p h (.slice ao len cap) err) (he : err ≠ 0) :
    Calls Try.prog 87 #[.pointer (some ⟨p, 0, none⟩), .int .i64 n] w fun e w' => e = .returned (.slice none 0 0) ∧ w' = w := by
  obtain ⟨c0, c1, f0, f1⟩ := cells2 H.hh
  have cp := cell_of_one H.hp
  have hne : (err != 0) = true := by simp [he]
  go_enter Try.func87, Try.ntmps87
  go_wp2_with (go_at_call 88; refine (rmade_any p h _ err w H).mono ?_; rintro e w' ⟨rfl, hw⟩; subst hw)
  go_ret
  exact ⟨rfl, rfl⟩

set_option maxHeartbeats 400000 in
theorem take_end (p h : Nat) (ao : Option Addr) (len cap : Nat) (n : Int) (w : World) (H : RdE w p h (.slice ao len cap) 0) (hn : (len : Int) < n) :
    Calls Try.prog 87 #[.pointer (some ⟨p, 0, none⟩), .int .i64 n] w fun e w' => e = .returned (.slice none 0 0) ∧ w' = w.setCell ⟨h, 1, none⟩ (.int .i64 20) := by
  obtain ⟨c0, c1, f0, f1⟩ := cells2 H.hh
  have cp := cell_of_one H.hp
  go_enter Try.func87, Try.ntmps87
  go_wp2_with (first | (go_at_call 88; refine (rmade_any p h _ 0 w H).mono ?_; rintro e w' ⟨rfl, hw⟩; subst hw) | (go_at_call 62; refine (rfail_any p h _ 0 20 _ H rfl).mono ?_; rintro e w' ⟨rfl, rfl⟩))
  go_ret
  exact ⟨rfl, rfl⟩

set_option maxHeartbeats 1000000 in
theorem take_ok (p h : Nat) (ao : Option Addr) (len cap n : Nat) (N : Int) (w : World) (hN : N = n) (H : RdE w p h (.slice ao len cap) 0) (hn : n ≤ len) (hc : len ≤ cap) :
    Calls Try.prog 87 #[.pointer (some ⟨p, 0, none⟩), .int .i64 N] w fun e w' => e = .returned (.slice ao n cap) ∧ RdE w' p h (.slice (if cap = n then ao else ao.map (fun a => a.add n)) (len - n) (cap - n)) 0 ∧ Chg w w' (fun k => k = h) := by
  subst hN
  obtain ⟨c0, c1, f0, f1⟩ := cells2 H.hh
  have cp := cell_of_one H.hp
  have i1 : (0 : Int) ≤ (n : Int) := by omega
  have i2 : (n : Int) ≤ (cap : Int) := by omega
  have i3 : (n : Int) ≤ (len : Int) := by omega
  go_enter Try.func87, Try.ntmps87
  have HC : ∀ (u : World) (v : Value), Chg u (u.setCell ⟨h, 0, none⟩ v).drew (fun k => k = h) := fun u v => (Chg.setCell u ⟨h, 0, none⟩ v).trans (Chg.drew _ _) (fun _ _ e => e)
  by_cases hcn : cap = n
  all_goals
    go_wp2_with (go_at_call 88; refine (rmade_any p h _ 0 w H).mono ?_; rintro e w' ⟨rfl, hw⟩; subst hw)
    go_region
    all_goals go_wp2
    all_goals go_ret
  all_goals exact ⟨rfl, ⟨(H.set0 _).hp, (H.set0 _).hh⟩, HC _ _⟩

/-- What take leaves of a Reader. -/
theorem RdS.took {w w' : World} {p h g n : Nat} {bs : List UInt8} {ao : Option Addr} {cap : Nat} (hB : BsAt w g ao bs) (hg : g ≠ h) (hn : n ≤ bs.length) (hc : bs.length ≤ cap) (hm : cap ≤ 140737488355328)
    (H : RdE w' p h (.slice (if cap = n then ao else ao.map (fun a => a.add n)) (bs.length - n) (cap - n)) 0) (k : Chg w w' (fun i => i = h)) : RdS w' p h g (bs.drop n) 0 :=
  ⟨⟨_, cap - n, by rw [List.length_drop]; exact H, (hB.from n cap hc).chg k hg, by rw [List.length_drop]; omega, by omega⟩, hg⟩

set_option maxHeartbeats 400000 in
theorem rleft_any (p h g : Nat) (bs : List UInt8) (err : Int) (w : World) (H : RdS w p h g bs err) :
    Calls Try.prog 75 #[.pointer (some ⟨p, 0, none⟩)] w fun e w' => e = .returned (.int .i64 (bs.length : Nat)) ∧ w' = w := by
  obtain ⟨⟨ao, cap, hE, hB, hc, hm⟩, hg⟩ := H
  obtain ⟨c0, c1, f0, f1⟩ := cells2 hE.hh
  have cp := cell_of_one hE.hp
  go_enter Try.func75, Try.ntmps75
  go_wp2_with (go_at_call 88; refine (rmade_any p h _ err w hE).mono ?_; rintro e w' ⟨rfl, hw⟩; subst hw)
  go_ret
  exact ⟨rfl, rfl⟩
set_option maxHeartbeats 400000 in
theorem rerr_any (p h g : Nat) (bs : List UInt8) (err : Int) (w : World) (H : RdS w p h g bs err) :
    Calls Try.prog 73 #[.pointer (some ⟨p, 0, none⟩)] w fun e w' => e = .returned (.int .i64 err) ∧ w' = w := by
  obtain ⟨⟨ao, cap, hE, hB, hc, hm⟩, hg⟩ := H
  obtain ⟨c0, c1, f0, f1⟩ := cells2 hE.hh
  have cp := cell_of_one hE.hp
  go_enter Try.func73, Try.ntmps73
  go_wp2_with (go_at_call 88; refine (rmade_any p h _ err w hE).mono ?_; rintro e w' ⟨rfl, hw⟩; subst hw)
  go_ret
  exact ⟨rfl, rfl⟩
/-- What Done tells. -/
def doneOf (bs : List UInt8) (err : Int) : Int := if err ≠ 0 then err else if 0 < bs.length then 21 else 0
set_option maxHeartbeats 400000 in
theorem rdone_any (p h g : Nat) (bs : List UInt8) (err : Int) (w : World) (H : RdS w p h g bs err) :
    Calls Try.prog 46 #[.pointer (some ⟨p, 0, none⟩)] w fun e w' => e = .returned (.int .i64 (doneOf bs err)) ∧ w' = w := by
  have hmax : bs.length ≤ 140737488355328 := by obtain ⟨⟨ao, cap, hE, hB, hc, hm⟩, hg⟩ := H; omega
  by_cases he : err = 0
  · by_cases hl : 0 < bs.length
    · have HD : Hid (doneOf bs err = 21) := hid (by unfold doneOf; rw [if_neg (by simp [he]), if_pos hl])
      have hb : (err != 0) = false := by simp [he]
      go_enter Try.func46, Try.ntmps46
      go_wp2_with (first | (go_at_call 73; refine (rerr_any p h g bs err _ H).mono ?_; rintro e w' ⟨rfl, hw⟩; subst hw) | (go_at_call 75; refine (rleft_any p h g bs err _ H).mono ?_; rintro e w' ⟨rfl, hw⟩; subst hw))
      go_ret
      exact ⟨ret_int (by rw [HD.out]), rfl⟩
    · have HD : Hid (doneOf bs err = 0) := hid (by unfold doneOf; rw [if_neg (by simp [he]), if_neg hl])
      have hb : (err != 0) = false := by simp [he]
      go_enter Try.func46, Try.ntmps46
      go_wp2_with (first | (go_at_call 73; refine (rerr_any p h g bs err _ H).mono ?_; rintro e w' ⟨rfl, hw⟩; subst hw) | (go_at_call 75; refine (rleft_any p h g bs err _ H).mono ?_; rintro e w' ⟨rfl, hw⟩; subst hw))
      go_ret
      exact ⟨ret_int (by rw [HD.out]), rfl⟩
  · have HD : Hid (doneOf bs err = err) := hid (by unfold doneOf; rw [if_pos he])
    have hb : (err != 0) = true := by simp [he]
    go_enter Try.func46, Try.ntmps46
    go_wp2_with (first | (go_at_call 73; refine (rerr_any p h g bs err _ H).mono ?_; rintro e w' ⟨rfl, hw⟩; subst hw) | (go_at_call 75; refine (rleft_any p h g bs err _ H).mono ?_; rintro e w' ⟨rfl, hw⟩; subst hw))
    go_ret
    exact ⟨ret_int (by rw [HD.out]), rfl⟩
end Go.Proofs.Ytmaecpmdikdclaa
namespace Go.Proofs.Ytmaecpmdikdclaa
open Go.RowKit

/-- A number of 64 bits as an int. -/
def toInt (n : Nat) : Int := if n < 9223372036854775808 then (n : Int) else (n : Int) - 18446744073709551616
theorem wrap_toInt (n : Nat) (h : n < 18446744073709551616) : wrap64 (n : Int) = toInt n := by
  unfold toInt wrap64
  split <;> omega
theorem wrap_none : wrap64 ((num [] : Nat) : Int) = 0 := by rw [wrap_toInt _ (num_lt _)]; rfl
theorem num_one (x : UInt8) : num [x] = x.toNat := by
  simp [num, numStep]
theorem num_two (x y : UInt8) : num [x, y] = x.toNat * 256 + y.toNat := by
  have := x.toNat_lt
  have := y.toNat_lt
  simp [num, numStep]; omega

set_option maxHeartbeats 400000 in
theorem rbyte_bad (p h g : Nat) (bs : List UInt8) (err : Int) (w : World) (H : RdS w p h g bs err) (he : err ≠ 0) :
    Calls Try.prog 71 #[.pointer (some ⟨p, 0, none⟩)] w fun e w' => e = .returned (.int .i64 0) ∧ w' = w := by
  obtain ⟨⟨ao, cap, hE, hB, hc, hm⟩, hg⟩ := H
  go_enter Try.func71, Try.ntmps71
  go_wp2_with (first | (go_at_call 87; refine (take_bad p h ao _ cap err _ _ hE he).mono ?_; rintro e w' ⟨rfl, hw⟩; subst hw) | (go_at_call 86; refine (number_any none 0 0 [] _ rfl (by decide) (.inl rfl)).mono ?_; rintro e w' ⟨rfl, hw⟩; subst hw))
  go_ret
  exact ⟨ret_int wrap_none, rfl⟩
set_option maxHeartbeats 400000 in
theorem rint_bad (p h g : Nat) (bs : List UInt8) (err : Int) (w : World) (H : RdS w p h g bs err) (he : err ≠ 0) :
    Calls Try.prog 72 #[.pointer (some ⟨p, 0, none⟩)] w fun e w' => e = .returned (.int .i64 0) ∧ w' = w := by
  obtain ⟨⟨ao, cap, hE, hB, hc, hm⟩, hg⟩ := H
  go_enter Try.func72, Try.ntmps72
  go_wp2_with (first | (go_at_call 87; refine (take_bad p h ao _ cap err _ _ hE he).mono ?_; rintro e w' ⟨rfl, hw⟩; subst hw) | (go_at_call 86; refine (number_any none 0 0 [] _ rfl (by decide) (.inl rfl)).mono ?_; rintro e w' ⟨rfl, hw⟩; subst hw))
  go_ret
  exact ⟨ret_int wrap_none, rfl⟩

theorem RdS.failed {w : World} {p h g : Nat} {bs : List UInt8} {ao : Option Addr} {cap : Nat} (hE : RdE w p h (.slice ao bs.length cap) 0) (hB : BsAt w g ao bs) (hc : bs.length ≤ cap) (hm : cap ≤ 140737488355328) (hg : g ≠ h) :
    RdS (w.setCell ⟨h, 1, none⟩ (.int .i64 20)) p h g bs 20 ∧ Chg w (w.setCell ⟨h, 1, none⟩ (.int .i64 20)) (fun k => k = h) :=
  ⟨⟨⟨ao, cap, hE.set1 20, hB.chg (Chg.setCell w ⟨h, 1, none⟩ _) hg, hc, hm⟩, hg⟩, Chg.setCell w ⟨h, 1, none⟩ _⟩

set_option maxHeartbeats 400000 in
theorem rbyte_end (p h g : Nat) (bs : List UInt8) (w : World) (H : RdS w p h g bs 0) (hl : bs.length < 1) :
    Calls Try.prog 71 #[.pointer (some ⟨p, 0, none⟩)] w fun e w' => e = .returned (.int .i64 0) ∧ RdS w' p h g bs 20 ∧ Chg w w' (fun k => k = h) := by
  obtain ⟨⟨ao, cap, hE, hB, hc, hm⟩, hg⟩ := H
  have HR := RdS.failed hE hB hc hm hg
  go_enter Try.func71, Try.ntmps71
  go_wp2_with (first | (go_at_call 87; refine (take_end p h ao _ cap _ _ hE (by omega)).mono ?_; rintro e w' ⟨rfl, rfl⟩) | (go_at_call 86; refine (number_any none 0 0 [] _ rfl (by decide) (.inl rfl)).mono ?_; rintro e w' ⟨rfl, rfl⟩))
  go_ret
  exact ⟨ret_int wrap_none, HR⟩
set_option maxHeartbeats 400000 in
theorem rint_end (p h g : Nat) (bs : List UInt8) (w : World) (H : RdS w p h g bs 0) (hl : bs.length < 8) :
    Calls Try.prog 72 #[.pointer (some ⟨p, 0, none⟩)] w fun e w' => e = .returned (.int .i64 0) ∧ RdS w' p h g bs 20 ∧ Chg w w' (fun k => k = h) := by
  obtain ⟨⟨ao, cap, hE, hB, hc, hm⟩, hg⟩ := H
  have HR := RdS.failed hE hB hc hm hg
  go_enter Try.func72, Try.ntmps72
  go_wp2_with (first | (go_at_call 87; refine (take_end p h ao _ cap _ _ hE (by omega)).mono ?_; rintro e w' ⟨rfl, rfl⟩) | (go_at_call 86; refine (number_any none 0 0 [] _ rfl (by decide) (.inl rfl)).mono ?_; rintro e w' ⟨rfl, rfl⟩))
  go_ret
  exact ⟨ret_int wrap_none, HR⟩

set_option maxHeartbeats 400000 in
theorem rbyte_ok (p h g : Nat) (bs : List UInt8) (w : World) (H : RdS w p h g bs 0) (hl : 1 ≤ bs.length) :
    Calls Try.prog 71 #[.pointer (some ⟨p, 0, none⟩)] w fun e w' => e = .returned (.int .i64 ((bs[0]'(by omega)).toNat : Nat)) ∧ RdS w' p h g (bs.drop 1) 0 ∧ Chg w w' (fun k => k = h) := by
  obtain ⟨⟨ao, cap, hE, hB, hc, hm⟩, hg⟩ := H
  have e1 : bs.take 1 = [bs[0]'(by omega)] := by rw [List.take_succ_eq_append_getElem (by omega)]; rfl
  have hx := (bs[0]'(by omega)).toNat_lt
  have HN : Hid (wrap64 ((num (bs.take 1) : Nat) : Int) = ((bs[0]'(by omega)).toNat : Nat)) := hid (by rw [wrap_toInt _ (num_lt _), e1, num_one]; unfold toInt; rw [if_pos (by omega)])
  have l1 : (bs.take 1).length = 1 := by simp; omega
  clear e1
  go_enter Try.func71, Try.ntmps71
  go_wp2_with fail
  refine (take_ok p h ao _ cap 1 _ w rfl hE hl hc).mono ?_
  rintro e w1 ⟨rfl, hE1, hk⟩
  have HR := RdS.took hB hg hl hc hm hE1 hk
  go_wp2_with fail
  refine (number_any ao 1 cap (bs.take 1) w1 l1 (by decide) ((hB.take 1).chg hk hg).bs).mono ?_
  rintro e w2 ⟨rfl, hw⟩
  subst hw
  go_wp2
  go_ret
  exact ⟨ret_int HN.out, HR, hk⟩
set_option maxHeartbeats 400000 in
theorem rint_ok (p h g : Nat) (bs : List UInt8) (w : World) (H : RdS w p h g bs 0) (hl : 8 ≤ bs.length) :
    Calls Try.prog 72 #[.pointer (some ⟨p, 0, none⟩)] w fun e w' => e = .returned (.int .i64 (toInt (num (bs.take 8)))) ∧ RdS w' p h g (bs.drop 8) 0 ∧ Chg w w' (fun k => k = h) := by
  obtain ⟨⟨ao, cap, hE, hB, hc, hm⟩, hg⟩ := H
  have HN : Hid (wrap64 ((num (bs.take 8) : Nat) : Int) = toInt (num (bs.take 8))) := hid (wrap_toInt _ (num_lt _))
  have l1 : (bs.take 8).length = 8 := by simp; omega
  go_enter Try.func72, Try.ntmps72
  go_wp2_with fail
  refine (take_ok p h ao _ cap 8 _ w rfl hE hl hc).mono ?_
  rintro e w1 ⟨rfl, hE1, hk⟩
  have HR := RdS.took hB hg hl hc hm hE1 hk
  go_wp2_with fail
  refine (number_any ao 8 cap (bs.take 8) w1 l1 (by decide) ((hB.take 8).chg hk hg).bs).mono ?_
  rintro e w2 ⟨rfl, hw⟩
  subst hw
  go_wp2
  go_ret
  exact ⟨ret_int HN.out, HR, hk⟩

/-- The length that a text begins with. -/
def tlOf (bs : List UInt8) : Nat := if bs.length < 2 then 0 else num (bs.take 2)
theorem tl_le (bs : List UInt8) : tlOf bs ≤ 65535 := by
  unfold tlOf
  split
  · omega
  · have e : bs.take 2 = [bs[0]'(by omega), bs[1]'(by omega)] := by
      rw [List.take_succ_eq_append_getElem (by omega), List.take_succ_eq_append_getElem (by omega)]; rfl
    rw [e, num_two]
    have := (bs[0]'(by omega)).toNat_lt
    have := (bs[1]'(by omega)).toNat_lt
    omega
set_option maxHeartbeats 400000 in
theorem rtl_any (p h g : Nat) (bs : List UInt8) (err : Int) (w : World) (H : RdS w p h g bs err) :
    Calls Try.prog 89 #[.pointer (some ⟨p, 0, none⟩)] w fun e w' => e = .returned (.int .i64 (tlOf bs : Nat)) ∧ w' = w := by
  have H0 := H
  obtain ⟨⟨ao, cap, hE, hB, hc, hm⟩, hg⟩ := H
  obtain ⟨c0, c1, f0, f1⟩ := cells2 hE.hh
  have cp := cell_of_one hE.hp
  by_cases hl : bs.length < 2
  · have HN : Hid (tlOf bs = 0) := hid (by unfold tlOf; rw [if_pos hl])
    go_enter Try.func89, Try.ntmps89
    go_wp2_with (go_at_call 75; refine (rleft_any p h g bs err _ H0).mono ?_; rintro e w' ⟨rfl, hw⟩; subst hw)
    go_ret
    exact ⟨ret_int (by rw [HN.out]; rfl), rfl⟩
  · have hle := tl_le bs
    have HN : Hid (wrap64 ((num (bs.take 2) : Nat) : Int) = (tlOf bs : Nat)) := hid (by
      have e : tlOf bs = num (bs.take 2) := by unfold tlOf; rw [if_neg hl]
      rw [wrap_toInt _ (num_lt _), ← e]; unfold toInt; rw [if_pos (by omega)])
    have l1 : (bs.take 2).length = 2 := by simp; omega
    go_enter Try.func89, Try.ntmps89
    go_wp2_with (first | (go_at_call 75; refine (rleft_any p h g bs err _ H0).mono ?_; rintro e w' ⟨rfl, hw⟩; subst hw) | (go_at_call 86; refine (number_any ao 2 cap (bs.take 2) _ l1 (by decide) (hB.take 2).bs).mono ?_; rintro e w' ⟨rfl, hw⟩; subst hw))
    go_ret
    exact ⟨ret_int HN.out, rfl⟩

set_option maxHeartbeats 400000 in
theorem rtext_bad (p h g : Nat) (bs : List UInt8) (err : Int) (w : World) (H : RdS w p h g bs err) (he : err ≠ 0) :
    Calls Try.prog 74 #[.pointer (some ⟨p, 0, none⟩)] w fun e w' => e = .returned (.string ⟨#[]⟩) ∧ w' = w := by
  have hle := tl_le bs
  have H0 := H
  obtain ⟨⟨ao, cap, hE, hB, hc, hm⟩, hg⟩ := H
  go_enter Try.func74, Try.ntmps74
  go_wp2_with (first | (go_at_call 89; refine (rtl_any p h g bs err _ H0).mono ?_; rintro e w' ⟨rfl, hw⟩; subst hw) | (go_at_call 87; refine (take_bad p h ao _ cap err _ _ hE he).mono ?_; rintro e w' ⟨rfl, hw⟩; subst hw))
  go_ret
  exact ⟨rfl, rfl⟩
set_option maxHeartbeats 400000 in
theorem rtext_end (p h g : Nat) (bs : List UInt8) (w : World) (H : RdS w p h g bs 0) (hl : bs.length < 2 + tlOf bs) :
    Calls Try.prog 74 #[.pointer (some ⟨p, 0, none⟩)] w fun e w' => e = .returned (.string ⟨#[]⟩) ∧ RdS w' p h g bs 20 ∧ Chg w w' (fun k => k = h) := by
  have hle := tl_le bs
  have H0 := H
  obtain ⟨⟨ao, cap, hE, hB, hc, hm⟩, hg⟩ := H
  have HR := RdS.failed hE hB hc hm hg
  go_enter Try.func74, Try.ntmps74
  go_wp2_with fail
  refine (rtl_any p h g bs 0 _ H0).mono ?_
  rintro e w1 ⟨rfl, hw⟩
  subst hw
  go_wp2_with fail
  refine (take_end p h ao _ cap _ _ hE (by omega)).mono ?_
  rintro e w2 ⟨rfl, rfl⟩
  go_wp2
  go_ret
  exact ⟨rfl, HR⟩
set_option maxRecDepth 100000 in
set_option maxHeartbeats 1000000 in
theorem rtext_ok (p h g : Nat) (bs : List UInt8) (w : World) (H : RdS w p h g bs 0) (hl : 2 + tlOf bs ≤ bs.length) :
    Calls Try.prog 74 #[.pointer (some ⟨p, 0, none⟩)] w fun e w' => e = .returned (.string ⟨((bs.drop 2).take (tlOf bs)).toArray⟩) ∧ RdS w' p h g (bs.drop (2 + tlOf bs)) 0 ∧ Chg w w' (fun k => k = h) := by
  have hle := tl_le bs
  have H0 := H
  obtain ⟨⟨ao, cap, hE, hB, hc, hm⟩, hg⟩ := H
  go_enter Try.func74, Try.ntmps74
  go_wp2_with fail
  refine (rtl_any p h g bs 0 _ H0).mono ?_
  rintro e w1 ⟨rfl, hw⟩
  subst hw
  go_wp2_with fail
  refine (take_ok p h ao _ cap (2 + tlOf bs) _ _ (by omega) hE hl hc).mono ?_
  rintro e w2 ⟨rfl, hE1, hk⟩
  have HR := RdS.took hB hg hl hc hm hE1 hk
  have hB2 := ((hB.take (2 + tlOf bs)).from 2 cap (by simp; omega)).chg hk hg
  have eq : (bs.take (2 + tlOf bs)).drop 2 = (bs.drop 2).take (tlOf bs) := by rw [List.drop_take]; congr 1; omega
  rw [eq] at hB2
  have ll : ((bs.drop 2).take (tlOf bs)).length = tlOf bs := by simp; omega
  have hbs := hB2.bs
  generalize hs : (bs.drop 2).take (tlOf bs) = s at hbs ll
  have Hs : Hid ((bs.drop 2).take (tlOf bs) = s) := hs
  clear hs eq
  generalize hT : tlOf bs = T at hl hle ll
  have HT : Hid (tlOf bs = T) := hT
  clear hT
  have s1 : cap = 2 → (convert 25 9 (.slice ao T (cap - 2))).run Try.prog w2 = .ok (.string ⟨s.toArray⟩) w2 := fun h => by
    rw [if_pos h] at hbs; subst ll; exact run_str hbs _
  have s2 : ¬ cap = 2 → (convert 25 9 (.slice (ao.map (fun a => a.add 2)) T (cap - 2))).run Try.prog w2 = .ok (.string ⟨s.toArray⟩) w2 := fun h => by
    rw [if_neg h] at hbs; subst ll; exact run_str hbs _
  by_cases hc2 : cap = 2
  · have s3 := s1 hc2
    obtain rfl : T = 0 := by omega
    rw [hc2] at s3
    simp only [Nat.sub_self] at s3
    clear s1 s2 hbs hB2 hE1
    go_wp2
    go_ret
    exact ⟨by rw [Hs.out]; rfl, HR, hk⟩
  · have s3 := s2 hc2
    rw [show (fun a : Addr => a.add 2) = fun x => ⟨x.block, x.off + 2, none⟩ from funext fun a => by simp [Addr.add]] at s3
    clear s1 s2 hbs hB2 hE1
    go_wp2
    go_ret
    exact ⟨by rw [Hs.out]; rfl, HR, hk⟩
end Go.Proofs.Ytmaecpmdikdclaa
