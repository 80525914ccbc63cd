/- A Writer's calls that are refused: nothing is written, the error is told. What a Reader of package wire does: NewReader, take, Byte, Int, Text, Left, Err and Done. -/
import Derived.Test.YthmjejmignangaaGreatDoorWG
import Derived.Test.YthmjejmignangaaGreatDoorWE
import Derived.Test.YthmjejmignangaaGreatDoorWF
import Derived.Test.YthmjejmignangaaGreatDoorWB
namespace Go.Proofs.YthmjejmignangaaGreatDoor
open Go.RowKit

/-- What a refused call leaves: the Writer as it was. -/
def Refused (p h : Nat) (v : Value) (code : Int) (w : World) (e : Ending) (w' : World) : Prop :=
  e = .returned (.int .i64 code) ∧ WrE w' p h v 0 ∧ Chg w w' (fun k => k = h)
theorem Refused.of {p h : Nat} {v : Value} {w : World} (H : WrE w p h v 0) (code : Int) : Refused p h v code w (.returned (.int .i64 code)) ((w.setCell ⟨h, 1, none⟩ (.int .i64 code)).setCell ⟨h, 1, none⟩ (.int .i64 0)) :=
  ⟨rfl, (H.set1 code).set1 0, (Chg.setCell w ⟨h, 1, none⟩ _).trans (Chg.setCell _ ⟨h, 1, none⟩ _) (fun _ _ e => e)⟩

theorem int_no (p h : Nat) (ao0 : Option Addr) (len cap0 : Nat) (ao : Option Addr) (n cap : Nat) (w : World) (H : WrE w p h (.slice ao0 len cap0) 0) (hl : len ≤ 1048576)
    (hroom : 1048576 - len < 8 * n) :
    Calls Tryz.prog 87 #[.pointer (some ⟨p, 0, none⟩), .slice ao n cap] w fun e w' => Refused p h (.slice ao0 len cap0) 6 w e w' :=
  (int_full p h ao0 len cap0 ao n cap w H hl hroom).mono fun e w' ⟨he, hw⟩ => by subst he; subst hw; exact Refused.of H 6

theorem texts_le (ss : List (List UInt8)) (h : ∀ j (h : j < ss.length), ss[j].length ≤ 65535) : (texts ss).length ≤ 65537 * ss.length := by
  induction ss with
  | nil => simp [texts]
  | cons s r ih =>
    have h0 := h 0 (by simp)
    have ih' := ih (fun j hj => h (j + 1) (by simp; omega))
    simp only [texts, List.flatMap_cons, List.length_append, text_length, List.length_cons, List.getElem_cons_zero] at *
    omega

set_option maxHeartbeats 2000000 in
theorem byte_full (p h : Nat) (ao0 : Option Addr) (len cap0 : Nat) (ao : Option Addr) (n cap : Nat) (ns : List Int) (w : World) (H : WrE w p h (.slice ao0 len cap0) 0) (hl : len ≤ 1048576) (hn : ns.length = n) (hm : n ≤ 140737488355328)
    (hS0 : Is w ao ns) (hall : ∀ j (h : j < ns.length), 0 ≤ ns[j] ∧ ns[j] ≤ 255) (hroom : 1048576 - len < n) :
    Calls Tryz.prog 88 #[.pointer (some ⟨p, 0, none⟩), .slice ao n cap] w fun e w' => Refused p h (.slice ao0 len cap0) 6 w e w' := by
  have HR := Refused.of H 6
  have H6 := H.set1 6
  obtain ⟨d0, d1, g0, g1⟩ := cells2 H6.hh
  have dp := cell_of_one H6.hp
  go_enter Tryz.func88, Tryz.ntmps88
  go_wp2_with fail
  refine (made_any p h _ 0 w H).mono ?_
  rintro e w1 ⟨rfl, hw⟩
  subst hw
  go_wp2
  go_loop [14] (fun i => ∃ k : Nat, k ≤ n ∧ i = .int .i64 k) (fun i => n - (intOf i).toNat)
  case atStart => exact ⟨0, Nat.zero_le _, rfl⟩
  case round =>
    obtain ⟨k, hk, rfl⟩ := hrel
    by_cases hlt : k < n
    · rcases hS0 with hS0 | ⟨b, off, rfl, hc⟩
      · subst hS0; simp at hn; omega
      · have hck := hc k (by omega)
        obtain ⟨ha1, ha2⟩ := hall k (by omega)
        generalize ns[k]'(by omega) = N at hck ha1 ha2
        have d1 : decide (N < 0) = false := by simp; omega
        have d2 : decide (255 < N) = false := by simp; omega
        clear hc
        go_wp2
        go_round
        case rel => exact ⟨k + 1, by omega, by go_num⟩
        case measure => simp [intOf]; omega
    · go_wp2_with (first
        | (go_at_call 107; refine (needRoom_no p h ao0 len cap0 0 _ 1 _ H hl (by decide) (by decide) (by omega)).mono ?_; rintro e w' ⟨rfl, hw⟩; rw [if_pos rfl] at hw; subst hw)
        | (go_at_call 109; refine (endCall_any p h _ 6 _ H6).mono ?_; rintro e w' ⟨rfl, hw⟩; subst hw))
      go_ret
      exact HR

/-- One number, one text. -/
theorem byte_one (p h base B : Nat) (v : Value) (bs : List UInt8) (x : UInt8) (w : World) (hB : w.heap.size = B) (H : WrE w p h v 0) (hO : OwnB w base v bs) (hbase : base ≤ w.heap.size) (hroom : bs.length + 1 ≤ 1048576) :
    Calls Tryz.prog 88 #[.pointer (some ⟨p, 0, none⟩), .slice (some ⟨B, 0, none⟩) 1 1] (w.alloc (.cells #[.int .i64 (x.toNat : Int)] 3)) fun e w' => ∃ v', e = .returned (.int .i64 0) ∧ WrE w' p h v' 0 ∧ OwnB w' base v' (bs ++ [x]) ∧ WStep h w v w' v' := by
  subst hB
  have hnew : ¬ WSet h v w.heap.size := fun e => by
    rcases e with e | e
    · have := lt_of_block H.hh; omega
    · have := (hO.lt _ e).2; omega
  have hx := x.toNat_lt
  refine (byte_ok p h base v bs (some ⟨w.heap.size, 0, none⟩) 1 1 [(x.toNat : Int)] _ (H.chg (Chg.alloc w _ (fun _ => False)) id id) (Own.alloc hO _) (by simp; omega) (by omega) rfl (by decide) (fun w' hc => .inr ⟨w.heap.size, 0, rfl, fun j hj => ?_⟩) (fun j hj => ?_) (by omega)).mono ?_
  · obtain rfl : j = 0 := by simp at hj; omega
    exact hc.cell (new_cell w _ _ 0 _ rfl) hnew
  · obtain rfl : j = 0 := by simp at hj; omega
    simp only [List.getElem_cons_zero]; omega
  · rintro e w' ⟨v', rfl, H', hO', hs⟩
    refine ⟨v', rfl, H', ?_, (WStep.alloc h w v _).trans hs⟩
    have e : byts [(x.toNat : Int)] = [x] := by simp [byts]
    rw [← e]; exact hO'

end Go.Proofs.YthmjejmignangaaGreatDoor
namespace Go.Proofs.YthmjejmignangaaGreatDoor
open Go.RowKit

/-- A Reader at block p whose held struct is block h: its bytes are the slice v, its error err. -/
structure RdE (w : World) (p h : Nat) (v : Value) (err : Int) : Prop where
  hp : w.heap[p]? = some (.cells #[.pointer (some ⟨h, 0, none⟩)] 164 (0, 0))
  hh : w.heap[h]? = some (.cells #[v, .int .i64 err] 162 (0, 0))
theorem RdE.ne {w : World} {p h : Nat} {v : Value} {err : Int} (H : RdE w p h v err) : p ≠ h := fun e => by
  have h1 := H.hp; have h2 := H.hh; rw [e, h2] at h1; cases h1
theorem RdE.set0 {w : World} {p h : Nat} {v : Value} {err : Int} (H : RdE w p h v err) (u : Value) : RdE (w.setCell ⟨h, 0, none⟩ u) p h u err :=
  ⟨by rw [Below.heap_setCell _ _ _ _ H.ne]; exact H.hp, set2_0 H.hh⟩
theorem RdE.set1 {w : World} {p h : Nat} {v : Value} {err : Int} (H : RdE w p h v err) (e : Int) : RdE (w.setCell ⟨h, 1, none⟩ (.int .i64 e)) p h v e :=
  ⟨by rw [Below.heap_setCell _ _ _ _ H.ne]; exact H.hp, set2_1 H.hh⟩
theorem RdE.chg {w w' : World} {p h : Nat} {v : Value} {err : Int} {S : Nat → Prop} (H : RdE w p h v err) (k : Chg w w' S) (h1 : ¬ S p) (h2 : ¬ S h) : RdE w' p h v err :=
  ⟨by rw [k.block p (lt_of_block H.hp) h1]; exact H.hp, by rw [k.block h (lt_of_block H.hh) h2]; exact H.hh⟩

/-- The bytes bs lie at ao, in block g. -/
def BsAt (w : World) (g : Nat) (ao : Option Addr) (bs : List UInt8) : Prop :=
  bs = [] ∨ ∃ off, ao = some ⟨g, off, none⟩ ∧ ∀ j (h : j < bs.length), w.cell? ⟨g, off + j, none⟩ = some (.int .u8 (bs[j].toNat : Int))
theorem BsAt.bs {w : World} {g : Nat} {ao : Option Addr} {bs : List UInt8} (h : BsAt w g ao bs) : Bs w ao bs := by
  rcases h with h | ⟨off, h, hc⟩
  · exact .inl h
  · exact .inr ⟨g, off, h, hc⟩
theorem BsAt.chg {w w' : World} {g : Nat} {ao : Option Addr} {bs : List UInt8} {S : Nat → Prop} (h : BsAt w g ao bs) (k : Chg w w' S) (hg : ¬ S g) : BsAt w' g ao bs := by
  rcases h with h | ⟨off, h, hc⟩
  · exact .inl h
  · exact .inr ⟨off, h, fun j hj => k.cell (hc j hj) hg⟩
theorem BsAt.from {w : World} {g : Nat} {ao : Option Addr} {bs : List UInt8} (h : BsAt w g ao bs) (k cap : Nat) (hcap : bs.length ≤ cap) : BsAt w g (if cap = k then ao else ao.map (fun a => a.add k)) (bs.drop k) := by
  rcases h with rfl | ⟨off, rfl, hc⟩
  · left; simp
  · split
    · left; exact List.drop_eq_nil_of_le (by omega)
    · refine .inr ⟨off + k, ?_, fun j hj => ?_⟩
      · have hadd : (⟨g, off, none⟩ : Addr).add k = ⟨g, off + k, none⟩ := by unfold Addr.add; split <;> simp_all
        simp [hadd]
      · simp only [List.length_drop] at hj
        have := hc (k + j) (by omega)
        rw [← Nat.add_assoc] at this
        rw [this]
        simp
theorem BsAt.take {w : World} {g : Nat} {ao : Option Addr} {bs : List UInt8} (h : BsAt w g ao bs) (k : Nat) : BsAt w g ao (bs.take k) := by
  rcases h with rfl | ⟨off, rfl, hc⟩
  · left; simp
  · refine .inr ⟨off, rfl, fun j hj => ?_⟩
    simp only [List.length_take] at hj
    rw [hc j (by omega), List.getElem_take]

/-- A Reader that has the bytes bs before it, in block g, and the error err. -/
structure RdS (w : World) (p h g : Nat) (bs : List UInt8) (err : Int) : Prop where
  st : ∃ ao cap, RdE w p h (.slice ao bs.length cap) err ∧ BsAt w g ao bs ∧ bs.length ≤ cap ∧ cap ≤ 140737488355328
  gh : g ≠ h
theorem RdS.chg {w w' : World} {p h g : Nat} {bs : List UInt8} {err : Int} {S : Nat → Prop} (H : RdS w p h g bs err) (k : Chg w w' S) (h1 : ¬ S p) (h2 : ¬ S h) (h3 : ¬ S g) : RdS w' p h g bs err := by
  obtain ⟨⟨ao, cap, hE, hB, hc, hm⟩, hg⟩ := H
  exact ⟨⟨ao, cap, hE.chg k h1 h2, hB.chg k h3, hc, hm⟩, hg⟩

set_option maxHeartbeats 400000 in
theorem rnew_any (ao : Option Addr) (len cap : Nat) (bs : List UInt8) (w : World) (hl : bs.length = len) (hm : len ≤ 140737488355328) (hb : Bs w ao bs) :
    Calls Tryz.prog 69 #[.slice ao len cap] w fun e w' => ∃ h, e = .returned (.pointer (some ⟨h + 1, 0, none⟩)) ∧ w.heap.size < h ∧ RdS w' (h + 1) h w.heap.size bs 0 ∧ Below w.heap.size w w' := by
  go_enter Tryz.func69, Tryz.ntmps69
  go_wp2_with fail
  refine (fresh_any ao len cap bs w hl hm hb).mono ?_
  rintro e w1 ⟨rfl, hO1, hb1⟩
  go_wp2
  go_ret
  have hsz : w.heap.size < w1.heap.size := (hO1.lt _ rfl).2
  have hbz := (hb1.alloc hb1.size (.cells #[.slice (some ⟨w.heap.size, 0, none⟩) len len, .int .i64 0] 162)).alloc (by simp; omega) (.cells #[.pointer (some ⟨w1.heap.size, 0, none⟩)] 164)
  refine ⟨w1.heap.size, rfl, hsz, ⟨⟨some ⟨w.heap.size, 0, none⟩, len, ⟨?_, ?_⟩, ?_, by omega, hm⟩, by omega⟩, hbz⟩
  · have := heap_alloc_new (w1.alloc (.cells #[.slice (some ⟨w.heap.size, 0, none⟩) len len, .int .i64 0] 162)) (.cells #[.pointer (some ⟨w1.heap.size, 0, none⟩)] 164)
    simpa using this
  · rw [Below.heap_alloc _ _ _ (by simp), hl]; exact heap_alloc_new w1 _
  · obtain ⟨ao', cap', hv, _, _, hB, _, _⟩ := Own.bs hO1
    simp only [Value.slice.injEq] at hv
    obtain ⟨rfl, _, _⟩ := hv
    rcases hB with hB | ⟨b, off, hB, hc⟩
    · exact .inl hB
    · cases hB
      exact .inr ⟨0, rfl, fun j hj => alloc_keep _ _ _ _ (alloc_keep _ _ _ _ (hc j hj))⟩

theorem rmade_any (p h : Nat) (v : Value) (err : Int) (w : World) (H : RdE w p h v err) :
    Calls Tryz.prog 117 #[.pointer (some ⟨p, 0, none⟩)] w fun e w' => e = .returned (.bool true) ∧ w' = w := by
  have c0 := cell_of_one H.hp
  go_enter Tryz.func117, Tryz.ntmps117
  go_wp2
  go_ret
  exact ⟨rfl, rfl⟩

set_option maxHeartbeats 400000 in
theorem rfail_any (p h : Nat) (v : Value) (err e0 : Int) (w : World) (H : RdE w p h v err) (h0 : err = 0) :
    Calls Tryz.prog 110 #[.pointer (some ⟨h, 0, none⟩), .int .i64 e0] w fun e w' => e = .returned (.tuple #[]) ∧ w' = w.setCell ⟨h, 1, none⟩ (.int .i64 e0) := by
  obtain ⟨c0, c1, f0, f1⟩ := cells2 H.hh
  subst h0
  go_enter Tryz.func110, Tryz.ntmps110
  go_wp2
  go_end0
  exact ⟨rfl, rfl⟩

set_option maxHeartbeats 400000 in
theorem take_bad (p h : Nat) (ao : Option Addr) (len cap : Nat) (err n : Int) (w : World) (H : RdE w p h (.slice ao len cap) err) (he : err ≠ 0) :
    Calls Tryz.prog 94 #[.pointer (some ⟨p, 0, none⟩), .int .i64 n] w fun e w' => e = .returned (.slice none 0 0) ∧ w' = w := by
  obtain ⟨c0, c1, f0, f1⟩ := cells2 H.hh
  have cp := cell_of_one H.hp
  have hne : (err != 0) = true := by simp [he]
  go_enter Tryz.func94, Tryz.ntmps94
  go_wp2_with (go_at_call 117; refine (rmade_any p h _ err w H).mono ?_; rintro e w' ⟨rfl, hw⟩; subst hw)
  go_ret
  exact ⟨rfl, rfl⟩

set_option maxHeartbeats 400000 in
theorem take_end (p h : Nat) (ao : Option Addr) (len cap : Nat) (n : Int) (w : World) (H : RdE w p h (.slice ao len cap) 0) (hn : (len : Int) < n) :
    Calls Tryz.prog 94 #[.pointer (some ⟨p, 0, none⟩), .int .i64 n] w fun e w' => e = .returned (.slice none 0 0) ∧ w' = w.setCell ⟨h, 1, none⟩ (.int .i64 20) := by
  obtain ⟨c0, c1, f0, f1⟩ := cells2 H.hh
  have cp := cell_of_one H.hp
  go_enter Tryz.func94, Tryz.ntmps94
  go_wp2_with (first | (go_at_call 117; refine (rmade_any p h _ 0 w H).mono ?_; rintro e w' ⟨rfl, hw⟩; subst hw) | (go_at_call 110; refine (rfail_any p h _ 0 20 _ H rfl).mono ?_; rintro e w' ⟨rfl, rfl⟩))
  go_ret
  exact ⟨rfl, rfl⟩

set_option maxHeartbeats 1000000 in
theorem take_ok (p h : Nat) (ao : Option Addr) (len cap n : Nat) (N : Int) (w : World) (hN : N = n) (H : RdE w p h (.slice ao len cap) 0) (hn : n ≤ len) (hc : len ≤ cap) :
    Calls Tryz.prog 94 #[.pointer (some ⟨p, 0, none⟩), .int .i64 N] w fun e w' => e = .returned (.slice ao n cap) ∧ RdE w' p h (.slice (if cap = n then ao else ao.map (fun a => a.add n)) (len - n) (cap - n)) 0 ∧ Chg w w' (fun k => k = h) := by
  subst hN
  obtain ⟨c0, c1, f0, f1⟩ := cells2 H.hh
  have cp := cell_of_one H.hp
  have i1 : (0 : Int) ≤ (n : Int) := by omega
  have i2 : (n : Int) ≤ (cap : Int) := by omega
  have i3 : (n : Int) ≤ (len : Int) := by omega
  go_enter Tryz.func94, Tryz.ntmps94
  have HC : ∀ (u : World) (v : Value), Chg u (u.setCell ⟨h, 0, none⟩ v).drew (fun k => k = h) := fun u v => (Chg.setCell u ⟨h, 0, none⟩ v).trans (Chg.drew _ _) (fun _ _ e => e)
  by_cases hcn : cap = n
  all_goals
    go_wp2_with (go_at_call 117; refine (rmade_any p h _ 0 w H).mono ?_; rintro e w' ⟨rfl, hw⟩; subst hw)
    go_region
    all_goals go_wp2
    all_goals go_ret
  all_goals exact ⟨rfl, ⟨(H.set0 _).hp, (H.set0 _).hh⟩, HC _ _⟩

/-- What take leaves of a Reader. -/
theorem RdS.took {w w' : World} {p h g n : Nat} {bs : List UInt8} {ao : Option Addr} {cap : Nat} (hB : BsAt w g ao bs) (hg : g ≠ h) (hn : n ≤ bs.length) (hc : bs.length ≤ cap) (hm : cap ≤ 140737488355328)
    (H : RdE w' p h (.slice (if cap = n then ao else ao.map (fun a => a.add n)) (bs.length - n) (cap - n)) 0) (k : Chg w w' (fun i => i = h)) : RdS w' p h g (bs.drop n) 0 :=
  ⟨⟨_, cap - n, by rw [List.length_drop]; exact H, (hB.from n cap hc).chg k hg, by rw [List.length_drop]; omega, by omega⟩, hg⟩

/-- What Done tells. -/
def doneOf (bs : List UInt8) (err : Int) : Int := if err ≠ 0 then err else if 0 < bs.length then 21 else 0
end Go.Proofs.YthmjejmignangaaGreatDoor
