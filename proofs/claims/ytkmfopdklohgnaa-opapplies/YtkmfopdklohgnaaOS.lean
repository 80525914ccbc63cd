/- The document's In, Out, Takes, Find, Plain; layer 3's helper 'Ints'. -/
import Derived.Test.YtkmfopdklohgnaaOR
import Derived.Test.YtkmfopdklohgnaaOK
namespace Go.Proofs.Ytkmfopdklohgnaa
open Go.RowKit
attribute [local go_sem high] eq_val eq_val0
theorem rplain_any (n : Int) (w : World) : Calls Try.prog 15 #[.int .i64 n] w fun e w' => e = .returned (.bool (plainB n)) ∧ w' = w := by
  by_cases h3 : n = 3
  · subst h3
    go_enter Try.func15, Try.ntmps15
    go_wp2
    go_ret
    exact ⟨rfl, rfl⟩
  by_cases h4 : n = 4
  · subst h4
    go_enter Try.func15, Try.ntmps15
    go_wp2
    go_ret
    exact ⟨rfl, rfl⟩
  have e3 : (n == 3) = false := by simp [h3]
  have e4 : (n == 4) = false := by simp [h4]
  by_cases h11 : 11 ≤ n
  · by_cases h40 : n ≤ 40
    · have : plainB n = true := by simp [plainB]; omega
      rw [this]
      go_enter Try.func15, Try.ntmps15
      go_wp2
      go_ret
      exact ⟨by first | rfl | simp [h40], rfl⟩
    · have : plainB n = false := by simp [plainB]; omega
      rw [this]
      go_enter Try.func15, Try.ntmps15
      go_wp2
      go_ret
      exact ⟨by first | rfl | simp [h40], rfl⟩
  · have : plainB n = false := by simp [plainB]; omega
    rw [this]
    go_enter Try.func15, Try.ntmps15
    go_wp2
    go_ret
    exact ⟨by first | rfl | simp, rfl⟩
theorem ints_of_row {w : World} {base n : Nat} {v : Value} {T : List Int} (h : w.ownsRow base 3 1 v n (T.map fun x => Value.int .i64 x)) (hn : T.length = n) : ∃ a c, v = .slice a n c ∧ IntsAt w a T := by
  rcases h.2 with ⟨rfl, h0⟩ | ⟨g, cap, cur, rfl, hg, hh, r⟩
  · subst h0
    exact ⟨none, 0, rfl, .inl (by simpa using hn)⟩
  · refine ⟨_, _, rfl, .inr ⟨g, 0, rfl, fun j hj => ?_⟩⟩
    have hc := World.ownsRow.cells h (g := g) rfl j (Value.int .i64 T[j]) (by simp [hj])
    rw [Addr.add_lit] at hc
    exact hc
set_option maxHeartbeats 1000000 in
theorem list_any (s : List UInt8) (w : World) (hs : s.length ≤ 10) : Calls Try.prog 29 #[.string ⟨s.toArray⟩] w fun e w' => ∃ a c, e = .returned (.slice a s.length c) ∧ IntsAt w' a (s.map fun x => ((x.toNat : Int) - 48) % 256) ∧ Below w.heap.size w w' := by
  obtain ⟨i0, hi, hz0, hz1, hz2⟩ := info_parts (show (Try.prog.info? 3).map (fun i => (i.zero, i.size, i.bytes)) = some (some (.int .i64 0), 1, 8) by kernel_rfl)
  go_enter Try.func29, Try.ntmps29
  go_wp2
  go_loopw [3, 4] (fun v i wr => ∃ k : Nat, k ≤ s.length ∧ i = .int .i64 k ∧ wr.ownsRow w.heap.size 3 1 v k ((s.take k).map fun x => .int .i64 (((x.toNat : Int) - 48) % 256)) ∧ Below w.heap.size w wr) (fun _ i _ => s.length - (intOf i).toNat)
  case atStart => exact ⟨0, Nat.zero_le _, rfl, ⟨rfl, .inl ⟨rfl, rfl⟩⟩, Below.refl _ _⟩
  case round =>
    obtain ⟨k, hk, rfl, hown, hb⟩ := hrel
    by_cases hlt : k < s.length
    · have e0 : (⟨s.toArray⟩ : ByteArray)[k]'(by show k < s.toArray.size; simpa using hlt) = s[k] := by simp [ByteArray.getElem_eq_getElem_data]
      have HS : Hid ((s.take (k + 1)).map (fun x => Value.int .i64 (((x.toNat : Int) - 48) % 256)) = (s.take k).map (fun x => Value.int .i64 (((x.toNat : Int) - 48) % 256)) ++ [.int .i64 (((s[k].toNat : Int) - 48) % 256)]) := hidV (by
        rw [List.take_succ_eq_append_getElem hlt, List.map_append]; rfl)
      generalize s[k] = x at *
      have hx0 : 0 ≤ ((x.toNat : Int) - 48) % 256 := by omega
      have hx1 : ((x.toNat : Int) - 48) % 256 ≤ 255 := by omega
      generalize (s.take k).map (fun x => Value.int .i64 (((x.toNat : Int) - 48) % 256)) = xs at *
      go_wp2_with (at_builtin; refine wpList_append_own_at _ rfl _ _ 35 rfl w.heap.size 3 i0 (.int .i64 0) 1 8 Try.underlying35 hi hz0 hz1 hz2 rfl (by decide) u3 k xs rfl (hown.alloc _) ⟨wr.heap.size, 0, none⟩ 1 1 [.int .i64 (((x.toNat : Int) - 48) % 256)] rfl rfl (cell_one_new _ _ _) (by simp [Value.oneCell']) (by unfold maxLen; omega) (by omega) (by have := hb.size; simp; omega) ?_; intro v' w2 hown' hgrow _ _)
      have hb2 : Below w.heap.size w w2 := (hb.alloc hb.size _).grown hgrow (by have := hb.size; simp; omega) (fun k hk => (hown.lt k hk).1)
      rw [← HS.out] at hown'
      go_roundw
      case rel => exact ⟨k + 1, by omega, by go_num, hown', hb2⟩
      case measure => simp [intOf]; omega
    · obtain rfl : k = s.length := by omega
      rw [List.take_length] at hown
      have hE := ints_of_row (T := s.map fun x => ((x.toNat : Int) - 48) % 256) (by rw [List.map_map]; exact hown) (by simp)
      obtain ⟨a3, c3, rfl, hI⟩ := hE
      go_wp2
      go_ret
      exact ⟨_, _, rfl, hI, hb⟩
end Go.Proofs.Ytkmfopdklohgnaa
