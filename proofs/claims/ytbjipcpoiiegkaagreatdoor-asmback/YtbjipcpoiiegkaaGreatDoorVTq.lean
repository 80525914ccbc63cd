/- The document's Parse. -/
import Derived.Test.YtbjipcpoiiegkaaGreatDoorVZ
import Derived.Test.YtbjipcpoiiegkaaGreatDoorVX
namespace Go.Proofs.YtbjipcpoiiegkaaGreatDoor
open Go.RowKit Go.Shelf
attribute [local go_sem high] eq_val eq_val0
/-- How far Parse is: some pieces are done, and a piece is begun, or all are done. -/
def PSt (s : List UInt8) (done : List (List UInt8)) (f i : Nat) : Prop :=
  (i ≤ s.length ∧ ∃ p, pieces s = done ++ pieces (p ++ s.drop i) ∧ s.drop f = p ++ s.drop i ∧ p.length + f = i ∧ ∀ c ∈ p, c ≠ 32) ∨ (i = s.length + 1 ∧ pieces s = done)
theorem PSt.start (s : List UInt8) : PSt s [] 0 0 := .inl ⟨Nat.zero_le _, [], by simp, by simp, rfl, by simp⟩
theorem PSt.next {s : List UInt8} {done : List (List UInt8)} {f i : Nat} (h : PSt s done f i) (hi : i < s.length) (hc : s[i] ≠ 32) : PSt s done f (i + 1) := by
  rcases h with ⟨_, p, h1, h2, h3, h4⟩ | ⟨h, _⟩
  · have e : s.drop i = s[i] :: s.drop (i + 1) := List.drop_eq_getElem_cons hi
    refine .inl ⟨hi, p ++ [s[i]], ?_, ?_, by simp; omega, ?_⟩
    · rw [h1, e]; simp
    · rw [h2, e]; simp
    · intro c hcm
      rcases List.mem_append.1 hcm with h | h
      · exact h4 c h
      · simp at h; rw [h]; exact hc
  · omega
/-- The piece that ends here. -/
theorem PSt.cut {s : List UInt8} {done : List (List UInt8)} {f i : Nat} (h : PSt s done f i) (hi : i ≤ s.length) (hc : ∀ (h : i < s.length), s[i] = 32) : ∃ p : List UInt8, (⟨s.toArray⟩ : ByteArray).extract f i = ⟨p.toArray⟩ ∧ f ≤ i ∧ p.length ≤ s.length ∧ p ∈ pieces s ∧ PSt s (done ++ [p]) (i + 1) (i + 1) := by
  rcases h with ⟨_, p, h1, h2, h3, h4⟩ | ⟨h, _⟩
  · refine ⟨p, ?_, by omega, by omega, ?_⟩
    · apply ByteArray.ext
      rw [ByteArray.data_extract]
      have : (s.drop f).take (i - f) = p := by rw [h2, List.take_left' (by omega)]
      rw [← this]
      simp
    · by_cases hlt : i < s.length
      · have e : s.drop i = 32 :: s.drop (i + 1) := by rw [List.drop_eq_getElem_cons hlt, hc hlt]
        have hp : pieces (p ++ s.drop i) = p :: pieces (s.drop (i + 1)) := by
          rw [e, pieces_some (idx_at p _ h4)]
          simp
        rw [hp] at h1
        refine ⟨by rw [h1]; simp, .inl ⟨hlt, [], by rw [h1]; simp, by simp, by simp, by simp⟩⟩
      · have e : s.drop i = [] := List.drop_of_length_le (by omega)
        have hp : pieces (p ++ s.drop i) = [p] := by
          rw [e, List.append_nil, pieces_none (idx_none p h4)]
        rw [hp] at h1
        exact ⟨by rw [h1]; simp, .inr ⟨by omega, h1⟩⟩
  · omega
theorem PSt.done {s : List UInt8} {done : List (List UInt8)} {f i : Nat} (h : PSt s done f i) (hi : s.length < i) : pieces s = done := by
  rcases h with ⟨h, _⟩ | ⟨_, h⟩
  · omega
  · exact h
theorem PSt.le {s : List UInt8} {done : List (List UInt8)} {f i : Nat} (h : PSt s done f i) : i ≤ s.length + 1 := by
  rcases h with ⟨h, _⟩ | ⟨h, _⟩ <;> omega
theorem PSt.len {s : List UInt8} {done : List (List UInt8)} {f i : Nat} (h : PSt s done f i) : done.length ≤ s.length + 1 := by
  have := pieces_length _ s (Nat.le_refl _)
  rcases h with ⟨_, p, h, _⟩ | ⟨_, h⟩
  · rw [h, List.length_append] at this; omega
  · rw [h] at this; omega
theorem new3q (W : World) (t n : Int) (b : List UInt8) (B : Nat) (hB : W.heap.size = B) : ∀ j u, [Value.int .i64 t, .int .i64 n, .string ⟨b.toArray⟩][j]? = some u → (W.alloc (.cells #[.int .i64 t, .int .i64 n, .string ⟨b.toArray⟩] 54)).cell? ((⟨B, 0, none⟩ : Addr).add j) = some u := by
  subst hB
  exact cells_new W [.int .i64 t, .int .i64 n, .string ⟨b.toArray⟩] 54
end Go.Proofs.YtbjipcpoiiegkaaGreatDoor
