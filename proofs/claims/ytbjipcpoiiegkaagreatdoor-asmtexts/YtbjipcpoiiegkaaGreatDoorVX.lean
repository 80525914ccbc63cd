/- What is printed is read again: plain facts. layer 2's helper 'Own': values in memory of their own. Parse of what Print wrote. -/
import Derived.Test.YtbjipcpoiiegkaaGreatDoorVG
import Derived.Test.YtbjipcpoiiegkaaGreatDoorVA
import Derived.Deep.AppendSrc
import Derived.Maps.AppendAt
import Derived.OwnWalk
namespace Go.Proofs.YtbjipcpoiiegkaaGreatDoor
open Go.Shelf
theorem parse_snoc : ∀ (l : List UInt8) (acc u : Nat) (d : Nat), Lib.parseUint10 acc l = .ok u → d < 10 → u * 10 + d < 18446744073709551616 → Lib.parseUint10 acc (l ++ [UInt8.ofNat (48 + d)]) = .ok (u * 10 + d)
  | [], acc, u, d, h, hd, hu => by
    simp only [Lib.parseUint10] at h
    injection h with h
    subst h
    have e : (UInt8.ofNat (48 + d)).toNat = 48 + d := by rw [UInt8.toNat_ofNat']; omega
    simp only [List.nil_append, Lib.parseUint10, e]
    rw [if_pos (by omega), if_neg (by omega), if_neg (by omega), show 48 + d - 48 = d by omega]
  | c :: r, acc, u, d, h, hd, hu => by
    rw [List.cons_append]
    rw [Lib.parseUint10] at h ⊢
    split at h
    · rename_i h1
      rw [if_pos h1]
      split at h
      · cases h
      · rename_i h2
        rw [if_neg h2]
        split at h
        · cases h
        · rename_i h3
          rw [if_neg h3]
          exact parse_snoc r _ u d h hd hu
    · cases h
theorem parse_digits : ∀ (n u : Nat), u ≤ n → u < 18446744073709551616 → Lib.parseUint10 0 (Lib.decDigits u) = .ok u
  | n, u, hn, hu => by
    by_cases h : u < 10
    · rw [Lib.decDigits, dif_pos h]
      have e : (UInt8.ofNat (48 + u)).toNat = 48 + u := by rw [UInt8.toNat_ofNat']; omega
      simp only [Lib.parseUint10, e]
      rw [if_pos (by omega), if_neg (by omega), if_neg (by omega)]
      congr 1
      omega
    · rw [Lib.decDigits, dif_neg h]
      cases n with
      | zero => omega
      | succ n =>
        have := parse_snoc _ 0 (u / 10) (u % 10) (parse_digits n (u / 10) (by omega) (by omega)) (by omega) (by omega)
        rw [this]
        congr 1
        omega
theorem digits_ne (u : Nat) : Lib.decDigits u ≠ [] := by
  rw [Lib.decDigits]
  split <;> simp
theorem digits_are : ∀ (n u : Nat), u ≤ n → ∀ c ∈ Lib.decDigits u, 48 ≤ c.toNat ∧ c.toNat ≤ 57
  | n, u, hn, c, hc => by
    rw [Lib.decDigits] at hc
    split at hc
    · rw [List.mem_singleton] at hc
      subst hc
      rw [UInt8.toNat_ofNat']
      omega
    · rcases List.mem_append.1 hc with hc | hc
      · cases n with
        | zero => omega
        | succ n => exact digits_are n (u / 10) (by omega) c hc
      · rw [List.mem_singleton] at hc
        subst hc
        rw [UInt8.toNat_ofNat']
        omega
theorem mag_digits (u : Nat) (hu : u < 18446744073709551616) : Lib.parseMag (Lib.decDigits u) = .ok u := by
  unfold Lib.parseMag
  rw [if_neg (digits_ne u)]
  exact parse_digits u u (Nat.le_refl _) hu
theorem atoi_itoa (n : Int) (h0 : -9223372036854775808 ≤ n) (h1 : n ≤ 9223372036854775807) : Lib.atoiAll (Lib.itoa n) = .ok n := by
  unfold Lib.itoa
  by_cases h : n < 0
  · rw [if_pos h, Lib.atoiAll_minus, mag_digits _ (by omega)]
    simp only [Lib.signed]
    rw [if_neg (by omega)]
    congr 1
    omega
  · rw [if_neg h]
    have hd := digits_are _ n.toNat (Nat.le_refl _)
    have hm := mag_digits n.toNat (by omega)
    generalize Lib.decDigits n.toNat = l at hd hm
    cases l with
    | nil => simp [Lib.parseMag] at hm
    | cons c r =>
      have := hd c (by simp)
      rw [Lib.atoiAll_plain c r (by omega) (by omega), hm]
      simp only [Lib.signless]
      rw [if_neg (by omega)]
      congr 1
      omega
/-- The first sign of a number's text. -/
theorem itoa_head (n : Int) : ∃ c r, Lib.itoa n = c :: r ∧ (c.toNat = 45 ∨ (48 ≤ c.toNat ∧ c.toNat ≤ 57)) ∧ ∀ x ∈ c :: r, x.toNat = 45 ∨ (48 ≤ x.toNat ∧ x.toNat ≤ 57) := by
  unfold Lib.itoa
  have hh : ∀ u, ∀ c ∈ Lib.decDigits u, 48 ≤ c.toNat ∧ c.toNat ≤ 57 := fun u => digits_are u u (Nat.le_refl _)
  by_cases h : n < 0
  · rw [if_pos h]
    refine ⟨45, _, rfl, .inl rfl, fun x hx => ?_⟩
    rcases List.mem_cons.1 hx with rfl | hx
    · exact .inl rfl
    · exact .inr (hh _ x hx)
  · rw [if_neg h]
    have hd := hh n.toNat
    have hn := digits_ne n.toNat
    generalize Lib.decDigits n.toNat = l at hd hn
    cases l with
    | nil => exact absurd rfl hn
    | cons c r => exact ⟨c, r, rfl, .inr (hd c (by simp)), fun x hx => .inr (hd x hx)⟩
theorem print_one (x : Val) (h : x.right = true) : printOf [x] = wordOf x := by
  simp [printOf, h, printList, Lib.join_one]
theorem dig_idx (k : Nat) (h : k < 16) : Lib.indexByte hexDigits (hexDigits.getD k 0) = k := by
  have : ∀ k : Fin 16, Lib.indexByte hexDigits (hexDigits.getD k.1 0) = k.1 := by decide +kernel
  exact this ⟨k, h⟩
theorem unhex_hex : ∀ s : List UInt8, unhex (s.flatMap hexOf) = some s
  | [] => rfl
  | c :: r => by
    have h0 := c.toNat_lt
    rw [List.flatMap_cons]
    show unhex (hexDigits.getD (c.toNat / 16) 0 :: hexDigits.getD (c.toNat % 16) 0 :: r.flatMap hexOf) = _
    rw [unhex, dig_idx _ (by omega), dig_idx _ (by omega), if_neg (by omega), unhex_hex r]
    simp only [Option.map_some, Int.toNat_natCast]
    rw [show 16 * (c.toNat / 16) + c.toNat % 16 = c.toNat by omega, UInt8.ofNat_toNat]
theorem suffix_last (l : List UInt8) : Lib.hasSuffix (l ++ [39]) [39] = true := by
  unfold Lib.hasSuffix
  simp
theorem trim_last (l : List UInt8) : Lib.trimSuffix (l ++ [39]) [39] = l := by
  unfold Lib.trimSuffix
  rw [if_pos (suffix_last l)]
  simp
theorem read_word (x : Val) (hr : x.right = true) (h0 : -9223372036854775808 ≤ x.n) (h1 : x.n ≤ 9223372036854775807) : readOf (wordOf x) = some x := by
  have hp := print_one x hr
  suffices hg : guessOf (wordOf x) = some x by
    unfold readOf
    rw [hg]
    simp only [Option.bind_some]
    rw [if_pos hp]
  obtain ⟨t, n, b⟩ := x
  simp only [Val.right] at hr
  by_cases e1 : t = 1
  · subst e1
    obtain rfl : b = [] := by simpa using hr
    simp only [wordOf, if_true]
    have ha := atoi_itoa n h0 h1
    obtain ⟨c, r, hc, hcc, _⟩ := itoa_head n
    unfold guessOf
    rw [if_neg (fun e => by rw [hc] at e; simp [wTrue] at e; obtain ⟨rfl, _⟩ := e; simp at hcc), if_neg (fun e => by rw [hc] at e; simp [wFalse] at e; obtain ⟨rfl, _⟩ := e; simp at hcc)]
    rw [if_neg (by
      rw [hc]
      unfold Lib.hasPrefix
      simp only [List.isPrefixOf]
      by_cases h : (120 : UInt8) = c
      · subst h; simp at hcc
      · simp [h]), ha]
  · rw [if_neg e1] at hr
    by_cases e2 : t = 2
    · subst e2
      simp only [if_true, Bool.and_eq_true, decide_eq_true_eq] at hr
      obtain ⟨rfl, hb⟩ := hr
      simp only [wordOf, if_true]
      rw [if_neg (by decide)]
      unfold guessOf hexWord
      have hd : ([120, 39] ++ b.flatMap hexOf ++ [39]).drop 2 = b.flatMap hexOf ++ [39] := by simp
      rw [if_neg (by simp [wTrue]), if_neg (by simp [wFalse]), if_pos (by simp [Lib.hasPrefix, List.isPrefixOf]), hd]
      unfold readB
      rw [suffix_last, trim_last, unhex_hex]
      have := hex_length b
      simp [this]
    · rw [if_neg e2] at hr
      by_cases e3 : t = 3
      · subst e3
        simp only [if_true, Bool.and_eq_true, Bool.or_eq_true, decide_eq_true_eq] at hr
        obtain ⟨rfl | rfl, rfl⟩ := hr <;> rfl
      · rw [if_neg e3] at hr
        cases hr
theorem idx_none : ∀ l : List UInt8, (∀ c ∈ l, c ≠ 32) → Lib.indexByte l 32 = -1
  | [], _ => rfl
  | c :: r, h => by
    have h1 : (c == 32) = false := by simpa using h c (by simp)
    rw [Lib.indexByte, h1, idx_none r fun x hx => h x (by simp [hx])]
    rfl
theorem idx_at : ∀ (l r : List UInt8), (∀ c ∈ l, c ≠ 32) → Lib.indexByte (l ++ 32 :: r) 32 = l.length
  | [], r, _ => rfl
  | c :: l, r, h => by
    have h1 : (c == 32) = false := by simpa using h c (by simp)
    have h2 := idx_at l r fun x hx => h x (by simp [hx])
    rw [List.cons_append, Lib.indexByte, h1, h2]
    rw [if_neg (by simp), if_neg (by simp)]
    simp
theorem pieces_join : ∀ (l : List (List UInt8)), l ≠ [] → (∀ x ∈ l, ∀ c ∈ x, c ≠ 32) → pieces (Lib.join l [32]) = l
  | [], h, _ => absurd rfl h
  | [x], _, h => by
    rw [Lib.join_one, pieces_none (idx_none x (h x (by simp)))]
  | x :: y :: r, _, h => by
    have e : Lib.join (x :: y :: r) [32] = x ++ 32 :: Lib.join (y :: r) [32] := by
      simp [Lib.join, List.intercalate, List.intersperse]
    rw [e, pieces_some (idx_at x _ (h x (by simp)))]
    have h2 := pieces_join (y :: r) (by simp) fun z hz => h z (by simp [hz])
    simp [h2]
theorem hexOf_no (c : UInt8) : ∀ x ∈ hexOf c, x ≠ 32 := by
  have : ∀ k : Fin 16, hexDigits.getD k.1 0 ≠ 32 := by decide
  intro x hx
  have h0 := c.toNat_lt
  simp only [hexOf, List.mem_cons, List.not_mem_nil, or_false] at hx
  rcases hx with rfl | rfl
  · exact this ⟨c.toNat / 16, by omega⟩
  · exact this ⟨c.toNat % 16, by omega⟩
theorem word_no (x : Val) : ∀ c ∈ wordOf x, c ≠ 32 := by
  intro c hc
  unfold wordOf at hc
  split at hc
  · obtain ⟨d, r, e, _, hall⟩ := itoa_head x.n
    rw [e] at hc
    have := hall c hc
    rintro rfl
    simp at this
  split at hc
  · unfold hexWord at hc
    simp only [List.mem_append, List.mem_cons, List.not_mem_nil, or_false, List.mem_flatMap] at hc
    rcases hc with ((rfl | rfl) | ⟨y, _, hy⟩) | rfl
    · decide
    · decide
    · exact hexOf_no y c hy
    · decide
  split at hc
  · simp at hc
    rcases hc with rfl | rfl | rfl | rfl <;> decide
  · simp at hc
    rcases hc with rfl | rfl | rfl | rfl | rfl <;> decide
theorem word_ne (x : Val) : wordOf x ≠ [] := by
  unfold wordOf
  split
  · obtain ⟨c, r, e, _⟩ := itoa_head x.n
    rw [e]
    simp
  split
  · simp [hexWord]
  split <;> simp
theorem pieces_print (L : List Val) (h : L ≠ []) : pieces (printList L) = L.map wordOf :=
  pieces_join _ (by simpa using h) fun x hx => by
    obtain ⟨y, _, rfl⟩ := List.mem_map.1 hx
    exact word_no y
theorem print_ne (L : List Val) (h : L ≠ []) : printList L ≠ [] := by
  cases L with
  | nil => exact absurd rfl h
  | cons x r =>
    intro e
    have h1 := pieces_print (x :: r) (by simp)
    rw [e, pieces_none (show Lib.indexByte [] 32 = -1 from rfl)] at h1
    simp only [List.map_cons, List.cons.injEq] at h1
    exact word_ne x h1.1.symm
theorem join_len (l : List (List UInt8)) (B : Nat) (h : ∀ x ∈ l, x.length ≤ B) : (Lib.join l [32]).length ≤ l.length * (B + 1) := by
  match l, h with
  | [], _ => simp [Lib.join_nil]
  | [x], h => rw [Lib.join_one]; have := h x (by simp); simp; omega
  | x :: y :: r, h =>
    have e : Lib.join (x :: y :: r) [32] = x ++ 32 :: Lib.join (y :: r) [32] := by
      simp [Lib.join, List.intercalate, List.intersperse]
    have h1 := h x (by simp)
    have h2 := join_len (y :: r) B fun z hz => h z (by simp [hz])
    rw [e]
    simp only [List.length_append, List.length_cons] at h2 ⊢
    rw [Nat.add_mul] at h2 ⊢
    rw [Nat.add_mul]
    omega
end Go.Proofs.YtbjipcpoiiegkaaGreatDoor
namespace Go.Proofs.YtbjipcpoiiegkaaGreatDoor
open Go.RowKit

/-- Values as cells. -/
def cellsL (L : List Val) : List Value := L.flatMap fun x => [.int .i64 x.t, .int .i64 x.n, .string ⟨x.b.toArray⟩]
theorem cellsL_len (L : List Val) : (cellsL L).length = L.length * 3 := by
  induction L with
  | nil => rfl
  | cons x L ih => simp [cellsL] at ih ⊢; omega
theorem cellsL_at (L : List Val) : ∀ j (hj : j < L.length), (cellsL L)[j * 3]? = some (.int .i64 L[j].t) ∧ (cellsL L)[j * 3 + 1]? = some (.int .i64 L[j].n) ∧ (cellsL L)[j * 3 + 2]? = some (.string ⟨L[j].b.toArray⟩) := by
  induction L with
  | nil => intro j hj; simp at hj
  | cons x L ih =>
    intro j hj
    have e : cellsL (x :: L) = .int .i64 x.t :: .int .i64 x.n :: .string ⟨x.b.toArray⟩ :: cellsL L := by simp [cellsL]
    rw [e]
    cases j with
    | zero => exact ⟨rfl, rfl, rfl⟩
    | succ j =>
      have := ih j (by simpa using hj)
      rw [show (j + 1) * 3 = j * 3 + 1 + 1 + 1 by omega]
      simpa using this
theorem cellsL_get {w : World} {b off : Nat} {L : List Val} (hc : ∀ j (h : j < L.length), w.cell? ⟨b, off + j * 3, none⟩ = some (.int .i64 L[j].t) ∧ w.cell? ⟨b, off + j * 3 + 1, none⟩ = some (.int .i64 L[j].n) ∧ w.cell? ⟨b, off + j * 3 + 2, none⟩ = some (.string ⟨L[j].b.toArray⟩)) :
    ∀ j u, (cellsL L)[j]? = some u → w.cell? ((⟨b, off, none⟩ : Addr).add j) = some u := by
  intro i u hu
  have hi : i < (cellsL L).length := (List.getElem?_eq_some_iff.1 hu).1
  rw [cellsL_len] at hi
  have hj : i / 3 < L.length := by omega
  obtain ⟨h0, h1, h2⟩ := hc _ hj
  obtain ⟨g0, g1, g2⟩ := cellsL_at L _ hj
  rw [Addr.add_lit]
  have : i % 3 = 0 ∨ i % 3 = 1 ∨ i % 3 = 2 := by omega
  rcases this with h | h | h
  · have e : i = i / 3 * 3 := by omega
    rw [e] at hu ⊢
    rw [g0] at hu
    rw [← hu]; exact h0
  · have e : i = i / 3 * 3 + 1 := by omega
    rw [e] at hu ⊢
    rw [g1] at hu
    rw [← hu]; exact h1
  · have e : i = i / 3 * 3 + 2 := by omega
    rw [e] at hu ⊢
    rw [g2] at hu
    rw [← hu]; exact h2
theorem cellsL_one (L : List Val) : ∀ u ∈ cellsL L, u.oneCell' = true := by
  intro u hu
  simp only [cellsL, List.mem_flatMap] at hu
  obtain ⟨x, _, hx⟩ := hu
  simp at hx
  rcases hx with rfl | rfl | rfl <;> rfl
theorem vs_of_row {w : World} {base n : Nat} {v : Value} {L : List Val} (h : w.ownsRow base 54 3 v n (cellsL L)) (hn : L.length = n) : ∃ a c, v = .slice a n c ∧ Vs w a L := by
  rcases h.2 with ⟨rfl, h0⟩ | ⟨g, cap, cur, rfl, hg, hh, r⟩
  · subst h0
    exact ⟨none, 0, rfl, .inl (by simpa using hn)⟩
  · refine ⟨_, _, rfl, .inr ⟨g, 0, rfl, fun j hj => ?_⟩⟩
    have hc := World.ownsRow.cells h (g := g) rfl
    obtain ⟨g0, g1, g2⟩ := cellsL_at L j hj
    have c0 := hc _ _ g0
    have c1 := hc _ _ g1
    have c2 := hc _ _ g2
    rw [Addr.add_lit] at c0 c1 c2
    exact ⟨c0, c1, c2⟩
theorem wpList_app_run {P : Program} {w : World} {ops : Array Oper} {rest : List Oper} {o : Oper} {a : Act} {Q : Exit → Act → World → Prop} (hgd : o.guard = none) (s x : Operand) (t tx : TypeId) (ho : o.op = .call { callee := .builtin .append, args := #[s, x], argTypes := #[t, tx] })
    (v y v' : Value) (w' : World) (hv : a.eval s = v) (hy : a.eval x = y) (hr : (Builtin.append_ #[t, tx] o.type #[v, y]).run P w = .ok v' w') (h : wpList P ops Q rest (a.put o.dst v') w') : wpList P ops Q (o :: rest) a w := by
  refine wpList_plain hgd fun K hK => ?_
  unfold Oper.wp execOp
  simp only [ho, resolve, invoke, builtin, Sem.run_bind, Sem.run_pure, Result.andThen_ok, List.map_toArray, List.map_cons, List.map_nil, hv, hy, hr]
  exact hK _ _ h
theorem val_info : (Tryz.prog.info? 54).map (fun i => (i.zero, i.size, i.bytes)) = some (some (.agg #[.int .i64 0, .int .i64 0, .string ⟨#[]⟩]), 3, 32) := by kernel_rfl
end Go.Proofs.YtbjipcpoiiegkaaGreatDoor
namespace Go.Proofs.YtbjipcpoiiegkaaGreatDoor
open Go.RowKit Go.Shelf
attribute [local go_sem high] eq_val eq_val0
theorem cells_same (L : List Val) : cellsOf' L = cellsL L := by
  induction L with
  | nil => rfl
  | cons x r ih =>
    simp only [cellsOf', cellsL, List.flatMap_cons] at ih ⊢
    rw [ih]
    rfl
set_option maxRecDepth 100000 in
set_option maxHeartbeats 1000000 in
theorem parse_none (w : World) : Calls Tryz.prog 53 #[.string ⟨#[]⟩] w fun e w' => e = .returned (.tuple #[.slice none 0 0, .int .i64 0]) ∧ Below w.heap.size w w' := by
  go_enter Tryz.func53, Tryz.ntmps53
  go_wp2
  have bR := Boxed.new w 82 (.slice none 0 0)
  have bE := Boxed.new (w.alloc (.cells #[.slice none 0 0] 82)) 83 (.int .i64 0)
  simp only [World.size_alloc] at bE
  refine bodyPost_ret (results_cells rfl _ _ _ _ _ _ _ rfl rfl (load_slice (bR.alloc _).cell) (load_errno bE.cell)) rfl ⟨rfl, ?_⟩
  exact ((Below.refl _ w).alloc (Nat.le_refl _) _).alloc (by simp) _
/-- Parse of a text that Print wrote. -/
theorem parse_print (L : List Val) (hl : L.length ≤ 255) (hR : L.all Val.right = true) (hG : Good L) (hb : ∀ x ∈ L, x.b.length ≤ 256) (w : World) (hL : Laid w) : Calls Tryz.prog 53 #[.string ⟨(printOf L).toArray⟩] w fun e w' => ∃ ad cap, e = .returned (.tuple #[.slice ad L.length cap, .int .i64 0]) ∧ Vs w' ad L ∧ Below w.heap.size w w' := by
  have hp : printOf L = printList L := by simp [printOf, hR]
  rw [hp]
  by_cases h0 : L = []
  · subst h0
    refine (parse_none w).mono ?_
    rintro e w' ⟨rfl, hb'⟩
    exact ⟨none, 0, rfl, .inl rfl, hb'⟩
  have hlen : (printList L).length ≤ 1048576 := by
    have := join_len (L.map wordOf) 600 fun x hx => by
      obtain ⟨y, hy, rfl⟩ := List.mem_map.1 hx
      have h1 := hb y hy
      obtain ⟨h2, h3, h4⟩ := hG y hy
      unfold wordOf
      split
      · have := Lib.itoa_length_le y.n h3 h4; omega
      split
      · rw [hex_len]; omega
      split <;> simp
    simp only [List.length_map] at this
    unfold printList
    omega
  refine (parse_all (printList L) w hL (print_ne L h0) hlen).mono ?_
  have hread : ∀ x ∈ L, readOf (wordOf x) = some x := fun x hx => read_word x (List.all_eq_true.1 hR x hx) (hG x hx).2.1 (hG x hx).2.2
  have hvals : valsOf readOf (L.map wordOf) = L := by
    unfold valsOf
    rw [List.map_map]
    conv => rhs; rw [← List.map_id L]
    exact List.map_congr_left fun x hx => by simp [hread x hx]
  rintro e w' ⟨hbl, ⟨_, v, rfl, hrow⟩ | ⟨⟨x, hx, hn⟩, _⟩⟩
  · rw [pieces_print L h0, hvals, List.length_map, cells_same] at hrow
    obtain ⟨ad, cap, rfl, hV⟩ := vs_of_row hrow rfl
    exact ⟨ad, cap, rfl, hV, hbl⟩
  · rw [pieces_print L h0] at hx
    obtain ⟨y, hy, rfl⟩ := List.mem_map.1 hx
    rw [hread y hy] at hn
    cases hn
end Go.Proofs.YtbjipcpoiiegkaaGreatDoor
