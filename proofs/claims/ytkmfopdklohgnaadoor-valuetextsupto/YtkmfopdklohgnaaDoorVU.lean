/- value.readBytes. -/
import Derived.Test.YtkmfopdklohgnaaDoorVT
namespace Go.Proofs.YtkmfopdklohgnaaDoor
open Go.RowKit Go.Shelf
attribute [local go_sem high] eq_val eq_val0
theorem wrap_small (x : Int) (h0 : 0 ≤ x) (h1 : x ≤ 9223372036854775807) : IntKind.i64.wrap x = x := by
  rw [IntKind.wrap_i64]; omega
theorem zero_back {W : World} {b : Nat} (h : Boxed3 W b) : ValAt (((W.setCell ⟨b, 0, none⟩ (.int .i64 0)).setCell ⟨b, 1, none⟩ (.int .i64 0)).setCell ⟨b, 2, none⟩ (.string ⟨#[]⟩)).drew b ⟨0, 0, []⟩ := by
  have hh : (((W.setCell ⟨b, 0, none⟩ (.int .i64 0)).setCell ⟨b, 1, none⟩ (.int .i64 0)).setCell ⟨b, 2, none⟩ (.string ⟨#[]⟩)).drew.heap[b]? = some (.cells #[.int .i64 0, .int .i64 0, .string ⟨#[]⟩] 39 (0, 0)) := by
    show (((W.setCell ⟨b, 0, none⟩ (.int .i64 0)).setCell ⟨b, 1, none⟩ (.int .i64 0)).setCell ⟨b, 2, none⟩ (.string ⟨#[]⟩)).heap[b]? = _
    simp [World.setCell, Array.getElem?_modify, show W.heap[b]? = _ from h, Val.box]
  exact ⟨by rw [Lib.cell_of_heap hh]; rfl, by rw [Lib.cell_of_heap hh]; rfl, by rw [Lib.cell_of_heap hh]; rfl⟩
theorem set_box {W : World} {b : Nat} (h : Boxed3 W b) (x : Val) : ValAt (((W.setCell ⟨b, 0, none⟩ (.int .i64 x.t)).setCell ⟨b, 1, none⟩ (.int .i64 x.n)).setCell ⟨b, 2, none⟩ (.string ⟨x.b.toArray⟩)) b x := by
  have hh : (((W.setCell ⟨b, 0, none⟩ (.int .i64 x.t)).setCell ⟨b, 1, none⟩ (.int .i64 x.n)).setCell ⟨b, 2, none⟩ (.string ⟨x.b.toArray⟩)).heap[b]? = some (.cells #[.int .i64 x.t, .int .i64 x.n, .string ⟨x.b.toArray⟩] 39 (0, 0)) := by
    simp [World.setCell, Array.getElem?_modify, show W.heap[b]? = _ from h, Val.box]
  exact ⟨by rw [Lib.cell_of_heap hh]; rfl, by rw [Lib.cell_of_heap hh]; rfl, by rw [Lib.cell_of_heap hh]; rfl⟩
theorem below3b {w W : World} {u v x : Value} (h : Below w.heap.size w W) : Below w.heap.size w (((W.setCell ⟨w.heap.size, 0, none⟩ u).setCell ⟨w.heap.size, 1, none⟩ v).setCell ⟨w.heap.size, 2, none⟩ x).drew :=
  (((h.setCell (p := ⟨w.heap.size, 0, none⟩) (Nat.le_refl _) _).setCell (p := ⟨w.heap.size, 1, none⟩) (Nat.le_refl _) _).setCell (p := ⟨w.heap.size, 2, none⟩) (Nat.le_refl _) _).drew
theorem idx_below (l : List UInt8) (x : UInt8) : Lib.indexByte l x < l.length := by
  induction l with
  | nil => simp [Lib.indexByte]
  | cons a l ih =>
    simp only [Lib.indexByte, List.length_cons]
    split
    · omega
    · split <;> omega
theorem digit_is (x : UInt8) : Lib.indexByte hexDigits x = -1 ∨ ∃ h : Nat, h < 16 ∧ Lib.indexByte hexDigits x = h := by
  have H : ∀ x : UInt8, Lib.indexByte hexDigits x = -1 ∨ (0 ≤ Lib.indexByte hexDigits x ∧ Lib.indexByte hexDigits x < 16) := by
    intro x
    have g := Lib.indexByte_ge hexDigits x
    have l : Lib.indexByte hexDigits x < 16 := idx_below hexDigits x
    omega
  rcases H x with h | h
  · exact .inl h
  · exact .inr ⟨(Lib.indexByte hexDigits x).toNat, by omega, by omega⟩
theorem or_hex (h l : Nat) (hh : h < 16) (hl : l < 16) : bits .or .i64 (wrap64 ((h : Int) * 16)) (l : Int) % 256 = ((16 * h + l : Nat) : Int) := by
  have H : ((List.range 16).all fun a => (List.range 16).all fun b => bits .or .i64 (wrap64 ((a : Int) * 16)) (b : Int) % 256 == ((16 * a + b : Nat) : Int)) = true := by kernel_rfl
  rw [List.all_eq_true] at H
  have H1 := H h (by simpa using hh)
  rw [List.all_eq_true] at H1
  simpa using H1 l (by simpa using hl)
theorem unhex_cons {t : List UInt8} {k : Nat} (h : 2 * k + 1 < t.length) : unhex (t.drop (2 * k)) = if Lib.indexByte hexDigits t[2 * k] < 0 ∨ Lib.indexByte hexDigits t[2 * k + 1] < 0 then none else (unhex (t.drop (2 * (k + 1)))).map (UInt8.ofNat (16 * (Lib.indexByte hexDigits t[2 * k]).toNat + (Lib.indexByte hexDigits t[2 * k + 1]).toNat) :: ·) := by
  rw [List.drop_eq_getElem_cons (by omega), List.drop_eq_getElem_cons h, unhex, show 2 * (k + 1) = 2 * k + 1 + 1 by omega]

set_option maxRecDepth 100000 in
set_option maxHeartbeats 2000000 in
theorem readBytes_any (s : List UInt8) (hs : s.length ≤ 1048576) (w : World) : Calls Tryd.prog 41 #[.string ⟨s.toArray⟩] w (ReadEnd (readB s) w) := by
  have hC : ∀ W, Calls Tryd.prog 51 #[.string ⟨s.toArray⟩, .string ⟨#[39]⟩] W fun e w' => e = .returned (.tuple #[.string ⟨(Lib.trimSuffix s [39]).toArray⟩, .bool (Lib.hasSuffix s [39])]) ∧ w' = W := fun W => Tryd.strings_CutSuffix ⟨s.toArray⟩ ⟨#[39]⟩ W (by show s.toArray.size ≤ _; simp; omega)
  have hT : (Lib.trimSuffix s [39]).length ≤ s.length := by
    unfold Lib.trimSuffix
    split <;> simp
  obtain ⟨r, hr⟩ : ∃ r, r = readB s := ⟨_, rfl⟩
  rw [← hr]
  unfold readB at hr
  generalize Lib.trimSuffix s [39] = t at *
  generalize Lib.hasSuffix s [39] = ok at *
  have hz : ValAt (w.alloc (Val.box ⟨0, 0, []⟩)) w.heap.size ⟨0, 0, []⟩ := val_new w _
  cases ok with
  | false =>
    have hr' : r = none := by rw [hr]; rfl
    subst hr'
    clear hr
    go_enter Tryd.func41, Tryd.ntmps41
    go_wp2_with (go_at_call 51; refine (hC _).mono ?_; rintro e w' ⟨rfl, rfl⟩)
    exact ret_read rfl rfl rfl rfl hz ⟨rfl, (Below.refl _ w).alloc (Nat.le_refl _) _⟩
  | true =>
    by_cases hm : t.length % 2 = 0
    · obtain ⟨m, hm⟩ : ∃ m, t.length = 2 * m := ⟨t.length / 2, by omega⟩
      have hr' : r = (unhex t).map (⟨2, 0, ·⟩) := by rw [hr]; simp [show t.length % 2 = 0 by omega]
      clear hr
      have hmod : ((t.length : Int) % 2 != 0) = false := by simp; omega
      have hdiv : (t.length : Int) / 2 = m := by omega
      obtain ⟨i0, hi, hz0, hz1, hz2⟩ := info_parts (show (Tryd.prog.info? 5).map (fun i => (i.zero, i.size, i.bytes)) = some (some (.int .u8 0), 1, 1) by kernel_rfl)
      go_enter Tryd.func41, Tryd.ntmps41
      go_wp2_with (first | (go_at_call 51; refine (hC _).mono ?_; rintro e w' ⟨rfl, rfl⟩) | (at_make; refine wpList_make_own _ rfl _ _ 59 rfl (w.heap.size + 1) 5 i0 (.int .u8 0) 1 Tryd.underlying59 hi hz0 hz1 _ _ _ m rfl rfl rfl ?b1 ?b2 ?b3 ?_))
      case b1 => rw [hz2]; omega
      case b2 => unfold maxLen; omega
      case b3 => simp
      intro w2 ho hg
      have hb2 : Below w.heap.size w w2 := ((Below.refl _ w).alloc (Nat.le_refl _) _).grown hg (by simp) (fun k h => by cases h)
      have hz2' : Boxed3 w2 w.heap.size := (hg.block _ (by simp) (by simp)).trans (World.alloc_heap_new w _)
      obtain ⟨v0, hv0⟩ : ∃ v0, v0 = Value.slice (some ⟨w.heap.size + 1, 0, none⟩) 0 m := ⟨_, rfl⟩
      rw [← hv0] at ho ⊢
      clear hg hz hv0
      go_wp2
      go_loopw [6, 7] (fun v i wr => ∃ (k : Nat) (xs : List UInt8), k ≤ m ∧ i = .int .i64 (2 * (k : Int)) ∧ xs.length = k ∧ wr.ownsRow (w.heap.size + 1) 5 1 v k (Lib.byteCells xs) ∧ unhex t = (unhex (t.drop (2 * k))).map (xs ++ ·) ∧ Boxed3 wr w.heap.size ∧ Below w.heap.size w wr) (fun _ i _ => 2 * m - (intOf i).toNat)
      case atStart => exact ⟨0, [], Nat.zero_le _, rfl, rfl, ho, by simp, hz2', hb2⟩
      case round =>
        obtain ⟨k, xs, hk, rfl, hxl, hown, hu, hbx, hb⟩ := hrel
        by_cases hlt : k < m
        · have hI : ∀ (c : Int) W, Calls Tryd.prog 52 #[.string ⟨#[48, 49, 50, 51, 52, 53, 54, 55, 56, 57, 97, 98, 99, 100, 101, 102]⟩, .int .u8 c] W fun e w' => e = .returned (.int .i64 (Lib.indexByte hexDigits c.toNat.toUInt8)) ∧ w' = W := fun c W => Tryd.strings_IndexByte ⟨#[48, 49, 50, 51, 52, 53, 54, 55, 56, 57, 97, 98, 99, 100, 101, 102]⟩ c W
          have l0 : 2 * k < t.length := by omega
          have l1 : 2 * k + 1 < t.length := by omega
          have hmm : m ≤ 524288 := by omega
          have hkk : k ≤ 524288 := by omega
          have hwrap : IntKind.i64.wrap (2 * (k : Int) + 1) = 2 * (k : Int) + 1 := wrap_small _ (by omega) (by omega)
          have q0 : (0 : Int) ≤ 2 * (k : Int) + 1 := by omega
          have q1 : 2 * (k : Int) + 1 < 2 * (m : Int) := by omega
          have q2 : (0 : Int) ≤ 2 * (k : Int) + 1 ∧ 2 * (k : Int) + 1 < 2 * (m : Int) := ⟨q0, q1⟩
          have hun := unhex_cons l1
          have e0 : (⟨t.toArray⟩ : ByteArray)[2 * k]'(by show 2 * k < t.toArray.size; simpa using l0) = t[2 * k] := by simp [ByteArray.getElem_eq_getElem_data]
          have e1 : (⟨t.toArray⟩ : ByteArray)[2 * k + 1]'(by show 2 * k + 1 < t.toArray.size; simpa using l1) = t[2 * k + 1] := by simp [ByteArray.getElem_eq_getElem_data]
          generalize t[2 * k] = x at e0 hun
          generalize t[2 * k + 1] = y at e1 hun
          have hf0 : ∀ j, wr.frozen? ⟨w.heap.size, j, none⟩ = false := fun j => Lib.frozen_of_heap hbx j
          have hf0a := hf0 0
          have hf0b := hf0 1
          have hf0c := hf0 2
          have hz0a : wr.cell? ⟨w.heap.size, 0, none⟩ = some (.int .i64 0) := by rw [Lib.cell_of_heap hbx]; rfl
          have hz0b : wr.cell? ⟨w.heap.size, 1, none⟩ = some (.int .i64 0) := by rw [Lib.cell_of_heap hbx]; rfl
          have hz0c : wr.cell? ⟨w.heap.size, 2, none⟩ = some (.string ⟨#[]⟩) := by rw [Lib.cell_of_heap hbx]; rfl
          clear hC
          rcases digit_is x with hA | ⟨h, hh, hA⟩
          · have hrn : r = none := by rw [hr', hu, hun, if_pos (.inl (by rw [hA]; decide))]; rfl
            subst hrn
            clear hr' hu hun
            go_wp2
            go_region_with (first | (go_at_call 52; refine (hI _ _).mono ?_; rintro e w' ⟨rfl, rfl⟩))
            all_goals go_wp2
            all_goals exact ret_read rfl rfl rfl rfl (zero_back hbx) ⟨rfl, below3b hb⟩
          rcases digit_is y with hB | ⟨l, hl, hB⟩
          · have hrn : r = none := by rw [hr', hu, hun, if_pos (.inr (by rw [hB]; decide))]; rfl
            subst hrn
            clear hr' hu hun
            go_wp2
            go_region_with (first | (go_at_call 52; refine (hI _ _).mono ?_; rintro e w' ⟨rfl, rfl⟩))
            all_goals go_wp2
            all_goals exact ret_read rfl rfl rfl rfl (zero_back hbx) ⟨rfl, below3b hb⟩
          · have HU : Hid (unhex t = (unhex (t.drop (2 * (k + 1)))).map ((xs ++ [UInt8.ofNat (16 * h + l)]) ++ ·)) := hid (by
              rw [hu, hun, if_neg (by rw [hA, hB]; omega), hA, hB]
              simp [Option.map_map, Function.comp_def])
            have HO : Hid (bits .or .i64 ((h : Int) * 16) (l : Int) % 256 = ((UInt8.ofNat (16 * h + l)).toNat : Int)) := hid (by
              have e : wrap64 ((h : Int) * 16) = (h : Int) * 16 := by unfold wrap64; omega
              have := or_hex h l hh hl
              rw [e] at this
              rw [this, UInt8.toNat_ofNat']
              omega)
            have HX : Hid (Lib.byteCells (xs ++ [UInt8.ofNat (16 * h + l)]) = Lib.byteCells xs ++ [.int .u8 (bits .or .i64 ((h : Int) * 16) (l : Int) % 256)]) := hid (by rw [HO.out]; simp [Lib.byteCells])
            have hown' : (wr.alloc (.cells #[.int .u8 (bits .or .i64 ((h : Int) * 16) (l : Int) % 256)] 5)).drew.ownsRow (w.heap.size + 1) 5 1 u6 k (Lib.byteCells xs) := hown.alloc _
            have hnw : ∀ j u, [Value.int .u8 (bits .or .i64 ((h : Int) * 16) (l : Int) % 256)][j]? = some u → (wr.alloc (.cells #[.int .u8 (bits .or .i64 ((h : Int) * 16) (l : Int) % 256)] 5)).drew.cell? ((⟨wr.heap.size, 0, none⟩ : Addr).add j) = some u := cell_one_new _ _ _
            have hbs := hb.size
            clear hu hun
            go_wp2
            go_region_with (first | (go_at_call 52; refine (hI _ _).mono ?_; rintro e w' ⟨rfl, rfl⟩))
            all_goals (go_wp2_with (at_builtin; refine wpList_append_own_at _ rfl _ _ 59 rfl (w.heap.size + 1) 5 i0 (.int .u8 0) 1 1 Tryd.underlying59 hi hz0 hz1 hz2 rfl (by decide) u6 k _ rfl hown' ⟨wr.heap.size, 0, none⟩ 1 1 [.int .u8 (bits .or .i64 ((h : Int) * 16) (l : Int) % 256)] rfl rfl hnw (by simp [Value.oneCell']) (by unfold maxLen; omega) (by omega) (by simp; omega) ?_; intro v' w3 hown2 hgrow _ _))
            all_goals
              have hb3 : Below w.heap.size w w3 := ((hb.alloc hb.size _).drew).grown hgrow (by simp; omega) (fun j hj => Nat.le_of_succ_le (hown.lt j hj).1)
              have hlw : w.heap.size < wr.heap.size := (Array.getElem?_eq_some_iff.1 hbx).1
              have hbx3 : Boxed3 w3 w.heap.size := (hgrow.block _ (by simp; omega) (fun e => by have := (hown.lt _ e.symm).1; omega)).trans ((Below.heap_alloc wr _ _ (by omega)).trans hbx)
              rw [← HX.out] at hown2
              go_roundw
              case rel => exact ⟨k + 1, xs ++ [UInt8.ofNat (16 * h + l)], by omega, by rw [show (2 * ((k + 1 : Nat) : Int)) = 2 * (k : Int) + 2 by omega], by simp [hxl], hown2, HU.out, hbx3, hb3⟩
              case measure => simp [intOf]; omega
        · obtain rfl : k = m := by omega
          have hrs : r = some ⟨2, 0, xs⟩ := by rw [hr', hu, List.drop_of_length_le (by omega)]; simp [unhex]
          have hcv : (convert 59 9 u6).run Tryd.prog wr = .ok (.string ⟨xs.toArray⟩) wr := by
            rcases hown.2 with ⟨rfl, h0'⟩ | ⟨g, cap, cur, rfl, hg, hh, rr⟩
            · obtain rfl : xs = [] := by rw [h0'] at hxl; simpa using hxl
              exact run_convert_bytes_nil wr 59 5 Tryd.underlying59 Tryd.underlying5 0 0 9 Tryd.underlying9
            · have hc := World.ownsRow.cells hown (g := g) rfl
              rw [run_convert_bytes_arg wr 59 5 Tryd.underlying59 Tryd.underlying5 g 0 k cap (xs.map fun b => (b.toNat : Int)) (by simp [hxl]) (fun i hi => ?_) 9 Tryd.underlying9]
              · unfold strOfNums
                rw [List.map_map]
                simp [Function.comp_def]
              · have := hc i (Value.int .u8 (xs[i].toNat : Int)) (by simp [Lib.byteCells, show i < xs.length by omega])
                rw [Addr.add_lit] at this
                rw [this]
                simp [List.getD, show i < xs.length by omega]
          have hz0a : wr.cell? ⟨w.heap.size, 0, none⟩ = some (.int .i64 0) := by rw [Lib.cell_of_heap hbx]; rfl
          have hz0b : wr.cell? ⟨w.heap.size, 1, none⟩ = some (.int .i64 0) := by rw [Lib.cell_of_heap hbx]; rfl
          have hz0c : wr.cell? ⟨w.heap.size, 2, none⟩ = some (.string ⟨#[]⟩) := by rw [Lib.cell_of_heap hbx]; rfl
          have hf0a := Lib.frozen_of_heap hbx 0
          have hf0b := Lib.frozen_of_heap hbx 1
          have hf0c := Lib.frozen_of_heap hbx 2
          have hlw : w.heap.size < wr.heap.size := (Array.getElem?_eq_some_iff.1 hbx).1
          subst hrs
          clear hr' hu hC
          go_wp2_with (go_at_call 21; refine (text_any' xs _).mono ?_; rintro e w' ⟨rfl, rfl⟩; simp only [Val.box, Val.v])
          refine ret_read rfl rfl rfl rfl ((set_box hbx ⟨2, 0, xs⟩).keep (keep_alloc _ _)) ⟨rfl, ?_⟩
          exact (((hb.setCell (p := ⟨w.heap.size, 0, none⟩) (Nat.le_refl _) _).setCell (p := ⟨w.heap.size, 1, none⟩) (Nat.le_refl _) _).setCell (p := ⟨w.heap.size, 2, none⟩) (Nat.le_refl _) _).alloc (by simp [World.setCell]; omega) _
    · have hr' : r = none := by rw [hr]; simp [hm]
      subst hr'
      clear hr
      have hmod : ((t.length : Int) % 2 != 0) = true := by simp; omega
      go_enter Tryd.func41, Tryd.ntmps41
      go_wp2_with (go_at_call 51; refine (hC _).mono ?_; rintro e w' ⟨rfl, rfl⟩)
      exact ret_read rfl rfl rfl rfl hz ⟨rfl, (Below.refl _ w).alloc (Nat.le_refl _) _⟩
end Go.Proofs.YtkmfopdklohgnaaDoor
