/- Layer 17: numbers and logs as the document writes them. -/
import Derived.Test.YtmaecpmdikdclaaDQa
import Derived.Test.YtmaecpmdikdclaaMP
import Derived.Test.YtmaecpmdikdclaaMB
import Derived.Test.YtmaecpmdikdclaaSC
import Derived.Deep.RegionLaw
namespace Go.Proofs.Ytmaecpmdikdclaa
open Go.RowKit
set_option maxRecDepth 100000 in
set_option maxHeartbeats 1000000 in
theorem numbers17_any (ao : Option Addr) (n cap : Nat) (ns : List Int) (w : World) (hn : ns.length = n) (hm : n ≤ 1000) (hI : NsAt w.cell? ao ns) :
    Calls Try.prog 40 #[.slice ao n cap] w fun e w' => ∃ v', e = .returned v' ∧ OwnB w' w.heap.size v' (ints ns) ∧ Below w.heap.size w w' := by
  have HN := hid hn
  have HI := hid hI
  clear hn hI
  go_enter Try.func40, Try.ntmps40
  go_wp2_with fail
  go_loopw [3, 4] (fun v i wr => ∃ (k : Nat) (v' : Value), k ≤ n ∧ i = .int .i64 k ∧ v = v' ∧ Hid (Run w.heap.size w wr v' (ints (ns.take k)))) (fun _ i _ => n - (intOf i).toNat)
  case atStart => exact ⟨0, _, Nat.zero_le _, rfl, rfl, hid ⟨Own.nil _ _ _, Below.refl _ _, Nat.le_refl _⟩⟩
  case round =>
    obtain ⟨k, v', hk, rfl, rfl, HR⟩ := hrel
    have R := HR.out
    obtain ⟨va, vc, hv, _, _, _, _, _⟩ := Own.bs R.row
    by_cases hlt : k < n
    · have hkl : k < ns.length := by rw [HN.out]; exact hlt
      have hck : ∃ b off, ao = some ⟨b, off, none⟩ ∧ wr.cell? ⟨b, off + k, none⟩ = some (.int .i64 ns[k]) := by
        rcases HI.out with h | ⟨b, off, e, h⟩
        · rw [h] at hkl; cases hkl
        · exact ⟨b, off, e, below_keep R.below _ _ (h k hkl)⟩
      obtain ⟨b, off, e1, z0⟩ := hck
      subst e1
      have HS : Hid (ints (ns.take (k + 1)) = ints (ns.take k) ++ be64 ns[k]) := hid (ints_snoc _ _ hkl)
      have hlk : (ints (ns.take k)).length ≤ 8000 := by rw [ints_length, List.length_take]; omega
      have hT := refNumber_any ns[k] wr
      have h8 := be64_length ns[k]
      generalize ns[k] = N at *
      generalize be64 N = tn at *
      generalize ints (ns.take k) = ys at *
      clear HI HR
      have hj0 : (0 : Int) ≤ (k : Int) := by omega
      have hj1 : (k : Int) < (n : Int) := by omega
      have H8 := hid h8
      clear h8
      subst hv
      go_wp2_with (first
        | (go_at_call 68; refine hT.mono ?_; clear hT; rintro e wn ⟨r, rfl, hO, hb⟩; obtain ⟨g0, j0, rfl, S0⟩ := Side.new R hO; replace R := R.call hb)
        | (at_builtin; refine wpList_app _ rfl _ _ _ _ rfl elem_u8 w.heap.size _ _ rfl R.row _ rfl (tn.map bv) (S0.src _) (by simp only [List.length_map]; unfold maxLen; rw [H8.out]; omega) (by simp only [List.length_map]; rw [H8.out]; omega) R.size ?_; intro vn wn ho hs; replace R := R.app ho hs; clear S0))
      exact ⟨⟨k + 1, _, by omega, by go_num, rfl, by rw [HS.out]; exact hid R⟩, by simp [intOf]; omega⟩
    · have e : ns.take k = ns := List.take_of_length_le (by rw [HN.out]; omega)
      rw [e] at R
      have HR2 := hid R
      clear R HR hv
      go_wp2_with fail
      go_ret
      exact ⟨_, rfl, HR2.out.row, HR2.out.below⟩
set_option maxRecDepth 100000 in
set_option maxHeartbeats 2000000 in
theorem entries17_any (a : Option Addr) (n c : Nat) (L : List Ent) (w : World) (hn : L.length = n) (hN : EsAt w.cell? a L) (hm : n ≤ 2048) (hs : ∀ x ∈ L, x.d.length ≤ 16384) :
    Calls Try.prog 41 #[.slice a n c] w fun e w' => ∃ v', e = .returned v' ∧ OwnB w' w.heap.size v' (logB L) ∧ Below w.heap.size w w' := by
  have hO1 : OwnB (w.alloc (.cells #[.int .u8 ((n : Int) / 256), .int .u8 ((n : Int) % 256)] 5)) w.heap.size (.slice (some ⟨w.heap.size, 0, none⟩) 2 2) [UInt8.ofNat (n / 256), UInt8.ofNat (n % 256)] := by
    have e : [UInt8.ofNat (n / 256), UInt8.ofNat (n % 256)].map bv = [.int .u8 ((n : Int) / 256), .int .u8 ((n : Int) % 256)] := by
      simp only [List.map_cons, List.map_nil, bv, UInt8.toNat_ofNat']
      simp
      omega
    unfold OwnB
    rw [e]
    exact World.ownsRow_lit w #[.int .u8 ((n : Int) / 256), .int .u8 ((n : Int) % 256)] 2 (Nat.le_refl _) (by decide) rfl
  have hba : Below w.heap.size w (w.alloc (.cells #[.int .u8 ((n : Int) / 256), .int .u8 ((n : Int) % 256)] 5)) := (Below.refl _ _).alloc (Nat.le_refl _) _
  have R0 : Run w.heap.size w (w.alloc (.cells #[.int .u8 ((n : Int) / 256), .int .u8 ((n : Int) % 256)] 5)) (.slice (some ⟨w.heap.size, 0, none⟩) 2 2) ([UInt8.ofNat (n / 256), UInt8.ofNat (n % 256)] ++ (L.take 0).flatMap entB) := ⟨by rw [List.take_zero, List.flatMap_nil, List.append_nil]; exact hO1, hba, hba.size⟩
  have HL : Hid (logB L = [UInt8.ofNat (n / 256), UInt8.ofNat (n % 256)] ++ L.flatMap entB) := hid (by unfold logB; rw [hn])
  have hhd : [UInt8.ofNat (n / 256), UInt8.ofNat (n % 256)].length ≤ 2 := by simp
  generalize [UInt8.ofNat (n / 256), UInt8.ofNat (n % 256)] = hd at *
  have HN := hid hn
  have HZ := hid hN
  have HS0 := hid hs
  have HR0 := hid R0
  clear hn hN hs hO1 hba R0
  have hw8 : IntKind.u8.wrap ((n : Int) / 256) = (n : Int) / 256 := by rw [IntKind.wrap_u8]; omega
  have hw9 : IntKind.u8.wrap ((n : Int) % 256) = (n : Int) % 256 := by rw [IntKind.wrap_u8]; omega
  go_enter Try.func41, Try.ntmps41
  go_wp2_with fail
  clear hw8 hw9
  go_loopw [3, 4] (fun v i wr => ∃ (k : Nat) (v' : Value), k ≤ n ∧ i = .int .i64 k ∧ v = v' ∧ Hid (Run w.heap.size w wr v' (hd ++ (L.take k).flatMap entB))) (fun _ i _ => n - (intOf i).toNat)
  case atStart => exact ⟨0, _, Nat.zero_le _, rfl, rfl, HR0⟩
  case round =>
    obtain ⟨k, v', hk, rfl, rfl, HR⟩ := hrel
    have R := HR.out
    obtain ⟨va, vc, hv, _, _, _, _, _⟩ := Own.bs R.row
    by_cases hlt : k < n
    · have hkl : k < L.length := by rw [HN.out]; exact hlt
      have HS : Hid (hd ++ (L.take (k + 1)).flatMap entB = hd ++ (L.take k).flatMap entB ++ be64 L[k].v ++ text L[k].d) := hid (by
        rw [List.take_add_one, List.getElem?_eq_getElem hkl, List.flatMap_append]
        simp [entB, List.append_assoc])
      have hlen : (hd ++ (L.take k).flatMap entB).length ≤ 40000000 := by
        have key : ∀ (M : List Ent), (∀ x ∈ M, x.d.length ≤ 16384) → (M.flatMap entB).length ≤ 16394 * M.length := by
          intro M
          induction M with
          | nil => intro _; simp
          | cons x r ih =>
            intro h
            have a := ih fun y hy => h y (List.mem_cons_of_mem _ hy)
            have b := h x (List.mem_cons_self ..)
            have c : (entB x).length = 10 + x.d.length := by unfold entB; rw [List.length_append, be64_length, text_length]; omega
            simp only [List.flatMap_cons, List.length_append, List.length_cons]
            omega
        have := key (L.take k) fun x hx => HS0.out x (List.mem_of_mem_take hx)
        rw [List.length_append]
        rw [List.length_take] at this
        omega
      have hx := HS0.out L[k] (List.getElem_mem hkl)
      obtain ⟨zb, zo, e1, z0, z1⟩ := HZ.out.get hkl
      subst e1
      have hSk : Hid (∀ W, Below w.heap.size w W → W.cell? ⟨zb, zo + k * 2, none⟩ = some (.int .i64 L[k].v) ∧ W.cell? ⟨zb, zo + k * 2 + 1, none⟩ = some (.string ⟨L[k].d.toArray⟩)) := hid fun W hW => ⟨below_keep hW _ _ z0, below_keep hW _ _ z1⟩
      have hT1 := hid fun W => refNumber_any L[k].v W
      have hT2 := hid fun W => rtextOne L[k].d W (by omega)
      have l1 := hid (be64_length L[k].v)
      have l2 := hid (text_length L[k].d)
      generalize L[k].v = xv at *
      generalize L[k].d = xd at *
      generalize be64 xv = tk at *
      generalize text xd = tv at *
      generalize hd ++ (L.take k).flatMap entB = ys at R HS hlen hv
      clear HR HZ HN HS0 z0 z1 HR0
      obtain ⟨c0, c1⟩ := hSk.out _ R.below
      have hdr : Below wr.heap.size wr wr.drew := (Below.refl _ _).drew
      replace R := R.call hdr
      have hj0 : (0 : Int) ≤ (k : Int) := by omega
      have hj1 : (k : Int) < (n : Int) := by omega
      subst hv
      have eI : ∀ args w, (callFunc 68 args).run Try.prog w = .ok (.enter 68 args) w := enters_of Try.func68 (by kernel_rfl) rfl
      have eT : ∀ args w, (callFunc 69 args).run Try.prog w = .ok (.enter 69 args) w := enters_of Try.func69 (by kernel_rfl) rfl
      obtain ⟨u0, u1⟩ := hSk.out _ R.below
      go_upto_region 5 with fail
      go_region_law (first
        | (refine step_call2 (by rfl) 68 #[.tmp 25] #[3] (by rfl) eI #[.int .i64 xv] (by rfl) _ (hT1.out _) ?_; rintro e wn ⟨r, rfl, hO, hb⟩; refine ⟨_, rfl, ?_⟩; obtain ⟨g0, j0, hr0, S0⟩ := Side.new R hO; subst hr0; replace R := R.call hb; (first | (replace S1 := S1.call hb) | skip); obtain ⟨p0, p1⟩ := hSk.out _ R.below)
        | (refine step_call2 (by rfl) 69 #[.tmp 32] #[9] (by rfl) eT #[.string ⟨xd.toArray⟩] (by rfl) _ (hT2.out _) ?_; rintro e wn ⟨r, rfl, hO, hb⟩; refine ⟨_, rfl, ?_⟩; obtain ⟨g1, j1, hr1, S1⟩ := Side.new R hO; subst hr1; replace R := R.call hb; (first | (replace S0 := S0.call hb) | skip); obtain ⟨q0, q1⟩ := hSk.out _ R.below)
        | (refine step_app _ (by rfl) (.tmp 20) (.tmp 26) 25 25 (by rfl) elem_u8 w.heap.size _ _ (by rfl) R.row _ (by rfl) (tk.map bv) (S0.src _) (by simp only [List.length_map]; unfold maxLen; rw [l1.out]; omega) (by simp only [List.length_map]; rw [l1.out]; omega) R.size ?_; intro vn wn ho hs; replace R := R.app ho hs; clear S0; (first | (replace S1 := S1.app hs) | skip); obtain ⟨f0, f1⟩ := hSk.out _ R.below)
        | (refine step_app _ (by rfl) (.tmp 27) (.tmp 33) 25 25 (by rfl) elem_u8 w.heap.size _ _ (by rfl) R.row _ (by rfl) (tv.map bv) (S1.src _) (by simp only [List.length_map, List.length_append]; unfold maxLen; rw [l1.out, l2.out]; omega) (by simp only [List.length_map, List.length_append]; rw [l1.out, l2.out]; omega) R.size ?_; intro vn wn ho hs; replace R := R.app ho hs; clear S1; obtain ⟨h0, h1⟩ := hSk.out _ R.below))
      all_goals
        try simp [Act.put]
        go_wp2_with fail
        exact ⟨⟨k + 1, _, by omega, by go_num, rfl, by rw [HS.out]; exact hid R⟩, by simp [intOf]; omega⟩
    · have e : L.take k = L := List.take_of_length_le (by rw [HN.out]; omega)
      rw [e, ← HL.out] at R
      have HR2 := hid R
      clear R HR hv HR0
      go_wp2_with fail
      go_ret
      exact ⟨_, rfl, HR2.out.row, HR2.out.below⟩
end Go.Proofs.Ytmaecpmdikdclaa
