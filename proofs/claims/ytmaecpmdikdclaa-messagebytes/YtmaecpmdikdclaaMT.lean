/- Layer 17: what was written is read, with the law's values. -/
import Derived.Test.YtmaecpmdikdclaaML
import Derived.Test.YtmaecpmdikdclaaMO
import Derived.Test.YtmaecpmdikdclaaMS
import Derived.Test.YtmaecpmdikdclaaMH
namespace Go.Proofs.Ytmaecpmdikdclaa
open Go.RowKit
def FairL (L : List Ent) : Prop := (∀ x ∈ L, x.d.length ≤ 9223372036854775807) ∧ L.length ≤ 5864062014805
theorem keep_alloc (w : World) (o : Obj) : ∀ a v, w.cell? a = some v → (w.alloc o).cell? a = some v := below_keep ((Below.refl _ w).alloc (Nat.le_refl _) o)
theorem bs_take {w : World} {ao : Option Addr} {bs : List UInt8} (h : Bs w ao bs) (k : Nat) : Bs w ao (bs.take k) := by
  rcases h with h | ⟨b, off, h, hc⟩
  · subst h; exact .inl (by simp)
  · refine .inr ⟨b, off, h, fun j hj => ?_⟩
    rw [List.length_take] at hj
    simp only [List.getElem_take]
    exact hc j (by omega)
theorem pE_yes {ok : Bool} {bs : List UInt8} (h : pE ok bs = 0) : ok = true ∧ bs.length ≤ 1048576 ∧ pB ok bs = bs := by
  unfold pE at h
  split at h
  · cases h
  split at h
  · cases h
  · rename_i h1 h2
    have hk : ok = true := by cases ok <;> simp_all
    exact ⟨hk, by omega, by simp only [pB]; rw [if_pos ⟨hk, by omega⟩]⟩
theorem msgB_len (m : Msg) : 37 ≤ m.b.length := by
  unfold Msg.b logB
  simp only [List.length_append, List.length_cons, List.length_nil, ints_length]
  omega
theorem recB_len (m : Rec17) : 27 ≤ m.b.length := by
  unfold Rec17.b logB
  simp only [List.length_append, List.length_cons, List.length_nil, ints_length]
  omega
/-- How Put ends where it writes, and where it doesn't. -/
def PutYes (bs : List UInt8) (nb : Nat) (w : World) (e : Ending) (w' : World) : Prop := (∃ ao cap, e = .returned (.tuple #[.slice ao nb cap, .int .i64 0]) ∧ Bs w' ao bs ∧ nb ≤ cap) ∧ Below w.heap.size w w'
def PutNo (er : Int) (w : World) (e : Ending) (w' : World) : Prop := (∃ ao ln cap, e = .returned (.tuple #[.slice ao ln cap, .int .i64 er])) ∧ Below w.heap.size w w'
theorem PutEnd17.yes {ok : Bool} {bs : List UInt8} {w : World} {e : Ending} {w' : World} (h : PutEnd17 ok bs w e w') (hp : pE ok bs = 0) : PutYes bs bs.length w e w' := by
  obtain ⟨hb, ao, cap, rfl, hB, hc⟩ := h
  rw [(pE_yes hp).2.2] at hB hc ⊢
  rw [hp]
  exact ⟨⟨ao, cap, rfl, hB, hc⟩, hb⟩
theorem PutEnd17.no {ok : Bool} {bs : List UInt8} {w : World} {e : Ending} {w' : World} (h : PutEnd17 ok bs w e w') : PutNo (pE ok bs) w e w' := by
  obtain ⟨hb, ao, cap, rfl, hB, hc⟩ := h
  exact ⟨⟨ao, _, cap, rfl⟩, hb⟩
theorem mkM_any (m : Msg) (a : Option Addr) (n c : Nat) (w : World) (hn : m.log.length = n) (hN : EsAt w.cell? a m.log) (hf : FairL m.log) : ∀ W, Below w.heap.size w W → Calls Try.prog 10 #[msgV m.kd m.fr m.tt m.vw m.op m.cm m.nm (.slice a n c)] W fun e w' => (∃ va vc, e = .returned (msgV m.kd m.fr m.tt m.vw m.op m.cm m.nm (.slice va n vc)) ∧ EsAt w'.cell? va m.log) ∧ Below W.heap.size W w' := fun W hW => by
  refine (msgS_any m a n c W hn (hN.keep (below_keep hW)) (by rw [← hn]; exact hf.2)).mono ?_
  rintro e w' ⟨v, rfl, hL, hb⟩
  obtain ⟨va, vc, rfl, hE⟩ := hL.form
  rw [hn]
  exact ⟨⟨va, vc, rfl, hE⟩, hb⟩
theorem getM_self (m : Msg) (hok : m.ok = true) (hl : m.b.length ≤ 1048576) : ∀ W ao cap, Bs W ao m.b → Calls Try.prog 13 #[.slice ao m.b.length cap] W fun e w' => (∃ va vc, e = .returned (.tuple #[msgV m.kd m.fr m.tt m.vw m.op m.cm m.nm (.slice va m.log.length vc), .int .i64 0]) ∧ EsAt w'.cell? va m.log) ∧ Below W.heap.size W w' := fun W ao cap hB => by
  refine (get17_any ao _ cap m.b W rfl (by omega) hB).mono ?_
  obtain ⟨h1, h2⟩ := readOk_self (ok := Msg.ok) (gMsg_reads hok) hok hl
  rintro e w' ⟨hb, ⟨h, _⟩ | ⟨_, va, vc, rfl, hL⟩⟩
  · rw [h1] at h; cases h
  · rw [h2] at hL ⊢
    obtain ⟨_, _, ev, hE⟩ := hL.form
    injection ev with e1 e2 e3
    subst e1 e3
    exact ⟨⟨_, _, rfl, hE⟩, hb⟩
theorem getM_no {bs : List UInt8} (h : readOk gMsg Msg.ok bs = false) (hl : bs.length ≤ 2000000) : ∀ W ao n cap, bs.length = n → Bs W ao bs → Calls Try.prog 13 #[.slice ao n cap] W fun e w' => e = .returned (.tuple #[msgV 0 0 0 0 0 0 0 (.slice none 0 0), .int .i64 21]) ∧ Below W.heap.size W w' := fun W ao n cap hn hB => by
  refine (get17_any ao n cap bs W hn (by omega) hB).mono ?_
  rintro e w' ⟨hb, ⟨_, rfl⟩ | ⟨h1, _⟩⟩
  · exact ⟨rfl, hb⟩
  · rw [h] at h1; cases h1
theorem mkR_any (m : Rec17) (a : Option Addr) (n c : Nat) (w : World) (hn : m.log.length = n) (hN : EsAt w.cell? a m.log) (hf : FairL m.log) : ∀ W, Below w.heap.size w W → Calls Try.prog 21 #[recV m.kd m.vw m.nm m.op (.slice a n c)] W fun e w' => (∃ va vc, e = .returned (recV m.kd m.vw m.nm m.op (.slice va n vc)) ∧ EsAt w'.cell? va m.log) ∧ Below W.heap.size W w' := fun W hW => by
  refine (recS_any m a n c W hn (hN.keep (below_keep hW)) (by rw [← hn]; exact hf.2)).mono ?_
  rintro e w' ⟨v, rfl, hL, hb⟩
  obtain ⟨va, vc, rfl, hE⟩ := hL.form
  rw [hn]
  exact ⟨⟨va, vc, rfl, hE⟩, hb⟩
theorem getR_self (m : Rec17) (hok : m.ok = true) (hl : m.b.length ≤ 1048576) : ∀ W ao cap, Bs W ao m.b → Calls Try.prog 24 #[.slice ao m.b.length cap] W fun e w' => (∃ va vc, e = .returned (.tuple #[recV m.kd m.vw m.nm m.op (.slice va m.log.length vc), .int .i64 0]) ∧ EsAt w'.cell? va m.log) ∧ Below W.heap.size W w' := fun W ao cap hB => by
  refine (getRec17_any ao _ cap m.b W rfl (by omega) hB).mono ?_
  obtain ⟨h1, h2⟩ := readOk_self (ok := Rec17.ok) (gRec_reads hok) hok hl
  rintro e w' ⟨hb, ⟨h, _⟩ | ⟨_, va, vc, rfl, hL⟩⟩
  · rw [h1] at h; cases h
  · rw [h2] at hL ⊢
    obtain ⟨_, _, ev, hE⟩ := hL.form
    injection ev with e1 e2 e3
    subst e1 e3
    exact ⟨⟨_, _, rfl, hE⟩, hb⟩
theorem getR_no {bs : List UInt8} (h : readOk gRec Rec17.ok bs = false) (hl : bs.length ≤ 2000000) : ∀ W ao n cap, bs.length = n → Bs W ao bs → Calls Try.prog 24 #[.slice ao n cap] W fun e w' => e = .returned (.tuple #[recV 0 0 0 0 (.slice none 0 0), .int .i64 21]) ∧ Below W.heap.size W w' := fun W ao n cap hn hB => by
  refine (getRec17_any ao n cap bs W hn (by omega) hB).mono ?_
  rintro e w' ⟨hb, ⟨_, rfl⟩ | ⟨h1, _⟩⟩
  · exact ⟨rfl, hb⟩
  · rw [h] at h1; cases h1
end Go.Proofs.Ytmaecpmdikdclaa
