/- Layer 18: what another one tells to have. -/
import Derived.Test.YtaonchdpnllhpaaV8l
namespace Go.Proofs.Ytaonchdpnllhpaa
open Go.RowKit
theorem TS.setMatch {T : TC} {w0 : World} {x : Pt} {mt : List Nat} {la : Option Addr} {ln lc : Nat} {L : List Ent} {a0 : Option Addr} {m ac : Nat} {xs : List Value} {d0 : Option Addr} {dk dc : Nat} {W : World} (h : TS T w0 x mt la ln lc L a0 m ac xs d0 dk dc W) (i v : Nat) : TS T w0 x (mt.set i v) la ln lc L a0 m ac xs d0 dk dc (W.setCell ⟨T.mb, i, none⟩ (.int .i64 v)) := by
  have kb : (Value.slice (some ⟨T.mb, 0, none⟩) x.n T.mc).ownBlock = some T.mb := rfl
  have ht := h.t
  have hp := h.p
  unfold TnAt at ht
  unfold PtAt at hp
  have nt : T.tb ≠ T.mb := fun e => row_apart18 h.k ht (by decide) (by rw [kb, e])
  have np : T.pb ≠ T.mb := fun e => row_apart18 h.k hp (by decide) (by rw [kb, e])
  have nr : ∀ {b n s e v xs}, W.ownsRow b e s v n xs → e ≠ 3 → v.ownBlock ≠ some T.mb := fun r he e => rows_apart18 r h.k he _ e kb
  obtain ⟨ys, hd⟩ := h.d
  refine ⟨?_, ?_, row_keep18 h.r (nr h.r (by decide)) _, ⟨ys, row_keep18 hd (nr hd (by decide)) _⟩, row_keep18 h.l (nr h.l (by decide)) _, ?_, ?_, h.n, h.tw, by simpa [World.setCell] using h.wz, h.bz⟩
  · exact (heap_setCell_other _ _ _ _ fun e => nt e).trans ht
  · exact (heap_setCell_other _ _ _ _ fun e => np e).trans hp
  · have := row_set18 (o := i) (u := .int .i64 v) h.k
    rw [show (nsV mt).set i (.int .i64 v) = nsV (mt.set i v) by simp [nsV, List.map_set]] at this
    exact this
  · exact h.f.trans (Chg.setCell _ _ _) fun j hj e => .inr (.inr (.inr e))
end Go.Proofs.Ytaonchdpnllhpaa
