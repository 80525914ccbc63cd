/- What the document reads: a script's box. -/
import Derived.Test.YtpmlnkjamhelnaaGreatDI
import Derived.Test.YtpmlnkjamhelnaaGreatGM
namespace Go.Proofs.YtpmlnkjamhelnaaGreat
open Go.RowKit
theorem fdone_s (q g:Nat)(bs:List UInt8)(s:RSt)(w:World)(H:FS w q g bs s):Calls Tryz.prog 41 #[.pointer (some ⟨q,0,none⟩)] w fun e w'=>e=.returned (.int .i64 (doneOf s.1 s.2))∧Below w.heap.size w w':=by
 obtain ⟨k,h,e⟩:=H
 refine (fdone_q q g bs k s.2 w h).mono ?_
 rw [← e]
 rintro _ w' ⟨rfl,m,rfl⟩
 exact ⟨rfl,below_draws2 (Below.refl _ _) m⟩
theorem gInt_i64 (s:RSt):-9223372036854775808≤(gInt s).1∧(gInt s).1≤9223372036854775807:=by
 unfold gInt ansInt
 simp only
 split
 ·omega
 split
 ·omega
 ·have:=num_lt (s.1.take 8)
  unfold toInt
  split <;> omega
theorem gIns_i64 (s:RSt):-9223372036854775808≤(gIns s).1.2∧(gIns s).1.2≤9223372036854775807:=by
 unfold gIns
 split
 ·simp only;omega
 split
 ·exact gInt_i64 _
 ·obtain ⟨n,hn,e⟩:=gByte_nat (gByte s).2
  simp only [e]
  omega
theorem gScr_i64 (s:RSt):∀ f ∈ (gScr s).1.funcs,∀ x ∈ f.code,-9223372036854775808≤x.2∧x.2≤9223372036854775807:=gMany_all (P:=fun f:Fn=>∀ x ∈ f.code,-9223372036854775808≤x.2∧x.2≤9223372036854775807) (fun _=>gMany_all (P:=fun x:Int × Int=>-9223372036854775808≤x.2∧x.2≤9223372036854775807) gIns_i64 _ _) _ _
theorem getf_step {w6 w2 wr:World}{h k B:Nat}{v v':Value}{xs:List Value}{L:List Fn}{f:Fn}{u0 u1 u2 u3:Value}{o:Obj}(hh:h≤B)(hz:B+1≤wr.heap.size)(hrow:wr.ownsRow (B+1) 49 4 v k xs)(hF:FRow (offRow wr v B) L xs)(hc2:Chg wr w2 (fun k=>k=h))(hO:FnOwn w2 wr.heap.size f u0 u1 u2 u3)(hs:Step (w2.alloc o) v w6 v'):FRow (offRow w6 v' B) (L++[f]) (xs++[u0,u1,u2,u3]):=by
 have h1:FRow (offRow w2 v B) (L++[f]) (xs++[u0,u1,u2,u3]):=(hF.keep (offRow_chg hc2 hh)).snoc (hO.is (offRow_new (fun k e=>(row_lt4 hrow k e).2) (by omega)))
 exact (h1.keep (offRow_keep fun a x e=>alloc_keep _ _ _ _ e)).keep (offRow_step hs)
structure GetSt (w:World)(q g:Nat)(bs:List UInt8)(B:Nat)(W:World)(st:RSt)(c0 c1:Value)(P0:List (List UInt8))(P1:List Fn)(xs:List Value):Prop where
 blk:W.heap[B]?=some (.cells #[c0,c1] 27 (0,0))
 q0:W.ownsRow (B+1) 9 1 c0 P0.length (cellsS P0)
 q1:W.ownsRow (B+1) 49 4 c1 P1.length xs
 fr:FRow (offRow W c1 B) P1 xs
 fs:FS W q g bs st
 below:Below w.heap.size w W
 res:W.heap[w.heap.size]?=some (.cells #[.slice none 0 0,.slice none 0 0] 27 (0,0))
 hB:w.heap.size<B
 hq:w.heap.size<q∧q<B
 hg:g<B
section
variable {w:World} {q g:Nat} {bs:List UInt8} {B:Nat} {W:World} {st:RSt} {c0 c1:Value} {P0:List (List UInt8)} {P1:List Fn} {xs:List Value}
theorem GetSt.size (h:GetSt w q g bs B W st c0 c1 P0 P1 xs):B+1≤W.heap.size:=lt_of_block h.blk
theorem GetSt.cells (h:GetSt w q g bs B W st c0 c1 P0 P1 xs):W.cell? ⟨B,0,none⟩=some c0∧W.cell? ⟨B,1,none⟩=some c1∧W.frozen? ⟨B,0,none⟩=false∧W.frozen? ⟨B,1,none⟩=false:=cells2 h.blk
theorem GetSt.call {W':World}{st':RSt}(h:GetSt w q g bs B W st c0 c1 P0 P1 xs)(hc:Chg W W' (fun k=>k=q))(hf:FS W' q g bs st'):GetSt w q g bs B W' st' c0 c1 P0 P1 xs:=by
 have h1:=h.hq
 have key:∀ {e:TypeId} {size n:Nat} {v:Value} {ys:List Value},W.ownsRow (B+1) e size v n ys→W'.ownsRow (B+1) e size v n ys:=fun hr=>row_chg4 hr hc fun b hb e=>by have:=(row_lt4 hr b hb).1;omega
 exact ⟨(hc.block _ (lt_of_block h.blk) (by omega)).trans h.blk,key h.q0,key h.q1,h.fr.keep (offRow_chg hc (by omega)),hf,h.below.trans (hc.below h.below.size (fun i (e:i=q)=>by omega)),(hc.block _ (lt_of_block h.res) (by omega)).trans h.res,h.hB,h.hq,h.hg⟩
theorem GetSt.alloc (h:GetSt w q g bs B W st c0 c1 P0 P1 xs)(o:Obj):GetSt w q g bs B (W.alloc o) st c0 c1 P0 P1 xs:=h.call (Chg.alloc W o _) (h.fs.chg (Chg.alloc W o (fun _=>False)) id id)
theorem GetSt.drew (h:GetSt w q g bs B W st c0 c1 P0 P1 xs):GetSt w q g bs B W.drew st c0 c1 P0 P1 xs:=h.call (Chg.drew W _) (h.fs.chg (Chg.drew W (fun _=>False)) id id)
theorem GetSt.app0 {W':World}{v':Value}{P:List (List UInt8)}(h:GetSt w q g bs B W st c0 c1 P0 P1 xs)(hs:Step W c0 W' v')(hr:W'.ownsRow (B+1) 9 1 v' P.length (cellsS P))(h2:P1=[]):GetSt w q g bs B (W'.setCell ⟨B,0,none⟩ v') st v' c1 P P1 xs:=by
 have hc:=Chg.of_grown hs.1
 have hlt:=row_lt4 h.q0
 have e1:=h.hq
 have e2:=h.hg
 have e3:=h.hB
 have b':=step_blk h.q0 hs h.blk (by decide)
 have hc2:=Chg.setCell W' ⟨B,0,none⟩ v'
 have r':=step_blk h.q0 hs h.res (by decide)
 refine ⟨set2_0 b',row_set_other hr b' (by decide),row_set_other (step_row h.q0 hs h.q1 (by decide)) b' (by decide),?_,(h.fs.chg hc (fun e=>?_) (fun e=>?_)).chg hc2 (by show ¬ q=B;omega) (by show ¬ g=B;omega),(h.below.trans (hc.below h.below.size fun i e=>?_)).setCell (p:=⟨B,0,none⟩) (by show w.heap.size≤B;omega) _,(hc2.block _ (lt_of_block r') (by show ¬ w.heap.size=B;omega)).trans r',h.hB,h.hq,h.hg⟩
 ·subst h2
  have:=h.fr.1
  obtain rfl:xs=[]:=List.eq_nil_of_length_eq_zero (by simpa using this)
  exact FRow.nil _
 all_goals (have:=(hlt _ e).1;omega)
theorem GetSt.app1 {W':World}{v':Value}{P:List Fn}{ys:List Value}(h:GetSt w q g bs B W st c0 c1 P0 P1 xs)(hs:Step W c1 W' v')(hr:W'.ownsRow (B+1) 49 4 v' P.length ys)(hf:FRow (offRow W' v' B) P ys):GetSt w q g bs B (W'.setCell ⟨B,1,none⟩ v') st c0 v' P0 P ys:=by
 have hc:=Chg.of_grown hs.1
 have hlt:=row_lt4 h.q1
 have e1:=h.hq
 have e2:=h.hg
 have e3:=h.hB
 have b':=step_blk h.q1 hs h.blk (by decide)
 have hc2:=Chg.setCell W' ⟨B,1,none⟩ v'
 have r':=step_blk h.q1 hs h.res (by decide)
 refine ⟨set2_1 b',row_set_other (step_row h.q1 hs h.q0 (by decide)) b' (by decide),row_set_other hr b' (by decide),hf.keep (offRow_set (Nat.le_refl _)),(h.fs.chg hc (fun e=>?_) (fun e=>?_)).chg hc2 (by show ¬ q=B;omega) (by show ¬ g=B;omega),(h.below.trans (hc.below h.below.size fun i e=>?_)).setCell (p:=⟨B,1,none⟩) (by show w.heap.size≤B;omega) _,(hc2.block _ (lt_of_block r') (by show ¬ w.heap.size=B;omega)).trans r',h.hB,h.hq,h.hg⟩
 all_goals (have:=(hlt _ e).1;omega)
theorem GetSt.is (h:GetSt w q g bs B W st c0 c1 P0 P1 xs):ScIs (upFrom W (B+1)) ⟨P0,P1⟩ c0 c1:=by
 obtain ⟨a,c,e,hS⟩:=ss_up h.q0
 obtain ⟨hn,a',c',e',_,hF⟩:=fs_of_row' (C:=upFrom W (B+1)) h.q1 (h.fr.keep offRow_up) (fun a x hb e=>upFrom_at hb e)
 exact ⟨⟨a,c,e,hS⟩,⟨a',c',e',hF⟩⟩
end
end Go.Proofs.YtpmlnkjamhelnaaGreat
