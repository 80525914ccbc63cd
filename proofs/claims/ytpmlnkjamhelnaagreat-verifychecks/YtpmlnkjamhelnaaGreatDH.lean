/- What the document reads: a function. -/
import Derived.Test.YtpmlnkjamhelnaaGreatDG
import Derived.Test.YtpmlnkjamhelnaaGreatTS
import Derived.Test.YtpmlnkjamhelnaaGreatDB
namespace Go.Proofs.YtpmlnkjamhelnaaGreat
open Go.RowKit
theorem step_blk {W W':World}{base n size b:Nat}{e e':TypeId}{v v':Value}{xs:List Value}{cs:Array Value}{z:Nat × Nat}(hr:W.ownsRow base e size v n xs)(hs:Step W v W' v')(hb:W.heap[b]?=some (.cells cs e' z))(hne:e≠e'):W'.heap[b]?=some (.cells cs e' z):=by
 refine (hs.1.block b (lt_of_block hb) fun h=>?_).trans hb
 rcases hr.2 with ⟨rfl,_⟩ | ⟨g,cap,cur,rfl,_,hh,_⟩
 ·cases h
 ·cases h
  rw [hh] at hb
  cases hb
  exact hne rfl
theorem step_row {W W':World}{base n size base' n' size':Nat}{e e':TypeId}{v v' u:Value}{xs ys:List Value}(hr:W.ownsRow base e size v n xs)(hs:Step W v W' v')(hu:W.ownsRow base' e' size' u n' ys)(hne:e≠e'):W'.ownsRow base' e' size' u n' ys:=by
 refine ⟨hu.1,?_⟩
 rcases hu.2 with h2 | ⟨g,cap,cur,rfl,hg,hh,r⟩
 ·exact .inl h2
 ·exact .inr ⟨g,cap,cur,rfl,hg,step_blk hr hs hh hne,r⟩
theorem set4_b1 {w:World}{b:Nat}{x y z t u:Value}{ty:TypeId}(h:w.heap[b]?=some (.cells #[x,y,z,t] ty (0,0))):(w.setCell ⟨b,1,none⟩ u).heap[b]?=some (.cells #[x,u,z,t] ty (0,0)):=set_blk u h
theorem set4_b2 {w:World}{b:Nat}{x y z t u:Value}{ty:TypeId}(h:w.heap[b]?=some (.cells #[x,y,z,t] ty (0,0))):(w.setCell ⟨b,2,none⟩ u).heap[b]?=some (.cells #[x,y,u,t] ty (0,0)):=set_blk u h
theorem set4_b3 {w:World}{b:Nat}{x y z t u:Value}{ty:TypeId}(h:w.heap[b]?=some (.cells #[x,y,z,t] ty (0,0))):(w.setCell ⟨b,3,none⟩ u).heap[b]?=some (.cells #[x,y,z,u] ty (0,0)):=set_blk u h
structure FnSt (w:World)(q g:Nat)(bs:List UInt8)(B:Nat)(W:World)(st:RSt)(r0 r1 r2 r3:Value)(P0 P1 P2:List Int)(P3:List (Int × Int)):Prop where
 blk:W.heap[B]?=some (.cells #[r0,r1,r2,r3] 49 (0,0))
 q0:W.ownsRow w.heap.size 3 1 r0 P0.length (cellsN P0)
 q1:W.ownsRow w.heap.size 3 1 r1 P1.length (cellsN P1)
 q2:W.ownsRow w.heap.size 3 1 r2 P2.length (cellsN P2)
 q3:W.ownsRow w.heap.size 74 2 r3 P3.length (cellsI P3)
 fs:FS W q g bs st
 chg:Chg w W (fun k=>k=q)
 res:W.heap[w.heap.size]?=some (.cells #[.slice none 0 0,.slice none 0 0,.slice none 0 0,.slice none 0 0] 49 (0,0))
 hB:w.heap.size<B
 hq:q<w.heap.size
 hg:g<w.heap.size
section
variable {w:World} {q g:Nat} {bs:List UInt8} {B:Nat} {W:World} {st:RSt} {r0 r1 r2 r3:Value} {P0 P1 P2:List Int} {P3:List (Int × Int)}
theorem FnSt.cells (h:FnSt w q g bs B W st r0 r1 r2 r3 P0 P1 P2 P3):(W.cell? ⟨B,0,none⟩=some r0∧W.cell? ⟨B,1,none⟩=some r1∧W.cell? ⟨B,2,none⟩=some r2∧W.cell? ⟨B,3,none⟩=some r3)∧∀ o,W.frozen? ⟨B,o,none⟩=false:=by
 refine ⟨⟨?_,?_,?_,?_⟩,fun o=>Lib.frozen_of_heap h.blk o⟩
 all_goals (rw [Lib.cell_of_heap h.blk];rfl)
theorem FnSt.call {W':World}{st':RSt}(h:FnSt w q g bs B W st r0 r1 r2 r3 P0 P1 P2 P3)(hc:Chg W W' (fun k=>k=q))(hf:FS W' q g bs st'):FnSt w q g bs B W' st' r0 r1 r2 r3 P0 P1 P2 P3:=by
 have key:∀ {e:TypeId} {size n:Nat} {v:Value} {xs:List Value},W.ownsRow w.heap.size e size v n xs→W'.ownsRow w.heap.size e size v n xs:=fun hr=>row_chg4 hr hc fun b hb e=>by have:=(row_lt4 hr b hb).1;have:=h.hq;omega
 exact ⟨(hc.block _ (lt_of_block h.blk) (by have:=h.hB;have:=h.hq;omega)).trans h.blk,key h.q0,key h.q1,key h.q2,key h.q3,hf,h.chg.trans hc fun _ _ e=>e,(hc.block _ (lt_of_block h.res) (by have:=h.hq;omega)).trans h.res,h.hB,h.hq,h.hg⟩
theorem FnSt.alloc (h:FnSt w q g bs B W st r0 r1 r2 r3 P0 P1 P2 P3)(o:Obj):FnSt w q g bs B (W.alloc o) st r0 r1 r2 r3 P0 P1 P2 P3:=h.call (Chg.alloc W o _) (h.fs.chg (Chg.alloc W o (fun _=>False)) id id)
theorem FnSt.below {W':World}(h:FnSt w q g bs B W st r0 r1 r2 r3 P0 P1 P2 P3)(hb:Below W.heap.size W W'):FnSt w q g bs B W' st r0 r1 r2 r3 P0 P1 P2 P3:=h.call (Chg.of_below hb) (h.fs.chg (Chg.of_below (S:=fun _=>False) hb) id id)
theorem FnSt.other {b o:Nat}{u:Value}{cs:Array Value}(h:FnSt w q g bs B W st r0 r1 r2 r3 P0 P1 P2 P3)(hb:w.heap.size<b)(hne:b≠B)(ht:W.heap[b]?=some (.cells cs 74 (0,0)))(hrow:∀ k,r3.ownBlock=some k→k≠b):FnSt w q g bs B (W.setCell ⟨b,o,none⟩ u) st r0 r1 r2 r3 P0 P1 P2 P3:=by
 have hc:=Chg.setCell W ⟨b,o,none⟩ u
 have h1:=h.hq
 have h2:=h.hg
 exact ⟨(hc.block _ (lt_of_block h.blk) (fun e=>hne e.symm)).trans h.blk,row_set_other h.q0 ht (by decide),row_set_other h.q1 ht (by decide),row_set_other h.q2 ht (by decide),row_chg4 h.q3 hc fun k e e2=>hrow k e e2,h.fs.chg hc (by show ¬ q=b;omega) (by show ¬ g=b;omega),h.chg.trans hc fun i hi (e:i=b)=>by omega,(hc.block _ (lt_of_block h.res) (by show ¬ w.heap.size=b;omega)).trans h.res,h.hB,h.hq,h.hg⟩
theorem FnSt.set {o:Nat}{u:Value}(h:FnSt w q g bs B W st r0 r1 r2 r3 P0 P1 P2 P3):(W.setCell ⟨B,o,none⟩ u).ownsRow w.heap.size 3 1 r0 P0.length (cellsN P0)∧(W.setCell ⟨B,o,none⟩ u).ownsRow w.heap.size 3 1 r1 P1.length (cellsN P1)∧(W.setCell ⟨B,o,none⟩ u).ownsRow w.heap.size 3 1 r2 P2.length (cellsN P2)∧(W.setCell ⟨B,o,none⟩ u).ownsRow w.heap.size 74 2 r3 P3.length (cellsI P3)∧FS (W.setCell ⟨B,o,none⟩ u) q g bs st∧Chg w (W.setCell ⟨B,o,none⟩ u) (fun k=>k=q)∧(W.setCell ⟨B,o,none⟩ u).heap[w.heap.size]?=some (.cells #[.slice none 0 0,.slice none 0 0,.slice none 0 0,.slice none 0 0] 49 (0,0)):=by
 have hc:=Chg.setCell W ⟨B,o,none⟩ u
 have h1:=h.hq
 have h2:=h.hg
 have h3:=h.hB
 exact ⟨row_set_other h.q0 h.blk (by decide),row_set_other h.q1 h.blk (by decide),row_set_other h.q2 h.blk (by decide),row_set_other h.q3 h.blk (by decide),h.fs.chg hc (by show ¬ q=B;omega) (by show ¬ g=B;omega),h.chg.trans hc fun i hi (e:i=B)=>by omega,(hc.block _ (lt_of_block h.res) (by show ¬ w.heap.size=B;omega)).trans h.res⟩
theorem FnSt.set1 {u:Value}{P:List Int}(h:FnSt w q g bs B W st r0 r1 r2 r3 P0 P1 P2 P3)(hu:W.ownsRow w.heap.size 3 1 u P.length (cellsN P)):FnSt w q g bs B (W.setCell ⟨B,1,none⟩ u) st r0 u r2 r3 P0 P P2 P3:=by
 obtain ⟨a0,a1,a2,a3,a4,a5,a6⟩:=h.set (o:=1) (u:=u)
 exact ⟨set4_b1 h.blk,a0,row_set_other hu h.blk (by decide),a2,a3,a4,a5,a6,h.hB,h.hq,h.hg⟩
theorem FnSt.set2 {u:Value}{P:List Int}(h:FnSt w q g bs B W st r0 r1 r2 r3 P0 P1 P2 P3)(hu:W.ownsRow w.heap.size 3 1 u P.length (cellsN P)):FnSt w q g bs B (W.setCell ⟨B,2,none⟩ u) st r0 r1 u r3 P0 P1 P P3:=by
 obtain ⟨a0,a1,a2,a3,a4,a5,a6⟩:=h.set (o:=2) (u:=u)
 exact ⟨set4_b2 h.blk,a0,a1,row_set_other hu h.blk (by decide),a3,a4,a5,a6,h.hB,h.hq,h.hg⟩
theorem FnSt.app {W':World}{v':Value}{P:List (Int × Int)}(h:FnSt w q g bs B W st r0 r1 r2 r3 P0 P1 P2 P3)(hs:Step W r3 W' v')(hr:W'.ownsRow w.heap.size 74 2 v' P.length (cellsI P)):FnSt w q g bs B (W'.setCell ⟨B,3,none⟩ v') st r0 r1 r2 v' P0 P1 P2 P:=by
 have hc:=Chg.of_grown hs.1
 have hlt:=row_lt4 h.q3
 have h1:=h.hq
 have h2:=h.hg
 have h3:=h.hB
 have b':=step_blk h.q3 hs h.blk (by decide)
 have hc2:=Chg.setCell W' ⟨B,3,none⟩ v'
 refine ⟨set4_b3 b',row_set_other (step_row h.q3 hs h.q0 (by decide)) b' (by decide),row_set_other (step_row h.q3 hs h.q1 (by decide)) b' (by decide),row_set_other (step_row h.q3 hs h.q2 (by decide)) b' (by decide),row_set_other hr b' (by decide),(h.fs.chg hc (fun e=>?_) (fun e=>?_)).chg hc2 (by show ¬ q=B;omega) (by show ¬ g=B;omega),(h.chg.trans hc fun i hi e=>?_).trans hc2 fun i hi (e:i=B)=>by omega,(hc2.block _ (lt_of_block (step_blk h.q3 hs h.res (by decide))) (by show ¬ w.heap.size=B;omega)).trans (step_blk h.q3 hs h.res (by decide)),h.hB,h.hq,h.hg⟩
 all_goals (have:=(hlt _ e).1;omega)
end
end Go.Proofs.YtpmlnkjamhelnaaGreat
