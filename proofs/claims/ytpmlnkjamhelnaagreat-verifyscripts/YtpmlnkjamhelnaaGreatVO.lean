/- layer 2's helper 'Own': values in memory of their own. -/
import Derived.Test.YtpmlnkjamhelnaaGreatVR
import Derived.Deep.AppendSrc
import Derived.Maps.AppendAt
import Derived.OwnWalk
namespace Go.Proofs.YtpmlnkjamhelnaaGreat
open Go.RowKit
def cellsL (L:List Val):List Value:=L.flatMap fun x=>[.int .i64 x.t,.int .i64 x.n,.string ⟨x.b.toArray⟩]
theorem cellsL_len (L:List Val):(cellsL L).length=L.length*3:=by
 induction L with
 | nil=>rfl
 | cons x L ih=>simp [cellsL] at ih ⊢;omega
theorem cellsL_at (L:List Val):∀ j (hj:j<L.length),(cellsL L)[j*3]?=some (.int .i64 L[j].t)∧(cellsL L)[j*3+1]?=some (.int .i64 L[j].n)∧(cellsL L)[j*3+2]?=some (.string ⟨L[j].b.toArray⟩):=by
 induction L with
 | nil=>intro j hj;simp at hj
 | cons x L ih =>
  intro j hj
  have e:cellsL (x :: L)=.int .i64 x.t :: .int .i64 x.n :: .string ⟨x.b.toArray⟩ :: cellsL L:=by simp [cellsL]
  rw [e]
  cases j with
  | zero=>exact ⟨rfl,rfl,rfl⟩
  | succ j =>
   have:=ih j (by simpa using hj)
   rw [show (j+1)*3=j*3+1+1+1 by omega]
   simpa using this
theorem cellsL_get {w:World}{b off:Nat}{L:List Val}(hc:∀ j (h:j<L.length),w.cell? ⟨b,off+j*3,none⟩=some (.int .i64 L[j].t)∧w.cell? ⟨b,off+j*3+1,none⟩=some (.int .i64 L[j].n)∧w.cell? ⟨b,off+j*3+2,none⟩=some (.string ⟨L[j].b.toArray⟩)) :
  ∀ j u,(cellsL L)[j]?=some u→w.cell? ((⟨b,off,none⟩:Addr).add j)=some u:=by
 intro i u hu
 have hi:i<(cellsL L).length:=(List.getElem?_eq_some_iff.1 hu).1
 rw [cellsL_len] at hi
 have hj:i / 3<L.length:=by omega
 obtain ⟨h0,h1,h2⟩:=hc _ hj
 obtain ⟨g0,g1,g2⟩:=cellsL_at L _ hj
 rw [Addr.add_lit]
 have:i % 3=0∨i % 3=1∨i % 3=2:=by omega
 rcases this with h | h | h
 ·have e:i=i / 3*3:=by omega
  rw [e] at hu ⊢
  rw [g0] at hu
  rw [← hu];exact h0
 ·have e:i=i / 3*3+1:=by omega
  rw [e] at hu ⊢
  rw [g1] at hu
  rw [← hu];exact h1
 ·have e:i=i / 3*3+2:=by omega
  rw [e] at hu ⊢
  rw [g2] at hu
  rw [← hu];exact h2
theorem cellsL_one (L:List Val):∀ u ∈ cellsL L,u.oneCell'=true:=by
 intro u hu
 simp only [cellsL,List.mem_flatMap] at hu
 obtain ⟨x,_,hx⟩:=hu
 simp at hx
 rcases hx with rfl | rfl | rfl <;> rfl
theorem vs_of_row {w:World}{base n:Nat}{v:Value}{L:List Val}(h:w.ownsRow base 76 3 v n (cellsL L))(hn:L.length=n):∃ a c,v=.slice a n c∧Vs w a L:=by
 rcases h.2 with ⟨rfl,h0⟩ | ⟨g,cap,cur,rfl,hg,hh,r⟩
 ·subst h0
  exact ⟨none,0,rfl,.inl (by simpa using hn)⟩
 ·refine ⟨_,_,rfl,.inr ⟨g,0,rfl,fun j hj=>?_⟩⟩
  have hc:=World.ownsRow.cells h (g:=g) rfl
  obtain ⟨g0,g1,g2⟩:=cellsL_at L j hj
  have c0:=hc _ _ g0
  have c1:=hc _ _ g1
  have c2:=hc _ _ g2
  rw [Addr.add_lit] at c0 c1 c2
  exact ⟨c0,c1,c2⟩
theorem wpList_app_run {P:Program}{w:World}{ops:Array Oper}{rest:List Oper}{o:Oper}{a:Act}{Q:Exit→Act→World→Prop}(hgd:o.guard=none)(s x:Operand)(t tx:TypeId)(ho:o.op=.call { callee:=.builtin .append,args:=#[s,x],argTypes:=#[t,tx] })
  (v y v':Value) (w':World) (hv:a.eval s=v) (hy:a.eval x=y) (hr:(Builtin.append_ #[t,tx] o.type #[v,y]).run P w=.ok v' w') (h:wpList P ops Q rest (a.put o.dst v') w'):wpList P ops Q (o :: rest) a w:=by
 refine wpList_plain hgd fun K hK=>?_
 unfold Oper.wp execOp
 simp only [ho,resolve,invoke,builtin,Sem.run_bind,Sem.run_pure,Result.andThen_ok,List.map_toArray,List.map_cons,List.map_nil,hv,hy,hr]
 exact hK _ _ h
theorem val_info:(Tryz.prog.info? 76).map (fun i=>(i.zero,i.size,i.bytes))=some (some (.agg #[.int .i64 0,.int .i64 0,.string ⟨#[]⟩]),3,32):=by kernel_rfl
set_option maxHeartbeats 1000000 in
theorem own_any (a:Option Addr)(n c:Nat)(L:List Val)(hn:L.length=n)(w:World)(hV:Vs w a L)(hl:n*32≤140737488355328):Calls Tryz.prog 13 #[.slice a n c] w fun e w'=>∃ a' c',e=.returned (.slice a' n c')∧Vs w' a' L∧Below w.heap.size w w':=by
 obtain ⟨i0,hi,hz0,hz1,hz2⟩:=info_parts val_info
 have hnew:=heap_alloc_new w (.cells #[] 76)
 have hrow:(w.alloc (.cells #[] 76)).ownsRow w.heap.size 76 3 (.slice (some ⟨w.heap.size,0,none⟩) 0 0) 0 []:=⟨rfl,.inr ⟨w.heap.size,0,#[],rfl,Nat.le_refl _,hnew,Nat.le_refl _,Nat.zero_le _,rfl,rfl⟩⟩
 by_cases h0:n=0∧a=none
 ·obtain ⟨rfl,rfl⟩:=h0
  have hr:=run_append_room_src (P:=Tryz.prog) (w.alloc (.cells #[] 76)) 42 42 42 76 i0 Tryz.underlying42 hi w.heap.size 0 0 0 (.slice none 0 c) 0 [] (Src.ofNil _ Tryz.underlying42 c) (Nat.le_refl _) (fun j hj=>by simp at hj) (fun j hj=>by simp at hj)
  go_enter Tryz.func13,Tryz.ntmps13
  go_wp2_with (at_builtin;refine wpList_app_run rfl _ _ _ _ rfl _ _ _ _ rfl rfl hr ?_)
  go_ret
  refine ⟨_,_,rfl,.inl (by simpa using hn),?_⟩
  exact (Below.refl _ w).alloc (Nat.le_refl _) _
 ·obtain ⟨ad,rfl,hnews⟩:∃ ad,a=some ad∧∀ j u,(cellsL L)[j]?=some u→w.cell? (ad.add j)=some u:=by
   rcases hV with h | ⟨b,off,rfl,hc⟩
   ·subst h
    cases a with
    | none=>exact absurd ⟨by simpa using hn.symm,rfl⟩ h0
    | some ad=>exact ⟨ad,rfl,fun j u hu=>by simp [cellsL] at hu⟩
   ·exact ⟨_,rfl,cellsL_get hc⟩
  have hnews':∀ j u,(cellsL L)[j]?=some u→(w.alloc (.cells #[] 76)).cell? (ad.add j)=some u:=fun j u hu=>keep_alloc _ _ _ _ (hnews j u hu)
  go_enter Tryz.func13,Tryz.ntmps13
  go_wp2_with (at_builtin;refine wpList_append_own_at _ rfl _ _ 42 rfl w.heap.size 76 i0 _ 3 32 Tryz.underlying42 hi hz0 hz1 hz2 rfl (by decide) _ 0 [] rfl hrow ad n c (cellsL L) rfl ?c1 hnews' ?c2 ?c3 ?c4 ?c5 ?_)
  case c1=>rw [cellsL_len,hn]
  case c2=>exact cellsL_one L
  case c3=>unfold maxLen;omega
  case c4=>rw [Nat.zero_add];exact hl
  case c5=>simp
  intro v' w2 hown hgrow _ _
  obtain ⟨a',c',rfl,hV'⟩:=vs_of_row hown hn
  go_wp2
  go_ret
  refine ⟨_,_,rfl,hV',?_⟩
  exact ((Below.refl _ w).alloc (Nat.le_refl _) _).grown hgrow (by simp) (fun k hk=>by cases hk;exact Nat.le_refl _)
end Go.Proofs.YtpmlnkjamhelnaaGreat
