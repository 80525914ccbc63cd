/- append onto an owned slice of elements of any size. Scripts in memory. -/
import Derived.Test.YtpmlnkjamhelnaaGreatPlain
import Derived.Maps.AppendAt
import Derived.OwnWalk
import Derived.Orders
namespace Go.Proofs.YtpmlnkjamhelnaaGreat
open Go.RowKit
structure ElemN (P:Program)(t e:TypeId)(size bytes:Nat):Prop where
 ht:P.underlying t=some (.slice e)
 hi:∃ i z,P.info? e=some i∧i.zero=some z∧i.size=size∧i.bytes=bytes∧z.cells.size=size
 pos:0<size
def Lies (w:World)(y:Value)(m:Nat)(news:List Value):Prop :=
 (∃ c,y=.slice none 0 c∧m=0∧news=[])∨∃ ad c,y=.slice (some ad) m c∧∀ j u,news[j]?=some u→w.cell? (ad.add j)=some u
theorem Lies.keep {w w':World}{y:Value}{m:Nat}{news:List Value}(h:Lies w y m news)(hk:∀ a v,w.cell? a=some v→w'.cell? a=some v):Lies w' y m news:=by
 rcases h with h | ⟨ad,c,rfl,h⟩
 ·exact .inl h
 ·exact .inr ⟨ad,c,rfl,fun j u hu=>hk _ _ (h j u hu)⟩
section
variable {P:Program} (w:World)
theorem run_appN {t ty e:TypeId}{size bytes:Nat}(E:ElemN P t e size bytes)(base:Nat)(v:Value)(n:Nat)(xs:List Value)(hown:w.ownsRow base e size v n xs)(y:Value)(m:Nat)(news:List Value)(hy:Lies w y m news)(hl:news.length=m*size)(h1:∀ u ∈ news,u.oneCell'=true)
  (h63:n+m≤maxLen) (hbytes:(n+m)*bytes≤140737488355328) (hbase:base≤w.heap.size) :
  ∃ v' w',(Builtin.append_ #[t,t] ty #[v,y]).run P w=.ok v' w'∧w'.ownsRow base e size v' (n+m) (xs++news)∧Step w v w' v':=by
 obtain ⟨ht,⟨i,z,hi,hz,hsize,hby,hzs⟩,hpos⟩:=E
 rcases hy with ⟨c,rfl,rfl,rfl⟩ | ⟨ad,c,rfl,hnews⟩
 ·refine ⟨v,w,?_,by simpa using hown,Step.refl _ _⟩
  have hs:Src P i.size t (.slice none 0 c) 0 [] w:=Src.ofNil w ht c
  have hc:(Builtin.firstCells i.size 0 (.slice none 0 c)).run P w=.ok #[] w:=hs.cells
  rcases hown.2 with ⟨rfl,h0⟩ | ⟨g,cap,cur,rfl,hbg,hg,hnc,hcm,hcs,htake⟩
  ·simp [Builtin.append_,run_underlying ht,sizeOf,typeInfo,hi,hs.len,hc]
  ·have:=run_append_room_src (P:=P) w t t ty e i ht hi g 0 n cap (.slice none 0 c) 0 [] hs (by omega) (fun j hj=>by simp at hj) (fun j hj=>by simp at hj)
   rw [this]
   rfl
 ·obtain ⟨v',w',hr,h2,h3,h4,h5⟩:=run_append_own_at (P:=P) w base t ty e i z size bytes ht hi hz hsize hby hzs hpos v n xs hown ad m c news hl hnews h1 h63 hbytes hbase
  refine ⟨v',w',hr,h2,h3,?_⟩
  rcases h5 with h | h
  ·exact .inl h
  ·exact .inr ⟨_,h,Nat.le_refl _⟩
theorem run_app0 {t ty e:TypeId}{size bytes:Nat}(E:ElemN P t e size bytes)(base g:Nat)(hg:base≤g)(hgl:w.heap[g]?=some (.cells #[] e (0,0)))(y:Value)(m:Nat)(news:List Value)(hy:Lies w y m news)(hl:news.length=m*size)(h1:∀ u ∈ news,u.oneCell'=true)
  (h63:m≤maxLen) (hbytes:m*bytes≤140737488355328) (hbase:base≤w.heap.size) :
  ∃ v' w',(Builtin.append_ #[t,t] ty #[.slice (some ⟨g,0,none⟩) 0 0,y]).run P w=.ok v' w'∧w'.ownsRow base e size v' m news∧Below w.heap.size w w':=by
 obtain ⟨ht,⟨i,z,hi,hz,hsize,hby,hzs⟩,hpos⟩:=E
 have hrow0:w.ownsRow base e size (.slice (some ⟨g,0,none⟩) 0 0) 0 []:=⟨by simp,.inr ⟨g,0,#[],rfl,hg,hgl,Nat.le_refl _,Nat.zero_le _,by simp,by simp⟩⟩
 by_cases hm:m=0
 ·subst hm
  obtain rfl:news=[]:=List.eq_nil_of_length_eq_zero (by simpa using hl)
  have hs:Src P i.size t y 0 [] w:=by
   rcases hy with ⟨c,rfl,_,_⟩ | ⟨ad,c,rfl,hn⟩
   ·exact Src.ofNil w ht c
   ·exact Src.ofSlice w ht ad 0 c [] (by simp) (fun j u h=>by simp at h) (fun u h=>by cases h)
  have:=run_append_room_src (P:=P) w t t ty e i ht hi g 0 0 0 y 0 [] hs (Nat.le_refl _) (fun j hj=>by simp at hj) (fun j hj=>by simp at hj)
  exact ⟨_,w,by rw [this];rfl,hrow0,Below.refl _ _⟩
 ·rcases hy with ⟨c,rfl,rfl,rfl⟩ | ⟨ad,c,rfl,hn⟩
  ·exact absurd rfl hm
  have hs:Src P i.size t (.slice (some ad) m c) m news w:=Src.ofSlice w ht ad m c news (by rw [hsize];exact hl) hn h1
  have hsmall:m≤9223372036854775807:=by simp only [maxLen] at h63;omega
  have hr:=run_append_grow_src (P:=P) w t t ty e i z ht hi hz (some ⟨g,0,none⟩) 0 0 [] (run_firstCells_some w.drew i.size 0 ⟨g,0,none⟩ 0 0 [] (by simp) (fun j u h=>by simp at h)) (.slice (some ad) m c) m news hs (by omega) (by omega) (growslice_fits (by omega) (by rw [hby];simpa using hbytes))
  simp only [Nat.zero_add,List.nil_append] at hr
  have hge:=grownCap_ge w m 0 e
  have hcm:grownCap w m 0 e≤maxLen:=grownCap_le_maxLen w m 0 e h63
  refine ⟨_,_,hr,⟨hl,.inr ⟨w.heap.size,_,_,rfl,hbase,heap_alloc_new w.drew _,hge,hcm,?_,?_⟩⟩,(Below.refl _ w).drew.alloc (Nat.le_refl _) _⟩
  ·simp only [Array.size_append,List.size_toArray,size_zeroCells,hzs,hl]
   rw [← Nat.add_mul]
   congr 1
   omega
  ·rw [Array.toList_append]
   simp only [← hl]
   exact List.take_left
theorem wp_app0 {o:Oper}{a:Act}{K:Act→World→Prop}{Q:Exit→Act→World→Prop}(s x:Operand)(t:TypeId)(ho:o.op=.call { callee:=.builtin .append,args:=#[s,x],argTypes:=#[t,t] })
  {e:TypeId} {size bytes:Nat} (E:ElemN P t e size bytes) (base g:Nat) (hg:base≤g) (hgl:w.heap[g]?=some (.cells #[] e (0,0))) (hv:a.eval s=.slice (some ⟨g,0,none⟩) 0 0) (y:Value) (hyv:a.eval x=y) (m:Nat) (news:List Value) (hy:Lies w y m news) (hl:news.length=m*size) (h1:∀ u ∈ news,u.oneCell'=true)
  (h63:m≤maxLen) (hbytes:m*bytes≤140737488355328) (hbase:base≤w.heap.size)
  (h:∀ v' w',w'.ownsRow base e size v' m news→Below w.heap.size w w'→K (a.put o.dst v') w'):o.wp P a w K Q:=by
 obtain ⟨v',w',hr,h2,h3⟩:=run_app0 (P:=P) w (ty:=o.type) E base g hg hgl y m news hy hl h1 h63 hbytes hbase
 unfold Oper.wp execOp
 simp only [ho,resolve,invoke,builtin,Sem.run_bind,Sem.run_pure,Result.andThen_ok,List.map_toArray,List.map_cons,List.map_nil,hv,hyv,hr]
 exact h v' w' h2 h3
theorem wp_appN {o:Oper}{a:Act}{K:Act→World→Prop}{Q:Exit→Act→World→Prop}(s x:Operand)(t:TypeId)(ho:o.op=.call { callee:=.builtin .append,args:=#[s,x],argTypes:=#[t,t] })
  {e:TypeId} {size bytes:Nat} (E:ElemN P t e size bytes) (base:Nat) (v:Value) (n:Nat) (xs:List Value) (hv:a.eval s=v) (hown:w.ownsRow base e size v n xs) (y:Value) (hyv:a.eval x=y) (m:Nat) (news:List Value) (hy:Lies w y m news) (hl:news.length=m*size) (h1:∀ u ∈ news,u.oneCell'=true)
  (h63:n+m≤maxLen) (hbytes:(n+m)*bytes≤140737488355328) (hbase:base≤w.heap.size)
  (h:∀ v' w',w'.ownsRow base e size v' (n+m) (xs++news)→Step w v w' v'→K (a.put o.dst v') w'):o.wp P a w K Q:=by
 obtain ⟨v',w',hr,h2,h3⟩:=run_appN (P:=P) w (ty:=o.type) E base v n xs hown y m news hy hl h1 h63 hbytes hbase
 unfold Oper.wp execOp
 simp only [ho,resolve,invoke,builtin,Sem.run_bind,Sem.run_pure,Result.andThen_ok,List.map_toArray,List.map_cons,List.map_nil,hv,hyv,hr]
 exact h v' w' h2 h3
theorem wpList_appN {ops:Array Oper}{rest:List Oper}{o:Oper}{a:Act}{Q:Exit→Act→World→Prop}(hgd:o.guard=none)(s x:Operand)(t:TypeId)(ho:o.op=.call { callee:=.builtin .append,args:=#[s,x],argTypes:=#[t,t] })
  {e:TypeId} {size bytes:Nat} (E:ElemN P t e size bytes) (base:Nat) (v:Value) (n:Nat) (xs:List Value) (hv:a.eval s=v) (hown:w.ownsRow base e size v n xs) (y:Value) (hyv:a.eval x=y) (m:Nat) (news:List Value) (hy:Lies w y m news) (hl:news.length=m*size) (h1:∀ u ∈ news,u.oneCell'=true)
  (h63:n+m≤maxLen) (hbytes:(n+m)*bytes≤140737488355328) (hbase:base≤w.heap.size)
  (h:∀ v' w',w'.ownsRow base e size v' (n+m) (xs++news)→Step w v w' v'→wpList P ops Q rest (a.put o.dst v') w'):wpList P ops Q (o :: rest) a w :=
 wpList_plain hgd fun _ hK=>wp_appN w s x t ho E base v n xs hv hown y hyv m news hy hl h1 h63 hbytes hbase fun v' w' h2 h3=>hK _ _ (h v' w' h2 h3)
theorem step_appN {ops:Array Oper}{o:Oper}{a:Act}{K:Act→World→Prop}{Q:Exit→Act→World→Prop}{X:Prop}(hgd:o.guard=none)(s x:Operand)(t:TypeId)(ho:o.op=.call { callee:=.builtin .append,args:=#[s,x],argTypes:=#[t,t] })
  {e:TypeId} {size bytes:Nat} (E:ElemN P t e size bytes) (base:Nat) (v:Value) (n:Nat) (xs:List Value) (hv:a.eval s=v) (hown:w.ownsRow base e size v n xs) (y:Value) (hyv:a.eval x=y) (m:Nat) (news:List Value) (hy:Lies w y m news) (hl:news.length=m*size) (h1:∀ u ∈ news,u.oneCell'=true)
  (h63:n+m≤maxLen) (hbytes:(n+m)*bytes≤140737488355328) (hbase:base≤w.heap.size)
  (h:∀ v' w',w'.ownsRow base e size v' (n+m) (xs++news)→Step w v w' v'→K (a.put o.dst v') w') :
  if Region.wanted o (yielded ops a.tmps)=true then Oper.wp P o a w K Q else X:=by
 have hw:Region.wanted o (yielded ops a.tmps)=true:=by simp [Region.wanted,hgd]
 rw [if_pos hw]
 exact wp_appN w s x t ho E base v n xs hv hown y hyv m news hy hl h1 h63 hbytes hbase h
end
theorem row_form {w:World}{base n size:Nat}{e:TypeId}{v:Value}{xs:List Value}(h:w.ownsRow base e size v n xs):∃ a c,v=.slice a n c∧n≤c∧c≤maxLen∧((a=none∧n=0∧c=0)∨∃ g,a=some ⟨g,0,none⟩∧base≤g∧g<w.heap.size∧∀ j u,xs[j]?=some u→w.cell? ⟨g,j,none⟩=some u):=by
 rcases h.2 with ⟨rfl,rfl⟩ | ⟨g,cap,cur,rfl,hg,hh,hnc,hcm,r⟩
 ·exact ⟨none,0,rfl,Nat.le_refl _,Nat.zero_le _,.inl ⟨rfl,rfl,rfl⟩⟩
 ·refine ⟨_,_,rfl,hnc,hcm,.inr ⟨g,rfl,hg,(Array.getElem?_eq_some_iff.1 hh).1,fun j u hu=>?_⟩⟩
  have:=World.ownsRow.cells h (g:=g) rfl j u hu
  rw [Addr.add_lit] at this
  simpa using this
theorem row_below2 {w w':World}{base k size:Nat}{e:TypeId}{v:Value}{xs:List Value}(h:w.ownsRow base e size v k xs)(hb:Below w.heap.size w w'):w'.ownsRow base e size v k xs:=by
 refine ⟨h.1,?_⟩
 rcases h.2 with h2 | ⟨g,cap,cur,rfl,hg,hh,r⟩
 ·exact .inl h2
 ·exact .inr ⟨g,cap,cur,rfl,hg,by rw [hb.block g (Array.getElem?_eq_some_iff.1 hh).1];exact hh,r⟩
theorem row_lit0 (w:World)(e:TypeId)(size:Nat)(base:Nat)(hb:base≤w.heap.size):(w.alloc (.cells #[] e)).ownsRow base e size (.slice (some ⟨w.heap.size,0,none⟩) 0 0) 0 [] :=
 ⟨by simp,.inr ⟨w.heap.size,0,#[],rfl,hb,heap_alloc_new w _,Nat.le_refl _,Nat.zero_le _,by simp,by simp⟩⟩
structure Fn where
 p:List Int
 r:List Int
 l:List Int
 code:List (Int × Int)
 deriving DecidableEq
structure Scr where
 consts:List (List UInt8)
 funcs:List Fn
 deriving DecidableEq
def NsAt (C:Addr→Option Value)(ao:Option Addr)(ns:List Int):Prop:=ns=[]∨∃ b off,ao=some ⟨b,off,none⟩∧∀ j (h:j<ns.length),C ⟨b,off+j,none⟩=some (.int .i64 ns[j])
def SsAt (C:Addr→Option Value)(ao:Option Addr)(ss:List (List UInt8)):Prop:=ss=[]∨∃ b off,ao=some ⟨b,off,none⟩∧∀ j (h:j<ss.length),C ⟨b,off+j,none⟩=some (.string ⟨ss[j].toArray⟩)
def IsAt (C:Addr→Option Value)(ao:Option Addr)(is:List (Int × Int)):Prop:=is=[]∨∃ b off,ao=some ⟨b,off,none⟩∧∀ j (h:j<is.length),C ⟨b,off+j*2,none⟩=some (.int .i64 is[j].1)∧C ⟨b,off+j*2+1,none⟩=some (.int .i64 is[j].2)
def FnIs (C:Addr→Option Value)(f:Fn)(v0 v1 v2 v3:Value):Prop :=
 (∃ a c,v0=.slice a f.p.length c∧NsAt C a f.p)∧(∃ a c,v1=.slice a f.r.length c∧NsAt C a f.r)∧(∃ a c,v2=.slice a f.l.length c∧NsAt C a f.l)∧(∃ a c,v3=.slice a f.code.length c∧IsAt C a f.code)
def FsAt (C:Addr→Option Value)(ao:Option Addr)(fs:List Fn):Prop:=fs=[]∨∃ b off,ao=some ⟨b,off,none⟩∧∀ j (h:j<fs.length),∃ v0 v1 v2 v3,C ⟨b,off+j*4,none⟩=some v0∧C ⟨b,off+j*4+1,none⟩=some v1∧C ⟨b,off+j*4+2,none⟩=some v2∧C ⟨b,off+j*4+3,none⟩=some v3∧FnIs C fs[j] v0 v1 v2 v3
def ScIs (C:Addr→Option Value)(s:Scr)(v0 v1:Value):Prop:=(∃ a c,v0=.slice a s.consts.length c∧SsAt C a s.consts)∧(∃ a c,v1=.slice a s.funcs.length c∧FsAt C a s.funcs)
theorem NsAt.keep {C C':Addr→Option Value}{ao:Option Addr}{ns:List Int}(h:NsAt C ao ns)(hk:∀ a v,C a=some v→C' a=some v):NsAt C' ao ns:=by
 rcases h with h | ⟨b,off,h,hc⟩
 ·exact .inl h
 ·exact .inr ⟨b,off,h,fun j hj=>hk _ _ (hc j hj)⟩
theorem SsAt.keep {C C':Addr→Option Value}{ao:Option Addr}{ns:List (List UInt8)}(h:SsAt C ao ns)(hk:∀ a v,C a=some v→C' a=some v):SsAt C' ao ns:=by
 rcases h with h | ⟨b,off,h,hc⟩
 ·exact .inl h
 ·exact .inr ⟨b,off,h,fun j hj=>hk _ _ (hc j hj)⟩
theorem IsAt.keep {C C':Addr→Option Value}{ao:Option Addr}{ns:List (Int × Int)}(h:IsAt C ao ns)(hk:∀ a v,C a=some v→C' a=some v):IsAt C' ao ns:=by
 rcases h with h | ⟨b,off,h,hc⟩
 ·exact .inl h
 ·exact .inr ⟨b,off,h,fun j hj=>⟨hk _ _ (hc j hj).1,hk _ _ (hc j hj).2⟩⟩
theorem FnIs.keep {C C':Addr→Option Value}{f:Fn}{v0 v1 v2 v3:Value}(h:FnIs C f v0 v1 v2 v3)(hk:∀ a v,C a=some v→C' a=some v):FnIs C' f v0 v1 v2 v3:=by
 obtain ⟨⟨a0,c0,e0,h0⟩,⟨a1,c1,e1,h1⟩,⟨a2,c2,e2,h2⟩,⟨a3,c3,e3,h3⟩⟩:=h
 exact ⟨⟨a0,c0,e0,h0.keep hk⟩,⟨a1,c1,e1,h1.keep hk⟩,⟨a2,c2,e2,h2.keep hk⟩,⟨a3,c3,e3,h3.keep hk⟩⟩
theorem FsAt.keep {C C':Addr→Option Value}{ao:Option Addr}{fs:List Fn}(h:FsAt C ao fs)(hk:∀ a v,C a=some v→C' a=some v):FsAt C' ao fs:=by
 rcases h with h | ⟨b,off,h,hc⟩
 ·exact .inl h
 ·refine .inr ⟨b,off,h,fun j hj=>?_⟩
  obtain ⟨v0,v1,v2,v3,q0,q1,q2,q3,hf⟩:=hc j hj
  exact ⟨v0,v1,v2,v3,hk _ _ q0,hk _ _ q1,hk _ _ q2,hk _ _ q3,hf.keep hk⟩
theorem ScIs.keep {C C':Addr→Option Value}{s:Scr}{v0 v1:Value}(h:ScIs C s v0 v1)(hk:∀ a v,C a=some v→C' a=some v):ScIs C' s v0 v1:=by
 obtain ⟨⟨a0,c0,e0,h0⟩,⟨a1,c1,e1,h1⟩⟩:=h
 exact ⟨⟨a0,c0,e0,h0.keep hk⟩,⟨a1,c1,e1,h1.keep hk⟩⟩
def cellsN (ns:List Int):List Value:=ns.map (.int .i64 ·)
def cellsS (ss:List (List UInt8)):List Value:=ss.map fun s=>.string ⟨s.toArray⟩
def cellsI (is:List (Int × Int)):List Value:=is.flatMap fun i=>[.int .i64 i.1,.int .i64 i.2]
theorem cellsN_len (ns:List Int):(cellsN ns).length=ns.length*1:=by simp [cellsN]
theorem cellsS_len (ss:List (List UInt8)):(cellsS ss).length=ss.length*1:=by simp [cellsS]
theorem cellsI_len (is:List (Int × Int)):(cellsI is).length=is.length*2:=by
 induction is with
 | nil=>rfl
 | cons x L ih=>simp [cellsI] at ih ⊢;omega
theorem cellsN_one (ns:List Int):∀ u ∈ cellsN ns,u.oneCell'=true:=by
 intro u hu
 simp [cellsN] at hu
 obtain ⟨x,_,rfl⟩:=hu
 rfl
theorem cellsS_one (ss:List (List UInt8)):∀ u ∈ cellsS ss,u.oneCell'=true:=by
 intro u hu
 simp [cellsS] at hu
 obtain ⟨x,_,rfl⟩:=hu
 rfl
theorem cellsI_one (is:List (Int × Int)):∀ u ∈ cellsI is,u.oneCell'=true:=by
 intro u hu
 simp only [cellsI,List.mem_flatMap] at hu
 obtain ⟨x,_,hx⟩:=hu
 simp at hx
 rcases hx with rfl | rfl <;> rfl
theorem cellsI_at (L:List (Int × Int)):∀ j (hj:j<L.length),(cellsI L)[j*2]?=some (.int .i64 L[j].1)∧(cellsI L)[j*2+1]?=some (.int .i64 L[j].2):=by
 induction L with
 | nil=>intro j hj;simp at hj
 | cons x L ih =>
  intro j hj
  have e:cellsI (x :: L)=.int .i64 x.1 :: .int .i64 x.2 :: cellsI L:=by simp [cellsI]
  rw [e]
  cases j with
  | zero=>exact ⟨rfl,rfl⟩
  | succ j =>
   have:=ih j (by simpa using hj)
   rw [show (j+1)*2=j*2+1+1 by omega]
   simpa using this
theorem NsAt.lies {w:World}{a:Option Addr}{ns:List Int}(h:NsAt w.cell? a ns)(c:Nat):Lies w (.slice a ns.length c) ns.length (cellsN ns):=by
 rcases h with rfl | ⟨b,off,rfl,hc⟩
 ·cases a with
  | none=>exact .inl ⟨c,rfl,rfl,rfl⟩
  | some ad=>exact .inr ⟨ad,c,rfl,fun j u hu=>by simp [cellsN] at hu⟩
 ·refine .inr ⟨_,c,rfl,fun j u hu=>?_⟩
  obtain ⟨hj,rfl⟩:=List.getElem?_eq_some_iff.1 hu
  rw [Addr.add_lit]
  simpa [cellsN] using hc j (by simpa [cellsN] using hj)
theorem SsAt.lies {w:World}{a:Option Addr}{ns:List (List UInt8)}(h:SsAt w.cell? a ns)(c:Nat):Lies w (.slice a ns.length c) ns.length (cellsS ns):=by
 rcases h with rfl | ⟨b,off,rfl,hc⟩
 ·cases a with
  | none=>exact .inl ⟨c,rfl,rfl,rfl⟩
  | some ad=>exact .inr ⟨ad,c,rfl,fun j u hu=>by simp [cellsS] at hu⟩
 ·refine .inr ⟨_,c,rfl,fun j u hu=>?_⟩
  obtain ⟨hj,rfl⟩:=List.getElem?_eq_some_iff.1 hu
  rw [Addr.add_lit]
  simpa [cellsS] using hc j (by simpa [cellsS] using hj)
theorem IsAt.lies {w:World}{a:Option Addr}{is:List (Int × Int)}(h:IsAt w.cell? a is)(c:Nat):Lies w (.slice a is.length c) is.length (cellsI is):=by
 rcases h with rfl | ⟨b,off,rfl,hc⟩
 ·cases a with
  | none=>exact .inl ⟨c,rfl,rfl,rfl⟩
  | some ad=>exact .inr ⟨ad,c,rfl,fun j u hu=>by simp [cellsI] at hu⟩
 ·refine .inr ⟨_,c,rfl,fun i u hu=>?_⟩
  have hi:i<(cellsI is).length:=(List.getElem?_eq_some_iff.1 hu).1
  rw [cellsI_len] at hi
  have hj:i / 2<is.length:=by omega
  obtain ⟨h0,h1⟩:=hc _ hj
  obtain ⟨g0,g1⟩:=cellsI_at is _ hj
  rw [Addr.add_lit]
  have:i % 2=0∨i % 2=1:=by omega
  rcases this with h | h
  ·have e:i=i / 2*2:=by omega
   rw [e] at hu ⊢
   rw [g0] at hu
   rw [← hu];exact h0
  ·have e:i=i / 2*2+1:=by omega
   rw [e] at hu ⊢
   rw [g1] at hu
   rw [← hu];exact h1
theorem ns_of_row {w:World}{base n:Nat}{e:TypeId}{v:Value}{ns:List Int}(h:w.ownsRow base e 1 v n (cellsN ns)){C:Addr→Option Value}(hC:∀ a x,base≤a.block→w.cell? a=some x→C a=some x):n=ns.length∧∃ a c,v=.slice a n c∧n≤c∧NsAt C a ns:=by
 have hn:n=ns.length:=by have:=h.1;rw [cellsN_len] at this;omega
 subst hn
 obtain ⟨a,c,rfl,hc,_,hx⟩:=row_form h
 refine ⟨rfl,a,c,rfl,hc,?_⟩
 rcases hx with ⟨_,h0,_⟩ | ⟨g,rfl,hg,_,hcell'⟩
 ·exact .inl (List.eq_nil_of_length_eq_zero h0)
 ·exact .inr ⟨g,0,rfl,fun j hj=>by rw [Nat.zero_add];exact hC _ _ hg (hcell' j _ (by simp [cellsN,hj]))⟩
theorem ss_of_row {w:World}{base n:Nat}{e:TypeId}{v:Value}{ns:List (List UInt8)}(h:w.ownsRow base e 1 v n (cellsS ns)){C:Addr→Option Value}(hC:∀ a x,base≤a.block→w.cell? a=some x→C a=some x):n=ns.length∧∃ a c,v=.slice a n c∧n≤c∧SsAt C a ns:=by
 have hn:n=ns.length:=by have:=h.1;rw [cellsS_len] at this;omega
 subst hn
 obtain ⟨a,c,rfl,hc,_,hx⟩:=row_form h
 refine ⟨rfl,a,c,rfl,hc,?_⟩
 rcases hx with ⟨_,h0,_⟩ | ⟨g,rfl,hg,_,hcell'⟩
 ·exact .inl (List.eq_nil_of_length_eq_zero h0)
 ·exact .inr ⟨g,0,rfl,fun j hj=>by rw [Nat.zero_add];exact hC _ _ hg (hcell' j _ (by simp [cellsS,hj]))⟩
theorem is_of_row {w:World}{base n:Nat}{e:TypeId}{v:Value}{is:List (Int × Int)}(h:w.ownsRow base e 2 v n (cellsI is)){C:Addr→Option Value}(hC:∀ a x,base≤a.block→w.cell? a=some x→C a=some x):n=is.length∧∃ a c,v=.slice a n c∧n≤c∧IsAt C a is:=by
 have hn:n=is.length:=by have:=h.1;rw [cellsI_len] at this;omega
 subst hn
 obtain ⟨a,c,rfl,hc,_,hx⟩:=row_form h
 refine ⟨rfl,a,c,rfl,hc,?_⟩
 rcases hx with ⟨_,h0,_⟩ | ⟨g,rfl,hg,_,hcell'⟩
 ·exact .inl (List.eq_nil_of_length_eq_zero h0)
 ·refine .inr ⟨g,0,rfl,fun j hj=>?_⟩
  obtain ⟨g0,g1⟩:=cellsI_at is j hj
  rw [Nat.zero_add]
  exact ⟨hC _ _ hg (hcell' _ _ g0),hC _ _ hg (hcell' _ _ g1)⟩
def FRow (C:Addr→Option Value)(fs:List Fn)(xs:List Value):Prop:=xs.length=fs.length*4∧∀ j (h:j<fs.length),∃ v0 v1 v2 v3,xs[j*4]?=some v0∧xs[j*4+1]?=some v1∧xs[j*4+2]?=some v2∧xs[j*4+3]?=some v3∧FnIs C fs[j] v0 v1 v2 v3
theorem FRow.nil (C:Addr→Option Value):FRow C [] []:=⟨rfl,fun j h=>by simp at h⟩
theorem FRow.keep {C C':Addr→Option Value}{fs:List Fn}{xs:List Value}(h:FRow C fs xs)(hk:∀ a v,C a=some v→C' a=some v):FRow C' fs xs:=by
 refine ⟨h.1,fun j hj=>?_⟩
 obtain ⟨v0,v1,v2,v3,q0,q1,q2,q3,hf⟩:=h.2 j hj
 exact ⟨v0,v1,v2,v3,q0,q1,q2,q3,hf.keep hk⟩
theorem FRow.snoc {C:Addr→Option Value}{fs:List Fn}{xs:List Value}{f:Fn}{v0 v1 v2 v3:Value}(h:FRow C fs xs)(hf:FnIs C f v0 v1 v2 v3):FRow C (fs++[f]) (xs++[v0,v1,v2,v3]):=by
 refine ⟨by simp [h.1];omega,fun j hj=>?_⟩
 rcases Nat.lt_or_ge j fs.length with hlt | hge
 ·obtain ⟨u0,u1,u2,u3,q0,q1,q2,q3,hg⟩:=h.2 j hlt
  have hx:=h.1
  refine ⟨u0,u1,u2,u3,?_,?_,?_,?_,by rw [List.getElem_append_left hlt];exact hg⟩
  all_goals (rw [List.getElem?_append_left (by omega)];assumption)
 ·have hx:=h.1
  obtain rfl:j=fs.length:=by simp at hj;omega
  refine ⟨v0,v1,v2,v3,?_,?_,?_,?_,by simpa using hf⟩
  all_goals
   rw [List.getElem?_append_right (by omega),hx]
   simp
def offRow (w:World)(v:Value)(B:Nat):Addr→Option Value:=fun a=>if v.ownBlock=some a.block∨a.block≤B then none else w.cell? a
theorem offRow_le {w:World}{v:Value}{B:Nat}:∀ a x,offRow w v B a=some x→w.cell? a=some x:=fun a x h=>by
 unfold offRow at h
 split at h
 ·cases h
 ·exact h
theorem offRow_step {w w':World}{v v':Value}{B:Nat}(hs:Step w v w' v'):∀ a x,offRow w v B a=some x→offRow w' v' B a=some x:=fun a x h=>by
 unfold offRow at h
 split at h
 ·cases h
 rename_i hne
 have hlt:=World.block_lt_of_cell? _ _ h
 have hb:=hs.1.block a.block hlt (fun e=>hne (.inl (by rw [← e])))
 have hc:w'.cell? a=some x:=by
  rw [← h]
  unfold World.cell?
  rw [hb]
 unfold offRow
 rw [if_neg,hc]
 rintro (e | e)
 ·rcases hs.2 with e2 | ⟨g,e2,hg⟩
  ·rw [e2] at e;exact hne (.inl e)
  ·rw [e2] at e
   injection e with e
   omega
 ·exact hne (.inr e)
theorem offRow_keep {w w':World}{v:Value}{B:Nat}(hk:∀ a x,w.cell? a=some x→w'.cell? a=some x):∀ a x,offRow w v B a=some x→offRow w' v B a=some x:=fun a x h=>by
 unfold offRow at h ⊢
 split at h
 ·cases h
 ·rename_i hne
  rw [if_neg hne]
  exact hk _ _ h
theorem offRow_new {w:World}{v:Value}{B base:Nat}(hv:∀ k,v.ownBlock=some k→k<base)(hB:B<base):∀ a x,base≤a.block→w.cell? a=some x→offRow w v B a=some x:=fun a x hb h=>by
 unfold offRow
 rw [if_neg,h]
 rintro (e | e)
 ·have:=hv _ e;omega
 ·omega
theorem offRow_set {w:World}{v u:Value}{B b o:Nat}(hb:b≤B):∀ a x,offRow w v B a=some x→offRow (w.setCell ⟨b,o,none⟩ u) v B a=some x:=fun a x h=>by
 unfold offRow at h ⊢
 split at h
 ·cases h
 ·rename_i hne
  rw [if_neg hne]
  have:=Below.heap_setCell w ⟨b,o,none⟩ u a.block (fun e=>hne (.inr (by have:a.block=b:=e;omega)))
  rw [← h]
  unfold World.cell?
  rw [this]
theorem offRow_far {w:World}{v:Value}{B:Nat}:∀ a x,offRow w v B a=some x→B<a.block:=fun a x h=>by
 unfold offRow at h
 split at h
 ·cases h
 ·rename_i hne
  rcases Nat.lt_or_ge B a.block with h1 | h1
  ·exact h1
  ·exact absurd (.inr h1) hne
theorem elemN_str:ElemN Tryz.prog 24 9 1 16:=by
 refine ⟨Tryz.underlying24,?_,by decide⟩
 obtain ⟨i0,hi,hz0,hz1,hz2⟩:=info_parts (show (Tryz.prog.info? 9).map (fun i=>(i.zero,i.size,i.bytes))=some (some (.string ⟨#[]⟩),1,16) by kernel_rfl)
 exact ⟨i0,_,hi,hz0,hz1,hz2,rfl⟩
theorem elemN_int:ElemN Tryz.prog 28 3 1 8:=by
 refine ⟨Tryz.underlying28,?_,by decide⟩
 obtain ⟨i0,hi,hz0,hz1,hz2⟩:=info_parts (show (Tryz.prog.info? 3).map (fun i=>(i.zero,i.size,i.bytes))=some (some (.int .i64 0),1,8) by kernel_rfl)
 exact ⟨i0,_,hi,hz0,hz1,hz2,rfl⟩
theorem elemN_ins:ElemN Tryz.prog 47 74 2 16:=by
 refine ⟨Tryz.underlying47,?_,by decide⟩
 obtain ⟨i0,hi,hz0,hz1,hz2⟩:=info_parts (show (Tryz.prog.info? 74).map (fun i=>(i.zero,i.size,i.bytes))=some (some (.agg #[.int .i64 0,.int .i64 0]),2,16) by kernel_rfl)
 exact ⟨i0,_,hi,hz0,hz1,hz2,rfl⟩
theorem elemN_fn:ElemN Tryz.prog 25 49 4 96:=by
 refine ⟨Tryz.underlying25,?_,by decide⟩
 obtain ⟨i0,hi,hz0,hz1,hz2⟩:=info_parts (show (Tryz.prog.info? 49).map (fun i=>(i.zero,i.size,i.bytes))=some (some (.agg #[.slice none 0 0,.slice none 0 0,.slice none 0 0,.slice none 0 0]),4,96) by kernel_rfl)
 exact ⟨i0,_,hi,hz0,hz1,hz2,rfl⟩
section
variable {P:Program} {ops:Array Oper} {Q:Exit→Act→World→Prop} {md:Region.Mode}
def leftIn (n:Nat)(listed:Array Bool):Nat:=((List.range n).filter fun i=>!listed.getD i true).length
theorem filter_less {α:Type}{p q:α→Bool}:∀ (l:List α),(∀ x ∈ l,p x=true→q x=true)→(∃ x ∈ l,q x=true∧p x=false)→(l.filter p).length+1≤(l.filter q).length
 | [],_,⟨x,hx,_⟩=>by cases hx
 | y :: l,h,⟨x,hx,hq,hp⟩=>by
  have hle:(l.filter p).length≤(l.filter q).length:=by
   have:∀ (l:List α),(∀ x ∈ l,p x=true→q x=true)→(l.filter p).length≤(l.filter q).length:=by
    intro l
    induction l with
    | nil=>intro _;simp
    | cons z l ih =>
     intro h
     have hz:=h z (by simp)
     have ih:=ih fun x hx=>h x (by simp [hx])
     cases hpz:p z <;> cases hqz:q z <;> simp [hpz,hqz] at hz ⊢ <;> omega
   exact this l fun x hx=>h x (by simp [hx])
  rcases List.mem_cons.1 hx with rfl | hm
  ·simp [hq,hp];omega
  ·have ih:=filter_less l (fun x hx=>h x (by simp [hx])) ⟨x,hm,hq,hp⟩
   have hy:=h y (by simp)
   cases hpy:p y <;> cases hqy:q y <;> simp [hpy,hqy] at hy ⊢ <;> omega
theorem getD_set (listed:Array Bool)(i j:Nat)(d:Bool):(listed.setIfInBounds i true).getD j d=if i=j∧j<listed.size then true else listed.getD j d:=by
 simp only [Array.getD_eq_getD_getElem?,Array.getElem?_setIfInBounds]
 by_cases h:i=j
 ·subst h
  by_cases h2:i<listed.size
  ·simp [h2]
  ·simp [h2]
 ·simp [h]
theorem getD_lt {listed:Array Bool}{i:Nat}(h:listed.getD i true=false):i<listed.size:=by
 rcases Nat.lt_or_ge i listed.size with h1 | h1
 ·exact h1
 ·rw [Array.getD_eq_getD_getElem?,Array.getElem?_eq_none h1] at h
  cases h
theorem left_set {n i:Nat}{listed:Array Bool}(hn:i<n)(h:listed.getD i true=false):leftIn n (listed.setIfInBounds i true)+1≤leftIn n listed:=by
 have hi:=getD_lt h
 refine filter_less _ (fun x _ hx=>?_) ⟨i,List.mem_range.2 hn,by rw [h];rfl,by rw [getD_set,if_pos ⟨rfl,hi⟩];rfl⟩
 rw [getD_set] at hx
 split at hx
 ·cases hx
 ·exact hx
theorem wpAny_inv (Inv:Array Bool→Act→World→Prop)
  (hstep:∀ listed a w i,Inv listed a w→i ∈ Region.ready md ops listed→wpOp P ops Q i (fun a' w'=>Inv (listed.setIfInBounds i true) a' w') a w)
  (hend:∀ listed a w,Inv listed a w→Region.ready md ops listed=[]→Q .normal a w) :
  ∀ fuel listed a w,leftIn ops.size listed≤fuel→Inv listed a w→wpAny P md ops Q fuel listed a w
 | 0,listed,a,w,hf,h=>by
  have hr:Region.ready md ops listed=[]:=by
   cases hr:Region.ready md ops listed with
   | nil=>rfl
   | cons i r =>
    have hi:i ∈ Region.ready md ops listed:=by rw [hr];simp
    obtain ⟨h1,o,ho,_⟩:=mem_ready.1 hi
    have:i ∈ (List.range ops.size).filter fun i=>!listed.getD i true:=List.mem_filter.2 ⟨List.mem_range.2 (Array.getElem?_eq_some_iff.1 ho).1,by rw [h1];rfl⟩
    have:=List.length_pos_of_mem this
    unfold leftIn at hf
    omega
  exact ⟨hr,hend _ _ _ h hr⟩
 | fuel+1,listed,a,w,hf,h=>by
  refine ⟨hend _ _ _ h,fun i hi=>?_⟩
  obtain ⟨h1,o,ho,_⟩:=mem_ready.1 hi
  have:=left_set (Array.getElem?_eq_some_iff.1 ho).1 h1
  exact wpOp_mono (fun a' w' h'=>wpAny_inv Inv hstep hend fuel _ a' w' (by omega) h') (hstep _ _ _ i h hi)
theorem all_listed {listed:Array Bool}(hB:∀ (i:Nat) (o:Oper),ops[i]?=some o→∀ e ∈ o.after,Region.binds md e=true→e.on<i)(hr:Region.ready md ops listed=[])(hsz:listed.size=ops.size):∀ i,i<ops.size→listed.getD i false=true:=by
 intro i
 induction i using Nat.strongRecOn with
 | _ i ih =>
  intro hi
  cases h:listed.getD i true with
  | false =>
   have:i ∈ Region.ready md ops listed:=mem_ready.2 ⟨h,ops[i],Array.getElem?_eq_getElem hi,fun e he hb=>by
    have hlt:=hB i _ (Array.getElem?_eq_getElem hi) e he hb
    exact ih _ hlt (by omega)⟩
   rw [hr] at this
   cases this
  | true =>
   rw [Array.getD_eq_getD_getElem?,Array.getElem?_eq_getElem (by omega)] at h ⊢
   exact h
structure Each (ops:Array Oper)(a0:Act)(G:Array Bool→World→Prop)(Pr:Array Bool→Nat→Value→World→Prop)(listed:Array Bool)(a:Act)(w:World):Prop where
 size:listed.size=ops.size
 tsize:a.tmps.size=a0.tmps.size
 defers:a.defers=a0.defers
 rest:∀ t:Nat,(∀ (i:Nat) (o:Oper),ops[i]?=some o→o.dst≠some t)→a.tmps[t]?.getD undef=a0.tmps[t]?.getD undef
 glob:G listed w
 closed:∀ (i:Nat) (o:Oper),ops[i]?=some o→listed.getD i false=true→∀ e ∈ o.after,Region.binds .any e=true→listed.getD e.on false=true
 vals:∀ (i:Nat) (o:Oper) (t:Nat),ops[i]?=some o→listed.getD i false=true→o.dst=some t→Pr listed i (a.tmps[t]?.getD undef) w
def apartB (md:Region.Mode)(ops:Array Oper)(n:Nat):Bool :=
 (List.range ops.size).all fun i=>(match ops[i]? with
  | none=>false
  | some o=>o.guard.isNone && (match o.dst with | none=>true | some t=>decide (t<n)) && o.after.all (fun e=>!Region.binds md e || decide (e.on<i)) &&
   (List.range ops.size).all fun j=>decide (i=j) || (match o.dst,(ops[j]?).bind (·.dst) with
    | some t,some u=>decide (t≠u)
    | _,_=>true))
theorem apartB_spec {n:Nat}(h:apartB md ops n=true):∀ (i:Nat) (o:Oper),ops[i]?=some o→o.guard=none∧(∀ t,o.dst=some t→t<n)∧(∀ e ∈ o.after,Region.binds md e=true→e.on<i)∧∀ (j:Nat) (o':Oper) (t:Nat),ops[j]?=some o'→o.dst=some t→o'.dst=some t→i=j:=by
 intro i o ho
 have hi:=(Array.getElem?_eq_some_iff.1 ho).1
 have:=List.all_eq_true.1 h i (List.mem_range.2 hi)
 rw [ho] at this
 simp only [Bool.and_eq_true] at this
 obtain ⟨⟨⟨h1,h2⟩,h3⟩,h4⟩:=this
 refine ⟨by simpa using h1,fun t ht=>?_,fun e he hb=>?_,fun j o' t hj ht hu=>?_⟩
 ·rw [ht] at h2;exact of_decide_eq_true h2
 ·have:=Array.all_eq_true'.1 h3 e he
  rw [hb] at this
  simpa using this
 ·have:=List.all_eq_true.1 h4 j (List.mem_range.2 (Array.getElem?_eq_some_iff.1 hj).1)
  rw [ht,hj] at this
  simp only [Option.bind_some,hu] at this
  simpa using this
theorem each_step {a0:Act}(n:Nat)(hn:a0.tmps.size=n)(hB:apartB .any ops n=true)(G:Array Bool→World→Prop)(Pr:Array Bool→Nat→Value→World→Prop)
  (hop:∀ (i:Nat) (o:Oper),ops[i]?=some o→∀ (listed:Array Bool) (a:Act) (W:World),Each ops a0 G Pr listed a W→listed.getD i true=false→(∀ e ∈ o.after,Region.binds .any e=true→listed.getD e.on false=true) →
   o.wp P a W (fun a' W'=>∃ v,a'=a.put o.dst v∧Pr (listed.setIfInBounds i true) i v W'∧G (listed.setIfInBounds i true) W'∧∀ j u,listed.getD j false=true→Pr listed j u W→Pr (listed.setIfInBounds i true) j u W') Q)
  (listed:Array Bool) (a:Act) (W:World) (i:Nat) (hI:Each ops a0 G Pr listed a W) (hi:i ∈ Region.ready .any ops listed) :
  ∃ o,ops[i]?=some o∧Region.wanted o (yielded ops a.tmps)=true∧o.wp P a W (fun a' w'=>Each ops a0 G Pr (listed.setIfInBounds i true) a' w') Q:=by
 have spec:=apartB_spec hB
 obtain ⟨h1,o,ho,haf⟩:=mem_ready.1 hi
 obtain ⟨hg,hlt,_,hdist⟩:=spec i o ho
 have hw:Region.wanted o (yielded ops a.tmps)=true:=by simp [Region.wanted,hg]
 refine ⟨o,ho,hw,Oper.wp_mono ?_ (hop i o ho listed a W hI h1 haf)⟩
 rintro a' W' ⟨v,rfl,hPr,hG,hst⟩
 have hil:=getD_lt h1
 have hput:∀ t:Nat,(a.put o.dst v).tmps[t]?.getD undef=if o.dst=some t∧t<a.tmps.size then v else a.tmps[t]?.getD undef:=by
  intro t
  cases hd:o.dst with
  | none=>simp [Act.put]
  | some d =>
   simp only [Act.put,Array.getElem?_setIfInBounds,Option.some.injEq]
   by_cases hdt:d=t
   ·subst hdt
    by_cases h2:d<a.tmps.size
    ·simp [h2]
    ·simp [h2]
   ·simp [hdt]
 refine ⟨by simp [hI.size],?_,?_,fun t ht=>?_,hG,fun j oj hj hl e he hb=>?_,fun j oj t hj hl hd=>?_⟩
 ·cases hd:o.dst <;> simp [Act.put,hI.tsize]
 ·cases hd:o.dst <;> simp [Act.put,hI.defers]
 ·rw [hput,if_neg (fun h=>ht i o ho h.1)]
  exact hI.rest t ht
 ·have hold:listed.getD e.on false=true:=by
   rw [getD_set] at hl
   by_cases hji:i=j
   ·subst hji
    rw [ho] at hj
    cases hj
    exact haf e he hb
   ·rw [if_neg (fun h=>hji h.1)] at hl
    exact hI.closed j oj hj hl e he hb
  rw [getD_set]
  split
  ·rfl
  ·exact hold
 ·rw [getD_set] at hl
  by_cases hji:i=j
  ·subst hji
   rw [ho] at hj
   cases hj
   rw [hput,if_pos ⟨hd,by rw [hI.tsize,hn];exact hlt t hd⟩]
   exact hPr
  ·rw [if_neg (fun h=>hji h.1)] at hl
   rw [hput,if_neg (fun h=>hji (hdist j oj t hj h.1 hd))]
   exact hst j _ hl (hI.vals j oj t hj hl hd)
theorem each_end {a0:Act}(n:Nat)(hB:apartB .any ops n=true){G:Array Bool→World→Prop}{Pr:Array Bool→Nat→Value→World→Prop}{listed:Array Bool}{a:Act}{W:World}(hI:Each ops a0 G Pr listed a W)(hr:Region.ready .any ops listed=[]):Each ops a0 G Pr (Array.replicate ops.size true) a W:=by
 have spec:=apartB_spec hB
 have hall:=all_listed (fun i o ho=>(spec i o ho).2.2.1) hr hI.size
 have:listed=Array.replicate ops.size true:=by
  apply Array.ext
  ·simp [hI.size]
  ·intro i h1 h2
   have:=hall i (by rw [← hI.size];exact h1)
   rw [Array.getD_eq_getD_getElem?,Array.getElem?_eq_getElem h1] at this
   simpa using this
 rw [this] at hI
 exact hI
theorem each_start {a0:Act}{w:World}{G:Array Bool→World→Prop}{Pr:Array Bool→Nat→Value→World→Prop}(h0:G (Array.replicate ops.size false) w):Each ops a0 G Pr (Array.replicate ops.size false) a0 w:=by
 refine ⟨by simp,rfl,rfl,fun _ _=>rfl,h0,fun i o ho hl=>?_,fun i o t ho hl _=>?_⟩
 all_goals
  rw [Array.getD_eq_getD_getElem?,Array.getElem?_replicate] at hl
  split at hl <;> cases hl
theorem wp_region_each {id:Nat}{a0:Act}{w:World}(hm:P.follows .mixedOrders=true)(n:Nat)(hn:a0.tmps.size=n)(hB:apartB .any ops n=true)(G:Array Bool→World→Prop)(Pr:Array Bool→Nat→Value→World→Prop)
  (h0:G (Array.replicate ops.size false) w.drew)
  (hop:∀ (i:Nat) (o:Oper),ops[i]?=some o→∀ (listed:Array Bool) (a:Act) (W:World),Each ops a0 G Pr listed a W→listed.getD i true=false→(∀ e ∈ o.after,Region.binds .any e=true→listed.getD e.on false=true) →
   o.wp P a W (fun a' W'=>∃ v,a'=a.put o.dst v∧Pr (listed.setIfInBounds i true) i v W'∧G (listed.setIfInBounds i true) W'∧∀ j u,listed.getD j false=true→Pr listed j u W→Pr (listed.setIfInBounds i true) j u W') Q)
  (hend:∀ a W,Each ops a0 G Pr (Array.replicate ops.size true) a W→Q .normal a W):(Code.region id ops true).wp P Q a0 w:=by
 refine wp_region_any hm (wpAny_inv (Each ops a0 G Pr) ?_ ?_ _ _ _ _ ?_ (each_start h0))
 ·intro listed a W i hI hi
  obtain ⟨o,ho,hw,h⟩:=each_step n hn hB G Pr hop listed a W i hI hi
  unfold wpOp
  rw [ho]
  simp only [hw,if_true]
  exact .inl h
 ·intro listed a W hI hr
  exact hend a W (each_end n hB hI hr)
 ·unfold leftIn
  exact Nat.le_trans (List.length_filter_le _ _) (by simp)
end
theorem op_value {P:Program}{o:Oper}{a:Act}{W W':World}{K:Act→World→Prop}{Q:Exit→Act→World→Prop}{v:Value}(h:(execOp a.eval o).run P W=.ok (.value v) W')(hk:K (a.put o.dst v) W'):o.wp P a W K Q:=by
 unfold Oper.wp
 rw [h]
 exact hk
theorem op_skip {P:Program}{o:Oper}{a:Act}{W W':World}{K:Act→World→Prop}{Q:Exit→Act→World→Prop}(h:(execOp a.eval o).run P W=.ok .skip W')(hk:K (a.put o.dst undef) W'):o.wp P a W K Q:=by
 unfold Oper.wp
 rw [h]
 exact hk
theorem rest_of {ops:Array Oper}{t:Nat}(h:(ops.all fun o=>decide (o.dst≠some t))=true):∀ (i:Nat) (o:Oper),ops[i]?=some o→o.dst≠some t:=fun _ o ho=>of_decide_eq_true (Array.all_eq_true'.1 h o (Array.mem_of_getElem? ho))
theorem getD_off {listed:Array Bool}{i:Nat}(h:listed.getD i true=false):listed.getD i false=false:=by
 have:=getD_lt h
 rw [Array.getD_eq_getD_getElem?,Array.getElem?_eq_getElem this] at h ⊢
 exact h
theorem eval_tmp (a:Act)(t:Nat):a.eval (.tmp t)=a.tmps[t]?.getD undef:=by simp [Act.eval,Array.getD_eq_getD_getElem?]
theorem list_out {α:Type}(n:Nat)(l:List α)(h:l.length=n)(d:α):l=(List.range n).map (fun i=>l[i]?.getD d):=by
 apply List.ext_getElem
 ·simp [h]
 ·intro i h1 h2
  simp [h1]
theorem arr_out {α:Type}(n:Nat)(l:Array α)(h:l.size=n)(d:α):l=((List.range n).map (fun i=>l[i]?.getD d)).toArray:=by
 obtain ⟨l⟩:=l
 have:=list_out n l (by simpa using h) d
 simp only [List.getElem?_toArray]
 congr 1
theorem getD_far {listed:Array Bool}{i j:Nat}(h:i≠j):(listed.setIfInBounds i true).getD j false=listed.getD j false:=by
 rw [getD_set,if_neg (fun e=>h e.1)]
theorem ownsRow_setCell_other' {w:World}{base n size B o:Nat}{e:TypeId}{v:Value}{xs:List Value}(h:w.ownsRow base e size v n xs)(hB:B<base)(u:Value):(w.setCell ⟨B,o,none⟩ u).ownsRow base e size v n xs:=by
 refine ⟨h.1,?_⟩
 rcases h.2 with h2 | ⟨g,cap,cur,rfl,hg,hh,r⟩
 ·exact .inl h2
 ·exact .inr ⟨g,cap,cur,rfl,hg,by rw [Below.heap_setCell _ _ _ _ (by show g≠B;omega)];exact hh,r⟩
end Go.Proofs.YtpmlnkjamhelnaaGreat
