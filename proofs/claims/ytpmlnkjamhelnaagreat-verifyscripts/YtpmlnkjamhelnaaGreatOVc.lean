/- How a slice of values that came in is read. -/
import Derived.Test.YtpmlnkjamhelnaaGreatCOB
import Derived.Test.YtpmlnkjamhelnaaGreatVR
import Derived.Deep.SlicePairs
namespace Go.Proofs.YtpmlnkjamhelnaaGreat
open Go.ChangeShapes Go.WideShapes Go.ChangeAt Go.RowKit
theorem open_three {H:Type}{enc:TypeId × Value→H}{P:Program}{w:World}{base:Nat}{held:Bool}{t e:TypeId}{f0 f1 f2:Field}{fuel:Nat}{cs:List Value}{x:DataW H × List MemPlace}(ht:P.underlying t=some (.slice e))(he:P.underlying e=some (.struct #[f0,f1,f2]))
  (ce:P.cellsOf e=3) (o0:f0.offset=0) (o1:f1.offset=1) (o2:f2.offset=2) (c0:P.cellsOf f0.type=1) (c1:P.cellsOf f1.type=1) (c2:P.cellsOf f2.type=1)
  (h:DataW.trod enc P w base (fun _=>true) held fuel t cs=some x) :
  (cs=[.slice none 0 0]∧x=(.nil,[])) ∨
  ∃ (a:Addr) (len cap n:Nat) (D:Nat→DataW H),cs=[.slice (some a) len cap]∧len≤cap∧cap≤maxLen∧x.1=.slice ((List.range len).map D) ((List.range (cap - len)).map fun j=>D (len+j)) ∧
   ∀ i,i<cap→∃ v0 v1 v2 y0 y1 y2,w.cell? (a.add (i*3))=some v0∧w.cell? (a.add (i*3+1))=some v1∧w.cell? (a.add (i*3+2))=some v2 ∧
    DataW.trod enc P w base (fun _=>true) held n f0.type [v0]=some y0∧DataW.trod enc P w base (fun _=>true) held n f1.type [v1]=some y1∧DataW.trod enc P w base (fun _=>true) held n f2.type [v2]=some y2∧D i=.agg [y0.1,y1.1,y2.1]:=by
 rcases Go.Deep.open_slice ht h with h0 | ⟨a,len,cap,m,n,D,Pl,rfl,hb,hl,hm,hmm,rfl,hx⟩
 ·exact Or.inl h0
 right
 simp only [if_true] at hmm
 subst hmm
 refine ⟨a,len,m,n - 1,D,rfl,hl,hm,rfl,fun i hi=>?_⟩
 obtain ⟨cs',h1,h2⟩:=hx i hi
 rw [ce] at h1
 obtain ⟨_,hlen,hcell⟩:=World.cells?_some h1
 obtain ⟨xs,k,hk,hxy,_,hxl,hf⟩:=DataW.trod_struct he h2
 have hk':k=n - 1:=by omega
 subst hk'
 match xs,hxl,cs',hlen with
 | [y0,y1,y2],_,[v0,v1,v2],_ =>
  have g0:=hf 0 f0 rfl
  have g1:=hf 1 f1 rfl
  have g2:=hf 2 f2 rfl
  simp [o0,o1,o2,c0,c1,c2] at g0 g1 g2
  have e0:=hcell 0 (by omega)
  have e1:=hcell 1 (by omega)
  have e2:=hcell 2 (by omega)
  rw [Go.Deep.add_add] at e0 e1 e2
  simp only [Prod.mk.injEq] at hxy
  exact ⟨v0,v1,v2,y0,y1,y2,by simpa using e0,by simpa using e1,by simpa using e2,g0,g1,g2,by simpa using hxy.1⟩
theorem bytes_val:Tryz.prog.bytesOf 76=32:=by kernel_rfl
theorem open_vals {H:Type}{enc:TypeId × Value→H}{W:World}{a0:Option Addr}{len cap:Nat}{d0:DataW H}{p0:List MemPlace}(h:DataW.Trod enc Tryz.prog W 0 (fun _=>true) true 42 (.slice a0 len cap) d0 p0)
  {ts:List TypeId} {ds:List (DataW H)} (hsz:(DataW.weightsEach Tryz.prog ts ds).all (·≤reachBytes)=true) {j:Nat} (ht:ts[j]?=some 42) (hd:ds[j]?=some d0) :
  ∃ L:List Val,L.length=len∧Vs W a0 L∧(∀ x ∈ L,(x.b.length≤9223372036854775807)∧(-9223372036854775808≤x.n∧x.n≤9223372036854775807)∧(-9223372036854775808≤x.t∧x.t≤9223372036854775807))∧len*32≤140737488351232:=by
 obtain ⟨fuel,hf⟩:=h
 rcases open_three Tryz.underlying42 Tryz.underlying76 (by kernel_rfl) rfl rfl rfl (by kernel_rfl) (by kernel_rfl) (by kernel_rfl) hf with ⟨hcs,hx⟩ | ⟨a,l',c,n,D,hcs,hl,hmx,hx,hr⟩
 ·simp [Value.cells] at hcs
  obtain ⟨rfl,rfl,rfl⟩:=hcs
  exact ⟨[],rfl,.inl rfl,fun x h=>by simp at h,by simp⟩
 ·simp [Value.cells] at hcs
  obtain ⟨rfl,rfl,rfl⟩:=hcs
  simp only at hx
  have hlen:len*32≤140737488351232:=by
   rw [hx] at hd
   have:=sized_slice hsz ht hd Tryz.underlying42
   rw [bytes_val] at this
   simp only [List.length_map,List.length_range] at this
   have h2:reachBytes=140737488351232:=rfl
   rw [h2] at this
   omega
  have hadd:∀ (b off k:Nat),(⟨b,off,none⟩:Addr).add k=⟨b,off+k,none⟩:=fun b off k=>by unfold Addr.add;split <;> simp_all
  by_cases h0:len=0
  ·subst h0
   exact ⟨[],rfl,.inl rfl,fun x h=>by simp at h,by simp⟩
  obtain ⟨b,off,spot⟩:=a
  have hspot:spot=none:=by
   obtain ⟨v0,_,_,_,_,_,q,_⟩:=hr 0 (by omega)
   simpa [Addr.add] using World.cell?_spot q
  subst hspot
  have each:∀ i,i<len→∃ x:Val,(W.cell? ⟨b,off+i*3,none⟩=some (.int .i64 x.t)∧W.cell? ⟨b,off+i*3+1,none⟩=some (.int .i64 x.n)∧W.cell? ⟨b,off+i*3+2,none⟩=some (.string ⟨x.b.toArray⟩))∧(x.b.length≤9223372036854775807)∧(-9223372036854775808≤x.n∧x.n≤9223372036854775807)∧(-9223372036854775808≤x.t∧x.t≤9223372036854775807):=by
   intro i hi
   obtain ⟨v0,v1,v2,y0,y1,y2,q0,q1,q2,t0,t1,t2,hDi⟩:=hr i (by omega)
   rw [hadd] at q0 q1 q2
   obtain ⟨n0,e0,_,w0⟩:=DataW.trod_int Tryz.underlying3 t0
   obtain ⟨n1,e1,_,w1⟩:=DataW.trod_int Tryz.underlying3 t1
   obtain ⟨s2,e2,_,w2⟩:=DataW.trod_string Tryz.underlying9 t2
   simp only [List.cons.injEq,and_true] at e0 e1 e2
   subst e0 e1 e2
   obtain ⟨⟨l⟩⟩:=s2
   exact ⟨⟨n0,n1,l⟩,⟨q0,q1,q2⟩,w2,int_wf w1,int_wf w0⟩
  haveI:Inhabited Val:=⟨⟨0,0,[]⟩⟩
  obtain ⟨x,hx'⟩:=Go.Deep.choose_lt each
  refine ⟨(List.range len).map x,by simp,.inr ⟨b,off,rfl,fun j hj=>?_⟩,fun y hy=>?_,hlen⟩
  ·simp only [List.length_map,List.length_range] at hj
   simp only [List.getElem_map,List.getElem_range]
   exact (hx' j hj).1
  ·obtain ⟨j,hj,rfl⟩:=List.mem_map.1 hy
   exact (hx' j (List.mem_range.1 hj)).2
end Go.Proofs.YtpmlnkjamhelnaaGreat
