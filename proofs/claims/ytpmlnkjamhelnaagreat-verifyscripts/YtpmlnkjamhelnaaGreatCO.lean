/- How a script that came in is read. -/
import Derived.Test.YtpmlnkjamhelnaaGreatCB
import Derived.Test.YtpmlnkjamhelnaaGreatCOB
import Derived.Test.YtpmlnkjamhelnaaGreatBulk
import Derived.Deep.SlicePairs
import Derived.Lib.SmallJoins
namespace Go.Proofs.YtpmlnkjamhelnaaGreat
set_option maxRecDepth 100000
open Go.ChangeShapes Go.WideShapes Go.ChangeAt Go.RowKit
theorem weightsAll_mem {H:Type}{P:Program}{e:TypeId}:∀ {l:List (DataW H)} {d:DataW H} {x:Nat},d ∈ l→x ∈ d.weights P e→x ∈ DataW.weightsAll P e l
 | [],_,_,h,_=>by cases h
 | a :: r,d,x,h,hx=>by
  unfold DataW.weightsAll
  rcases List.mem_cons.1 h with rfl | h
  ·exact List.mem_append_left _ hx
  ·exact List.mem_append_right _ (weightsAll_mem h hx)
theorem weightsEach_mem {H:Type}{P:Program}:∀ {ts:List TypeId} {ds:List (DataW H)} {j:Nat} {t:TypeId} {d:DataW H} {x:Nat},ts[j]?=some t→ds[j]?=some d→x ∈ d.weights P t→x ∈ DataW.weightsEach P ts ds
 | [],_,_,_,_,_,h,_,_=>by simp at h
 | _ :: _,[],_,_,_,_,_,h,_=>by simp at h
 | t0 :: ts,d0 :: ds,0,_,_,_,h,h',hx=>by
  simp at h h'
  subst h h'
  exact List.mem_append_left _ hx
 | t0 :: ts,d0 :: ds,j+1,_,_,_,h,h',hx=>by
  simp at h h'
  exact List.mem_append_right _ (weightsEach_mem h h' hx)
def Sz {H:Type}(m:Nat)(P:Program)(t:TypeId)(d:DataW H):Prop:=(∀ k ∈ d.weights P t,k≤reachBytes)∧Rows.uptoBulk d≤m
theorem Sz.part {H:Type}{m:Nat}{P:Program}{t:TypeId}{fs:Array Field}{ds:List (DataW H)}(ht:P.underlying t=some (.struct fs))(h:Sz m P t (.agg ds))(j:Nat){u:TypeId}{d:DataW H}(hu:(fs.toList.map (·.type))[j]?=some u)(hd:ds[j]?=some d):Sz m P u d:=by
 refine ⟨fun k hk=>h.1 k ?_,?_⟩
 ·unfold DataW.weights
  rw [ht]
  exact weightsEach_mem hu hd hk
 ·have h1:=h.2
  have h2:=bulks.within (List.mem_of_getElem? hd)
  simp only [Rows.uptoBulk] at h1
  omega
theorem open_el {H:Type}{enc:TypeId × Value→H}{P:Program}{w:World}{t e:TypeId}{fuel:Nat}{v:Value}{m0:Nat}{x:DataW H × List MemPlace}(ht:P.underlying t=some (.slice e))(hpos:0<P.cellsOf e)(h:DataW.trod enc P w 0 (fun _=>true) true fuel t [v]=some x)(hs:Sz m0 P t x.1) :
  ∃ a0 len cap,v=.slice a0 len cap∧len*P.bytesOf e≤reachBytes∧len≤m0∧(len=0∨∃ b off,a0=some ⟨b,off,none⟩∧∀ i,i<len→∃ cs y n,cs.length=P.cellsOf e∧(∀ j,j<P.cellsOf e→w.cell? ⟨b,off+(i*P.cellsOf e+j),none⟩=cs[j]?)∧DataW.trod enc P w 0 (fun _=>true) true n e cs=some y∧Sz m0 P e y.1):=by
 rcases Go.Deep.open_slice ht h with ⟨hcs,hx⟩ | ⟨a,len,cap,m,n,D,Pl,hcs,hb,hl,hm,hmm,rfl,hx⟩
 ·simp only [List.cons.injEq,and_true] at hcs
  exact ⟨none,0,0,hcs,by simp,Nat.zero_le _,.inl rfl⟩
 ·simp only [List.cons.injEq,and_true] at hcs
  simp only [if_true] at hmm
  subst hmm
  have hw:∀ k ∈ ((List.range len).map D).length+((List.range (m - len)).map fun j=>D (len+j)).length |> fun z=>(z*P.bytesOf e :: (DataW.weightsAll P e ((List.range len).map D)++DataW.weightsAll P e ((List.range (m - len)).map fun j=>D (len+j)))),k≤reachBytes:=by
   intro k hk
   refine hs.1 k ?_
   unfold DataW.weights
   rw [ht]
   exact hk
  have hbk:=hs.2
  simp only [Rows.uptoBulk] at hbk
  refine ⟨some a,len,m,hcs,?_,by have:=bulks.many ((List.range len).map D);simp only [List.length_map,List.length_range] at this;omega,?_⟩
  ·have:=hw _ (List.mem_cons_self ..)
   simp only [List.length_map,List.length_range] at this
   exact Nat.le_trans (Nat.mul_le_mul_right _ (by omega)) this
  ·by_cases h0:len=0
   ·exact .inl h0
   right
   obtain ⟨b,off,spot⟩:=a
   have hadd:∀ (b off k:Nat),(⟨b,off,none⟩:Addr).add k=⟨b,off+k,none⟩:=fun b off k=>by unfold Addr.add;split <;> simp_all
   have hspot:spot=none:=by
    obtain ⟨cs',h1,_⟩:=hx 0 (by omega)
    obtain ⟨_,hlen,hcell⟩:=World.cells?_some h1
    have:=hcell 0 hpos
    rw [List.getElem?_eq_getElem (by omega)] at this
    simpa [Addr.add] using World.cell?_spot this
   subst hspot
   refine ⟨b,off,rfl,fun i hi=>?_⟩
   obtain ⟨cs',h1,h2⟩:=hx i (by omega)
   obtain ⟨_,hlen,hcell⟩:=World.cells?_some h1
   refine ⟨cs',_,n,hlen,fun j hj=>?_,h2,fun k hk=>?_,?_⟩
   ·have:=hcell j hj
    rw [Go.Deep.add_add,hadd] at this
    exact this
   ·refine hw k (List.mem_cons_of_mem _ (List.mem_append_left _ (weightsAll_mem (d:=D i) ?_ hk)))
    exact List.mem_map.2 ⟨i,List.mem_range.2 hi,rfl⟩
   ·have:=bulks.within (List.mem_map.2 ⟨i,List.mem_range.2 hi,rfl⟩:D i ∈ (List.range len).map D)
    show Rows.uptoBulk (D i)≤m0
    omega
theorem reach_num:reachBytes=140737488351232:=rfl
section
variable {H:Type} {enc:TypeId × Value→H} {w:World} {m0:Nat}
theorem open_ns {fuel:Nat}{v:Value}{x:DataW H × List MemPlace}(h:DataW.trod enc Tryz.prog w 0 (fun _=>true) true fuel 28 [v]=some x)(hs:Sz m0 Tryz.prog 28 x.1) :
  ∃ ns:List Int,(∃ a c,v=.slice a ns.length c∧NsAt w.cell? a ns)∧ns.length≤17592186044416∧ns.length≤m0:=by
 have be:Tryz.prog.bytesOf 3=8:=by kernel_rfl
 have ce:Tryz.prog.cellsOf 3=1:=by kernel_rfl
 obtain ⟨a0,len,cap,rfl,hl,hm0,hr⟩:=open_el Tryz.underlying28 (by rw [ce];omega) h hs
 rw [be,reach_num] at hl
 rcases hr with rfl | ⟨b,off,rfl,hr⟩
 ·exact ⟨[],⟨a0,cap,rfl,.inl rfl⟩,by simp,by simp⟩
 have each:∀ i,i<len→∃ z:Int,w.cell? ⟨b,off+i,none⟩=some (.int .i64 z):=fun i hi=>by
  obtain ⟨cs,y,n,hc,hcell,ht,_⟩:=hr i hi
  rw [ce] at hcell
  obtain ⟨z,rfl,_,hw⟩:=DataW.trod_int Tryz.underlying3 ht
  exact ⟨z,by simpa using hcell 0 (by omega)⟩
 obtain ⟨z,hz⟩:=Go.Deep.choose_lt each
 refine ⟨(List.range len).map z,⟨some ⟨b,off,none⟩,cap,by simp,.inr ⟨b,off,rfl,fun j hj=>?_⟩⟩,by simp;omega,by simpa using hm0⟩
 simp only [List.length_map,List.length_range] at hj
 simp only [List.getElem_map,List.getElem_range]
 exact hz j hj
theorem open_ss {fuel:Nat}{v:Value}{x:DataW H × List MemPlace}(h:DataW.trod enc Tryz.prog w 0 (fun _=>true) true fuel 24 [v]=some x)(hs:Sz m0 Tryz.prog 24 x.1) :
  ∃ ss:List (List UInt8),(∃ a c,v=.slice a ss.length c∧SsAt w.cell? a ss)∧ss.length≤8796093022208∧∀ x ∈ ss,x.length≤9223372036854775807:=by
 have be:Tryz.prog.bytesOf 9=16:=by kernel_rfl
 have ce:Tryz.prog.cellsOf 9=1:=by kernel_rfl
 obtain ⟨a0,len,cap,rfl,hl,hm0,hr⟩:=open_el Tryz.underlying24 (by rw [ce];omega) h hs
 rw [be,reach_num] at hl
 rcases hr with rfl | ⟨b,off,rfl,hr⟩
 ·exact ⟨[],⟨a0,cap,rfl,.inl rfl⟩,by simp,fun x h=>by simp at h⟩
 have each:∀ i,i<len→∃ z:List UInt8,w.cell? ⟨b,off+i,none⟩=some (.string ⟨z.toArray⟩)∧z.length≤9223372036854775807:=fun i hi=>by
  obtain ⟨cs,y,n,hc,hcell,ht,_⟩:=hr i hi
  rw [ce] at hcell
  obtain ⟨z,rfl,_,hw⟩:=DataW.trod_string Tryz.underlying9 ht
  obtain ⟨⟨l⟩⟩:=z
  exact ⟨l,by simpa using hcell 0 (by omega),hw⟩
 obtain ⟨z,hz⟩:=Go.Deep.choose_lt each
 refine ⟨(List.range len).map z,⟨some ⟨b,off,none⟩,cap,by simp,.inr ⟨b,off,rfl,fun j hj=>?_⟩⟩,by simp;omega,fun x hx=>?_⟩
 ·simp only [List.length_map,List.length_range] at hj
  simp only [List.getElem_map,List.getElem_range]
  exact (hz j hj).1
 ·obtain ⟨j,hj,rfl⟩:=List.mem_map.1 hx
  exact (hz j (List.mem_range.1 hj)).2
theorem open_is {fuel:Nat}{v:Value}{x:DataW H × List MemPlace}(h:DataW.trod enc Tryz.prog w 0 (fun _=>true) true fuel 47 [v]=some x)(hs:Sz m0 Tryz.prog 47 x.1) :
  ∃ is:List (Int × Int),(∃ a c,v=.slice a is.length c∧IsAt w.cell? a is)∧is.length≤8796093022208∧∀ x ∈ is,-9223372036854775808≤x.2∧x.2≤9223372036854775807:=by
 have be:Tryz.prog.bytesOf 74=16:=by kernel_rfl
 have ce:Tryz.prog.cellsOf 74=2:=by kernel_rfl
 have ci:Tryz.prog.cellsOf 3=1:=by kernel_rfl
 obtain ⟨a0,len,cap,rfl,hl,hm0,hr⟩:=open_el Tryz.underlying47 (by rw [ce];omega) h hs
 rw [be,reach_num] at hl
 rcases hr with rfl | ⟨b,off,rfl,hr⟩
 ·exact ⟨[],⟨a0,cap,rfl,.inl rfl⟩,by simp,fun x h=>by simp at h⟩
 have each:∀ i,i<len→∃ z:Int × Int,(w.cell? ⟨b,off+i*2,none⟩=some (.int .i64 z.1)∧w.cell? ⟨b,off+i*2+1,none⟩=some (.int .i64 z.2))∧-9223372036854775808≤z.2∧z.2≤9223372036854775807:=fun i hi=>by
  obtain ⟨cs,y,n,hc,hcell,ht,_⟩:=hr i hi
  rw [ce] at hcell hc
  obtain ⟨y0,y1,m,_,_,h0,h1⟩:=trod_struct2 Tryz.underlying74 ht
  match cs,hc with
  | [c0,c1],_ =>
   simp [ci] at h0 h1
   obtain ⟨z0,e0,_,_⟩:=DataW.trod_int Tryz.underlying3 h0
   obtain ⟨z1,e1,_,hw⟩:=DataW.trod_int Tryz.underlying3 h1
   simp only [List.cons.injEq,and_true] at e0 e1
   subst e0 e1
   exact ⟨(z0,z1),⟨by simpa using hcell 0 (by omega),by have:=hcell 1 (by omega);rw [← Nat.add_assoc] at this;simpa using this⟩,int_wf hw⟩
 obtain ⟨z,hz⟩:=Go.Deep.choose_lt each
 refine ⟨(List.range len).map z,⟨some ⟨b,off,none⟩,cap,by simp,.inr ⟨b,off,rfl,fun j hj=>?_⟩⟩,by simp;omega,fun x hx=>?_⟩
 ·simp only [List.length_map,List.length_range] at hj
  simp only [List.getElem_map,List.getElem_range]
  exact (hz j hj).1
 ·obtain ⟨j,hj,rfl⟩:=List.mem_map.1 hx
  exact (hz j (List.mem_range.1 hj)).2
def Fn.i64 (f:Fn):Prop:=∀ x ∈ f.code,-9223372036854775808≤x.2∧x.2≤9223372036854775807
theorem open_fs {fuel:Nat}{v:Value}{x:DataW H × List MemPlace}(h:DataW.trod enc Tryz.prog w 0 (fun _=>true) true fuel 25 [v]=some x)(hs:Sz m0 Tryz.prog 25 x.1) :
  ∃ fs:List Fn,(∃ a c,v=.slice a fs.length c∧FsAt w.cell? a fs)∧fs.length≤1466015503701∧∀ f ∈ fs,f.fits∧f.i64∧f.p.length≤m0∧f.l.length≤m0:=by
 have be:Tryz.prog.bytesOf 49=96:=by kernel_rfl
 have ce:Tryz.prog.cellsOf 49=4:=by kernel_rfl
 have ci:Tryz.prog.cellsOf 28=1:=by kernel_rfl
 have cx:Tryz.prog.cellsOf 47=1:=by kernel_rfl
 obtain ⟨a0,len,cap,rfl,hl,hm0,hr⟩:=open_el Tryz.underlying25 (by rw [ce];omega) h hs
 rw [be,reach_num] at hl
 rcases hr with rfl | ⟨b,off,rfl,hr⟩
 ·exact ⟨[],⟨a0,cap,rfl,.inl rfl⟩,by simp,fun x h=>by simp at h⟩
 have each:∀ i,i<len→∃ f:Fn,(∃ v0 v1 v2 v3,w.cell? ⟨b,off+i*4,none⟩=some v0∧w.cell? ⟨b,off+i*4+1,none⟩=some v1∧w.cell? ⟨b,off+i*4+2,none⟩=some v2∧w.cell? ⟨b,off+i*4+3,none⟩=some v3∧FnIs w.cell? f v0 v1 v2 v3)∧f.fits∧f.i64∧f.p.length≤m0∧f.l.length≤m0:=fun i hi=>by
  obtain ⟨cs,y,n,hc,hcell,ht,hsz⟩:=hr i hi
  rw [ce] at hcell hc
  obtain ⟨y0,y1,y2,y3,m,hy,_,h0,h1,h2,h3⟩:=Go.Joins.trod_struct4 Tryz.underlying49 ht
  subst hy
  match cs,hc with
  | [c0,c1,c2,c3],_ =>
   simp [ci,cx] at h0 h1 h2 h3
   obtain ⟨p,e0,z0,m1⟩:=open_ns h0 (hsz.part Tryz.underlying49 0 rfl rfl)
   obtain ⟨r,e1,z1,_⟩:=open_ns h1 (hsz.part Tryz.underlying49 1 rfl rfl)
   obtain ⟨l,e2,z2,m2⟩:=open_ns h2 (hsz.part Tryz.underlying49 2 rfl rfl)
   obtain ⟨c,e3,z3,hi3⟩:=open_is h3 (hsz.part Tryz.underlying49 3 rfl rfl)
   exact ⟨⟨p,r,l,c⟩,⟨c0,c1,c2,c3,by simpa using hcell 0 (by omega),by have:=hcell 1 (by omega);rw [← Nat.add_assoc] at this;simpa using this,by have:=hcell 2 (by omega);rw [← Nat.add_assoc] at this;simpa using this,by have:=hcell 3 (by omega);rw [← Nat.add_assoc] at this;simpa using this,e0,e1,e2,e3⟩,⟨z0,z1,z2,z3⟩,hi3,m1,m2⟩
 haveI:Inhabited Fn:=⟨⟨[],[],[],[]⟩⟩
 obtain ⟨z,hz⟩:=Go.Deep.choose_lt each
 refine ⟨(List.range len).map z,⟨some ⟨b,off,none⟩,cap,by simp,.inr ⟨b,off,rfl,fun j hj=>?_⟩⟩,by simp;omega,fun x hx=>?_⟩
 ·simp only [List.length_map,List.length_range] at hj
  simp only [List.getElem_map,List.getElem_range]
  exact (hz j hj).1
 ·obtain ⟨j,hj,rfl⟩:=List.mem_map.1 hx
  exact (hz j (List.mem_range.1 hj)).2
theorem open_scr {r:Reach}{b0:Nat}{v:Value}{d0:DataW H}{p0:List MemPlace}(hval:Value.okWide Tryz.prog w r b0 27 v)(h:DataW.Trod enc Tryz.prog w 0 (fun _=>true) true 27 v d0 p0)
  {ts:List TypeId} {ds:List (DataW H)} (hsz:(DataW.weightsEach Tryz.prog ts ds).all (·≤reachBytes)=true) {j:Nat} (ht:ts[j]?=some 27) (hd:ds[j]?=some d0) (hbk:Rows.uptoBulk d0≤m0) :
  ∃ (s:Scr) (v0 v1:Value),v=.agg #[v0,v1]∧ScIs w.cell? s v0 v1∧s.fits∧(∀ f ∈ s.funcs,f.i64)∧∀ f ∈ s.funcs,f.p.length≤m0∧f.l.length≤m0:=by
 have hS:Sz m0 Tryz.prog 27 d0:=⟨fun k hk=>by simpa using List.all_eq_true.1 hsz k (weightsEach_mem ht hd hk),hbk⟩
 obtain ⟨v0,v1,y0,y1,n,rfl,rfl,_,h0,h1⟩:=Go.Joins.open_agg2 Tryz.underlying27 (by kernel_rfl) (by kernel_rfl) hval h
 obtain ⟨ss,e0,z0,z3⟩:=open_ss h0 (hS.part Tryz.underlying27 0 rfl rfl)
 obtain ⟨fs,e1,z1,z2⟩:=open_fs h1 (hS.part Tryz.underlying27 1 rfl rfl)
 exact ⟨⟨ss,fs⟩,v0,v1,rfl,⟨e0,e1⟩,⟨z0,z1,fun f hf=>(z2 f hf).1,z3⟩,fun f hf=>(z2 f hf).2.1,fun f hf=>(z2 f hf).2.2⟩
end
end Go.Proofs.YtpmlnkjamhelnaaGreat
