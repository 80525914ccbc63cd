/- Plain facts on bytes, numbers and memory that the walks over package wire lean on. -/
import Derived.WalkKit
import Derived.WalkSpells
import Derived.Deep.AppendLies
import Derived.Deep.AppendSrc
import Derived.Test.YtpmlnkjamhelnaaGreatProg
import Derived.WalkLawsBesides
import Derived.Laws.CopyOwn
import Derived.BigQuiet
import Derived.Deep.QuietTactic
import Derived.WalkSmall
import Derived.Deep.RegionHeld3
import Derived.Deep.RegionWith
import Derived.Deep.DrawnRows
import Derived.Deep.RegionLaw
import Derived.Deep.DeepCutAuto
namespace Go.Proofs.YtpmlnkjamhelnaaGreat
open Go.RowKit
theorem hid {p:Prop}(h:p):Hid p:=h
abbrev bv (b:UInt8):Value:=.int .u8 (b.toNat:Int)
def Bs (w:World)(ao:Option Addr)(bs:List UInt8):Prop :=
 bs=[]∨∃ b off,ao=some ⟨b,off,none⟩∧∀ j (h:j<bs.length),w.cell? ⟨b,off+j,none⟩=some (.int .u8 (bs[j].toNat:Int))
def be (n size:Nat):List UInt8:=(List.range size).map fun j=>UInt8.ofNat (n / 256 ^ (size - 1 - j))
def numStep (n:Nat)(x:UInt8):Nat:=(n*256+x.toNat) % 18446744073709551616
def num (bs:List UInt8):Nat:=bs.foldl numStep 0
theorem num_lt (bs:List UInt8):num bs<18446744073709551616:=by
 unfold num
 rcases List.eq_nil_or_concat bs with rfl | ⟨l,x,rfl⟩
 ·decide
 ·simp only [List.concat_eq_append,List.foldl_append,List.foldl_cons,List.foldl_nil]
  exact Nat.mod_lt _ (by decide)
theorem num_snoc (bs:List UInt8)(k:Nat)(h:k<bs.length):num (bs.take (k+1))=numStep (num (bs.take k)) bs[k]:=by
 rw [List.take_succ_eq_append_getElem h]
 simp only [num,List.foldl_append,List.foldl_cons,List.foldl_nil]
theorem numStep_bits (n:Nat)(x:UInt8) :
  bits BinOp.or IntKind.u64 (IntKind.u64.wrap ((n:Int)*256)) (IntKind.u64.wrap (x.toNat:Int))=((numStep n x:Nat):Int):=by
 have hx:x.toNat<256:=x.toNat_lt
 rw [IntKind.wrap_u64,IntKind.wrap_u64]
 have e1:((n:Int)*256) % 18446744073709551616=((n*256 % 18446744073709551616:Nat):Int):=by omega
 have e2:(x.toNat:Int) % 18446744073709551616=(x.toNat:Int):=by omega
 rw [e1,e2,u64_or_nat _ _ (Nat.mod_lt _ (by decide)) (by omega),nat_join8 _ _ (by omega) hx]
 unfold numStep
 omega
theorem grown_refl (a:World)(r:Option Nat):a.grownBy a r:=⟨rfl,rfl,rfl,Nat.le_refl _,fun _ _ _=>rfl⟩
def Own (w:World)(base:Nat)(e:TypeId)(v:Value)(xs:List Value):Prop:=w.ownsRow base e 1 v xs.length xs
def Step (w:World)(v:Value)(w':World)(v':Value):Prop:=w.grownBy w' v.ownBlock∧(v'.ownBlock=v.ownBlock∨∃ g,v'.ownBlock=some g∧w.heap.size≤g)
theorem Step.refl (w:World)(v:Value):Step w v w v:=⟨grown_refl _ _,.inl rfl⟩
theorem Step.size {a b:World}{u v:Value}(h:Step a u b v):a.heap.size≤b.heap.size:=h.1.size
theorem Step.below {a b:World}{u v:Value}(h:Step a u b v){B:Nat}(hB:B≤a.heap.size)(hu:∀ k,u.ownBlock=some k→B≤k):Below B a b :=
 (Below.refl B a).grown h.1 hB hu
theorem Own.alloc {w:World}{base:Nat}{e:TypeId}{v:Value}{xs:List Value}(h:Own w base e v xs)(o:Obj):Own (w.alloc o) base e v xs:=World.ownsRow.alloc h o
theorem Own.nil (w:World)(base:Nat)(e:TypeId):Own w base e (.slice none 0 0) []:=World.ownsRow_nil w base e 1
theorem Own.lt {w:World}{base:Nat}{e:TypeId}{v:Value}{xs:List Value}(h:Own w base e v xs):∀ k,v.ownBlock=some k→base≤k∧k<w.heap.size:=World.ownsRow.lt h
theorem Own.form {w:World}{base:Nat}{e:TypeId}{v:Value}{xs:List Value}(h:Own w base e v xs):∃ ao cap,v=.slice ao xs.length cap∧xs.length≤cap∧cap≤maxLen∧v.ownBlock=ao.map (·.block) ∧
  (ao=none→cap=0)∧(∀ b,ao=some b→∃ g,b=⟨g,0,none⟩∧∀ j u,xs[j]?=some u→w.cell? ⟨g,j,none⟩=some u):=by
 rcases h.2 with ⟨rfl,h0⟩ | ⟨g,cap,cur,rfl,hb,hg,hle,hmx,hsz,htk⟩
 ·have:xs=[]:=List.eq_nil_of_length_eq_zero h0
  subst this
  exact ⟨none,0,rfl,Nat.le_refl _,Nat.zero_le _,rfl,(fun _=>rfl),(fun _ e=>by cases e)⟩
 ·refine ⟨some ⟨g,0,none⟩,cap,rfl,hle,hmx,rfl,(fun e=>by cases e),(fun b e=>⟨g,(by cases e;rfl),fun j u hu=>?_⟩)⟩
  have:=World.ownsRow.cells h (g:=g) rfl j u hu
  have hadd:(⟨g,0,none⟩:Addr).add j=⟨g,j,none⟩:=by unfold Addr.add;split <;> simp_all
  rw [hadd] at this
  exact this
theorem Own.bs {w:World}{base:Nat}{e:TypeId}{v:Value}{bs:List UInt8}(h:Own w base e v (bs.map bv)):∃ ao cap,v=.slice ao bs.length cap∧bs.length≤cap∧cap≤maxLen∧Bs w ao bs∧v.ownBlock=ao.map (·.block)∧(ao=none→cap=0):=by
 obtain ⟨ao,cap,hv,h1,h2,h3,h4,h5⟩:=h.form
 rw [List.length_map] at hv h1
 refine ⟨ao,cap,hv,h1,h2,?_,h3,h4⟩
 cases ao with
 | none=>left;have:=h4 rfl;exact List.eq_nil_of_length_eq_zero (by omega)
 | some b =>
  obtain ⟨g,rfl,hc⟩:=h5 b rfl
  refine .inr ⟨g,0,rfl,fun j hj=>?_⟩
  rw [Nat.zero_add]
  exact hc j _ (by simp [List.getElem?_eq_getElem hj])
structure Elem (P:Program)(t e:TypeId)(bytes:Nat):Prop where
 ht:P.underlying t=some (.slice e)
 hi:∃ i z,P.info? e=some i∧i.zero=some z∧i.size=1∧i.bytes=bytes∧z.cells.size=1
section
variable {P:Program} (w:World)
theorem run_app {t tx ty e:TypeId}{bytes:Nat}(E:Elem P t e bytes)(base:Nat)(v:Value)(xs:List Value)(hown:Own w base e v xs)(x:Value)(news:List Value)(hs:Src P 1 tx x news.length news w)
  (h63:xs.length+news.length≤maxLen) (hbytes:(xs.length+news.length)*bytes≤140737488355328) (hbase:base≤w.heap.size) :
  ∃ v' w',(Builtin.append_ #[t,tx] ty #[v,x]).run P w=.ok v' w'∧Own w' base e v' (xs++news)∧Step w v w' v':=by
 obtain ⟨ht,i,z,hi,hz,hsize,rfl,hzs⟩:=E
 have hs':Src P i.size tx x news.length news w:=by rw [hsize];exact hs
 have hsmall:xs.length+news.length≤9223372036854775807:=by simp only [maxLen] at h63;omega
 have grown:∀ (old:Nat),old<xs.length+news.length→∀ u:Value,
   Own (w.drew.alloc (.cells ((xs++news).toArray++Builtin.zeroCells z.cells (grownCap w (xs.length+news.length) old e - (xs.length+news.length))) e)) base e
    (.slice (some ⟨w.heap.size,0,none⟩) (xs.length+news.length) (grownCap w (xs.length+news.length) old e)) (xs++news) ∧
   Step w u (w.drew.alloc (.cells ((xs++news).toArray++Builtin.zeroCells z.cells (grownCap w (xs.length+news.length) old e - (xs.length+news.length))) e)) (.slice (some ⟨w.heap.size,0,none⟩) (xs.length+news.length) (grownCap w (xs.length+news.length) old e)):=by
  intro old ho u
  have hge:=grownCap_ge w (xs.length+news.length) old e
  have hcm:grownCap w (xs.length+news.length) old e≤maxLen:=grownCap_le_maxLen w (xs.length+news.length) old e h63
  refine ⟨⟨by simp,.inr ⟨w.heap.size,_,_,by rw [List.length_append],hbase,heap_alloc_new w.drew _,by rw [List.length_append];exact hge,hcm,?_,?_⟩⟩,⟨⟨rfl,rfl,rfl,by simp,fun k hk _=>Below.heap_alloc w.drew _ k hk⟩,.inr ⟨w.heap.size,rfl,Nat.le_refl _⟩⟩⟩
  ·simp only [Array.size_append,List.size_toArray,List.length_append,size_zeroCells,hzs]
   omega
  ·simp only [Array.toList_append,Nat.mul_one]
   exact List.take_left
 rcases hown.2 with ⟨rfl,h0⟩ | ⟨g,cap,cur,rfl,hbg,hg,hnc,hcm,hcs,htake⟩
 ·have hx:xs=[]:=List.eq_nil_of_length_eq_zero h0
  subst hx
  by_cases hm:news.length=0
  ·obtain rfl:news=[]:=List.eq_nil_of_length_eq_zero hm
   refine ⟨.slice none 0 0,w,?_,Own.nil w base e,Step.refl _ _⟩
   have hc:(Builtin.firstCells i.size 0 x).run P w=.ok #[] w:=hs'.cells
   rcases hs'.kind with ⟨e',hk⟩ | hk <;> simp [Builtin.append_,run_underlying ht,run_underlying hk,sizeOf,typeInfo,hi,hs'.len,hc]
  ·have hr:=run_append_grow_src (P:=P) w t tx ty e i z ht hi hz none 0 0 [] (by simp [Builtin.firstCells]) x news.length news hs' (by omega) (by have:=hsmall;simp only [List.length_nil,Nat.zero_add] at this ⊢;omega) (growslice_fits (by omega) (by simpa using hbytes))
   have hgr:=grown 0 (by simp;omega) (.slice none 0 0)
   simp only [List.length_nil,Nat.zero_add,List.nil_append] at hgr hr ⊢
   exact ⟨_,_,hr,hgr.1,hgr.2⟩
 ·by_cases hroom:xs.length+news.length≤cap
  ·have hst:=run_storeCells_at P g xs.length e news 0 cur w hg (by rw [hcs];omega) hs.one
   simp only [Nat.add_zero] at hst
   refine ⟨.slice (some ⟨g,0,none⟩) (xs.length+news.length) cap,w.setRow g (cur.toList.take xs.length++news++cur.toList.drop (xs.length+news.length)).toArray,?_,⟨by simp,.inr ⟨g,cap,_,by rw [List.length_append],hbg,setRow_heap w g cur _ e _ hg,by rw [List.length_append];exact hroom,hcm,?_,?_⟩⟩,
    ⟨⟨rfl,rfl,rfl,by simp,fun k _ hk=>setRow_other w g k _ (fun e=>hk (by simp [Value.ownBlock,e]))⟩,.inl rfl⟩⟩
   ·rcases hs'.kind with ⟨e',hk⟩ | hk <;> simp [Builtin.append_,run_underlying ht,run_underlying hk,sizeOf,typeInfo,hi,hsize,hs'.len,hroom,(hsize ▸ hs'.cells),Addr.add_lit,hst]
   ·simp only [List.size_toArray,List.length_append,List.length_take,List.length_drop,Array.length_toList]
    omega
   ·simp only [Nat.mul_one] at htake ⊢
    rw [htake]
    exact List.take_left
  ·have holds:∀ j u,xs[j]?=some u→w.drew.cell? ((⟨g,0,none⟩:Addr).add j)=some u:=by simpa using World.ownsRow.cells hown (g:=g) rfl
   have hr:=run_append_grow_src (P:=P) w t tx ty e i z ht hi hz (some ⟨g,0,none⟩) xs.length cap xs (run_firstCells_some w.drew i.size xs.length ⟨g,0,none⟩ xs.length cap xs (by rw [hsize,Nat.mul_one]) holds) x news.length news hs' (by omega) (by omega) (growslice_fits (by omega) hbytes)
   have hgr:=grown cap (by omega) (.slice (some ⟨g,0,none⟩) xs.length cap)
   exact ⟨_,_,hr,hgr.1,hgr.2⟩
theorem wp_app {o:Oper}{a:Act}{K:Act→World→Prop}{Q:Exit→Act→World→Prop}(s x:Operand)(t tx:TypeId)(ho:o.op=.call { callee:=.builtin .append,args:=#[s,x],argTypes:=#[t,tx] })
  {e:TypeId} {bytes:Nat} (E:Elem P t e bytes) (base:Nat) (v:Value) (xs:List Value) (hv:a.eval s=v) (hown:Own w base e v xs) (y:Value) (hy:a.eval x=y) (news:List Value) (hs:Src P 1 tx y news.length news w)
  (h63:xs.length+news.length≤maxLen) (hbytes:(xs.length+news.length)*bytes≤140737488355328) (hbase:base≤w.heap.size)
  (h:∀ v' w',Own w' base e v' (xs++news)→Step w v w' v'→K (a.put o.dst v') w'):o.wp P a w K Q:=by
 obtain ⟨v',w',hr,h2,h3⟩:=run_app (P:=P) w (ty:=o.type) E base v xs hown y news hs h63 hbytes hbase
 unfold Oper.wp execOp
 simp only [ho,resolve,invoke,builtin,Sem.run_bind,Sem.run_pure,Result.andThen_ok,List.map_toArray,List.map_cons,List.map_nil,hv,hy,hr]
 exact h v' w' h2 h3
theorem wpList_app {ops:Array Oper}{rest:List Oper}{o:Oper}{a:Act}{Q:Exit→Act→World→Prop}(hgd:o.guard=none)(s x:Operand)(t tx:TypeId)(ho:o.op=.call { callee:=.builtin .append,args:=#[s,x],argTypes:=#[t,tx] })
  {e:TypeId} {bytes:Nat} (E:Elem P t e bytes) (base:Nat) (v:Value) (xs:List Value) (hv:a.eval s=v) (hown:Own w base e v xs) (y:Value) (hy:a.eval x=y) (news:List Value) (hs:Src P 1 tx y news.length news w)
  (h63:xs.length+news.length≤maxLen) (hbytes:(xs.length+news.length)*bytes≤140737488355328) (hbase:base≤w.heap.size)
  (h:∀ v' w',Own w' base e v' (xs++news)→Step w v w' v'→wpList P ops Q rest (a.put o.dst v') w'):wpList P ops Q (o :: rest) a w :=
 wpList_plain hgd fun _ hK=>wp_app w s x t tx ho E base v xs hv hown y hy news hs h63 hbytes hbase fun v' w' h2 h3=>hK _ _ (h v' w' h2 h3)
theorem src_bs {tx e':TypeId}(hk:P.underlying tx=some (.slice e')){ao:Option Addr}{bs:List UInt8}(hb:Bs w ao bs)(c:Nat):Src P 1 tx (.slice ao bs.length c) (bs.map bv).length (bs.map bv) w:=by
 rw [List.length_map]
 rcases hb with rfl | ⟨b,off,rfl,hc⟩
 ·cases ao with
  | none=>exact Src.ofNil w hk c
  | some a=>exact Src.ofSlice w hk a 0 c [] rfl (fun j u h=>by simp at h) (fun u h=>by cases h)
 ·refine Src.ofSlice w hk _ _ c _ (by simp) (fun j u hu=>?_) (fun u hu=>?_)
  ·have hadd:(⟨b,off,none⟩:Addr).add j=⟨b,off+j,none⟩:=by unfold Addr.add;split <;> simp_all
   rw [hadd]
   rw [List.getElem?_map] at hu
   obtain ⟨x,hx,rfl⟩:=Option.map_eq_some_iff.1 hu
   obtain ⟨hj,rfl⟩:=List.getElem?_eq_some_iff.1 hx
   exact hc j hj
  ·obtain ⟨_,_,rfl⟩:=List.mem_map.1 hu;rfl
end
theorem ret_int {k:IntKind}{a b:Int}(h:a=b):Ending.returned (.int k a)=.returned (.int k b):=by rw [h]
set_option maxHeartbeats 400000 in
theorem number_any (ao:Option Addr)(len cap:Nat)(bs:List UInt8)(w:World)(hl:bs.length=len)(hm:len≤140737488355328)(hb:Bs w ao bs) :
  Calls Tryz.prog 101 #[.slice ao len cap] w fun e w'=>e=.returned (.int .u64 (num bs:Nat))∧w'=w:=by
 go_enter Tryz.func101,Tryz.ntmps101
 go_wp2
 go_loop [3,8] (fun n i=>∃ k:Nat,k≤len∧i=.int .i64 k∧n=.int .u64 (num (bs.take k):Nat)) (fun _ i=>len - (intOf i).toNat)
 case atStart=>exact ⟨0,Nat.zero_le _,rfl,rfl⟩
 case round =>
  obtain ⟨k,hk,rfl,rfl⟩:=hrel
  by_cases hlt:k<len
  ·rcases hb with hb | ⟨b,off,hao,hc⟩
   ·subst hb;simp at hl;omega
   ·subst hao
    have hck:=hc k (by omega)
    have HS:Hid (num (bs.take (k+1))=numStep (num (bs.take k)) (bs[k]'(by omega))):=num_snoc bs k (by omega)
    have HB:=numStep_bits (num (bs.take k)) (bs[k]'(by omega))
    clear hc
    go_wp2
    go_round
    case rel=>exact ⟨k+1,by omega,by go_num,by rw [HS.out]⟩
    case measure=>simp [intOf];omega
  ·have HE:Hid (bs.take k=bs):=List.take_of_length_le (by omega)
   go_wp2
   go_ret
   exact ⟨ret_int (by rw [HE.out]),rfl⟩
theorem elem_u8:Elem Tryz.prog 22 5 1:=by
 refine ⟨Tryz.underlying22,?_⟩
 obtain ⟨i0,hi,hz0,hz1,hz2⟩:=info_parts (show (Tryz.prog.info? 5).map (fun i=>(i.zero,i.size,i.bytes))=some (some (.int .u8 0),1,1) by kernel_rfl)
 exact ⟨i0,_,hi,hz0,hz1,hz2,rfl⟩
def OwnB (w:World)(base:Nat)(v:Value)(bs:List UInt8):Prop:=Own w base 5 v (bs.map bv)
set_option maxHeartbeats 400000 in
theorem fresh_any (ao:Option Addr)(len cap:Nat)(bs:List UInt8)(w:World)(hl:bs.length=len)(hm:len≤140737488355328)(hb:Bs w ao bs) :
  Calls Tryz.prog 64 #[.slice ao len cap] w fun e w'=>e=.returned (.slice (some ⟨w.heap.size,0,none⟩) len len)∧OwnB w' w.heap.size (.slice (some ⟨w.heap.size,0,none⟩) len len) bs∧Below w.heap.size w w':=by
 obtain ⟨i0,hi,hz0,hz1,hz2⟩:=info_parts (show (Tryz.prog.info? 5).map (fun i=>(i.zero,i.size,i.bytes))=some (some (.int .u8 0),1,1) by kernel_rfl)
 go_enter Tryz.func64,Tryz.ntmps64
 go_wp2_with (first | (at_make;refine wpList_make_full _ rfl _ _ 22 rfl w.heap.size 5 i0 (.int .u8 0) 1 Tryz.underlying22 hi hz0 hz1 _ _ _ _ len rfl rfl rfl rfl ?b1 ?b2 ?b3 ?_))
 case b1=>rw [hz2];omega
 case b2=>unfold maxLen;omega
 case b3=>exact Nat.le_refl _
 intro w1 ho1 hg1
 obtain ⟨cur,hcur,hh⟩:∃ cur:List Value,cur.length=len∧w1.heap[w.heap.size]?=some (.cells cur.toArray 5 (0,0)):=by
  rcases ho1.2 with ⟨h,_⟩ | ⟨g,cap',cur,h,_,hg,_,_,hsz,_⟩
  ·cases h
  ·cases h
   exact ⟨cur.toList,by simpa using hsz,by simpa using hg⟩
 have hb1:Below w.heap.size w w1:=(Below.refl _ w).grown hg1 (Nat.le_refl _) (fun k h=>by cases h)
 have HB:Bs w1 ao bs:=by
  rcases hb with h | ⟨b,off,h,hc⟩
  ·exact .inl h
  ·refine .inr ⟨b,off,h,fun j hj=>?_⟩
   have:=hc j hj
   rw [hb1.cell (p:=⟨b,off+j,none⟩) (World.block_lt_of_cell? _ _ this)]
   exact this
 obtain ⟨cs,hcs⟩:∃ cs,cs=bs.map bv:=⟨_,rfl⟩
 have hcl:cs.length=len:=by rw [hcs,List.length_map,hl]
 have HD:Hid (0<cs.length→∃ ad,ao=some ad∧∀ j v,cs[j]?=some v→w1.cell? (ad.add j)=some v):=by
  intro h0
  rcases HB with h | ⟨b,off,h,hc⟩
  ·subst h;simp [hcs] at h0
  ·refine ⟨⟨b,off,none⟩,h,fun j u hu=>?_⟩
   have hadd:(⟨b,off,none⟩:Addr).add j=⟨b,off+j,none⟩:=by unfold Addr.add;split <;> simp_all
   rw [hadd]
   rw [hcs,List.getElem?_map] at hu
   obtain ⟨x,hx,rfl⟩:=Option.map_eq_some_iff.1 hu
   obtain ⟨hj,rfl⟩:=List.getElem?_eq_some_iff.1 hx
   exact hc j hj
 have HO:Hid (∀ u ∈ cs,u.oneCell'=true):=by intro u hu;rw [hcs] at hu;obtain ⟨_,_,rfl⟩:=List.mem_map.1 hu;rfl
 have HC:Hid (cs=bs.map bv):=hcs
 clear ho1 hg1 hb HB hcs
 go_wp2_with (refine wpList_copy_splice rfl (.tmp 7) (.tmp 8) 22 22 rfl 5 Tryz.underlying22 (by rw [hi];simp [hz1]) _ _ _ _ _ _ rfl rfl w.heap.size 0 cur 5 hh cs (by simp [hcl]) (fun h=>⟨rfl,HD.out h⟩) (by simp [hcl,hcur]) HO.out w.heap.size w hb1 (Nat.le_refl _) ?_)
 intro w2 HG hb2
 go_wp2
 go_ret
 have e:splice cur 0 cs=cs:=by
  have:cur.drop cs.length=[]:=List.drop_eq_nil_of_le (by omega)
  simp [splice,this]
 have hg2:=HG.out
 rw [e] at hg2
 refine ⟨rfl,?_,hb2⟩
 unfold OwnB Own
 rw [← HC.out,hcl]
 exact ⟨by omega,.inr ⟨w.heap.size,len,_,rfl,Nat.le_refl _,hg2,Nat.le_refl _,by unfold maxLen;omega,by simp [hcl],List.take_of_length_le (by simp [hcl])⟩⟩
theorem Bs.keep {w w':World}{ao:Option Addr}{bs:List UInt8}(h:Bs w ao bs)(hk:∀ a v,w.cell? a=some v→w'.cell? a=some v):Bs w' ao bs:=by
 rcases h with h | ⟨b,off,h,hc⟩
 ·exact .inl h
 ·exact .inr ⟨b,off,h,fun j hj=>hk _ _ (hc j hj)⟩
theorem below_keep {w w':World}(hb:Below w.heap.size w w'):∀ a v,w.cell? a=some v→w'.cell? a=some v:=fun a v h=>by
 rw [hb.cell (p:=a) (World.block_lt_of_cell? _ _ h)];exact h
theorem alloc_keep (w:World)(o:Obj):∀ a v,w.cell? a=some v→(w.alloc o).cell? a=some v :=
 below_keep ((Below.refl _ w).alloc (Nat.le_refl _) o)
def sl (g n:Nat):Value:=.slice (some ⟨g,0,none⟩) n n
theorem Own.below {w w':World}{base:Nat}{e:TypeId}{v:Value}{xs:List Value}(h:Own w base e v xs)(hb:Below w.heap.size w w'):Own w' base e v xs:=by
 refine ⟨h.1,?_⟩
 rcases h.2 with h2 | ⟨g,cap,cur,rfl,hg,hh,r⟩
 ·exact .inl h2
 ·exact .inr ⟨g,cap,cur,rfl,hg,by rw [hb.block g (Array.getElem?_eq_some_iff.1 hh).1];exact hh,r⟩
theorem apart {w:World}{b b' g n:Nat}{e e':TypeId}{v:Value}{xs ys:List Value}(hee:e≠e')(h:Own w b e (sl g n) xs)(k:Own w b' e' v ys):(sl g n).ownBlock=none∨(sl g n).ownBlock≠v.ownBlock:=by
 right
 intro he
 rcases h.2 with ⟨h2,_⟩ | ⟨g1,cap,cur,hv,_,hh,_⟩
 ·cases h2
 ·cases hv
  rcases k.2 with ⟨k2,_⟩ | ⟨g2,cap2,cur2,kv,_,kk,_⟩
  ·rw [k2] at he;cases he
  ·rw [kv] at he
   cases he
   rw [hh] at kk
   cases kk
   exact hee rfl
structure Chg (w w':World)(S:Nat→Prop):Prop where
 os:w'.os=w.os
 tape:w'.tape=w.tape
 output:w'.output=w.output
 size:w.heap.size≤w'.heap.size
 block:∀ k,k<w.heap.size→¬ S k→w'.heap[k]?=w.heap[k]?
theorem Chg.refl (w:World)(S:Nat→Prop):Chg w w S:=⟨rfl,rfl,rfl,Nat.le_refl _,fun _ _ _=>rfl⟩
theorem Chg.trans {a b c:World}{S T:Nat→Prop}(h:Chg a b S)(k:Chg b c T)(hT:∀ i,i<a.heap.size→T i→S i):Chg a c S :=
 ⟨k.os.trans h.os,k.tape.trans h.tape,k.output.trans h.output,Nat.le_trans h.size k.size,fun i hi hn=>(k.block i (Nat.lt_of_lt_of_le hi h.size) (fun ht=>hn (hT i hi ht))).trans (h.block i hi hn)⟩
theorem Chg.of_grown {a b:World}{r:Option Nat}(h:a.grownBy b r):Chg a b (fun k=>r=some k):=⟨h.os,h.tape,h.output,h.size,fun i hi hn=>h.block i hi (fun e=>hn e.symm)⟩
theorem Chg.alloc (w:World)(o:Obj)(S:Nat→Prop):Chg w (w.alloc o) S:=⟨rfl,rfl,rfl,by simp,fun k hk _=>Below.heap_alloc w o k hk⟩
theorem Chg.drew (w:World)(S:Nat→Prop):Chg w w.drew S:=⟨rfl,rfl,rfl,Nat.le_refl _,fun _ _ _=>rfl⟩
theorem Chg.setCell (w:World)(a:Addr)(v:Value):Chg w (w.setCell a v) (fun k=>k=a.block):=⟨rfl,rfl,rfl,by simp [World.setCell],fun k _ hn=>Below.heap_setCell w a v k hn⟩
theorem Chg.mono {a b:World}{S T:Nat→Prop}(h:Chg a b S)(hT:∀ i,i<a.heap.size→S i→T i):Chg a b T:=⟨h.os,h.tape,h.output,h.size,fun i hi hn=>h.block i hi (fun hs=>hn (hT i hi hs))⟩
theorem Chg.below {a b:World}{S:Nat→Prop}(h:Chg a b S){B:Nat}(hB:B≤a.heap.size)(hS:∀ i,S i→B≤i):Below B a b :=
 ⟨h.os,h.tape,h.output,h.size,fun k hk=>h.block k (by omega) (fun hs=>by have:=hS k hs;omega)⟩
theorem Chg.of_below {a b:World}{S:Nat→Prop}(h:Below a.heap.size a b):Chg a b S:=⟨h.os,h.tape,h.output,h.size,fun k hk _=>h.block k hk⟩
theorem Chg.cell {a b:World}{S:Nat→Prop}(h:Chg a b S){p:Addr}{v:Value}(hc:a.cell? p=some v)(hp:¬ S p.block):b.cell? p=some v:=by
 rw [World.cell?_of_block (h.block p.block (World.block_lt_of_cell? _ _ hc) hp)];exact hc
theorem cells2 {w:World}{b:Nat}{x y:Value}{t:TypeId}(h:w.heap[b]?=some (.cells #[x,y] t (0,0))):w.cell? ⟨b,0,none⟩=some x∧w.cell? ⟨b,1,none⟩=some y∧w.frozen? ⟨b,0,none⟩=false∧w.frozen? ⟨b,1,none⟩=false:=by
 simp [World.cell?,World.frozen?,h]
theorem set2_0 {w:World}{b:Nat}{x y u:Value}{t:TypeId}(h:w.heap[b]?=some (.cells #[x,y] t (0,0))):(w.setCell ⟨b,0,none⟩ u).heap[b]?=some (.cells #[u,y] t (0,0)):=by
 have hlt:=lt_of_block h
 have h':w.heap[b]=.cells #[x,y] t (0,0):=by simpa [Array.getElem?_eq_getElem hlt] using h
 show (w.heap.modify b _)[b]?=_
 rw [Array.getElem?_eq_getElem (by simpa using hlt),Array.getElem_modify_self,h']
 rfl
theorem set2_1 {w:World}{b:Nat}{x y u:Value}{t:TypeId}(h:w.heap[b]?=some (.cells #[x,y] t (0,0))):(w.setCell ⟨b,1,none⟩ u).heap[b]?=some (.cells #[x,u] t (0,0)):=by
 have hlt:=lt_of_block h
 have h':w.heap[b]=.cells #[x,y] t (0,0):=by simpa [Array.getElem?_eq_getElem hlt] using h
 show (w.heap.modify b _)[b]?=_
 rw [Array.getElem?_eq_getElem (by simpa using hlt),Array.getElem_modify_self,h']
 rfl
def be64 (n:Int):List UInt8:=be (n % 18446744073709551616).toNat 8
def ints (ns:List Int):List UInt8:=ns.flatMap be64
attribute [local go_sem ↓] Go.wp_at_zero Go.wp_at_succ
end Go.Proofs.YtpmlnkjamhelnaaGreat
namespace Go.Proofs.YtpmlnkjamhelnaaGreat
open Go.RowKit
def text (s:List UInt8):List UInt8:=be s.length 2++s
def texts (ss:List (List UInt8)):List UInt8:=ss.flatMap text
attribute [local go_sem ↓] Go.wp_at_zero Go.wp_at_succ
end Go.Proofs.YtpmlnkjamhelnaaGreat
namespace Go.Proofs.YtpmlnkjamhelnaaGreat
open Go.RowKit
theorem run_str {w:World}{ao:Option Addr}{bs:List UInt8}(h:Bs w ao bs)(cap:Nat):(convert 22 9 (.slice ao bs.length cap)).run Tryz.prog w=.ok (.string ⟨bs.toArray⟩) w:=by
 have nums:∀ l:List UInt8,strOfNums (l.map fun b=>(b.toNat:Int))=⟨l.toArray⟩:=fun l=>by
  unfold strOfNums
  rw [List.map_map]
  congr 2
  conv=>rhs;rw [← List.map_id l]
  apply List.map_congr_left
  intro b _
  simp
 rcases h with rfl | ⟨b,off,rfl,hc⟩
 ·cases ao with
  | none=>exact run_convert_bytes_nil w 22 5 Tryz.underlying22 Tryz.underlying5 0 cap 9 Tryz.underlying9
  | some a =>
   rw [run_convert_bytes_string w 22 9 5 _ _ cap Tryz.underlying22 Tryz.underlying5 Tryz.underlying9]
   exact (run_bytesToString w a 0 cap [] (by simp [loadCells,loadCellsFrom])).trans rfl
 ·rw [run_convert_bytes_arg w 22 5 Tryz.underlying22 Tryz.underlying5 b off bs.length cap (bs.map fun b=>(b.toNat:Int)) (by simp) (fun i hi=>by rw [hc i hi];simp [List.getD,hi]) 9 Tryz.underlying9,nums]
end Go.Proofs.YtpmlnkjamhelnaaGreat
