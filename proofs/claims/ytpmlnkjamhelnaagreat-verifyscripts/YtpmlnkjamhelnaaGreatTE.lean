/- types' open blocks: outward, first, innermost, innermostLoop. types' open blocks: innermost, innermostLoop, close, begin, on a walk's state. -/
import Derived.Test.YtpmlnkjamhelnaaGreatFeeds
import Derived.Test.YtpmlnkjamhelnaaGreatCB
import Derived.Test.YtpmlnkjamhelnaaGreatXE
namespace Go.Proofs.YtpmlnkjamhelnaaGreat
open Go.RowKit Go.Shelf
attribute [local go_sem] Oper.semAt_some
def PsAt (C:Addr→Option Value)(a:Option Addr)(bs:List Nat):Prop:=bs=[]∨∃ b off,a=some ⟨b,off,none⟩∧∀ j (h:j<bs.length),C ⟨b,off+j,none⟩=some (.pointer (some ⟨bs[j],0,none⟩))
theorem PsAt.keep {C C':Addr→Option Value}{a:Option Addr}{bs:List Nat}(h:PsAt C a bs)(hk:∀ x v,C x=some v→C' x=some v):PsAt C' a bs:=by
 rcases h with h | ⟨b,off,e,h⟩
 ·exact .inl h
 ·exact .inr ⟨b,off,e,fun j hj=>hk _ _ (h j hj)⟩
theorem ps_some {C:Addr→Option Value}{a:Option Addr}{bs:List Nat}(h:PsAt C a bs)(h0:0<bs.length):∃ b off,a=some ⟨b,off,none⟩:=by
 rcases h with rfl | ⟨b,off,e,_⟩
 ·cases h0
 ·exact ⟨b,off,e⟩
theorem ps_at {C:Addr→Option Value}{b off:Nat}{bs:List Nat}(h:PsAt C (some ⟨b,off,none⟩) bs)(j:Nat)(hj:j<bs.length):C ⟨b,off+j,none⟩=some (.pointer (some ⟨bs.getD j 0,0,none⟩)):=by
 rcases h with rfl | ⟨b,off,e,h⟩
 ·cases hj
 ·cases e
  rw [h j hj,List.getD_eq_getElem?_getD,List.getElem?_eq_getElem hj]
  rfl
def pw (bs:List Nat):Nat→List Nat
 | 0=>[]
 | k+1=>bs.getD k 0 :: pw bs k
set_option maxRecDepth 100000 in
set_option maxHeartbeats 2000000 in
theorem outw_feeds (n:Nat)(hn1:1≤n)(b bS B wb:Nat)(la:Option Addr)(lc m:Nat)(bs:List Nat)(hm:bs.length=m)(bm:m≤1000000)(W:World)(c:W.cell? ⟨bS,0,none⟩=some (.pointer (some ⟨wb,3,none⟩)))
  (hT:∀ W',KpB bS B W W'→W'.cell? ⟨wb,3,none⟩=some (.slice la m lc)∧PsAt W'.cell? la bs) :
  Feeds Fence.wide n Tryz.prog 216 #[.pointer (some ⟨bS,0,none⟩)] (fun x:Nat=>#[.pointer (some ⟨x,0,none⟩)]) b (KpB bS B) (pw bs m) W:=by
 intro l J Jx _ _ hY h0
 refine callsIn_of_wp Tryz.func216 rfl trivial ?_ rfl
 simp only [Tryz.ntmps216,List.size_toArray,List.length_cons,List.length_nil,Nat.reduceAdd,Nat.reduceSub,Array.replicate_succ,Array.replicate_zero,List.push_toArray,List.append_toArray,List.nil_append,List.cons_append]
 have HT:=hid7 hT
 have HC:=hid7 c
 have c3:=(hT W (KpB.refl _ _ _)).1
 clear hT
 gi_wp2
 clear c c3
 gi_loopw [3] (fun iv wr=>∃ (k:Nat) (pre:List Nat),iv=.int .i64 ((k:Int) - 1)∧k≤m∧Hid (pw bs m=pre++pw bs k)∧Hid (KpB bS B W wr)∧J pre wr) (fun iv _=>(intOf iv+1).toNat)
 case atStart=>exact ⟨m,[],by go_num,Nat.le_refl _,hid7 (by simp),hid7 (KpB.refl _ _ _),h0⟩
 case round =>
  obtain ⟨k,pre,rfl,hk,hp,hK,hj⟩:=hrel
  cases k with
  | zero =>
   have hE:Hid (J (pw bs m) wr):=hid7 (by rw [hp.out];simpa [pw] using hj)
   gi_wp2
   go_end0
   exact ⟨⟨_,rfl⟩,.inl hE.out⟩
  | succ k =>
   have c0:wr.cell? ⟨bS,0,none⟩=some (.pointer (some ⟨wb,3,none⟩)):=(cell_heap7 (hK.out bS (.inl rfl))).trans HC.out
   obtain ⟨c3,hn⟩:=HT.out wr hK.out
   obtain ⟨tb,tf,rfl⟩:=ps_some hn (by omega)
   have c1:=ps_at hn k (by omega)
   have hp2:pw bs m=pre++[bs.getD k 0]++pw bs k:=by rw [hp.out];simp [pw]
   obtain ⟨fn,tmps,assign,body,hy,hR⟩:=hY pre (bs.getD k 0) wr hj (by rw [hp2];exact List.prefix_append _ _)
   have HP:=hid7 hp2
   clear hp hp2 hn
   have e1:((k+1:Nat):Int) - 1=k:=by omega
   rw [e1]
   generalize bs.getD k 0=y at c1 hy hR HP
   gi_wp2
   refine hR.mono ?_
   rintro e W3 (⟨rfl,hJ3,hK3⟩ | ⟨rfl,hx3⟩)
   ·have K4:=hid7 (hK.out.trans hK3)
    clear hK3 hR hy hj hK c0 c1 c3
    gi_wp2
    exact ⟨⟨k,_,by go_num,by omega,HP,K4,hJ3⟩,by simp [intOf]⟩
   ·gi_wp2
    refine bodyPost_ret (results_none rfl _ _ _) rfl ?_
    exact ⟨⟨_,rfl⟩,.inr ⟨_,hx3⟩⟩
theorem outward_any (x:Addr)(w:World):Calls Tryz.prog 214 #[.pointer (some x)] w fun e w'=>e=.returned (.func (.func 216) #[] #[.pointer (some ⟨w.heap.size,0,none⟩)])∧w'=w.alloc (.cells #[.pointer (some x)] 241):=by
 go_enter Tryz.func214,Tryz.ntmps214
 go_wp2
 go_ret
 exact ⟨rfl,rfl⟩
theorem yes_any (v:Value)(w:World):Calls Tryz.prog 204 #[v] w fun e w'=>e=.returned (.bool true)∧w'=w:=by
 go_enter Tryz.func204,Tryz.ntmps204
 go_wp2
 go_ret
 exact ⟨rfl,rfl⟩
theorem loopQ_any (x:Nat)(l:Bool)(w:World)(h:w.cell? ⟨x,2,none⟩=some (.bool l)):Calls Tryz.prog 205 #[.pointer (some ⟨x,0,none⟩)] w fun e w'=>e=.returned (.bool l)∧w'=w:=by
 go_enter Tryz.func205,Tryz.ntmps205
 go_wp2
 go_ret
 exact ⟨rfl,rfl⟩
def fstIx (pr:Nat→Bool):Nat→Option Nat
 | 0=>none
 | k+1=>if pr k=true then some k else fstIx pr k
theorem fst_skip {pr:Nat→Bool}{m:Nat}:∀ {k:Nat},k≤m→(∀ i,k≤i→i<m→pr i=false)→fstIx pr m=fstIx pr k:=by
 induction m with
 | zero=>intro k hk _;rw [show k=0 by omega]
 | succ m ih =>
  intro k hk h
  by_cases hkm:k=m+1
  ·rw [hkm]
  ·rw [fstIx,if_neg (by rw [h m (by omega) (by omega)];decide)]
   exact ih (by omega) (fun i h1 h2=>h i h1 (by omega))
def ptrB (bs:List Nat):Option Nat→Value
 | none=>.pointer none
 | some i=>.pointer (some ⟨bs.getD i 0,0,none⟩)
def FirstEnd7 (bs:List Nat)(r:Option Nat)(w:World)(e:Ending)(w':World):Prop:=e=.returned (ptrB bs r)∧Below w.heap.size w w'
theorem results_cell7 {fn:Func}{t:Tmp}{ty:TypeId}(h:fn.results=#[.cell t ty])(tmps:Array Value)(P:Program)(w:World)(a:Addr)(v:Value)(ha:tmps[t]?.getD undef=.pointer (some a))(hl:(loadVar ty a).run P w=.ok v w) :
  (results fn tmps).run P w=.ok v w:=by
 simp [results,h,ha,asAddr,hl]
theorem load_ptr7 {w:World}{b:Nat}{v:Value}(h:w.cell? ⟨b,0,none⟩=some v):(loadVar 213 ⟨b,0,none⟩).run Tryz.prog w=.ok v w:=by
 simp [loadVar,go_sem,h]
structure FsI (bs:List Nat)(pr:Nat→Bool)(F m z:Nat)(w:World)(pre:List Nat)(W:World):Prop where
 at':∃ k,k≤m∧pw bs m=pre++pw bs k∧∀ i,k≤i→i<m→pr i=false
 box:Boxed W z 243 (.func (.func F) #[] #[])
 res:Boxed W (z+1) 213 (.pointer none)
 bel:Below z w W
 siz:z+3≤W.heap.size
structure FsR (bs:List Nat)(pr:Nat→Bool)(m z:Nat)(w:World)(W:World):Prop where
 yes:∃ i,fstIx pr m=some i∧Boxed W (z+1) 213 (.pointer (some ⟨bs.getD i 0,0,none⟩))
 bel:Below z w W
 siz:z+3≤W.heap.size
theorem FsI.grow {bs:List Nat}{pr:Nat→Bool}{F m z:Nat}{w:World}{pre:List Nat}{W W':World}{row:Option Nat}(h:FsI bs pr F m z w pre W)(hg:W.grownBy W' row)(hr:∀ k,row=some k→z+2≤k):FsI bs pr F m z w pre W' :=
 ⟨h.at',h.box.kept hg (fun e=>by have:=hr _ e.symm;omega),h.res.kept hg (fun e=>by have:=hr _ e.symm;omega),h.bel.grown hg (by have:=h.siz;omega) (fun k e=>by have:=hr k e;omega),Nat.le_trans h.siz hg.size⟩
theorem FsR.grow {bs:List Nat}{pr:Nat→Bool}{m z:Nat}{w W W':World}{row:Option Nat}(h:FsR bs pr m z w W)(hg:W.grownBy W' row)(hr:∀ k,row=some k→z+2≤k):FsR bs pr m z w W':=by
 obtain ⟨i,h1,h2⟩:=h.yes
 exact ⟨⟨i,h1,h2.kept hg (fun e=>by have:=hr _ e.symm;omega)⟩,h.bel.grown hg (by have:=h.siz;omega) (fun k e=>by have:=hr k e;omega),Nat.le_trans h.siz hg.size⟩
set_option maxRecDepth 100000 in
set_option maxHeartbeats 4000000 in
theorem first_yes (wb:Nat)(la:Option Addr)(lc m:Nat)(bs:List Nat)(pr:Nat→Bool)(hm:bs.length=m)(bm:m≤1000000)(w:World)(c3:w.cell? ⟨wb,3,none⟩=some (.slice la m lc))(hp:PsAt w.cell? la bs)
  (hF:∀ W,Below w.heap.size w W→∀ i,i<m→Calls Tryz.prog 204 #[.pointer (some ⟨bs.getD i 0,0,none⟩)] W fun e w'=>e=.returned (.bool (pr i))∧w'=W) :
  Calls Tryz.prog 203 #[.pointer (some ⟨wb,3,none⟩),.func (.func 204) #[] #[]] w (FirstEnd7 bs (fstIx pr m) w):=by
 refine (callsIn_wide (n:=3)).1 ?_
 refine callsIn_of_wp_marks Tryz.func203 rfl trivial ?_ rfl
 simp only [Tryz.ntmps203,List.size_toArray,List.length_cons,List.length_nil,Nat.reduceAdd,Nat.reduceSub,Array.replicate_succ,Array.replicate_zero,List.push_toArray,List.append_toArray,List.nil_append,List.cons_append]
 gi_wp2_with (refine ⟨trivial,?_⟩;gi_at_call 214;refine (callsIn_wide.2 (outward_any _ _)).mono ?_;rintro e w' ⟨rfl,rfl⟩)
 have b0:=((Boxed.new w 243 (.func (.func 204) #[] #[])).alloc (.cells #[.pointer none] 213)).alloc (.cells #[.pointer (some ⟨wb,3,none⟩)] 241)
 have b1:=(Boxed.new (w.alloc (.cells #[.func (.func 204) #[] #[]] 243)) 213 (.pointer none)).alloc (.cells #[.pointer (some ⟨wb,3,none⟩)] 241)
 have b2:=Boxed.new ((w.alloc (.cells #[.func (.func 204) #[] #[]] 243)).alloc (.cells #[.pointer none] 213)) 241 (.pointer (some ⟨wb,3,none⟩))
 simp only [World.size_alloc] at b0 b1 b2
 have hB0:Below w.heap.size w (((w.alloc (.cells #[.func (.func 204) #[] #[]] 243)).alloc (.cells #[.pointer none] 213)).alloc (.cells #[.pointer (some ⟨wb,3,none⟩)] 241)) :=
  (((Below.refl _ w).alloc (Nat.le_refl _) _).alloc (by simp) _).alloc (by simp;omega) _
 have hsz:(((w.alloc (.cells #[.func (.func 204) #[] #[]] 243)).alloc (.cells #[.pointer none] 213)).alloc (.cells #[.pointer (some ⟨wb,3,none⟩)] 241)).heap.size=w.heap.size+3:=by simp
 generalize (((w.alloc (.cells #[.func (.func 204) #[] #[]] 243)).alloc (.cells #[.pointer none] 213)).alloc (.cells #[.pointer (some ⟨wb,3,none⟩)] 241))=W0 at *
 have hT:∀ W W',Below w.heap.size w W→KpB (w.heap.size+2) w.heap.size W W'→W'.cell? ⟨wb,3,none⟩=some (.slice la m lc)∧PsAt W'.cell? la bs:=fun W W' hW hK=>by
  have hk:∀ x v,w.cell? x=some v→W'.cell? x=some v:=fun x v h=>by
   have hlt:=World.block_lt_of_cell? w x h
   exact (cell_same7 (hK x.block (.inr hlt))).trans ((hW.cell hlt).trans h)
  exact ⟨hk _ _ c3,hp.keep hk⟩
 refine range_feeds (b:=w.heap.size+2) (Kp:=KpB (w.heap.size+2) w.heap.size) (xs:=pw bs m) (encs:=fun x:Nat=>#[.pointer (some ⟨x,0,none⟩)]) rfl (by decide) (gf:=216) (lb:=#[.pointer (some ⟨w.heap.size+2,0,none⟩)]) rfl trivial (enters_of Tryz.func216 (by kernel_rfl) rfl) (by omega)
  (fun W hW=>outw_feeds 2 (by decide) _ (w.heap.size+2) w.heap.size wb la lc m bs hm bm W ((hW.cell (p:=⟨w.heap.size+2,0,none⟩) (by show w.heap.size+2<_;omega)).trans b2.cell) (fun W' hK=>hT W W' (hB0.trans (hW.mono (by omega))) hK))
  (fun h k=>h.trans k) (fun W l o hl k hk=>World.putObj_heap_other (by omega)) (fun _=>rfl)
  (fun pre W=>FsI bs pr 204 m w.heap.size w pre W) (fun _ W=>FsR bs pr m w.heap.size w W) ?hI ?hR ?hIb ?hRb ?h0
  (fun x=>{ tmps:=#[.pointer (some ⟨wb,3,none⟩),.func (.func 204) #[] #[],undef,.pointer (some ⟨w.heap.size,0,none⟩),.pointer (some ⟨w.heap.size+1,0,none⟩),.pointer (some ⟨x,0,none⟩),.pointer (some ⟨wb,3,none⟩),.func (.func 216) #[] #[.pointer (some ⟨w.heap.size+1+1,0,none⟩)],.pointer (some ⟨x,0,none⟩),undef,undef,undef,undef],defers:=[] }) ?assign ?body ?done ?ret
 case assign =>
  intro l x W K hK
  gi_wp2
  exact hK
 case hI =>
  rintro pre X Y row h hg hrow
  exact h.grow hg (fun k e=>by have:=(hrow _ e).1;omega)
 case hR =>
  rintro pre X Y row h hg hrow
  exact h.grow hg (fun k e=>by have:=(hrow _ e).1;omega)
 case hIb =>
  rintro pre W v h
  exact h.grow (grownBy_setCell' _ _ _) (fun k e=>by simp at e;omega)
 case hRb =>
  rintro pre W v h
  exact h.grow (grownBy_setCell' _ _ _) (fun k e=>by simp at e;omega)
 case h0=>exact ⟨⟨m,Nat.le_refl _,by simp,fun i h1 h2=>by omega⟩,b0,b1,hB0,by omega⟩
 case body =>
  rintro l pre x W h hx
  obtain ⟨k,hk,hpw,hpr⟩:=h.at'
  obtain ⟨rest,hrest⟩:=hx
  rw [hpw,List.append_assoc] at hrest
  have hrest:=List.append_cancel_left hrest
  cases k with
  | zero=>simp [pw] at hrest
  | succ k =>
   simp only [pw,List.cons_append,List.nil_append,List.cons.injEq] at hrest
   obtain ⟨rfl,-⟩:=hrest
   have hc:=hid7 (hF W h.bel k (by omega))
   have c0:=h.box.cell
   have c1:=h.res.cell
   have z1:=h.res.frozen
   have H:=hid7 h
   have hsiz:=h.siz
   have HPW:Hid (pw bs m=(pre++[bs.getD k 0])++pw bs k):=hid7 (by rw [hpw];simp [pw])
   have HPR:=hid7 hpr
   clear h hpw hpr b0 b1 b2 hB0 hT hp c3 hF
   generalize hy:bs.getD k 0=y at hc HPW
   have HY:=hid7 hy
   clear hy
   cases hv:pr k with
   | true =>
    rw [hv] at hc
    have HV:=hid7 hv
    clear hv
    gi_wp2_with (first | (refine ⟨trivial,?_⟩;gi_at_call 204;refine (CallsIn.inRound l (callsIn_wide.2 hc.out)).mono ?_;rintro e w1 ⟨rfl,w1e⟩;rw [w1e];clear w1e) | fail)
    refine ⟨(KeepsOthers.setCell _ _ _).from _,⟨k,?_,?_⟩,?_,?_⟩
    ·rw [fst_skip hk HPR.out,fstIx,if_pos HV.out]
    ·rw [HY.out];exact H.out.res.set _
    ·exact H.out.bel.setCell (p:=⟨w.heap.size+1,0,none⟩) (by show w.heap.size≤w.heap.size+1;omega) _
    ·simpa using hsiz
   | false =>
    rw [hv] at hc
    have HV:=hid7 hv
    clear hv
    gi_wp2_with (first | (refine ⟨trivial,?_⟩;gi_at_call 204;refine (CallsIn.inRound l (callsIn_wide.2 hc.out)).mono ?_;rintro e w1 ⟨rfl,w1e⟩;rw [w1e];clear w1e) | fail)
    refine ⟨(KeepsOthers.refl _).from _,KpB.refl _ _ _,⟨k,by omega,HPW.out,fun i h1 h2=>?_⟩,H.out.box,H.out.res,H.out.bel,H.out.siz⟩
    by_cases hik:i=k
    ·rw [hik];exact HV.out
    ·exact HPR.out i (by omega) h2
 case done =>
  rintro D W hD h hK
  obtain ⟨k,hk,hpw,hpr⟩:=h.at'
  have hk0:k=0:=by
   have:=congrArg List.length hpw
   cases k with
   | zero=>rfl
   | succ k=>simp [pw] at this
  subst hk0
  have HR:Hid (fstIx pr m=none):=hid7 (by rw [fst_skip (Nat.zero_le _) hpr];rfl)
  have c1:=h.res.cell
  have z1:=h.res.frozen
  have H:=hid7 h
  clear h hpw hpr b0 b1 b2 hB0 hT hp c3 hF
  gi_wp2
  have hK2:(W.setCell ⟨w.heap.size+1,0,none⟩ (.pointer none)).heap[D]?=some (.deferred (some [])):=(Below.heap_setCell _ _ _ D (by show D≠w.heap.size+1;omega)).trans hK
  refine ⟨by simp,.inl ⟨_,_,rfl,run_takeDeferred hK2,?_⟩⟩
  have g1:=box_putObj7 (H.out.res.set (.pointer none)) (by omega) (D:=D) (.deferred none)
  refine ⟨_,results_cell7 rfl _ _ _ ⟨w.heap.size+1,0,none⟩ _ rfl (load_ptr7 g1.cell),?_⟩
  exact ⟨by rw [HR.out];rfl,below_putObj7 (H.out.bel.setCell (p:=⟨w.heap.size+1,0,none⟩) (by show w.heap.size≤w.heap.size+1;omega) _) (by omega) _ (Array.getElem?_eq_some_iff.1 hK2).1⟩
 case ret =>
  rintro D pre W hD h hK
  obtain ⟨i,h1,h2⟩:=h.yes
  have HR:=hid7 h1
  have H:=hid7 h
  have H2:=hid7 h2
  clear b0 b1 b2 hB0 hT h h1 h2 hp c3 hF
  gi_wp2
  refine ⟨by simp,.inl ⟨_,_,rfl,run_takeDeferred hK,?_⟩⟩
  have g1:=box_putObj7 H2.out (by omega) (D:=D) (.deferred none)
  refine ⟨_,results_cell7 rfl _ _ _ ⟨w.heap.size+1,0,none⟩ _ rfl (load_ptr7 g1.cell),?_⟩
  exact ⟨by rw [HR.out];rfl,below_putObj7 H.out.bel (by omega) _ (Array.getElem?_eq_some_iff.1 hK).1⟩
set_option maxRecDepth 100000 in
set_option maxHeartbeats 4000000 in
theorem first_loop (wb:Nat)(la:Option Addr)(lc m:Nat)(bs:List Nat)(pr:Nat→Bool)(hm:bs.length=m)(bm:m≤1000000)(w:World)(c3:w.cell? ⟨wb,3,none⟩=some (.slice la m lc))(hp:PsAt w.cell? la bs)
  (hF:∀ W,Below w.heap.size w W→∀ i,i<m→Calls Tryz.prog 205 #[.pointer (some ⟨bs.getD i 0,0,none⟩)] W fun e w'=>e=.returned (.bool (pr i))∧w'=W) :
  Calls Tryz.prog 203 #[.pointer (some ⟨wb,3,none⟩),.func (.func 205) #[] #[]] w (FirstEnd7 bs (fstIx pr m) w):=by
 refine (callsIn_wide (n:=3)).1 ?_
 refine callsIn_of_wp_marks Tryz.func203 rfl trivial ?_ rfl
 simp only [Tryz.ntmps203,List.size_toArray,List.length_cons,List.length_nil,Nat.reduceAdd,Nat.reduceSub,Array.replicate_succ,Array.replicate_zero,List.push_toArray,List.append_toArray,List.nil_append,List.cons_append]
 gi_wp2_with (refine ⟨trivial,?_⟩;gi_at_call 214;refine (callsIn_wide.2 (outward_any _ _)).mono ?_;rintro e w' ⟨rfl,rfl⟩)
 have b0:=((Boxed.new w 243 (.func (.func 205) #[] #[])).alloc (.cells #[.pointer none] 213)).alloc (.cells #[.pointer (some ⟨wb,3,none⟩)] 241)
 have b1:=(Boxed.new (w.alloc (.cells #[.func (.func 205) #[] #[]] 243)) 213 (.pointer none)).alloc (.cells #[.pointer (some ⟨wb,3,none⟩)] 241)
 have b2:=Boxed.new ((w.alloc (.cells #[.func (.func 205) #[] #[]] 243)).alloc (.cells #[.pointer none] 213)) 241 (.pointer (some ⟨wb,3,none⟩))
 simp only [World.size_alloc] at b0 b1 b2
 have hB0:Below w.heap.size w (((w.alloc (.cells #[.func (.func 205) #[] #[]] 243)).alloc (.cells #[.pointer none] 213)).alloc (.cells #[.pointer (some ⟨wb,3,none⟩)] 241)) :=
  (((Below.refl _ w).alloc (Nat.le_refl _) _).alloc (by simp) _).alloc (by simp;omega) _
 have hsz:(((w.alloc (.cells #[.func (.func 205) #[] #[]] 243)).alloc (.cells #[.pointer none] 213)).alloc (.cells #[.pointer (some ⟨wb,3,none⟩)] 241)).heap.size=w.heap.size+3:=by simp
 generalize (((w.alloc (.cells #[.func (.func 205) #[] #[]] 243)).alloc (.cells #[.pointer none] 213)).alloc (.cells #[.pointer (some ⟨wb,3,none⟩)] 241))=W0 at *
 have hT:∀ W W',Below w.heap.size w W→KpB (w.heap.size+2) w.heap.size W W'→W'.cell? ⟨wb,3,none⟩=some (.slice la m lc)∧PsAt W'.cell? la bs:=fun W W' hW hK=>by
  have hk:∀ x v,w.cell? x=some v→W'.cell? x=some v:=fun x v h=>by
   have hlt:=World.block_lt_of_cell? w x h
   exact (cell_same7 (hK x.block (.inr hlt))).trans ((hW.cell hlt).trans h)
  exact ⟨hk _ _ c3,hp.keep hk⟩
 refine range_feeds (b:=w.heap.size+2) (Kp:=KpB (w.heap.size+2) w.heap.size) (xs:=pw bs m) (encs:=fun x:Nat=>#[.pointer (some ⟨x,0,none⟩)]) rfl (by decide) (gf:=216) (lb:=#[.pointer (some ⟨w.heap.size+2,0,none⟩)]) rfl trivial (enters_of Tryz.func216 (by kernel_rfl) rfl) (by omega)
  (fun W hW=>outw_feeds 2 (by decide) _ (w.heap.size+2) w.heap.size wb la lc m bs hm bm W ((hW.cell (p:=⟨w.heap.size+2,0,none⟩) (by show w.heap.size+2<_;omega)).trans b2.cell) (fun W' hK=>hT W W' (hB0.trans (hW.mono (by omega))) hK))
  (fun h k=>h.trans k) (fun W l o hl k hk=>World.putObj_heap_other (by omega)) (fun _=>rfl)
  (fun pre W=>FsI bs pr 205 m w.heap.size w pre W) (fun _ W=>FsR bs pr m w.heap.size w W) ?hI ?hR ?hIb ?hRb ?h0
  (fun x=>{ tmps:=#[.pointer (some ⟨wb,3,none⟩),.func (.func 205) #[] #[],undef,.pointer (some ⟨w.heap.size,0,none⟩),.pointer (some ⟨w.heap.size+1,0,none⟩),.pointer (some ⟨x,0,none⟩),.pointer (some ⟨wb,3,none⟩),.func (.func 216) #[] #[.pointer (some ⟨w.heap.size+1+1,0,none⟩)],.pointer (some ⟨x,0,none⟩),undef,undef,undef,undef],defers:=[] }) ?assign ?body ?done ?ret
 case assign =>
  intro l x W K hK
  gi_wp2
  exact hK
 case hI =>
  rintro pre X Y row h hg hrow
  exact h.grow hg (fun k e=>by have:=(hrow _ e).1;omega)
 case hR =>
  rintro pre X Y row h hg hrow
  exact h.grow hg (fun k e=>by have:=(hrow _ e).1;omega)
 case hIb =>
  rintro pre W v h
  exact h.grow (grownBy_setCell' _ _ _) (fun k e=>by simp at e;omega)
 case hRb =>
  rintro pre W v h
  exact h.grow (grownBy_setCell' _ _ _) (fun k e=>by simp at e;omega)
 case h0=>exact ⟨⟨m,Nat.le_refl _,by simp,fun i h1 h2=>by omega⟩,b0,b1,hB0,by omega⟩
 case body =>
  rintro l pre x W h hx
  obtain ⟨k,hk,hpw,hpr⟩:=h.at'
  obtain ⟨rest,hrest⟩:=hx
  rw [hpw,List.append_assoc] at hrest
  have hrest:=List.append_cancel_left hrest
  cases k with
  | zero=>simp [pw] at hrest
  | succ k =>
   simp only [pw,List.cons_append,List.nil_append,List.cons.injEq] at hrest
   obtain ⟨rfl,-⟩:=hrest
   have hc:=hid7 (hF W h.bel k (by omega))
   have c0:=h.box.cell
   have c1:=h.res.cell
   have z1:=h.res.frozen
   have H:=hid7 h
   have hsiz:=h.siz
   have HPW:Hid (pw bs m=(pre++[bs.getD k 0])++pw bs k):=hid7 (by rw [hpw];simp [pw])
   have HPR:=hid7 hpr
   clear h hpw hpr b0 b1 b2 hB0 hT hp c3 hF
   generalize hy:bs.getD k 0=y at hc HPW
   have HY:=hid7 hy
   clear hy
   cases hv:pr k with
   | true =>
    rw [hv] at hc
    have HV:=hid7 hv
    clear hv
    gi_wp2_with (first | (refine ⟨trivial,?_⟩;gi_at_call 205;refine (CallsIn.inRound l (callsIn_wide.2 hc.out)).mono ?_;rintro e w1 ⟨rfl,w1e⟩;rw [w1e];clear w1e) | fail)
    refine ⟨(KeepsOthers.setCell _ _ _).from _,⟨k,?_,?_⟩,?_,?_⟩
    ·rw [fst_skip hk HPR.out,fstIx,if_pos HV.out]
    ·rw [HY.out];exact H.out.res.set _
    ·exact H.out.bel.setCell (p:=⟨w.heap.size+1,0,none⟩) (by show w.heap.size≤w.heap.size+1;omega) _
    ·simpa using hsiz
   | false =>
    rw [hv] at hc
    have HV:=hid7 hv
    clear hv
    gi_wp2_with (first | (refine ⟨trivial,?_⟩;gi_at_call 205;refine (CallsIn.inRound l (callsIn_wide.2 hc.out)).mono ?_;rintro e w1 ⟨rfl,w1e⟩;rw [w1e];clear w1e) | fail)
    refine ⟨(KeepsOthers.refl _).from _,KpB.refl _ _ _,⟨k,by omega,HPW.out,fun i h1 h2=>?_⟩,H.out.box,H.out.res,H.out.bel,H.out.siz⟩
    by_cases hik:i=k
    ·rw [hik];exact HV.out
    ·exact HPR.out i (by omega) h2
 case done =>
  rintro D W hD h hK
  obtain ⟨k,hk,hpw,hpr⟩:=h.at'
  have hk0:k=0:=by
   have:=congrArg List.length hpw
   cases k with
   | zero=>rfl
   | succ k=>simp [pw] at this
  subst hk0
  have HR:Hid (fstIx pr m=none):=hid7 (by rw [fst_skip (Nat.zero_le _) hpr];rfl)
  have c1:=h.res.cell
  have z1:=h.res.frozen
  have H:=hid7 h
  clear h hpw hpr b0 b1 b2 hB0 hT hp c3 hF
  gi_wp2
  have hK2:(W.setCell ⟨w.heap.size+1,0,none⟩ (.pointer none)).heap[D]?=some (.deferred (some [])):=(Below.heap_setCell _ _ _ D (by show D≠w.heap.size+1;omega)).trans hK
  refine ⟨by simp,.inl ⟨_,_,rfl,run_takeDeferred hK2,?_⟩⟩
  have g1:=box_putObj7 (H.out.res.set (.pointer none)) (by omega) (D:=D) (.deferred none)
  refine ⟨_,results_cell7 rfl _ _ _ ⟨w.heap.size+1,0,none⟩ _ rfl (load_ptr7 g1.cell),?_⟩
  exact ⟨by rw [HR.out];rfl,below_putObj7 (H.out.bel.setCell (p:=⟨w.heap.size+1,0,none⟩) (by show w.heap.size≤w.heap.size+1;omega) _) (by omega) _ (Array.getElem?_eq_some_iff.1 hK2).1⟩
 case ret =>
  rintro D pre W hD h hK
  obtain ⟨i,h1,h2⟩:=h.yes
  have HR:=hid7 h1
  have H:=hid7 h
  have H2:=hid7 h2
  clear b0 b1 b2 hB0 hT h h1 h2 hp c3 hF
  gi_wp2
  refine ⟨by simp,.inl ⟨_,_,rfl,run_takeDeferred hK,?_⟩⟩
  have g1:=box_putObj7 H2.out (by omega) (D:=D) (.deferred none)
  refine ⟨_,results_cell7 rfl _ _ _ ⟨w.heap.size+1,0,none⟩ _ rfl (load_ptr7 g1.cell),?_⟩
  exact ⟨by rw [HR.out];rfl,below_putObj7 H.out.bel (by omega) _ (Array.getElem?_eq_some_iff.1 hK).1⟩
end Go.Proofs.YtpmlnkjamhelnaaGreat
namespace Go.Proofs.YtpmlnkjamhelnaaGreat
open Go.RowKit Go.Shelf
theorem elemN_ptr:ElemN Tryz.prog 151 213 1 8:=by
 refine ⟨Tryz.underlying151,?_,by decide⟩
 obtain ⟨i,hi,h1,h2,h3⟩:=info_parts (show (Tryz.prog.info? 213).map (fun i=>(i.zero,i.size,i.bytes))=some (some (.pointer none),1,8) by kernel_rfl)
 exact ⟨i,_,hi,h1,h2,h3,rfl⟩
structure OB where
 en:List Int
 la:List Int
 lo:Bool
def cellsP (bs:List Nat):List Value:=bs.map fun b=>.pointer (some ⟨b,0,none⟩)
theorem cellsP_len (bs:List Nat):(cellsP bs).length=bs.length:=by simp [cellsP]
def Mv7 (W W':World):Prop:=W.heap.size≤W'.heap.size∧∀ (k:Nat) (cur:Array Value) (t:TypeId) (z:Nat × Nat),t≠155→t≠216→t≠213→W.heap[k]?=some (.cells cur t z)→W'.heap[k]?=some (.cells cur t z)
theorem Mv7.refl (W:World):Mv7 W W:=⟨Nat.le_refl _,fun _ _ _ _ _ _ _ h=>h⟩
theorem Mv7.trans {A B C:World}(h:Mv7 A B)(g:Mv7 B C):Mv7 A C:=⟨Nat.le_trans h.1 g.1,fun k cur t z h1 h2 h3 hk=>g.2 k cur t z h1 h2 h3 (h.2 k cur t z h1 h2 h3 hk)⟩
theorem Mv7.below {W W':World}(h:Below W.heap.size W W'):Mv7 W W':=⟨h.size,fun k _ _ _ _ _ _ hk=>(h.block k (blk_lt hk)).trans hk⟩
theorem Mv7.set {W:World}{b o:Nat}{cs:Array Value}{t0:TypeId}{z:Nat × Nat}{u:Value}(hb:W.heap[b]?=some (.cells cs t0 z))(ht:t0=155∨t0=216∨t0=213):Mv7 W (W.setCell ⟨b,o,none⟩ u):=by
 refine ⟨by simp [World.setCell],fun k cur t z' h1 h2 h3 hk=>(Below.heap_setCell _ _ _ k fun e=>?_).trans hk⟩
 subst e
 rw [hb] at hk
 cases hk
 rcases ht with rfl | rfl | rfl
 ·exact h1 rfl
 ·exact h2 rfl
 ·exact h3 rfl
theorem Mv7.step {W W':World}{base n:Nat}{v v':Value}{xs:List Value}(hr:W.ownsRow base 213 1 v n xs)(hs:Step W v W' v'):Mv7 W W':=by
 refine ⟨hs.1.size,fun k cur t z h1 h2 h3 hk=>(hs.1.block k (blk_lt hk) fun h=>?_).trans hk⟩
 rcases hr.2 with ⟨rfl,_⟩ | ⟨g,cap,cur',rfl,_,hh,_⟩
 ·cases h
 ·cases h
  rw [hk] at hh
  cases hh
  exact h3 rfl
def NsIn (B:Nat)(W:World)(a:Option Addr)(ns:List Int):Prop:=(ns=[]∧(a=none∨∃ b off,a=some ⟨b,off,none⟩))∨∃ b off cur,a=some ⟨b,off,none⟩∧B≤b∧W.heap[b]?=some (.cells cur 3 (0,0))∧∀ j (h:j<ns.length),W.cell? ⟨b,off+j,none⟩=some (.int .i64 ns[j])
theorem NsIn.at' {B:Nat}{W:World}{a:Option Addr}{ns:List Int}(h:NsIn B W a ns):NsAt W.cell? a ns:=by
 rcases h with h | ⟨b,off,cur,e,hB,hb,hc⟩
 ·exact .inl h.1
 ·exact .inr ⟨b,off,e,hc⟩
theorem NsIn.mv {B:Nat}{W W':World}{a:Option Addr}{ns:List Int}(h:NsIn B W a ns)(m:Mv7 W W'):NsIn B W' a ns:=by
 rcases h with h | ⟨b,off,cur,e,hB,hb,hc⟩
 ·exact .inl h
 ·have hb':=m.2 b cur 3 (0,0) (by decide) (by decide) (by decide) hb
  exact .inr ⟨b,off,cur,e,hB,hb',fun j hj=>(cell_heap7 (hb'.trans hb.symm)).trans (hc j hj)⟩
theorem NsIn.below {B:Nat}{W W':World}{a:Option Addr}{ns:List Int}(h:NsIn B W a ns)(hb:Below W.heap.size W W'):NsIn B W' a ns:=h.mv (Mv7.below hb)
theorem ns_in_row {W:World}{base n:Nat}{a:Option Addr}{c:Nat}{ns:List Int}(h:W.ownsRow base 3 1 (.slice a n c) n (cellsN ns)):NsIn base W a ns:=by
 obtain ⟨hn,a',c',e,_,hN⟩:=ns_of_row h (C:=W.cell?) (fun _ _ _ h=>h)
 cases e
 rcases hN with h0 | ⟨b,off,rfl,hc⟩
 ·refine .inl ⟨h0,?_⟩
  obtain ⟨_,_,e,_,_,hx⟩:=row_form h
  cases e
  rcases hx with ⟨hx,_⟩ | ⟨g,hx,_⟩
  ·exact .inl hx
  ·exact .inr ⟨g,0,hx⟩
 ·rcases h.2 with ⟨e,_⟩ | ⟨g,cap,cur,e,hg,hh,_⟩
  ·cases e
  ·cases e
   exact .inr ⟨_,_,cur,rfl,hg,hh,hc⟩
theorem NsIn.low {B B':Nat}{W:World}{a:Option Addr}{ns:List Int}(h:NsIn B W a ns)(hB:B'≤B):NsIn B' W a ns:=by
 rcases h with h | ⟨b,off,cur,e,h1,h2⟩
 ·exact .inl h
 ·exact .inr ⟨b,off,cur,e,Nat.le_trans hB h1,h2⟩
def OBat (B:Nat)(x:OB)(b:Nat)(W:World):Prop:=∃ a1 c1 a2 c2,W.heap[b]?=some (.cells #[.slice a1 x.en.length c1,.slice a2 x.la.length c2,.bool x.lo] 216 (0,0))∧x.en.length≤c1∧x.la.length≤c2∧NsIn B W a1 x.en∧NsIn B W a2 x.la
theorem OBat.below {B:Nat}{x:OB}{b:Nat}{W W':World}(h:OBat B x b W)(hb:Below W.heap.size W W'):OBat B x b W':=by
 obtain ⟨a1,c1,a2,c2,h1,h2,h3,h4,h5⟩:=h
 exact ⟨a1,c1,a2,c2,(hb.block _ (blk_lt h1)).trans h1,h2,h3,h4.below hb,h5.below hb⟩
structure WStA (wb:Nat)(fv sv:Value)(p:List Int)(L:List OB)(a:Option Addr)(c:Nat)(la:Option Addr)(lc:Nat)(bs:List Nat)(W:World):Prop where
 box:W.heap[wb]?=some (.cells #[fv,sv,.slice a p.length c,.slice la L.length lc] 155 (0,0))
 cap:p.length≤c
 stk:NsIn wb W a p
 row:W.ownsRow (wb+1) 213 1 (.slice la L.length lc) L.length (cellsP bs)
 len:bs.length=L.length
 nod:bs.Nodup
 gt:∀ b ∈ bs,wb<b
 blk:∀ i (h:i<L.length),OBat wb L[i] (bs.getD i 0) W
theorem four_cell {w:World}{b:Nat}{x y z u:Value}{t:TypeId}(h:w.heap[b]?=some (.cells #[x,y,z,u] t (0,0))):(w.cell? ⟨b,0,none⟩=some x∧w.cell? ⟨b,1,none⟩=some y∧w.cell? ⟨b,2,none⟩=some z∧w.cell? ⟨b,3,none⟩=some u)∧w.frozen? ⟨b,2,none⟩=false∧w.frozen? ⟨b,3,none⟩=false:=by
 simp [World.cell?,World.frozen?,h]
theorem three_cell7 {w:World}{b:Nat}{x y z:Value}{t:TypeId}(h:w.heap[b]?=some (.cells #[x,y,z] t (0,0))):(w.cell? ⟨b,0,none⟩=some x∧w.cell? ⟨b,1,none⟩=some y∧w.cell? ⟨b,2,none⟩=some z)∧w.frozen? ⟨b,1,none⟩=false:=by
 simp [World.cell?,World.frozen?,h]
theorem WStA.below {wb:Nat}{fv sv:Value}{p:List Int}{L:List OB}{a:Option Addr}{c:Nat}{la:Option Addr}{lc:Nat}{bs:List Nat}{W W':World}(h:WStA wb fv sv p L a c la lc bs W)(hb:Below W.heap.size W W'):WStA wb fv sv p L a c la lc bs W':=by
 refine ⟨(hb.block _ (blk_lt h.box)).trans h.box,h.cap,h.stk.below hb,?_,h.len,h.nod,h.gt,fun i hi=>(h.blk i hi).below hb⟩
 refine ⟨h.row.1,?_⟩
 rcases h.row.2 with h2 | ⟨g,cap,cur,e,hg,hh,r⟩
 ·exact .inl h2
 ·exact .inr ⟨g,cap,cur,e,hg,(hb.block g (blk_lt hh)).trans hh,r⟩
theorem ps_of_row {w:World}{base n:Nat}{e:TypeId}{a:Option Addr}{c:Nat}{bs:List Nat}(h:w.ownsRow base e 1 (.slice a n c) n (cellsP bs)):PsAt w.cell? a bs:=by
 have hn:n=bs.length:=by have:=h.1;rw [cellsP_len] at this;omega
 subst hn
 obtain ⟨a',c',e',_,_,hx⟩:=row_form h
 cases e'
 rcases hx with ⟨_,h0,_⟩ | ⟨g,rfl,hg,_,hcell⟩
 ·exact .inl (List.eq_nil_of_length_eq_zero h0)
 ·exact .inr ⟨g,0,rfl,fun j hj=>by rw [Nat.zero_add];exact hcell j _ (by simp [cellsP,hj])⟩
theorem fst_true (m:Nat):fstIx (fun _=>true) (m+1)=some m:=by rw [fstIx,if_pos rfl]
def lpIx (L:List OB):Option Nat:=fstIx (fun i=>(L[i]?.map OB.lo).getD false) L.length
set_option maxRecDepth 100000 in
set_option maxHeartbeats 1000000 in
theorem innermost7_any {wb:Nat}{fv sv:Value}{p:List Int}{L:List OB}{a:Option Addr}{c:Nat}{la:Option Addr}{lc:Nat}{bs:List Nat}(m:Nat)(hm:L.length=m+1)(bm:m≤1000)(W:World)(h:WStA wb fv sv p L a c la lc bs W) :
  Calls Tryz.prog 175 #[.pointer (some ⟨wb,3,none⟩)] W fun e w'=>e=.returned (.pointer (some ⟨bs.getD m 0,0,none⟩))∧Below W.heap.size W w':=by
 have hF:=first_yes wb la lc L.length bs (fun _=>true) h.len (by omega) W (four_cell h.box).1.2.2.2 (ps_of_row h.row) (fun W _ i _=>yes_any _ W)
 rw [hm,fst_true] at hF
 unfold FirstEnd7 ptrB at hF
 have HF:=hid7 hF
 clear hF h
 go_enter Tryz.func175,Tryz.ntmps175
 go_wp2_with (first | (go_at_call 203;refine HF.out.mono ?_;rintro e w1 ⟨rfl,b1⟩) | fail)
 go_ret
 exact ⟨rfl,b1⟩
set_option maxRecDepth 100000 in
set_option maxHeartbeats 1000000 in
theorem innerLoop7_any {wb:Nat}{fv sv:Value}{p:List Int}{L:List OB}{a:Option Addr}{c:Nat}{la:Option Addr}{lc:Nat}{bs:List Nat}(i:Nat)(hi:lpIx L=some i)(bm:L.length≤1000)(W:World)(h:WStA wb fv sv p L a c la lc bs W) :
  Calls Tryz.prog 177 #[.pointer (some ⟨wb,3,none⟩)] W fun e w'=>e=.returned (.pointer (some ⟨bs.getD i 0,0,none⟩))∧Below W.heap.size W w':=by
 have hF:=first_loop wb la lc L.length bs (fun i=>(L[i]?.map OB.lo).getD false) h.len (by omega) W (four_cell h.box).1.2.2.2 (ps_of_row h.row) (fun W' hW j hj=>by
  obtain ⟨a1,c1,a2,c2,h1,_⟩:=(h.blk j hj).below hW
  have:=loopQ_any (bs.getD j 0) L[j].lo W' (three_cell7 h1).1.2.2
  rw [List.getElem?_eq_getElem hj]
  exact this)
 rw [show fstIx (fun i=>(L[i]?.map OB.lo).getD false) L.length=some i from hi] at hF
 unfold FirstEnd7 ptrB at hF
 have HF:=hid7 hF
 clear hF h
 go_enter Tryz.func177,Tryz.ntmps177
 go_wp2_with (first | (go_at_call 203;refine HF.out.mono ?_;rintro e w1 ⟨rfl,b1⟩) | fail)
 go_ret
 exact ⟨rfl,b1⟩
theorem four_set3 {w:World}{b:Nat}{x y z u v:Value}{t:TypeId}(h:w.heap[b]?=some (.cells #[x,y,z,u] t (0,0))):(w.setCell ⟨b,3,none⟩ v).heap[b]?=some (.cells #[x,y,z,v] t (0,0)):=by
 simp [World.setCell,Array.getElem?_modify,h]
theorem four_set2 {w:World}{b:Nat}{x y z u v:Value}{t:TypeId}(h:w.heap[b]?=some (.cells #[x,y,z,u] t (0,0))):(w.setCell ⟨b,2,none⟩ v).heap[b]?=some (.cells #[x,y,v,u] t (0,0)):=by
 simp [World.setCell,Array.getElem?_modify,h]
theorem three_set1 {w:World}{b:Nat}{x y z v:Value}{t:TypeId}(h:w.heap[b]?=some (.cells #[x,y,z] t (0,0))):(w.setCell ⟨b,1,none⟩ v).heap[b]?=some (.cells #[x,v,z] t (0,0)):=by
 simp [World.setCell,Array.getElem?_modify,h]
theorem OBat.other {B:Nat}{x:OB}{b k o:Nat}{W:World}{u:Value}{cs:Array Value}{t0:TypeId}{z:Nat × Nat}(h:OBat B x b W)(hb:W.heap[k]?=some (.cells cs t0 z))(ht:t0=155∨t0=216∨t0=213)(hne:b≠k):OBat B x b (W.setCell ⟨k,o,none⟩ u):=by
 obtain ⟨a1,c1,a2,c2,h1,h2,h3,h4,h5⟩:=h
 have m:=Mv7.set (o:=o) (u:=u) hb ht
 exact ⟨a1,c1,a2,c2,(Below.heap_setCell _ _ _ b hne).trans h1,h2,h3,h4.mv m,h5.mv m⟩
theorem row_less7 {W:World}{base n m:Nat}{e:TypeId}{a:Option Addr}{c:Nat}{bs:List Nat}(h:W.ownsRow base e 1 (.slice a n c) n (cellsP bs))(hm:n=m+1):W.ownsRow base e 1 (.slice a m c) m (cellsP bs.dropLast):=by
 subst hm
 have hl:bs.length=m+1:=by have:=h.1;rw [cellsP_len] at this;omega
 refine ⟨by rw [cellsP_len,List.length_dropLast,hl];omega,?_⟩
 rcases h.2 with ⟨e',_⟩ | ⟨g,cap,cur,e',hg,hh,h1,h2,h3,h4⟩
 ·cases e'
 ·cases e'
  refine .inr ⟨g,_,cur,rfl,hg,hh,by omega,h2,h3,?_⟩
  rw [Nat.mul_one] at h4 ⊢
  have:cellsP bs.dropLast=(cellsP bs).take m:=by
   rw [cellsP,cellsP,List.map_dropLast,List.dropLast_eq_take,List.length_map,hl];rfl
  rw [this,← h4,List.take_take]
  congr 1
  omega
theorem WStA.closed {wb:Nat}{fv sv:Value}{p:List Int}{L:List OB}{x:OB}{a:Option Addr}{c:Nat}{la:Option Addr}{lc:Nat}{bs:List Nat}{W:World}(h:WStA wb fv sv p (L++[x]) a c la lc bs W)(n:Nat)(hn:n=L.length) :
  WStA wb fv sv p L a c la lc bs.dropLast (W.setCell ⟨wb,3,none⟩ (.slice la n lc))∧Below wb W (W.setCell ⟨wb,3,none⟩ (.slice la n lc))∧Mv7 W (W.setCell ⟨wb,3,none⟩ (.slice la n lc))∧OBat wb x (bs.getD n 0) (W.setCell ⟨wb,3,none⟩ (.slice la n lc)):=by
 subst hn
 have hl:bs.length=L.length+1:=by rw [h.len];simp
 have hm:=Mv7.set (o:=3) (u:=.slice la L.length lc) h.box (.inl rfl)
 have hne:∀ i,i<L.length+1→bs.getD i 0≠wb:=fun i hi e=>by
  have:bs.getD i 0 ∈ bs:=by
   rw [List.getD_eq_getElem?_getD,List.getElem?_eq_getElem (by omega)]
   exact List.getElem_mem _
  have:=h.gt _ this
  omega
 refine ⟨⟨four_set3 h.box,h.cap,h.stk.mv hm,?_,by rw [List.length_dropLast,hl];rfl,h.nod.sublist (List.dropLast_sublist _),fun b hb=>h.gt b (List.dropLast_subset _ hb),fun i hi=>?_⟩,(Below.refl _ W).setCell (p:=⟨wb,3,none⟩) (Nat.le_refl _) _,hm,?_⟩
 ·have hr:=row_less7 h.row (m:=L.length) (by simp)
  refine row_other6 hr h.box (by decide)
 ·have:=h.blk i (by simp;omega)
  rw [List.getElem_append_left hi] at this
  have e:bs.dropLast.getD i 0=bs.getD i 0:=by
   rw [List.getD_eq_getElem?_getD,List.getD_eq_getElem?_getD,List.dropLast_eq_take,List.getElem?_take,if_pos (by omega)]
  rw [e]
  exact this.other h.box (.inl rfl) (hne i (by omega))
 ·have:=h.blk L.length (by simp)
  rw [List.getElem_append_right (Nat.le_refl _)] at this
  simp only [Nat.sub_self,List.getElem_cons_zero] at this
  exact this.other h.box (.inl rfl) (hne _ (by omega))
set_option maxRecDepth 100000 in
set_option maxHeartbeats 1000000 in
theorem close7_any {wb:Nat}{fv sv:Value}{p:List Int}{L:List OB}{x:OB}{a:Option Addr}{c:Nat}{la:Option Addr}{lc:Nat}{bs:List Nat}(bm:L.length≤1000)(W:World)(h:WStA wb fv sv p (L++[x]) a c la lc bs W) :
  Calls Tryz.prog 176 #[.pointer (some ⟨wb,3,none⟩)] W fun e w'=>e=.returned (.pointer (some ⟨bs.getD L.length 0,0,none⟩))∧WStA wb fv sv p L a c la lc bs.dropLast w'∧Below wb W w'∧Mv7 W w'∧OBat wb x (bs.getD L.length 0) w':=by
 have hI:=innermost7_any L.length (by simp) bm W h
 obtain ⟨n,hn⟩:∃ n,n=L.length:=⟨_,rfl⟩
 have HK:Hid (∀ w1,Below W.heap.size W w1→(w1.cell? ⟨wb,3,none⟩=some (.slice la (n+1) lc)∧w1.frozen? ⟨wb,3,none⟩=false)∧WStA wb fv sv p L a c la lc bs.dropLast (w1.setCell ⟨wb,3,none⟩ (.slice la n lc)).drew∧Below wb W (w1.setCell ⟨wb,3,none⟩ (.slice la n lc)).drew∧Mv7 W (w1.setCell ⟨wb,3,none⟩ (.slice la n lc)).drew∧OBat wb x (bs.getD n 0) (w1.setCell ⟨wb,3,none⟩ (.slice la n lc)).drew):=hid7 fun w1 hb=>by
  have h1:=h.below hb
  have hc:=four_cell h1.box
  have hlt:=blk_lt h.box
  refine ⟨⟨?_,hc.2.2⟩,?_⟩
  ·have:=hc.1.2.2.2
   rw [List.length_append,List.length_singleton,← hn] at this
   exact this
  ·obtain ⟨q1,q2,q3,q4⟩:=h1.closed n hn
   exact ⟨⟨q1.box,q1.cap,q1.stk,q1.row,q1.len,q1.nod,q1.gt,q1.blk⟩,(hb.mono (by omega)).trans q2.drew,(Mv7.below hb).trans ⟨q3.1,q3.2⟩,q4⟩
 have hlc:n+1≤lc:=by
  obtain ⟨_,_,e,h1,_⟩:=row_form h.row
  cases e
  simp at h1
  omega
 have hla:∃ g,la=some ⟨g,0,none⟩:=by
  obtain ⟨_,_,e,_,_,h1⟩:=row_form h.row
  cases e
  rcases h1 with ⟨_,h0,_⟩ | ⟨g,e,_⟩
  ·simp at h0
  ·exact ⟨g,e⟩
 obtain ⟨g,rfl⟩:=hla
 rw [← hn] at hI bm ⊢
 have hw:IntKind.i64.wrap (n:Int)=(n:Int):=by rw [IntKind.wrap_i64];omega
 have hcc:(n:Int)≤(lc:Int):=by omega
 have HI:=hid7 hI
 clear hn h hI
 go_enter Tryz.func176,Tryz.ntmps176
 go_wp2_with (first | (go_at_call 175;refine HI.out.mono ?_;clear HI;rintro e w1 ⟨rfl,b1⟩;obtain ⟨⟨c3,z3⟩,HE⟩:=HK.out w1 b1;have HE:=hid7 HE) | fail)
 go_region_law fail
 all_goals
  go_wp2
  go_ret
  exact ⟨rfl,HE.out⟩
theorem cellsP_snoc (bs:List Nat)(b:Nat):cellsP (bs++[b])=cellsP bs++[.pointer (some ⟨b,0,none⟩)]:=by simp [cellsP]
set_option maxRecDepth 100000 in
set_option maxHeartbeats 1000000 in
theorem begin7_any {wb:Nat}{fv sv:Value}{p:List Int}{L:List OB}{a:Option Addr}{c:Nat}{la:Option Addr}{lc:Nat}{bs:List Nat}(bm:L.length≤1000)(W:World)(h:WStA wb fv sv p L a c la lc bs W)(en:List Int)(ea:Option Addr)(ec n:Nat)(hn:en.length=n)(hec:n≤ec)(hE:NsIn wb W ea en)(l:Bool) :
  Calls Tryz.prog 174 #[.pointer (some ⟨wb,3,none⟩),.slice ea n ec,.bool l] W fun e w'=>e=.returned (.tuple #[])∧(∃ la' lc' b',WStA wb fv sv p (L++[⟨en,en,l⟩]) a c la' lc' (bs++[b']) w')∧Below wb W w'∧Mv7 W w':=by
 have hcx:=four_cell h.box
 have c3:=hcx.1.2.2.2
 have hlt:=blk_lt h.box
 -- the world with the block's struct and the row of one pointer
 have b1:=(Below.refl _ W).alloc (Nat.le_refl _) (.cells #[.slice ea n ec,.slice ea n ec,.bool l] 216)
 have b2:=b1.alloc (by simp) (.cells #[.pointer (some ⟨W.heap.size,0,none⟩)] 213)
 have HR:=hid7 (World.ownsRow.alloc (World.ownsRow.alloc h.row (.cells #[.slice ea n ec,.slice ea n ec,.bool l] 216)) (.cells #[.pointer (some ⟨W.heap.size,0,none⟩)] 213))
 obtain ⟨m,hm⟩:∃ m,m=L.length:=⟨_,rfl⟩
 rw [← hm] at c3 HR bm
 have HX:Hid (∀ v' w6,w6.ownsRow (wb+1) 213 1 v' (m+1) (cellsP bs++[.pointer (some ⟨W.heap.size,0,none⟩)])→Step ((W.alloc (.cells #[.slice ea n ec,.slice ea n ec,.bool l] 216)).alloc (.cells #[.pointer (some ⟨W.heap.size,0,none⟩)] 213)) (.slice la m lc) w6 v' →
   ∃ va vc,v'=.slice va (m+1) vc∧(∃ u,w6.cell? ⟨wb,3,none⟩=some u)∧w6.frozen? ⟨wb,3,none⟩=false∧(∃ b',WStA wb fv sv p (L++[⟨en,en,l⟩]) a c va vc (bs++[b']) (w6.setCell ⟨wb,3,none⟩ (.slice va (m+1) vc)))∧Below wb W (w6.setCell ⟨wb,3,none⟩ (.slice va (m+1) vc))∧Mv7 W (w6.setCell ⟨wb,3,none⟩ (.slice va (m+1) vc))):=hid7 (by
  intro v' w6 hr6 hs6
  obtain ⟨va,vc,rfl,hvc,_⟩:=row_form hr6
  have hbelow:=hs6.below (B:=wb+1) (by simp;omega) (fun g e=>(HR.out.lt g e).1)
  have hbox:w6.heap[wb]?=some (.cells #[fv,sv,.slice a p.length c,.slice la m lc] 155 (0,0)):=by
   rw [hm]
   exact (hbelow.block wb (Nat.lt_succ_self _)).trans ((b2.block wb hlt).trans h.box)
  have m6:Mv7 W w6:=(Mv7.below b2).trans (Mv7.step HR.out hs6)
  have mS:=Mv7.set (o:=3) (u:=.slice va (m+1) vc) hbox (.inl rfl)
  obtain ⟨_,z3⟩:=(four_cell hbox).2
  have hl:bs.length=m:=by rw [h.len,hm]
  -- blocks of struct type are left alone by the append
  have hkeep:∀ (k:Nat) (cur:Array Value) (z:Nat × Nat),W.heap[k]?=some (.cells cur 216 z)→w6.heap[k]?=some (.cells cur 216 z):=by
   intro k cur z hk
   have hk2:=(b2.block k (blk_lt hk)).trans hk
   refine (hs6.1.block k (blk_lt hk2) fun e=>?_).trans hk2
   rcases HR.out.2 with ⟨e',_⟩ | ⟨g,cap,cur',e',_,hh,_⟩
   ·rw [e'] at e;cases e
   ·rw [e'] at e
    cases e
    rw [hk2] at hh
    cases hh
  have hnew:w6.heap[W.heap.size]?=some (.cells #[.slice ea n ec,.slice ea n ec,.bool l] 216 (0,0)):=by
   have e1:(W.alloc (.cells #[.slice ea n ec,.slice ea n ec,.bool l] 216)).heap[W.heap.size]?=some (.cells #[.slice ea n ec,.slice ea n ec,.bool l] 216 (0,0)):=heap_alloc_new W _
   have e2:=(Below.heap_alloc (W.alloc (.cells #[.slice ea n ec,.slice ea n ec,.bool l] 216)) (.cells #[.pointer (some ⟨W.heap.size,0,none⟩)] 213) W.heap.size (by simp)).trans e1
   refine (hs6.1.block _ (blk_lt e2) fun e=>?_).trans e2
   rcases HR.out.2 with ⟨e',_⟩ | ⟨g,cap,cur',e',_,hh,_⟩
   ·rw [e'] at e;cases e
   ·rw [e'] at e
    have eg:W.heap.size=g:=by simpa [Value.ownBlock] using e
    rw [← eg,e2] at hh
    cases hh
  have hgd:∀ i,i<m→(bs++[W.heap.size]).getD i 0=bs.getD i 0:=fun i hi=>by
   rw [List.getD_eq_getElem?_getD,List.getD_eq_getElem?_getD,List.getElem?_append_left (by omega)]
  have hblt:∀ i (hi:i<L.length),bs.getD i 0<W.heap.size:=fun i hi=>by
   obtain ⟨a1,c1,a2,c2,h1,_⟩:=h.blk i hi
   exact blk_lt h1
  have hmem:∀ b ∈ bs,b<W.heap.size:=fun b hb=>by
   obtain ⟨i,hi,rfl⟩:=List.getElem_of_mem hb
   have:=hblt i (by rw [← h.len];exact hi)
   rwa [List.getD_eq_getElem?_getD,List.getElem?_eq_getElem hi] at this
  have hob:∀ x b,OBat wb x b W→b≠wb→OBat wb x b (w6.setCell ⟨wb,3,none⟩ (.slice va (m+1) vc)):=by
   rintro x b ⟨a1,c1,a2,c2,h1,h2,h3,h4,h5⟩ hne
   exact ⟨a1,c1,a2,c2,(Below.heap_setCell _ _ _ b hne).trans (hkeep b _ _ h1),h2,h3,(h4.mv m6).mv mS,(h5.mv m6).mv mS⟩
  refine ⟨va,vc,rfl,⟨_,(four_cell hbox).1.2.2.2⟩,z3,⟨W.heap.size,⟨?_,h.cap,(h.stk.mv m6).mv mS,?_,by simp [hl,hm],?_,?_,?_⟩⟩,?_,m6.trans mS⟩
  ·rw [List.length_append,List.length_singleton,← hm];exact four_set3 hbox
  ·rw [List.length_append,List.length_singleton,← hm,cellsP_snoc]
   exact row_other6 hr6 hbox (by decide)
  ·rw [List.nodup_append]
   refine ⟨h.nod,by simp,fun x hx y hy e=>?_⟩
   rw [List.mem_singleton] at hy
   have:=hmem x hx
   omega
  ·intro b hb
   rcases List.mem_append.1 hb with hb | hb
   ·exact h.gt b hb
   ·rw [List.mem_singleton] at hb;omega
  ·intro i hi
   rw [List.length_append,List.length_singleton,← hm] at hi
   by_cases him:i<m
   ·rw [List.getElem_append_left (by omega),hgd i him]
    refine hob _ _ (h.blk i (by omega)) fun e=>?_
    have:bs.getD i 0 ∈ bs:=by
     rw [List.getD_eq_getElem?_getD,List.getElem?_eq_getElem (by omega)]
     exact List.getElem_mem _
    have:=h.gt _ this
    omega
   ·have him:i=m:=by omega
    subst him
    rw [List.getElem_append_right (by omega)]
    have e1:(bs++[W.heap.size]).getD i 0=W.heap.size:=by
     rw [List.getD_eq_getElem?_getD,List.getElem?_append_right (by omega),hl];simp
    rw [e1]
    simp only [hm,Nat.sub_self,List.getElem_cons_zero]
    refine ⟨ea,ec,ea,ec,?_,by simpa [hn] using hec,by simpa [hn] using hec,(hE.mv m6).mv (hm ▸ mS),(hE.mv m6).mv (hm ▸ mS)⟩
    rw [hn]
    exact (Below.heap_setCell _ _ _ _ (by show W.heap.size≠wb;omega)).trans hnew
  ·have bW:Below wb W w6:=(b2.mono (Nat.le_of_lt hlt)).trans (hbelow.mono (Nat.le_succ _))
   exact bW.setCell (p:=⟨wb,3,none⟩) (Nat.le_refl _) _)
 have HL:Hid (Lies ((W.alloc (.cells #[.slice ea n ec,.slice ea n ec,.bool l] 216)).alloc (.cells #[.pointer (some ⟨W.heap.size,0,none⟩)] 213)) (.slice (some ⟨W.heap.size+1,0,none⟩) 1 1) 1 [.pointer (some ⟨W.heap.size,0,none⟩)]):=hid7 (.inr ⟨⟨W.heap.size+1,0,none⟩,1,rfl,cells_new6 _ [.pointer (some ⟨W.heap.size,0,none⟩)] 213 _ (World.size_alloc _ _)⟩)
 clear h hcx hE b1 b2 hm hn
 go_enter Tryz.func174,Tryz.ntmps174
 go_wp2_with (first
  | (at_builtin;refine wpList_appN _ rfl _ _ 151 rfl elemN_ptr (wb+1) _ m (cellsP bs) rfl HR.out _ rfl 1 [.pointer (some ⟨W.heap.size,0,none⟩)] HL.out rfl (by simp [Value.oneCell']) (by unfold maxLen;omega) (by omega) (by simp;omega) ?_;intro v' w6 hr6 hs6;obtain ⟨va,vc,y6,⟨u6,c6⟩,z6,H6⟩:=HX.out v' w6 hr6 hs6;subst y6;have H6:=hid7 H6)
  | fail)
 go_end0
 obtain ⟨⟨b',q1⟩,q2,q3⟩:=H6.out
 exact ⟨rfl,⟨va,vc,b',q1⟩,q2,q3⟩
end Go.Proofs.YtpmlnkjamhelnaaGreat
namespace Go.Proofs.YtpmlnkjamhelnaaGreat
open Go.RowKit
set_option maxRecDepth 100000 in
set_option maxHeartbeats 1000000 in
theorem eqN_any (a b:Option Addr)(c d n m:Nat)(ns ms:List Int)(hn:ns.length=n)(hm:ms.length=m)(w:World)(ha:NsAt w.cell? a ns)(hb:NsAt w.cell? b ms)(hl:n≤17592186044416)(hl':m≤17592186044416):Calls Tryz.prog 154 #[.slice a n c,.slice b m d] w fun e w'=>e=.returned (.bool (decide (ns=ms)))∧∃ k,w'=w.drewN k:=by
 by_cases hnm:n=m
 ·subst hnm
  go_enter Tryz.func154,Tryz.ntmps154
  go_wp2
  go_loopw [13] (fun i wr=>∃ k m:Nat,k≤n∧i=.int .i64 k∧(∀ j (h1:j<ns.length) (h2:j<ms.length),j<k→ns[j]=ms[j])∧wr=w.drewN m) (fun i _=>n - (intOf i).toNat)
  case atStart=>exact ⟨0,0,Nat.zero_le _,rfl,by omega,rfl⟩
  case round =>
   obtain ⟨k,m,hk,rfl,hr,rfl⟩:=hrel
   by_cases hlt:k<n
   ·rcases ha with h0 | ⟨b0,off0,rfl,hc0⟩
    ·subst h0;simp at hn;omega
    rcases hb with h0 | ⟨b1,off1,rfl,hc1⟩
    ·subst h0;simp at hm;omega
    have c0:=hc0 k (by omega)
    have d0:=hc1 k (by omega)
    have HN:Hid (ns[k]≠ms[k]→decide (ns=ms)=false):=hid (list_ne (by omega) (by omega))
    have HT:Hid (ns[k]=ms[k]→∀ j (h1:j<ns.length) (h2:j<ms.length),j<k+1→ns[j]=ms[j]):=hid fun h j h1 h2 hjk=>by
     rcases Nat.lt_or_ge j k with h3 | h3
     ·exact hr j h1 h2 h3
     ·obtain rfl:j=k:=by omega
      exact h
    generalize ns[k]=x at c0 HN HT
    generalize ms[k]=y at d0 HN HT
    clear hc0 hc1
    by_cases h1:x=y
    ·subst h1
     go_wp2
     go_quiet (fail)
     go_wp2
     refine ⟨⟨k+1,_,by omega,by go_num,HT.out (by simp),rfl⟩,by simp [intOf];omega⟩
    ·have q:(x != y)=true:=by simp [h1]
     have q':(x == y)=false:=by simp [h1]
     go_wp2
     go_quiet (fail)
     go_wp2
     go_ret
     exact ⟨by rw [HN.out h1];rfl,m+nq,World.drewN_drewN _ _ _⟩
   ·have HE:Hid (decide (ns=ms)=true):=hid (decide_eq_true (List.ext_getElem (by omega) fun j h1 h2=>hr j h1 h2 (by omega)))
    go_wp2
    go_ret
    exact ⟨by rw [HE.out];rfl,m,rfl⟩
 ·have hne:((n:Int) != (m:Int))=true:=by simp;omega
  have hd:decide (ns=ms)=false:=decide_eq_false fun h=>hnm (by rw [← hn,← hm,h])
  go_enter Tryz.func154,Tryz.ntmps154
  go_wp2
  go_ret
  exact ⟨by rw [hd];rfl,0,rfl⟩
end Go.Proofs.YtpmlnkjamhelnaaGreat
namespace Go.Proofs.YtpmlnkjamhelnaaGreat
open Go.RowKit Go.Shelf
def alikeS (ns ms:List Int):Int:=if ns.length=ms.length then (if ns=ms then 0 else 33) else 32
set_option maxRecDepth 100000 in
set_option maxHeartbeats 1000000 in
theorem alike_any (a b:Option Addr)(c d n m:Nat)(ns ms:List Int)(hn:ns.length=n)(hm:ms.length=m)(bn:n≤1000000)(bm:m≤1000000)(w:World)(ha:NsAt w.cell? a ns)(hb:NsAt w.cell? b ms) :
  Calls Tryz.prog 113 #[.slice a n c,.slice b m d] w fun e w'=>e=.returned (.int .i64 (alikeS ns ms))∧∃ k,w'=w.drewN k:=by
 have hE:=eqN_any a b c d n m ns ms hn hm w ha hb (by omega) (by omega)
 have HE:=hid7 hE
 clear hE ha hb
 by_cases h1:n=m
 ·subst h1
  by_cases h2:ns=ms
  ·have HA:Hid (alikeS ns ms=0):=hid7 (by rw [alikeS,if_pos (by omega),if_pos h2])
   have HE2:Hid (Calls Tryz.prog 154 #[.slice a n c,.slice b n d] w fun e w'=>e=.returned (.bool true)∧∃ k,w'=w.drewN k):=hid7 (by have:=HE.out;rw [decide_eq_true h2] at this;exact this)
   clear HE hn hm h2
   go_enter Tryz.func113,Tryz.ntmps113
   go_wp2_with (first | (go_at_call 154;refine HE2.out.mono ?_;rintro e w1 ⟨rfl,k,rfl⟩) | fail)
   go_ret
   exact ⟨by rw [HA.out];rfl,_,rfl⟩
  ·have HA:Hid (alikeS ns ms=33):=hid7 (by rw [alikeS,if_pos (by omega),if_neg h2])
   have HE2:Hid (Calls Tryz.prog 154 #[.slice a n c,.slice b n d] w fun e w'=>e=.returned (.bool false)∧∃ k,w'=w.drewN k):=hid7 (by have:=HE.out;rw [decide_eq_false h2] at this;exact this)
   clear HE hn hm h2
   go_enter Tryz.func113,Tryz.ntmps113
   go_wp2_with (first | (go_at_call 154;refine HE2.out.mono ?_;rintro e w1 ⟨rfl,k,rfl⟩) | fail)
   go_ret
   exact ⟨by rw [HA.out];rfl,_,rfl⟩
 ·have HA:Hid (alikeS ns ms=32):=hid7 (by rw [alikeS,if_neg (by omega)])
  have hne:((n:Int) != (m:Int))=true:=by simp;omega
  clear HE hn hm
  go_enter Tryz.func113,Tryz.ntmps113
  go_wp2
  go_ret
  exact ⟨by rw [HA.out];rfl,0,rfl⟩
theorem WStA.drew {wb:Nat}{fv sv:Value}{p:List Int}{L:List OB}{a:Option Addr}{c:Nat}{la:Option Addr}{lc:Nat}{bs:List Nat}{W:World}(h:WStA wb fv sv p L a c la lc bs W)(k:Nat):WStA wb fv sv p L a c la lc bs (W.drewN k):=⟨h.box,h.cap,h.stk,h.row,h.len,h.nod,h.gt,h.blk⟩
def WEnd (wb:Nat)(fv sv:Value)(er:Int)(p:List Int)(L:List OB)(W:World)(e:Ending)(w':World):Prop:=e=.returned (.int .i64 er)∧(∃ a c la lc bs,WStA wb fv sv p L a c la lc bs w')∧Below wb W w'∧Mv7 W w'
theorem Mv7.drew {W W':World}(h:Mv7 W W')(k:Nat):Mv7 W (W'.drewN k):=⟨h.1,h.2⟩
set_option maxRecDepth 100000 in
set_option maxHeartbeats 1000000 in
theorem turn_open {wb:Nat}{fv sv:Value}{p:List Int}{L:List OB}{a:Option Addr}{c:Nat}{la:Option Addr}{lc:Nat}{bs:List Nat}(bm:L.length≤1000)(W:World)(h:WStA wb fv sv p L a c la lc bs W)(n:Int)(hn:n=48∨n=51) :
  Calls Tryz.prog 153 #[.pointer (some ⟨wb,0,none⟩),.int .i64 n] W (WEnd wb fv sv 0 p (L++[⟨p,p,decide (n=51)⟩]) W):=by
 have hB:=hid7 (begin7_any bm W.drew (h.drew 1) p a c p.length rfl h.cap h.stk (decide (n=51)))
 have c2:=(four_cell h.box).1.2.2.1
 generalize hl:p.length=q at c2 hB
 have hlt:=blk_lt h.box
 clear h hl
 have HW:Hid (∀ w1,(∃ la' lc' b',WStA wb fv sv p (L++[⟨p,p,decide (n=51)⟩]) a c la' lc' (bs++[b']) w1)→Below wb W.drew w1→Mv7 W.drew w1→∀ e,e=.returned (.int .i64 0)→WEnd wb fv sv 0 p (L++[⟨p,p,decide (n=51)⟩]) W e w1):=hid7 fun w1 ⟨la',lc',b',h1⟩ h2 h3 e he=>⟨he,⟨_,_,_,_,_,h1⟩,((Below.refl wb W).drew).trans h2,h3⟩
 rcases hn with rfl | rfl
 all_goals
  go_enter Tryz.func153,Tryz.ntmps153
  go_wp2_with fail
  go_region_with (first | (go_at_call 174;refine hB.out.mono ?_;rintro e w1 ⟨rfl,h1,h2,h3⟩;have K1:=hid7 (And.intro h1 (And.intro h2 h3));clear h1 h2 h3) | fail)
  all_goals
   go_wp2
   go_ret
   exact HW.out _ K1.out.1 K1.out.2.1 K1.out.2.2 _ rfl
set_option maxRecDepth 100000 in
set_option maxHeartbeats 1000000 in
theorem turn_none {wb:Nat}{fv sv:Value}{p:List Int}{L:List OB}{a:Option Addr}{c:Nat}{la:Option Addr}{lc:Nat}{bs:List Nat}(W:World)(h:WStA wb fv sv p L a c la lc bs W)(n:Int)(hn:¬ (48≤n∧n≤52)) :
  Calls Tryz.prog 153 #[.pointer (some ⟨wb,0,none⟩),.int .i64 n] W (WEnd wb fv sv 0 p L W):=by
 have HW:Hid (∀ e,e=.returned (.int .i64 0)→WEnd wb fv sv 0 p L W e W):=hid7 fun e he=>⟨he,⟨_,_,_,_,_,h⟩,Below.refl _ _,Mv7.refl _⟩
 have e1:(n == 48)=false:=by simp;omega
 have e2:(n == 49)=false:=by simp;omega
 have e3:(n == 50)=false:=by simp;omega
 have e4:(n == 51)=false:=by simp;omega
 have e5:(n == 52)=false:=by simp;omega
 clear h hn
 go_enter Tryz.func153,Tryz.ntmps153
 go_wp2
 go_ret
 exact HW.out _ rfl
set_option maxRecDepth 100000 in
set_option maxHeartbeats 1000000 in
theorem turn_end {wb:Nat}{fv sv:Value}{p:List Int}{L:List OB}{x:OB}{a:Option Addr}{c:Nat}{la:Option Addr}{lc:Nat}{bs:List Nat}(bp:p.length≤1000)(bx:x.la.length≤1000)(bm:L.length≤1000)(W:World)(h:WStA wb fv sv p (L++[x]) a c la lc bs W) :
  Calls Tryz.prog 153 #[.pointer (some ⟨wb,0,none⟩),.int .i64 50] W (WEnd wb fv sv (alikeS p x.la) p L W):=by
 have hC:=close7_any bm W.drew (h.drew 1)
 have c2:=(four_cell h.box).1.2.2.1
 have HW:Hid (∀ w1 k,WStA wb fv sv p L a c la lc bs.dropLast w1→Below wb W.drew w1→Mv7 W.drew w1→∀ e,e=.returned (.int .i64 (alikeS p x.la))→WEnd wb fv sv (alikeS p x.la) p L W e (w1.drewN k)):=hid7 fun w1 k h1 h2 h3 e he=>⟨he,⟨_,_,_,_,_,h1.drew k⟩,below_draws2 (((Below.refl wb W).drew).trans h2) k,Mv7.drew h3 k⟩
 have HC:Hid (Calls Tryz.prog 176 #[.pointer (some ⟨wb,3,none⟩)] W.drew fun e w'=>∃ b a2 d2,e=.returned (.pointer (some ⟨b,0,none⟩))∧w'.cell? ⟨b,1,none⟩=some (.slice a2 x.la.length d2)∧w'.cell? ⟨wb,2,none⟩=some (.slice a p.length c)∧Hid (Calls Tryz.prog 113 #[.slice a p.length c,.slice a2 x.la.length d2] w' fun e w''=>e=.returned (.int .i64 (alikeS p x.la))∧∃ k,w''=w'.drewN k)∧Hid (WStA wb fv sv p L a c la lc bs.dropLast w'∧Below wb W.drew w'∧Mv7 W.drew w')):=hid7 (hC.mono fun e w' ⟨he,h1,h2,h3,h4⟩=>by
  obtain ⟨a1,c1,a2,d2,hb,_,_,_,n2⟩:=h4
  exact ⟨_,a2,d2,he,(three_cell7 hb).1.2.1,(four_cell h1.box).1.2.2.1,hid7 (alike_any a a2 c d2 _ _ p x.la rfl rfl (by omega) (by omega) w' h1.stk.at' n2.at'),hid7 ⟨h1,h2,h3⟩⟩)
 clear hC h
 generalize alikeS p x.la=er at HW HC ⊢
 generalize p.length=pl at c2 HC bp
 generalize x.la.length=xl at HC bx
 go_enter Tryz.func153,Tryz.ntmps153
 go_wp2_with fail
 go_region_with (first | (go_at_call 176;refine HC.out.mono ?_;clear HC;rintro e w1 ⟨b1,a2,d2,rfl,cb,cw,hA,K1⟩) | (go_at_call 113;refine hA.out.mono ?_;clear hA;rintro e w2 ⟨rfl,k,rfl⟩) | fail)
 all_goals
  go_wp2
  go_ret
  exact HW.out _ _ K1.out.1 K1.out.2.1 K1.out.2.2 _ rfl
theorem fstIx_lt {pr:Nat→Bool}:∀ {m i:Nat},fstIx pr m=some i→i<m
 | 0,i,h=>by cases h
 | m+1,i,h=>by
  rw [fstIx] at h
  split at h
  ·have:=Option.some.inj h;omega
  ·have:=fstIx_lt h;omega
set_option maxRecDepth 100000 in
set_option maxHeartbeats 1000000 in
theorem turn_leave {wb:Nat}{fv sv:Value}{p:List Int}{L:List OB}{a:Option Addr}{c:Nat}{la:Option Addr}{lc:Nat}{bs:List Nat}(i:Nat)(hi:lpIx L=some i)(x:OB)(hx:L[i]?=some x)(bp:p.length≤1000)(bx:x.en.length≤1000)(bm:L.length≤1000)(W:World)(h:WStA wb fv sv p L a c la lc bs W) :
  Calls Tryz.prog 153 #[.pointer (some ⟨wb,0,none⟩),.int .i64 52] W (WEnd wb fv sv (alikeS p x.en) p L W):=by
 have hC:=innerLoop7_any i hi bm W.drew (h.drew 1)
 have c2:=(four_cell h.box).1.2.2.1
 have hlt:=blk_lt h.box
 have HW:Hid (∀ w1 k,WStA wb fv sv p L a c la lc bs w1→Below W.drew.heap.size W.drew w1→∀ e,e=.returned (.int .i64 (alikeS p x.en))→WEnd wb fv sv (alikeS p x.en) p L W e (w1.drewN k)):=hid7 fun w1 k h1 h2 e he=>⟨he,⟨_,_,_,_,_,h1.drew k⟩,below_draws2 (((Below.refl wb W).drew).trans (h2.mono (Nat.le_of_lt hlt))) k,Mv7.drew (Mv7.below h2) k⟩
 have hil:i<L.length:=fstIx_lt hi
 have hxi:L[i]=x:=by rw [List.getElem?_eq_getElem hil] at hx;exact Option.some.inj hx
 have HC:Hid (Calls Tryz.prog 177 #[.pointer (some ⟨wb,3,none⟩)] W.drew fun e w'=>∃ b a2 d2,e=.returned (.pointer (some ⟨b,0,none⟩))∧w'.cell? ⟨b,0,none⟩=some (.slice a2 x.en.length d2)∧w'.cell? ⟨wb,2,none⟩=some (.slice a p.length c)∧Hid (Calls Tryz.prog 113 #[.slice a p.length c,.slice a2 x.en.length d2] w' fun e w''=>e=.returned (.int .i64 (alikeS p x.en))∧∃ k,w''=w'.drewN k)∧Hid (WStA wb fv sv p L a c la lc bs w'∧Below W.drew.heap.size W.drew w')):=hid7 (hC.mono fun e w' ⟨he,h2⟩=>by
  have h1:=(h.drew 1).below h2
  obtain ⟨a1,c1,a2,d2,hb,_,_,n1,_⟩:=h1.blk i hil
  rw [hxi] at hb n1
  exact ⟨_,a1,c1,he,(three_cell7 hb).1.1,(four_cell h1.box).1.2.2.1,hid7 (alike_any a a1 c c1 _ _ p x.en rfl rfl (by omega) (by omega) w' h1.stk.at' n1.at'),hid7 ⟨h1,h2⟩⟩)
 clear hC h hx hxi
 generalize alikeS p x.en=er at HW HC ⊢
 generalize p.length=pl at c2 HC bp
 generalize x.en.length=xl at HC bx
 go_enter Tryz.func153,Tryz.ntmps153
 go_wp2_with fail
 go_region_with (first | (go_at_call 177;refine HC.out.mono ?_;clear HC;rintro e w1 ⟨b1,a2,d2,rfl,cb,cw,hA,K1⟩) | (go_at_call 113;refine hA.out.mono ?_;clear hA;rintro e w2 ⟨rfl,k,rfl⟩) | fail)
 all_goals
  go_wp2
  go_ret
  exact HW.out _ _ K1.out.1 K1.out.2 _ rfl
set_option maxRecDepth 100000 in
set_option maxHeartbeats 1000000 in
theorem turn_else {wb:Nat}{fv sv:Value}{p:List Int}{L:List OB}{x:OB}{a:Option Addr}{c:Nat}{la:Option Addr}{lc:Nat}{bs:List Nat}(bx:x.en.length≤1000)(bm:L.length≤1000)(W:World)(h:WStA wb fv sv p (L++[x]) a c la lc bs W) :
  Calls Tryz.prog 153 #[.pointer (some ⟨wb,0,none⟩),.int .i64 49] W (WEnd wb fv sv 0 x.en (L++[⟨x.en,p,x.lo⟩]) W):=by
 have hI:=innermost7_any L.length (by simp) bm W h
 have hl:bs.length=L.length+1:=by rw [h.len];simp
 have hbg:wb<bs.getD L.length 0:=by
  have:bs.getD L.length 0 ∈ bs:=by
   rw [List.getD_eq_getElem?_getD,List.getElem?_eq_getElem (by omega)]
   exact List.getElem_mem _
  exact h.gt _ this
 -- behind innermost: the block's cells; behind the store: what holds; behind put: what holds
 have HC:Hid (Calls Tryz.prog 175 #[.pointer (some ⟨wb,3,none⟩)] W fun e w'=>∃ a1 c1,e=.returned (.pointer (some ⟨bs.getD L.length 0,0,none⟩))∧w'.cell? ⟨bs.getD L.length 0,0,none⟩=some (.slice a1 x.en.length c1)∧(∃ u,w'.cell? ⟨bs.getD L.length 0,1,none⟩=some u)∧w'.frozen? ⟨bs.getD L.length 0,1,none⟩=false∧w'.cell? ⟨wb,2,none⟩=some (.slice a p.length c)∧w'.frozen? ⟨wb,2,none⟩=false ∧
   Hid (Calls Tryz.prog 172 #[.slice a1 x.en.length c1,.slice none 0 0] (w'.setCell ⟨bs.getD L.length 0,1,none⟩ (.slice a p.length c)) fun e w3=>∃ a3 c3,e=.returned (.slice a3 x.en.length c3)∧(∃ u,w3.cell? ⟨wb,2,none⟩=some u)∧w3.frozen? ⟨wb,2,none⟩=false∧Hid (∀ e,e=.returned (.int .i64 0)→WEnd wb fv sv 0 x.en (L++[⟨x.en,p,x.lo⟩]) W e (w3.setCell ⟨wb,2,none⟩ (.slice a3 x.en.length c3))))):=hid7 (hI.mono fun e w' ⟨he,b1⟩=>by
  have h1:=h.below b1
  have hlt:=blk_lt h.box
  have hcx:=four_cell h1.box
  have hob:=h1.blk L.length (by simp)
  rw [List.getElem_append_right (Nat.le_refl _)] at hob
  simp only [Nat.sub_self,List.getElem_cons_zero] at hob
  obtain ⟨a1,c1,a2,d2,hb,k1,k2,n1,n2⟩:=hob
  have htc:=three_cell7 hb
  refine ⟨a1,c1,he,htc.1.1,⟨_,htc.1.2.1⟩,htc.2,hcx.1.2.2.1,hcx.2.1,hid7 ?_⟩
  have mS:=Mv7.set (o:=1) (u:=.slice a p.length c) hb (.inr (.inl rfl))
  have n1':=n1.mv mS
  refine (put_any a1 none c1 0 _ 0 x.en [] rfl rfl (by omega) (by omega) _ n1'.at' (.inl rfl)).mono ?_
  rintro e3 w3 ⟨a3,c3,he3,hc3,hr3,b3⟩
  rw [List.append_nil] at he3 hc3 hr3
  have hne:wb≠bs.getD L.length 0:=by omega
  -- the state behind the store of the block's last
  have hbx2:(w'.setCell ⟨bs.getD L.length 0,1,none⟩ (.slice a p.length c)).heap[wb]?=_:=(Below.heap_setCell _ _ _ wb hne).trans h1.box
  have h2:WStA wb fv sv p (L++[⟨x.en,p,x.lo⟩]) a c la lc bs (w'.setCell ⟨bs.getD L.length 0,1,none⟩ (.slice a p.length c)):=by
   refine ⟨?_,h1.cap,h1.stk.mv mS,?_,by rw [hl];simp,h1.nod,h1.gt,fun i hi=>?_⟩
   ·rw [hbx2];simp
   ·have:=h1.row
    rw [List.length_append,List.length_singleton] at this ⊢
    exact row_other6 this hb (by decide)
   ·rw [List.length_append,List.length_singleton] at hi
    by_cases him:i<L.length
    ·have q:=h1.blk i (by simp;omega)
     rw [List.getElem_append_left him] at q ⊢
     refine q.other hb (.inr (.inl rfl)) fun e=>?_
     have e1:bs[i]'(by omega)=bs[L.length]'(by omega):=by
      rw [List.getD_eq_getElem?_getD,List.getD_eq_getElem?_getD,List.getElem?_eq_getElem (by omega),List.getElem?_eq_getElem (by omega)] at e
      exact e
     exact (List.pairwise_iff_getElem.1 h1.nod) i L.length (by omega) (by omega) him e1
    ·have him:i=L.length:=by omega
     subst him
     rw [List.getElem_append_right (Nat.le_refl _)]
     simp only [Nat.sub_self,List.getElem_cons_zero]
     exact ⟨a1,c1,a,c,three_set1 hb,k1,h1.cap,n1',h1.stk.mv mS⟩
  have h3:=h2.below b3
  have hcx3:=four_cell h3.box
  refine ⟨a3,c3,he3,⟨_,hcx3.1.2.2.1⟩,hcx3.2.1,hid7 fun e4 he4=>⟨he4,⟨a3,c3,la,lc,bs,?_⟩,?_,?_⟩⟩
  ·have mW:=Mv7.set (o:=2) (u:=.slice a3 x.en.length c3) h3.box (.inl rfl)
   refine ⟨four_set2 h3.box,hc3,((ns_in_row hr3).low (Nat.le_of_lt (blk_lt h2.box))).mv mW,row_other6 h3.row h3.box (by decide),h3.len,h3.nod,h3.gt,fun i hi=>(h3.blk i hi).other h3.box (.inl rfl) fun e=>?_⟩
   have:bs.getD i 0 ∈ bs:=by
    rw [List.getD_eq_getElem?_getD,List.getElem?_eq_getElem (by rw [h3.len];exact hi)]
    exact List.getElem_mem _
   have:=h3.gt _ this
   omega
  ·have q1:Below wb W w':=b1.mono (Nat.le_of_lt hlt)
   have q2:Below wb W (w'.setCell ⟨bs.getD L.length 0,1,none⟩ (.slice a p.length c)):=q1.setCell (p:=⟨bs.getD L.length 0,1,none⟩) (Nat.le_of_lt hbg) _
   exact (q2.trans (b3.mono (by have:=q2.size;omega))).setCell (p:=⟨wb,2,none⟩) (Nat.le_refl _) _
  ·exact (((Mv7.below b1).trans mS).trans (Mv7.below b3)).trans (Mv7.set h3.box (.inl rfl)))
 have c2:=(four_cell h.box).1.2.2.1
 clear hI h hl
 generalize bs.getD L.length 0=bb at HC hbg
 generalize p.length=pl at c2 HC
 generalize x.en.length=xl at HC bx
 go_enter Tryz.func153,Tryz.ntmps153
 go_wp2_with (first
  | (go_at_call 175;refine HC.out.mono ?_;clear HC;rintro e w1 ⟨a1,c1,rfl,d0,⟨u1,d1⟩,z1,d2,z2,hP⟩)
  | (go_at_call 172;refine hP.out.mono ?_;clear hP;rintro e w3 ⟨a3,c3,rfl,⟨u3,d3⟩,z3,HW⟩)
  | fail)
 go_ret
 exact HW.out _ rfl
end Go.Proofs.YtpmlnkjamhelnaaGreat
namespace Go.Proofs.YtpmlnkjamhelnaaGreat
open Go.RowKit
set_option maxRecDepth 100000 in
set_option maxHeartbeats 8000000 in
theorem in_np (n:Int)(h:n=1∨n=2∨n=5∨n=6∨n=7∨n=8∨n=9∨n=10∨n=41∨n=42∨n=43∨n=44∨n=45∨n=46∨n=47∨n=48∨n=49∨n=50∨n=51∨n=52∨n=53)(w:World):Calls Tryz.prog 201 #[.int .i64 n] w fun e w'=>e=.returned (sliceOf (inT n) w)∧w'=worldOf (inT n) w:=by
 rcases h with rfl | rfl | rfl | rfl | rfl | rfl | rfl | rfl | rfl | rfl | rfl | rfl | rfl | rfl | rfl | rfl | rfl | rfl | rfl | rfl | rfl
 all_goals as_aux_lemma =>
  go_enter Tryz.func201,Tryz.ntmps201
  go_wp2
  go_ret
  exact ⟨rfl,rfl⟩
set_option maxRecDepth 100000 in
set_option maxHeartbeats 8000000 in
theorem out_np (n:Int)(h:n=1∨n=2∨n=5∨n=6∨n=7∨n=8∨n=9∨n=10∨n=41∨n=42∨n=43∨n=44∨n=45∨n=46∨n=47∨n=48∨n=49∨n=50∨n=51∨n=52∨n=53)(w:World):Calls Tryz.prog 202 #[.int .i64 n] w fun e w'=>e=.returned (sliceOf (outT n) w)∧w'=worldOf (outT n) w:=by
 rcases h with rfl | rfl | rfl | rfl | rfl | rfl | rfl | rfl | rfl | rfl | rfl | rfl | rfl | rfl | rfl | rfl | rfl | rfl | rfl | rfl | rfl
 all_goals as_aux_lemma =>
  go_enter Tryz.func202,Tryz.ntmps202
  go_wp2
  go_ret
  exact ⟨rfl,rfl⟩
set_option maxRecDepth 100000 in
set_option maxHeartbeats 1000000 in
theorem in_no (n:Int)(w:World)(h:n<1∨53<n):Calls Tryz.prog 201 #[.int .i64 n] w fun e w'=>e=.returned (sliceOf (inT n) w)∧w'=worldOf (inT n) w:=by
 rw [show inT n=[] from rowOf_none _ _ n h]
 have e5:(n == 5)=false:=by simp;omega
 have e6:(n == 6)=false:=by simp;omega
 have e7:(n == 7)=false:=by simp;omega
 have e8:(n == 8)=false:=by simp;omega
 have e10:(n == 10)=false:=by simp;omega
 have e11:(n == 11)=false:=by simp;omega
 have e12:(n == 12)=false:=by simp;omega
 have e13:(n == 13)=false:=by simp;omega
 have e14:(n == 14)=false:=by simp;omega
 have e15:(n == 15)=false:=by simp;omega
 have e16:(n == 16)=false:=by simp;omega
 have e17:(n == 17)=false:=by simp;omega
 have e18:(n == 18)=false:=by simp;omega
 have e19:(n == 19)=false:=by simp;omega
 have e20:(n == 20)=false:=by simp;omega
 have e21:(n == 21)=false:=by simp;omega
 have e22:(n == 22)=false:=by simp;omega
 have e23:(n == 23)=false:=by simp;omega
 have e24:(n == 24)=false:=by simp;omega
 have e25:(n == 25)=false:=by simp;omega
 have e26:(n == 26)=false:=by simp;omega
 have e27:(n == 27)=false:=by simp;omega
 have e28:(n == 28)=false:=by simp;omega
 have e29:(n == 29)=false:=by simp;omega
 have e30:(n == 30)=false:=by simp;omega
 have e31:(n == 31)=false:=by simp;omega
 have e32:(n == 32)=false:=by simp;omega
 have e33:(n == 33)=false:=by simp;omega
 have e34:(n == 34)=false:=by simp;omega
 have e35:(n == 35)=false:=by simp;omega
 have e36:(n == 36)=false:=by simp;omega
 have e37:(n == 37)=false:=by simp;omega
 have e38:(n == 38)=false:=by simp;omega
 have e39:(n == 39)=false:=by simp;omega
 have e40:(n == 40)=false:=by simp;omega
 have e41:(n == 41)=false:=by simp;omega
 have e42:(n == 42)=false:=by simp;omega
 have e43:(n == 43)=false:=by simp;omega
 have e44:(n == 44)=false:=by simp;omega
 have e45:(n == 45)=false:=by simp;omega
 have e46:(n == 46)=false:=by simp;omega
 have e48:(n == 48)=false:=by simp;omega
 have e52:(n == 52)=false:=by simp;omega
 go_enter Tryz.func201,Tryz.ntmps201
 go_wp2
 all_goals (go_ret;exact ⟨rfl,rfl⟩)
set_option maxRecDepth 100000 in
set_option maxHeartbeats 1000000 in
theorem out_no (n:Int)(w:World)(h:n<1∨53<n):Calls Tryz.prog 202 #[.int .i64 n] w fun e w'=>e=.returned (sliceOf (outT n) w)∧w'=worldOf (outT n) w:=by
 rw [show outT n=[] from rowOf_none _ _ n h]
 have e1:(n == 1)=false:=by simp;omega
 have e2:(n == 2)=false:=by simp;omega
 have e3:(n == 3)=false:=by simp;omega
 have e4:(n == 4)=false:=by simp;omega
 have e6:(n == 6)=false:=by simp;omega
 have e7:(n == 7)=false:=by simp;omega
 have e8:(n == 8)=false:=by simp;omega
 have e9:(n == 9)=false:=by simp;omega
 have e11:(n == 11)=false:=by simp;omega
 have e12:(n == 12)=false:=by simp;omega
 have e13:(n == 13)=false:=by simp;omega
 have e14:(n == 14)=false:=by simp;omega
 have e15:(n == 15)=false:=by simp;omega
 have e16:(n == 16)=false:=by simp;omega
 have e17:(n == 17)=false:=by simp;omega
 have e18:(n == 18)=false:=by simp;omega
 have e19:(n == 19)=false:=by simp;omega
 have e20:(n == 20)=false:=by simp;omega
 have e21:(n == 21)=false:=by simp;omega
 have e22:(n == 22)=false:=by simp;omega
 have e23:(n == 23)=false:=by simp;omega
 have e24:(n == 24)=false:=by simp;omega
 have e25:(n == 25)=false:=by simp;omega
 have e26:(n == 26)=false:=by simp;omega
 have e27:(n == 27)=false:=by simp;omega
 have e28:(n == 28)=false:=by simp;omega
 have e29:(n == 29)=false:=by simp;omega
 have e30:(n == 30)=false:=by simp;omega
 have e31:(n == 31)=false:=by simp;omega
 have e32:(n == 32)=false:=by simp;omega
 have e33:(n == 33)=false:=by simp;omega
 have e34:(n == 34)=false:=by simp;omega
 have e35:(n == 35)=false:=by simp;omega
 have e36:(n == 36)=false:=by simp;omega
 have e37:(n == 37)=false:=by simp;omega
 have e38:(n == 38)=false:=by simp;omega
 have e39:(n == 39)=false:=by simp;omega
 have e40:(n == 40)=false:=by simp;omega
 have e41:(n == 41)=false:=by simp;omega
 have e42:(n == 42)=false:=by simp;omega
 have e45:(n == 45)=false:=by simp;omega
 go_enter Tryz.func202,Tryz.ntmps202
 go_wp2
 all_goals (go_ret;exact ⟨rfl,rfl⟩)
theorem in_any (n:Int)(w:World):Calls Tryz.prog 201 #[.int .i64 n] w fun e w'=>e=.returned (sliceOf (inT n) w)∧w'=worldOf (inT n) w:=by
 by_cases h:n<1∨53<n
 ·exact in_no n w h
 by_cases hp:plainB n=true
 ·exact in_pl n (plain_cases n hp) w
 ·have hq:¬ (3≤n∧n≤4∨11≤n∧n≤40):=by simpa [plainB] using hp
  exact in_np n (by omega) w
theorem out_any (n:Int)(w:World):Calls Tryz.prog 202 #[.int .i64 n] w fun e w'=>e=.returned (sliceOf (outT n) w)∧w'=worldOf (outT n) w:=by
 by_cases h:n<1∨53<n
 ·exact out_no n w h
 by_cases hp:plainB n=true
 ·exact out_pl n (plain_cases n hp) w
 ·have hq:¬ (3≤n∧n≤4∨11≤n∧n≤40):=by simpa [plainB] using hp
  exact out_np n (by omega) w
end Go.Proofs.YtpmlnkjamhelnaaGreat
namespace Go.Proofs.YtpmlnkjamhelnaaGreat
open Go.RowKit Go.Shelf
def fnAt (fs:List Fn)(k:Int):Fn:=fs.getD k.toNat ⟨[],[],[],[]⟩
def takenS (fs:List Fn)(sl:List Int)(x:Int × Int):List Int :=
 if x.1=10 then [sl.getD x.2.toNat 0] else if x.1=53 then (fnAt fs x.2).p else inT x.1
def givenS (fs:List Fn)(sl:List Int)(x:Int × Int)(had:List Int):List Int :=
 if x.1=6 then had++had else if x.1=7 then had.drop 1++[had.getD 0 0] else if x.1=8 then had++[had.getD 0 0]
 else if x.1=9 then [sl.getD x.2.toNat 0] else if x.1=53 then (fnAt fs x.2).r else outT x.1
def InsR (fs:List Fn)(sl:List Int)(x:Int × Int):Prop:=(x.1=9∨x.1=10→0≤x.2∧x.2<sl.length)∧(x.1=53→0≤x.2∧x.2<fs.length)
def RowIs (ns:List Int)(w:World)(e:Ending)(w':World):Prop:=∃ a c,e=.returned (.slice a ns.length c)∧NsAt w'.cell? a ns∧Below w.heap.size w w'
theorem opT_row (n:Int)(F:Nat)(T:List Int)(w:World)(h:Calls Tryz.prog F #[.int .i64 n] w fun e w'=>e=.returned (sliceOf T w)∧w'=worldOf T w):Calls Tryz.prog F #[.int .i64 n] w (RowIs T w):=by
 refine h.mono ?_
 rintro e w' ⟨rfl,rfl⟩
 unfold sliceOf worldOf
 by_cases hT:T=[]
 ·rw [if_pos hT,if_pos hT]
  subst hT
  exact ⟨none,0,rfl,.inl rfl,Below.refl _ _⟩
 ·rw [if_neg hT,if_neg hT]
  refine ⟨_,_,rfl,.inr ⟨_,0,rfl,fun j hj=>?_⟩,(Below.refl _ w).alloc (Nat.le_refl _) _⟩
  rw [Nat.zero_add,Lib.cell_of_heap (heap_alloc_new w _)]
  simp [hj]
structure FSl (wb:Nat)(fs:List Fn)(sl:List Int)(fa:Option Addr)(fc:Nat)(sa:Option Addr)(sc:Nat)(W:World):Prop where
 f:W.cell? ⟨wb,0,none⟩=some (.slice fa fs.length fc)
 s:W.cell? ⟨wb,1,none⟩=some (.slice sa sl.length sc)
 fat:FsAt W.cell? fa fs
 sat:NsAt W.cell? sa sl
 scap:sl.length≤sc
theorem slot_row {C:Addr→Option Value}{b off:Nat}{sl:List Int}(h:NsAt C (some ⟨b,off,none⟩) sl)(k:Nat)(hk:k<sl.length):NsAt C (some ⟨b,off+k,none⟩) [sl.getD k 0]:=by
 rcases h with rfl | ⟨b',off',e,h⟩
 ·cases hk
 ·cases e
  refine .inr ⟨b,off+k,rfl,fun j hj=>?_⟩
  have hj0:j=0:=by simp at hj;omega
  subst hj0
  rw [Nat.add_zero,h k hk,List.getD_eq_getElem?_getD,List.getElem?_eq_getElem hk]
  rfl
theorem fn_cells {C:Addr→Option Value}{b off:Nat}{fs:List Fn}(h:FsAt C (some ⟨b,off,none⟩) fs)(k:Nat)(hk:k<fs.length):∃ a0 c0 a1 c1,C ⟨b,off+k*4,none⟩=some (.slice a0 (fnAt fs k).p.length c0)∧NsAt C a0 (fnAt fs k).p∧C ⟨b,off+k*4+1,none⟩=some (.slice a1 (fnAt fs k).r.length c1)∧NsAt C a1 (fnAt fs k).r:=by
 rcases h with rfl | ⟨b',off',e,h⟩
 ·cases hk
 ·cases e
  obtain ⟨v0,v1,v2,v3,h0,h1,_,_,⟨a0,c0,rfl,n0⟩,⟨a1,c1,rfl,n1⟩,_⟩:=h k hk
  have e:fnAt fs k=fs[k]:=by rw [fnAt,Int.toNat_natCast,List.getD_eq_getElem?_getD,List.getElem?_eq_getElem hk];rfl
  rw [e]
  exact ⟨a0,c0,a1,c1,h0,n0,h1,n1⟩
theorem fs_some {C:Addr→Option Value}{a:Option Addr}{fs:List Fn}(h:FsAt C a fs)(h0:0<fs.length):∃ b off,a=some ⟨b,off,none⟩:=by
 rcases h with rfl | ⟨b,off,e,_⟩
 ·cases h0
 ·exact ⟨b,off,e⟩
set_option maxRecDepth 100000 in
set_option maxHeartbeats 1000000 in
theorem taken_any {wb:Nat}{fs:List Fn}{sl:List Int}{fa:Option Addr}{fc:Nat}{sa:Option Addr}{sc:Nat}(x:Int × Int)(hx:InsR fs sl x)(bs:sl.length≤1000)(bf:fs.length≤1000)(W:World)(h:FSl wb fs sl fa fc sa sc W) :
  Calls Tryz.prog 171 #[.pointer (some ⟨wb,0,none⟩),.agg #[.int .i64 x.1,.int .i64 x.2]] W (RowIs (takenS fs sl x) W):=by
 obtain ⟨n,A⟩:=x
 simp only
 have b1:=(Below.refl _ W).alloc (Nat.le_refl _) (.cells #[.int .i64 n,.int .i64 A] 74)
 have hk:∀ x v,W.cell? x=some v→(W.alloc (.cells #[.int .i64 n,.int .i64 A] 74)).cell? x=some v:=fun x v hh=>(b1.cell (World.block_lt_of_cell? W x hh)).trans hh
 have hlt:=World.block_lt_of_cell? W _ h.f
 by_cases h10:n=10
 ·subst h10
  obtain ⟨g1,g2⟩:=hx.1 (.inr rfl)
  simp only at g1 g2
  obtain ⟨k,rfl⟩:∃ k:Nat,A=k:=⟨A.toNat,by omega⟩
  obtain ⟨sb,so,rfl⟩:=ns_some h.sat (by omega)
  have c1:=h.s
  have hcap:(k:Int)+1≤sc:=by have:=h.scap;omega
  have hkk:k<sl.length:=by omega
  have HE:Hid (∀ e m c',e=.returned (.slice (some ⟨sb,so+k,none⟩) 1 c')→RowIs (takenS fs sl (10,k)) W e ((W.alloc (.cells #[.int .i64 10,.int .i64 k] 74)).drewN m)):=hid7 fun e m c' he=>by
   have e1:takenS fs sl (10,k)=[sl.getD k 0]:=by simp [takenS]
   rw [e1]
   exact ⟨_,c',he,(slot_row h.sat k hkk).keep hk,below_draws2 b1 m⟩
  generalize sl.length=sn at c1 g2 bs hkk
  clear h hx hk b1
  go_enter Tryz.func171,Tryz.ntmps171
  go_wp2
  go_quiet (fail)
  go_wp2
  go_ret
  exact HE.out _ _ _ rfl
 by_cases h53:n=53
 ·subst h53
  obtain ⟨g1,g2⟩:=hx.2 rfl
  simp only at g1 g2
  obtain ⟨k,rfl⟩:∃ k:Nat,A=k:=⟨A.toNat,by omega⟩
  obtain ⟨fb,fo,rfl⟩:=fs_some h.fat (by omega)
  obtain ⟨a0,c0,a1,c1',q0,q1,_,_⟩:=fn_cells h.fat k (by omega)
  have c0':=h.f
  have HE:Hid (∀ e m,e=.returned (.slice a0 (fnAt fs k).p.length c0)→RowIs (takenS fs sl (53,k)) W e ((W.alloc (.cells #[.int .i64 53,.int .i64 k] 74)).drewN m)):=hid7 fun e m he=>by
   have e1:takenS fs sl (53,k)=(fnAt fs k).p:=by simp [takenS]
   rw [e1]
   exact ⟨_,_,he,q1.keep hk,below_draws2 b1 m⟩
  have hlt2:=World.block_lt_of_cell? W _ q0
  generalize (fnAt fs k).p.length=pl at q0 HE
  generalize fs.length=fn at c0' g2 bf
  clear h hx hk b1 q1
  go_enter Tryz.func171,Tryz.ntmps171
  go_wp2
  go_quiet (fail)
  go_wp2
  go_ret
  exact HE.out _ _ rfl
 ·have hI:=hid7 (opT_row n 201 (inT n) _ (in_any n (W.alloc (.cells #[.int .i64 n,.int .i64 A] 74))))
  have e1:takenS fs sl (n,A)=inT n:=by simp [takenS,h10,h53]
  rw [e1]
  have HE:Hid (∀ e w',RowIs (inT n) (W.alloc (.cells #[.int .i64 n,.int .i64 A] 74)) e w'→RowIs (inT n) W e w'):=hid7 fun e w' ⟨a,c,q1,q2,q3⟩=>⟨a,c,q1,q2,b1.trans (q3.mono b1.size)⟩
  generalize inT n=T at hI HE
  unfold RowIs at hI
  clear h hx hk b1 e1
  go_enter Tryz.func171,Tryz.ntmps171
  go_wp2_with (first | (go_at_call 201;refine hI.out.mono ?_;clear hI;rintro e w1 ⟨a1,c1,rfl,q2,q3⟩;have K1:=hid7 (And.intro q2 q3);clear q2 q3) | fail)
  go_ret
  exact HE.out _ _ ⟨a1,c1,rfl,K1.out.1,K1.out.2⟩
theorem IntEnd.row {ns:List Int}{w w0:World}{e:Ending}{w':World}(h:IntEnd ns w e w')(hb:Below w0.heap.size w0 w):RowIs ns w0 e w':=by
 obtain ⟨a,c,he,_,hr,h2⟩:=h
 exact ⟨a,c,he,(ns_in_row hr).at',hb.trans (h2.mono hb.size)⟩
theorem ns_one_new (V:World)(y:Int):NsAt (V.alloc (.cells #[.int .i64 y] 3)).cell? (some ⟨V.heap.size,0,none⟩) [y]:=.inr ⟨_,0,rfl,fun j hj=>by
 have hj0:j=0:=by simp at hj;omega
 subst hj0
 rw [Nat.zero_add,Lib.cell_of_heap (heap_alloc_new V _)]
 rfl⟩
theorem ns_tail {C:Addr→Option Value}{b off:Nat}{x y:Int}(h:NsAt C (some ⟨b,off,none⟩) [x,y]):NsAt C (some ⟨b,off+1,none⟩) [y]:=by
 rcases h with h | ⟨b',off',e,h⟩
 ·cases h
 ·cases e
  refine .inr ⟨b,off+1,rfl,fun j hj=>?_⟩
  have hj0:j=0:=by simp at hj;omega
  subst hj0
  exact h 1 (by simp)
set_option maxRecDepth 100000 in
set_option maxHeartbeats 1000000 in
theorem given_any {wb:Nat}{fs:List Fn}{sl:List Int}{fa:Option Addr}{fc:Nat}{sa:Option Addr}{sc:Nat}(x:Int × Int)(hx:InsR fs sl x)(bs:sl.length≤1000)(bf:fs.length≤1000)(W:World)(h:FSl wb fs sl fa fc sa sc W)
  (had:List Int) (ha:Option Addr) (hc hn:Nat) (hl:had.length=hn) (bh:hn≤1000) (hcap:hn≤hc) (hN:NsAt W.cell? ha had) (h78:x.1=7∨x.1=8→hn=2) :
  Calls Tryz.prog 173 #[.pointer (some ⟨wb,0,none⟩),.agg #[.int .i64 x.1,.int .i64 x.2],.slice ha hn hc] W (RowIs (givenS fs sl x had) W):=by
 obtain ⟨n,A⟩:=x
 simp only at h78 ⊢
 have b1:=(Below.refl _ W).alloc (Nat.le_refl _) (.cells #[.int .i64 n,.int .i64 A] 74)
 have hk:∀ x v,W.cell? x=some v→(W.alloc (.cells #[.int .i64 n,.int .i64 A] 74)).cell? x=some v:=fun x v hh=>(b1.cell (World.block_lt_of_cell? W x hh)).trans hh
 have hlt:=World.block_lt_of_cell? W _ h.f
 by_cases h6:n=6
 ·subst h6
  have hP:=hid7 (put_any ha ha hc hc hn hn had had hl hl (by omega) (by omega) (W.alloc (.cells #[.int .i64 6,.int .i64 A] 74)) (hN.keep hk) (hN.keep hk))
  have hPr:Hid (Calls Tryz.prog 172 #[.slice ha hn hc,.slice ha hn hc] (W.alloc (.cells #[.int .i64 6,.int .i64 A] 74)) fun e w'=>∃ a c,e=.returned (.slice a (hn+hn) c)∧Hid (RowIs (givenS fs sl (6,A) had) W e w')):=hid7 (hP.out.mono fun e w' q=>by
   have e1:givenS fs sl (6,A) had=had++had:=by simp [givenS]
   obtain ⟨a,c,he,q2⟩:=q
   exact ⟨a,c,by rw [he,List.length_append,hl],hid7 (by rw [e1];exact IntEnd.row ⟨a,c,he,q2⟩ b1)⟩)
  clear hP h hx hk b1 hN
  go_enter Tryz.func173,Tryz.ntmps173
  go_wp2_with (first | (go_at_call 172;refine hPr.out.mono ?_;clear hPr;rintro e w1 ⟨a1,c1,rfl,K1⟩) | fail)
  go_ret
  exact K1.out
 by_cases h7:n=7
 ·subst h7
  have h2:=h78 (.inl rfl)
  subst h2
  obtain ⟨y,z,rfl⟩:∃ y z,had=[y,z]:=by
   match had,hl with
   | [y,z],_=>exact ⟨y,z,rfl⟩
  obtain ⟨hb,ho,rfl⟩:=ns_some hN (by simp)
  have c0:=ns_at hN 0 (by simp)
  simp only [List.getD_eq_getElem?_getD,List.getElem?_cons_zero,Option.getD_some,Nat.add_zero] at c0
  have hcc:(2:Int)≤hc:=by omega
  have h1c:hc≠1:=by omega
  have HP:Hid (Calls Tryz.prog 172 #[.slice (some ⟨hb,ho+1,none⟩) 1 (hc - 1),.slice (some ⟨W.heap.size+1,0,none⟩) 1 1] ((W.alloc (.cells #[.int .i64 7,.int .i64 A] 74)).alloc (.cells #[.int .i64 y] 3)).drew fun e w'=>∃ a c,e=.returned (.slice a 2 c)∧Hid (RowIs (givenS fs sl (7,A) [y,z]) W e w')):=hid7 (by
   have bV:=(b1.alloc b1.size (.cells #[.int .i64 y] 3)).drew
   have hone:=ns_one_new (W.alloc (.cells #[.int .i64 7,.int .i64 A] 74)) y
   rw [World.size_alloc] at hone
   refine (put_any (some ⟨hb,ho+1,none⟩) (some ⟨W.heap.size+1,0,none⟩) (hc - 1) 1 1 1 [z] [y] rfl rfl (by omega) (by omega) _ ((ns_tail hN).keep fun x v hh=>(bV.cell (World.block_lt_of_cell? W x hh)).trans hh) hone).mono fun e w' q=>?_
   have e1:givenS fs sl (7,A) [y,z]=[z]++[y]:=by simp [givenS]
   obtain ⟨a,c,he,q2⟩:=q
   exact ⟨a,c,he,hid7 (by rw [e1];exact IntEnd.row ⟨a,c,he,q2⟩ bV)⟩)
  have hltb:=World.block_lt_of_cell? W _ c0
  clear h hx hk b1 hN
  go_enter Tryz.func173,Tryz.ntmps173
  go_wp2_with fail
  go_region_with (first | (go_at_call 172;refine HP.out.mono ?_;clear HP;rintro e w1 ⟨a1,c1,rfl,K1⟩) | fail)
  all_goals
   go_wp2
   go_ret
   exact K1.out
 by_cases h8:n=8
 ·subst h8
  have h2:=h78 (.inr rfl)
  subst h2
  obtain ⟨y,z,rfl⟩:∃ y z,had=[y,z]:=by
   match had,hl with
   | [y,z],_=>exact ⟨y,z,rfl⟩
  obtain ⟨hb,ho,rfl⟩:=ns_some hN (by simp)
  have c0:=ns_at hN 0 (by simp)
  simp only [List.getD_eq_getElem?_getD,List.getElem?_cons_zero,Option.getD_some,Nat.add_zero] at c0
  have HP:Hid (Calls Tryz.prog 172 #[.slice (some ⟨hb,ho,none⟩) 2 hc,.slice (some ⟨W.heap.size+1,0,none⟩) 1 1] ((W.alloc (.cells #[.int .i64 8,.int .i64 A] 74)).alloc (.cells #[.int .i64 y] 3)) fun e w'=>∃ a c,e=.returned (.slice a 3 c)∧Hid (RowIs (givenS fs sl (8,A) [y,z]) W e w')):=hid7 (by
   have bV:=b1.alloc b1.size (.cells #[.int .i64 y] 3)
   have hone:=ns_one_new (W.alloc (.cells #[.int .i64 8,.int .i64 A] 74)) y
   rw [World.size_alloc] at hone
   refine (put_any (some ⟨hb,ho,none⟩) (some ⟨W.heap.size+1,0,none⟩) hc 1 2 1 [y,z] [y] rfl rfl (by omega) (by omega) _ (hN.keep fun x v hh=>(bV.cell (World.block_lt_of_cell? W x hh)).trans hh) hone).mono fun e w' q=>?_
   have e1:givenS fs sl (8,A) [y,z]=[y,z]++[y]:=by simp [givenS]
   obtain ⟨a,c,he,q2⟩:=q
   exact ⟨a,c,he,hid7 (by rw [e1];exact IntEnd.row ⟨a,c,he,q2⟩ bV)⟩)
  have hltb:=World.block_lt_of_cell? W _ c0
  clear h hx hk b1 hN
  go_enter Tryz.func173,Tryz.ntmps173
  go_wp2_with (first | (go_at_call 172;refine HP.out.mono ?_;clear HP;rintro e w1 ⟨a1,c1,rfl,K1⟩) | fail)
  go_ret
  exact K1.out
 by_cases h9:n=9
 ·subst h9
  obtain ⟨g1,g2⟩:=hx.1 (.inl rfl)
  simp only at g1 g2
  obtain ⟨k,rfl⟩:∃ k:Nat,A=k:=⟨A.toNat,by omega⟩
  obtain ⟨sb,so,rfl⟩:=ns_some h.sat (by omega)
  have c1:=h.s
  have hcap':(k:Int)+1≤sc:=by have:=h.scap;omega
  have hkk:k<sl.length:=by omega
  have HE:Hid (∀ e m c',e=.returned (.slice (some ⟨sb,so+k,none⟩) 1 c')→RowIs (givenS fs sl (9,k) had) W e ((W.alloc (.cells #[.int .i64 9,.int .i64 k] 74)).drewN m)):=hid7 fun e m c' he=>by
   have e1:givenS fs sl (9,k) had=[sl.getD k 0]:=by simp [givenS]
   rw [e1]
   exact ⟨_,c',he,(slot_row h.sat k hkk).keep hk,below_draws2 b1 m⟩
  generalize sl.length=sn at c1 g2 bs hkk
  clear h hx hk b1 hN
  go_enter Tryz.func173,Tryz.ntmps173
  go_wp2
  go_quiet (fail)
  go_wp2
  go_ret
  exact HE.out _ _ _ rfl
 by_cases h53:n=53
 ·subst h53
  obtain ⟨g1,g2⟩:=hx.2 rfl
  simp only at g1 g2
  obtain ⟨k,rfl⟩:∃ k:Nat,A=k:=⟨A.toNat,by omega⟩
  obtain ⟨fb,fo,rfl⟩:=fs_some h.fat (by omega)
  obtain ⟨a0,c0,a1,c1',_,_,q0,q1⟩:=fn_cells h.fat k (by omega)
  have c0':=h.f
  have HE:Hid (∀ e m,e=.returned (.slice a1 (fnAt fs k).r.length c1')→RowIs (givenS fs sl (53,k) had) W e ((W.alloc (.cells #[.int .i64 53,.int .i64 k] 74)).drewN m)):=hid7 fun e m he=>by
   have e1:givenS fs sl (53,k) had=(fnAt fs k).r:=by simp [givenS]
   rw [e1]
   exact ⟨_,_,he,q1.keep hk,below_draws2 b1 m⟩
  have hlt2:=World.block_lt_of_cell? W _ q0
  generalize (fnAt fs k).r.length=pl at q0 HE
  generalize fs.length=fn at c0' g2 bf
  clear h hx hk b1 q1 hN
  go_enter Tryz.func173,Tryz.ntmps173
  go_wp2
  go_quiet (fail)
  go_wp2
  go_ret
  exact HE.out _ _ rfl
 ·have hI:=hid7 (opT_row n 202 (outT n) _ (out_any n (W.alloc (.cells #[.int .i64 n,.int .i64 A] 74))))
  have e1:givenS fs sl (n,A) had=outT n:=by simp [givenS,h6,h7,h8,h9,h53]
  rw [e1]
  have HE:Hid (∀ e w',RowIs (outT n) (W.alloc (.cells #[.int .i64 n,.int .i64 A] 74)) e w'→RowIs (outT n) W e w'):=hid7 fun e w' ⟨a,c,q1,q2,q3⟩=>⟨a,c,q1,q2,b1.trans (q3.mono b1.size)⟩
  generalize outT n=T at hI HE
  unfold RowIs at hI
  clear h hx hk b1 e1 hN
  go_enter Tryz.func173,Tryz.ntmps173
  go_wp2_with (first | (go_at_call 202;refine hI.out.mono ?_;clear hI;rintro e w1 ⟨a1,c1,rfl,q2,q3⟩;have K1:=hid7 (And.intro q2 q3);clear q2 q3) | fail)
  go_ret
  exact HE.out _ _ ⟨a1,c1,rfl,K1.out.1,K1.out.2⟩
end Go.Proofs.YtpmlnkjamhelnaaGreat
