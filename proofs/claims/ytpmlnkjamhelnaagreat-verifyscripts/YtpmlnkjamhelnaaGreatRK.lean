/- As wp_region_each (RI), with a ghost that each operation may turn. -/
import Derived.Test.YtpmlnkjamhelnaaGreatAN
import Derived.Test.YtpmlnkjamhelnaaGreatCB
namespace Go.Proofs.YtpmlnkjamhelnaaGreat
open Go.RowKit
section
variable {P:Program} {ops:Array Oper} {Q:Exit→Act→World→Prop} {Γ:Type}
theorem each_put {a0:Act}(n:Nat)(hn:a0.tmps.size=n)(hB:apartB .any ops n=true){G G':Array Bool→World→Prop}{Pr Pr':Array Bool→Nat→Value→World→Prop}{listed:Array Bool}{a:Act}{W W':World}{i:Nat}{o:Oper}{v:Value}(ho:ops[i]?=some o)(hI:Each ops a0 G Pr listed a W)(h1:listed.getD i true=false)(haf:∀ e ∈ o.after,Region.binds .any e=true→listed.getD e.on false=true)
  (hPr:Pr' (listed.setIfInBounds i true) i v W') (hG:G' (listed.setIfInBounds i true) W') (hst:∀ j u,listed.getD j false=true→Pr listed j u W→Pr' (listed.setIfInBounds i true) j u W'):Each ops a0 G' Pr' (listed.setIfInBounds i true) (a.put o.dst v) W':=by
 have spec:=apartB_spec hB
 obtain ⟨hg,hlt,_,hdist⟩:=spec i o ho
 have hil:=getD_lt h1
 have hput:∀ t:Nat,(a.put o.dst v).tmps[t]?.getD undef=if o.dst=some t∧t<a.tmps.size then v else a.tmps[t]?.getD undef:=by
  intro t
  cases hd:o.dst with
  | none=>simp [Act.put]
  | some d =>
   simp only [Act.put,Array.getElem?_setIfInBounds,Option.some.injEq]
   by_cases hdt:d=t
   ·subst hdt
    by_cases h2:d<a.tmps.size
    ·simp [h2]
    ·simp [h2]
   ·simp [hdt]
 refine ⟨by simp [hI.size],?_,?_,fun t ht=>?_,hG,fun j oj hj hl e he hb=>?_,fun j oj t hj hl hd=>?_⟩
 ·cases hd:o.dst <;> simp [Act.put,hI.tsize]
 ·cases hd:o.dst <;> simp [Act.put,hI.defers]
 ·rw [hput,if_neg (fun h=>ht i o ho h.1)]
  exact hI.rest t ht
 ·have hold:listed.getD e.on false=true:=by
   rw [getD_set] at hl
   by_cases hji:i=j
   ·subst hji
    rw [ho] at hj
    cases hj
    exact haf e he hb
   ·rw [if_neg (fun h=>hji h.1)] at hl
    exact hI.closed j oj hj hl e he hb
  rw [getD_set]
  split
  ·rfl
  ·exact hold
 ·rw [getD_set] at hl
  by_cases hji:i=j
  ·subst hji
   rw [ho] at hj
   cases hj
   rw [hput,if_pos ⟨hd,by rw [hI.tsize,hn];exact hlt t hd⟩]
   exact hPr
  ·rw [if_neg (fun h=>hji h.1)] at hl
   rw [hput,if_neg (fun h=>hji (hdist j oj t hj h.1 hd))]
   exact hst j _ hl (hI.vals j oj t hj hl hd)
theorem wp_region_ghost {id:Nat}{a0:Act}{w:World}(hm:P.follows .mixedOrders=true)(n:Nat)(hn:a0.tmps.size=n)(hB:apartB .any ops n=true)(G:Γ→Array Bool→World→Prop)(Pr:Γ→Array Bool→Nat→Value→World→Prop)(γ0:Γ)
  (h0:G γ0 (Array.replicate ops.size false) w.drew)
  (hop:∀ (i:Nat) (o:Oper),ops[i]?=some o→∀ (γ:Γ) (listed:Array Bool) (a:Act) (W:World),Each ops a0 (G γ) (Pr γ) listed a W→listed.getD i true=false→(∀ e ∈ o.after,Region.binds .any e=true→listed.getD e.on false=true) →
   o.wp P a W (fun a' W'=>∃ γ' v,a'=a.put o.dst v∧Pr γ' (listed.setIfInBounds i true) i v W'∧G γ' (listed.setIfInBounds i true) W'∧∀ j u,listed.getD j false=true→Pr γ listed j u W→Pr γ' (listed.setIfInBounds i true) j u W') Q)
  (hend:∀ γ a W,Each ops a0 (G γ) (Pr γ) (Array.replicate ops.size true) a W→Q .normal a W):(Code.region id ops true).wp P Q a0 w:=by
 refine wp_region_any hm (wpAny_inv (fun listed a W=>∃ γ,Each ops a0 (G γ) (Pr γ) listed a W) ?_ ?_ _ _ _ _ ?_ ⟨γ0,each_start h0⟩)
 ·intro listed a W i ⟨γ,hI⟩ hi
  obtain ⟨h1,o,ho,haf⟩:=mem_ready.1 hi
  have hw:Region.wanted o (yielded ops a.tmps)=true:=by simp [Region.wanted,(apartB_spec hB i o ho).1]
  unfold wpOp
  rw [ho]
  simp only [hw,if_true]
  refine .inl (Oper.wp_mono ?_ (hop i o ho γ listed a W hI h1 haf))
  rintro a' W' ⟨γ',v,rfl,hPr,hG,hst⟩
  exact ⟨γ',each_put n hn hB ho hI h1 haf hPr hG hst⟩
 ·intro listed a W ⟨γ,hI⟩ hr
  exact hend γ a W (each_end n hB hI hr)
 ·unfold leftIn
  exact Nat.le_trans (List.length_filter_le _ _) (by simp)
end
def offH (w:World)(v:Value)(B:Nat):Nat→Option Obj:=fun g=>if v.ownBlock=some g∨g≤B then none else w.heap[g]?
structure Kp (H H':Nat→Option Obj)(γ γ':Nat→Nat):Prop where
 h:∀ g b,H g=some b→H' g=some b
 t:∀ g b,H g=some b→γ' g=γ g
theorem offH_le {w:World}{v:Value}{B:Nat}:∀ g b,offH w v B g=some b→w.heap[g]?=some b:=fun g b h=>by
 unfold offH at h
 split at h
 ·cases h
 ·exact h
theorem offH_lt {w:World}{v:Value}{B:Nat}:∀ g b,offH w v B g=some b→g<w.heap.size:=fun g b h=>(Array.getElem?_eq_some_iff.1 (offH_le g b h)).1
theorem offH_new {w:World}{v:Value}{B base g:Nat}(hv:∀ k,v.ownBlock=some k→k<base)(hB:B<base)(hg:base≤g):offH w v B g=w.heap[g]?:=by
 unfold offH
 rw [if_neg]
 rintro (e | e)
 ·have:=hv _ e;omega
 ·omega
theorem kp_below {w w':World}{v:Value}{B:Nat}{γ γ':Nat→Nat}(hb:Below w.heap.size w w')(hγ:∀ g,g<w.heap.size→γ' g=γ g):Kp (offH w v B) (offH w' v B) γ γ':=by
 refine ⟨fun g b h=>?_,fun g b h=>hγ g (offH_lt g b h)⟩
 have hl:=offH_lt g b h
 unfold offH at h ⊢
 split at h
 ·cases h
 ·rename_i hne
  rw [if_neg hne,hb.block g hl]
  exact h
theorem kp_step {w w':World}{v v':Value}{B:Nat}{γ:Nat→Nat}(hs:Step w v w' v'):Kp (offH w v B) (offH w' v' B) γ γ:=by
 refine ⟨fun g b h=>?_,fun _ _ _=>rfl⟩
 have hl:=offH_lt g b h
 unfold offH at h
 split at h
 ·cases h
 rename_i hne
 have hb:=hs.1.block g hl (fun e=>hne (.inl (by rw [← e])))
 unfold offH
 rw [if_neg,hb]
 ·exact h
 rintro (e | e)
 ·rcases hs.2 with e2 | ⟨g2,e2,hg⟩
  ·rw [e2] at e;exact hne (.inl e)
  ·rw [e2] at e
   injection e with e
   omega
 ·exact hne (.inr e)
theorem kp_set {w:World}{v u:Value}{B b o:Nat}{γ:Nat→Nat}(hb:b≤B):Kp (offH w v B) (offH (w.setCell ⟨b,o,none⟩ u) v B) γ γ:=by
 refine ⟨fun g x h=>?_,fun _ _ _=>rfl⟩
 unfold offH at h ⊢
 split at h
 ·cases h
 ·rename_i hne
  rw [if_neg hne,Below.heap_setCell w ⟨b,o,none⟩ u g (fun e=>hne (.inr (by have:g=b:=e;omega)))]
  exact h
def NsO (H:Nat→Option Obj)(γ:Nat→Nat)(j:Nat)(a:Option Addr)(c:Nat)(ns:List Int):Prop :=
 (a=none∧c=0∧ns=[])∨∃ g cur,a=some ⟨g,0,none⟩∧H g=some (.cells cur 3 (0,0))∧ns.length≤c∧c≤maxLen∧cur.size=c*1∧cur.toList.take ns.length=cellsN ns∧(c=0∨γ g=j)
def NsOwn (H:Nat→Option Obj)(γ:Nat→Nat)(j:Nat)(v:Value)(ns:List Int):Prop:=∃ a c,v=.slice a ns.length c∧NsO H γ j a c ns
def IsO (H:Nat→Option Obj)(a:Option Addr)(cs:List (Int × Int)):Prop:=cs=[]∨∃ g cur,a=some ⟨g,0,none⟩∧H g=some (.cells cur 74 (0,0))∧cur.toList.take (cs.length*2)=cellsI cs
def IsOwn (H:Nat→Option Obj)(v:Value)(cs:List (Int × Int)):Prop:=∃ a c,v=.slice a cs.length c∧IsO H a cs
def FnO (H:Nat→Option Obj)(γ:Nat→Nat)(k:Nat)(f:Fn)(v0 v1 v2 v3:Value):Prop :=
 NsOwn H γ (3*k) v0 f.p∧NsOwn H γ (3*k+1) v1 f.r∧NsOwn H γ (3*k+2) v2 f.l∧IsOwn H v3 f.code
theorem NsO.keep {H H':Nat→Option Obj}{γ γ':Nat→Nat}{j:Nat}{a:Option Addr}{c:Nat}{ns:List Int}(h:NsO H γ j a c ns)(hk:Kp H H' γ γ'):NsO H' γ' j a c ns:=by
 rcases h with h | ⟨g,cur,h1,h2,h3,h4,h5,h6,h7⟩
 ·exact .inl h
 ·exact .inr ⟨g,cur,h1,hk.h _ _ h2,h3,h4,h5,h6,h7.imp id fun e=>(hk.t _ _ h2).trans e⟩
theorem NsOwn.keep {H H':Nat→Option Obj}{γ γ':Nat→Nat}{j:Nat}{v:Value}{ns:List Int}(h:NsOwn H γ j v ns)(hk:Kp H H' γ γ'):NsOwn H' γ' j v ns:=by
 obtain ⟨a,c,e,h⟩:=h
 exact ⟨a,c,e,h.keep hk⟩
theorem IsOwn.keep {H H':Nat→Option Obj}{γ γ':Nat→Nat}{v:Value}{cs:List (Int × Int)}(h:IsOwn H v cs)(hk:Kp H H' γ γ'):IsOwn H' v cs:=by
 obtain ⟨a,c,e,h⟩:=h
 refine ⟨a,c,e,?_⟩
 rcases h with h | ⟨g,cur,h1,h2,h3⟩
 ·exact .inl h
 ·exact .inr ⟨g,cur,h1,hk.h _ _ h2,h3⟩
theorem is_own {W:World}{vF v':Value}{B base n:Nat}{cs:List (Int × Int)}(hv:∀ k,vF.ownBlock=some k→k<base)(hB:B<base)(h:W.ownsRow base 74 2 v' n (cellsI cs)):IsOwn (offH W vF B) v' cs:=by
 have hn:n=cs.length:=by have:=h.1;rw [cellsI_len] at this;omega
 subst hn
 rcases h.2 with ⟨rfl,h0⟩ | ⟨g2,cap,cur,rfl,hg2,hh,hnc,hcm,hcs,htk⟩
 ·exact ⟨none,0,by rw [h0],.inl (List.eq_nil_of_length_eq_zero h0)⟩
 ·exact ⟨_,cap,rfl,.inr ⟨g2,cur,rfl,by rw [offH_new hv hB hg2];exact hh,htk⟩⟩
theorem FnO.keep {H H':Nat→Option Obj}{γ γ':Nat→Nat}{k:Nat}{f:Fn}{v0 v1 v2 v3:Value}(h:FnO H γ k f v0 v1 v2 v3)(hk:Kp H H' γ γ'):FnO H' γ' k f v0 v1 v2 v3:=by
 obtain ⟨h0,h1,h2,h3⟩:=h
 exact ⟨h0.keep hk,h1.keep hk,h2.keep hk,h3.keep hk⟩
def PrO (B F base k:Nat)(vF v0 v1 v2 v3:Value)(f:Fn)(γ:Nat→Nat)(i:Nat)(u:Value)(W:World):Prop :=
 match i with
 | 0=>u=.pointer (some ⟨B,1,none⟩)
 | 1=>u=vF
 | 2=>∃ g,u=.slice (some ⟨g,0,none⟩) 0 0∧base≤g∧W.heap[g]?=some (.cells #[] 3 (0,0))
 | 3=>u=.pointer (some ⟨F,0,none⟩)
 | 4=>u=v0
 | 5=>NsOwn (offH W vF B) γ (3*k) u f.p
 | 6=>∃ g,u=.slice (some ⟨g,0,none⟩) 0 0∧base≤g∧W.heap[g]?=some (.cells #[] 3 (0,0))
 | 7=>u=.pointer (some ⟨F,1,none⟩)
 | 8=>u=v1
 | 9=>NsOwn (offH W vF B) γ (3*k+1) u f.r
 | 10=>∃ g,u=.slice (some ⟨g,0,none⟩) 0 0∧base≤g∧W.heap[g]?=some (.cells #[] 3 (0,0))
 | 11=>u=.pointer (some ⟨F,2,none⟩)
 | 12=>u=v2
 | 13=>NsOwn (offH W vF B) γ (3*k+2) u f.l
 | 14=>∃ g,u=.slice (some ⟨g,0,none⟩) 0 0∧base≤g∧W.heap[g]?=some (.cells #[] 74 (0,0))
 | 15=>u=.pointer (some ⟨F,3,none⟩)
 | 16=>u=v3
 | 17=>IsOwn (offH W vF B) u f.code
 | 18=>∃ u0 u1 u2 u3,u=.agg #[u0,u1,u2,u3]∧FnO (offH W vF B) γ k f u0 u1 u2 u3
 | 19=>∃ g u0 u1 u2 u3,u=.slice (some ⟨g,0,none⟩) 1 1∧W.heap[g]?=some (.cells #[u0,u1,u2,u3] 49 (0,0))∧FnO (offH W vF B) γ k f u0 u1 u2 u3
 | 21=>u=.pointer (some ⟨B,1,none⟩)
 | _=>True
theorem PrO.below {B F base k:Nat}{vF v0 v1 v2 v3:Value}{f:Fn}{γ γ':Nat→Nat}{i:Nat}{u:Value}{W W':World}(h:PrO B F base k vF v0 v1 v2 v3 f γ i u W)(hb:Below W.heap.size W W')(hγ:∀ g,g<W.heap.size→γ' g=γ g):PrO B F base k vF v0 v1 v2 v3 f γ' i u W':=by
 have hk:=kp_below (v:=vF) (B:=B) hb hγ
 unfold PrO at h ⊢
 split at h
 all_goals first
  | exact h
  | exact NsOwn.keep h hk
  | exact IsOwn.keep h hk
  | (obtain ⟨g,rfl,h1,hg⟩:=h;exact ⟨g,rfl,h1,by rw [hb.block g (Array.getElem?_eq_some_iff.1 hg).1];exact hg⟩)
  | (obtain ⟨u0,u1,u2,u3,rfl,hn⟩:=h;exact ⟨u0,u1,u2,u3,rfl,hn.keep hk⟩)
  | (obtain ⟨g,u0,u1,u2,u3,rfl,hg,hn⟩:=h;exact ⟨g,u0,u1,u2,u3,rfl,by rw [hb.block g (Array.getElem?_eq_some_iff.1 hg).1];exact hg,hn.keep hk⟩)
def FRo (H:Nat→Option Obj)(γ:Nat→Nat)(fs:List Fn)(xs:List Value):Prop:=xs.length=fs.length*4∧∀ j (h:j<fs.length),∃ v0 v1 v2 v3,xs[j*4]?=some v0∧xs[j*4+1]?=some v1∧xs[j*4+2]?=some v2∧xs[j*4+3]?=some v3∧FnO H γ j fs[j] v0 v1 v2 v3
theorem FRo.nil (H:Nat→Option Obj)(γ:Nat→Nat):FRo H γ [] []:=⟨rfl,fun j h=>by simp at h⟩
theorem FRo.keep {H H':Nat→Option Obj}{γ γ':Nat→Nat}{fs:List Fn}{xs:List Value}(h:FRo H γ fs xs)(hk:Kp H H' γ γ'):FRo H' γ' fs xs:=by
 refine ⟨h.1,fun j hj=>?_⟩
 obtain ⟨v0,v1,v2,v3,q0,q1,q2,q3,hf⟩:=h.2 j hj
 exact ⟨v0,v1,v2,v3,q0,q1,q2,q3,hf.keep hk⟩
theorem FRo.snoc {H:Nat→Option Obj}{γ:Nat→Nat}{fs:List Fn}{xs:List Value}{f:Fn}{v0 v1 v2 v3:Value}(h:FRo H γ fs xs)(hf:FnO H γ fs.length f v0 v1 v2 v3):FRo H γ (fs++[f]) (xs++[v0,v1,v2,v3]):=by
 refine ⟨by simp [h.1];omega,fun j hj=>?_⟩
 rcases Nat.lt_or_ge j fs.length with hlt | hge
 ·obtain ⟨u0,u1,u2,u3,q0,q1,q2,q3,hg⟩:=h.2 j hlt
  have hx:=h.1
  refine ⟨u0,u1,u2,u3,?_,?_,?_,?_,by rw [List.getElem_append_left hlt];exact hg⟩
  all_goals (rw [List.getElem?_append_left (by omega)];assumption)
 ·have hx:=h.1
  obtain rfl:j=fs.length:=by simp at hj;omega
  refine ⟨v0,v1,v2,v3,?_,?_,?_,?_,by simpa using hf⟩
  all_goals
   rw [List.getElem?_append_right (by omega),hx]
   simp
def NewRo (B k:Nat)(fs:List Fn)(γ:Nat→Nat)(u:Value)(W:World):Prop:=∃ xs,W.ownsRow (B+1) 49 4 u (k+1) xs∧FRo (offH W u B) γ fs xs
theorem NewRo.below {B k:Nat}{fs:List Fn}{γ γ':Nat→Nat}{u:Value}{W W':World}(h:NewRo B k fs γ u W)(hb:Below W.heap.size W W')(hγ:∀ g,g<W.heap.size→γ' g=γ g):NewRo B k fs γ' u W':=by
 obtain ⟨xs,h1,h2⟩:=h
 exact ⟨xs,row_below2 h1 hb,h2.keep (kp_below hb hγ)⟩
def CPo (B F base k:Nat)(vF v0 v1 v2 v3:Value)(f:Fn)(fs:List Fn)(γ:Nat→Nat)(listed:Array Bool)(i:Nat)(u:Value)(W:World):Prop :=
 if i=20 then listed.getD 22 false=true∨NewRo B k fs γ u W else (listed.getD 20 false=true∧i≠21)∨PrO B F base k vF v0 v1 v2 v3 f γ i u W
structure CGo (B F k:Nat)(vS vF v0 v1 v2 v3:Value)(fs:List Fn)(xs0:List Value)(fs0:List Fn)(w3 W5:World)(γ:Nat→Nat)(listed:Array Bool)(W:World):Prop where
 low:Below B w3 W
 size:W5.heap.size≤W.heap.size
 fbox:W.heap[F]?=some (.cells #[v0,v1,v2,v3] 49 (0,0))
 early:listed.getD 20 false=false→Below W5.heap.size W5 W∧FRo (offH W vF B) γ fs0 xs0
 obox:listed.getD 22 false=false→W.heap[B]?=some (.cells #[vS,vF] 27 (0,0))
 fin:listed.getD 22 false=true→∃ u,W.heap[B]?=some (.cells #[vS,u] 27 (0,0))∧NewRo B k fs γ u W
theorem CGo.below {B F k:Nat}{vS vF v0 v1 v2 v3:Value}{fs:List Fn}{xs0:List Value}{fs0:List Fn}{w3 W5:World}{γ γ':Nat→Nat}{listed:Array Bool}{W W':World}(h:CGo B F k vS vF v0 v1 v2 v3 fs xs0 fs0 w3 W5 γ listed W)(hB:B<W.heap.size)(hb:Below W.heap.size W W')(hγ:∀ g,g<W.heap.size→γ' g=γ g){i:Nat}(h1:i≠20)(h2:i≠22):CGo B F k vS vF v0 v1 v2 v3 fs xs0 fs0 w3 W5 γ' (listed.setIfInBounds i true) W':=by
 refine ⟨h.low.trans (hb.mono (by omega)),Nat.le_trans h.size hb.size,?_,?_,?_,?_⟩
 ·rw [hb.block F (Array.getElem?_eq_some_iff.1 h.fbox).1];exact h.fbox
 ·rw [getD_far h1];exact fun e=>⟨(h.early e).1.trans (hb.mono h.size),(h.early e).2.keep (kp_below hb hγ)⟩
 ·rw [getD_far h2];exact fun e=>by rw [hb.block B hB];exact h.obox e
 ·rw [getD_far h2]
  intro e
  obtain ⟨u,q1,q2⟩:=h.fin e
  exact ⟨u,by rw [hb.block B hB];exact q1,q2.below hb hγ⟩
theorem CPo.below {B F base k:Nat}{vF v0 v1 v2 v3:Value}{f:Fn}{fs:List Fn}{γ γ':Nat→Nat}{listed:Array Bool}{W W':World}(hb:Below W.heap.size W W')(hγ:∀ g,g<W.heap.size→γ' g=γ g){i:Nat}(h1:i≠20)(h2:i≠22):∀ j u,listed.getD j false=true→CPo B F base k vF v0 v1 v2 v3 f fs γ listed j u W→CPo B F base k vF v0 v1 v2 v3 f fs γ' (listed.setIfInBounds i true) j u W':=by
 intro j u _ h
 unfold CPo at h ⊢
 rw [getD_far h1,getD_far h2]
 split at h
 ·rename_i e
  rw [if_pos e]
  exact h.imp id fun h=>h.below hb hγ
 ·rename_i e
  rw [if_neg e]
  exact h.imp id fun h=>h.below hb hγ
theorem clone_go {B F base k:Nat}{vS vF v0 v1 v2 v3:Value}{f:Fn}{fs:List Fn}{xs0:List Value}{fs0:List Fn}{w3 W5:World}{γ γ':Nat→Nat}{listed:Array Bool}{W W':World}{a:Act}{dst:Option Tmp}{i:Nat}{v:Value}(hG:CGo B F k vS vF v0 v1 v2 v3 fs xs0 fs0 w3 W5 γ listed W)(hB:B<W.heap.size)(hb:Below W.heap.size W W')(hγ:∀ g,g<W.heap.size→γ' g=γ g)(h1:i≠20)(h2:i≠22)(hv:PrO B F base k vF v0 v1 v2 v3 f γ' i v W') :
  ∃ γ' u,a.put dst v=a.put dst u∧CPo B F base k vF v0 v1 v2 v3 f fs γ' (listed.setIfInBounds i true) i u W'∧CGo B F k vS vF v0 v1 v2 v3 fs xs0 fs0 w3 W5 γ' (listed.setIfInBounds i true) W'∧∀ j u,listed.getD j false=true→CPo B F base k vF v0 v1 v2 v3 f fs γ listed j u W→CPo B F base k vF v0 v1 v2 v3 f fs γ' (listed.setIfInBounds i true) j u W' :=
 ⟨γ',v,rfl,by unfold CPo;rw [if_neg h1];exact .inr hv,hG.below hB hb hγ h1 h2,CPo.below hb hγ h1 h2⟩
theorem run_app1 {P:Program}(w:World){t ty e:TypeId}{size bytes:Nat}(E:ElemN P t e size bytes)(g:Nat)(y:Value)(m:Nat)(news:List Value)(hy:Lies w y m news)(hl:news.length=m*size)(h1:∀ u ∈ news,u.oneCell'=true)
  (h63:m≤maxLen) (hbytes:m*bytes≤140737488355328) :
  ∃ v' w',(Builtin.append_ #[t,t] ty #[.slice (some ⟨g,0,none⟩) 0 0,y]).run P w=.ok v' w'∧((m=0∧v'=.slice (some ⟨g,0,none⟩) 0 0∧w'=w)∨w'.ownsRow w.heap.size e size v' m news)∧Below w.heap.size w w':=by
 obtain ⟨ht,⟨i,z,hi,hz,hsize,hby,hzs⟩,hpos⟩:=E
 by_cases hm:m=0
 ·subst hm
  obtain rfl:news=[]:=List.eq_nil_of_length_eq_zero (by simpa using hl)
  have hs:Src P i.size t y 0 [] w:=by
   rcases hy with ⟨c,rfl,_,_⟩ | ⟨ad,c,rfl,hn⟩
   ·exact Src.ofNil w ht c
   ·exact Src.ofSlice w ht ad 0 c [] (by simp) (fun j u h=>by simp at h) (fun u h=>by cases h)
  have:=run_append_room_src (P:=P) w t t ty e i ht hi g 0 0 0 y 0 [] hs (Nat.le_refl _) (fun j hj=>by simp at hj) (fun j hj=>by simp at hj)
  exact ⟨_,w,by rw [this];rfl,.inl ⟨rfl,rfl,rfl⟩,Below.refl _ _⟩
 ·rcases hy with ⟨c,rfl,rfl,rfl⟩ | ⟨ad,c,rfl,hn⟩
  ·exact absurd rfl hm
  have hs:Src P i.size t (.slice (some ad) m c) m news w:=Src.ofSlice w ht ad m c news (by rw [hsize];exact hl) hn h1
  have hr:=run_append_grow_src (P:=P) w t t ty e i z ht hi hz (some ⟨g,0,none⟩) 0 0 [] (run_firstCells_some w.drew i.size 0 ⟨g,0,none⟩ 0 0 [] (by simp) (fun j u h=>by simp at h)) (.slice (some ad) m c) m news hs (by omega) (by simp only [maxLen] at h63;omega) (growslice_fits (by simp only [maxLen] at h63;omega) (by rw [hby];simpa using hbytes))
  simp only [Nat.zero_add,List.nil_append] at hr
  have hge:=grownCap_ge w m 0 e
  have hcm:grownCap w m 0 e≤maxLen:=grownCap_le_maxLen w m 0 e h63
  refine ⟨_,_,hr,.inr ⟨hl,.inr ⟨w.heap.size,_,_,rfl,Nat.le_refl _,heap_alloc_new w.drew _,hge,hcm,?_,?_⟩⟩,(Below.refl _ w).drew.alloc (Nat.le_refl _) _⟩
  ·simp only [Array.size_append,List.size_toArray,size_zeroCells,hzs,hl]
   rw [← Nat.add_mul]
   congr 1
   omega
  ·rw [Array.toList_append]
   simp only [← hl]
   exact List.take_left
theorem wp_app1 {P:Program}(w:World){o:Oper}{a:Act}{K:Act→World→Prop}{Q:Exit→Act→World→Prop}(s x:Operand)(t:TypeId)(ho:o.op=.call { callee:=.builtin .append,args:=#[s,x],argTypes:=#[t,t] })
  {e:TypeId} {size bytes:Nat} (E:ElemN P t e size bytes) (g:Nat) (hv:a.eval s=.slice (some ⟨g,0,none⟩) 0 0) (y:Value) (hyv:a.eval x=y) (m:Nat) (news:List Value) (hy:Lies w y m news) (hl:news.length=m*size) (h1:∀ u ∈ news,u.oneCell'=true)
  (h63:m≤maxLen) (hbytes:m*bytes≤140737488355328)
  (h:∀ v' w',((m=0∧v'=.slice (some ⟨g,0,none⟩) 0 0∧w'=w)∨w'.ownsRow w.heap.size e size v' m news)→Below w.heap.size w w'→K (a.put o.dst v') w'):o.wp P a w K Q:=by
 obtain ⟨v',w',hr,h2,h3⟩:=run_app1 (P:=P) w (ty:=o.type) E g y m news hy hl h1 h63 hbytes
 unfold Oper.wp execOp
 simp only [ho,resolve,invoke,builtin,Sem.run_bind,Sem.run_pure,Result.andThen_ok,List.map_toArray,List.map_cons,List.map_nil,hv,hyv,hr]
 exact h v' w' h2 h3
theorem row_down {w:World}{base base' n size:Nat}{e:TypeId}{v:Value}{xs:List Value}(h:w.ownsRow base e size v n xs)(hb:base'≤base):w.ownsRow base' e size v n xs:=by
 refine ⟨h.1,?_⟩
 rcases h.2 with h2 | ⟨g,cap,cur,e,hg,r⟩
 ·exact .inl h2
 ·exact .inr ⟨g,cap,cur,e,Nat.le_trans hb hg,r⟩
def tagAt (n:Nat)(γ:Nat→Nat)(j:Nat):Nat→Nat:=fun g=>if g<n then γ g else j
theorem tag_old {n:Nat}{γ:Nat→Nat}{j:Nat}:∀ g,g<n→tagAt n γ j g=γ g:=fun g h=>by unfold tagAt;rw [if_pos h]
theorem own_tag {W W':World}{vF v':Value}{B base g m j:Nat}{γ:Nat→Nat}{ns:List Int}(hm:m=ns.length)(hv:∀ k,vF.ownBlock=some k→k<base)(hB:B<base)(hg:base≤g)(hgl:W.heap[g]?=some (.cells #[] 3 (0,0)))(hbase:base≤W.heap.size)(h:(m=0∧v'=.slice (some ⟨g,0,none⟩) 0 0∧W'=W)∨W'.ownsRow W.heap.size 3 1 v' m (cellsN ns)):NsOwn (offH W' vF B) (tagAt W.heap.size γ j) j v' ns:=by
 subst hm
 rcases h with ⟨h0,rfl,rfl⟩ | h
 ·have hn:ns=[]:=List.eq_nil_of_length_eq_zero h0
  subst hn
  exact ⟨_,0,rfl,.inr ⟨g,#[],rfl,by rw [offH_new hv hB hg];exact hgl,Nat.le_refl _,Nat.zero_le _,rfl,rfl,.inl rfl⟩⟩
 ·rcases h.2 with ⟨rfl,h0⟩ | ⟨g2,cap,cur,rfl,hg2,hh,hnc,hcm,hcs,htk⟩
  ·exact ⟨none,0,by rw [h0],.inl ⟨rfl,rfl,List.eq_nil_of_length_eq_zero h0⟩⟩
  ·refine ⟨_,cap,rfl,.inr ⟨g2,cur,rfl,by rw [offH_new hv hB (by omega)];exact hh,hnc,hcm,hcs,?_,.inr ?_⟩⟩
   ·simpa using htk
   ·unfold tagAt;rw [if_neg (by omega)]
def CloneAll (s:Scr)(w:World)(e:Ending)(w':World):Prop:=∃ u0 u1 xs γ B fb,e=.returned (.agg #[u0,u1])∧Below w.heap.size w w'∧w.heap.size≤B∧B<w'.heap.size∧w'.ownsRow w.heap.size 9 1 u0 s.consts.length (cellsS s.consts)∧w'.ownsRow fb 49 4 u1 s.funcs.length xs∧w.heap.size≤fb∧FRo (offH w' u1 B) γ s.funcs xs
set_option maxRecDepth 100000 in
set_option maxHeartbeats 1000000 in
theorem rclone_all (s:Scr)(v0 v1:Value)(w:World)(hS:ScIs w.cell? s v0 v1)(hfit:s.fits):Calls Tryz.prog 12 #[.agg #[v0,v1]] w (CloneAll s w):=by
 obtain ⟨⟨a0,c0,rfl,h0⟩,⟨a1,c1,rfl,h1⟩⟩:=hS
 obtain ⟨hfc,hff,hfe,_⟩:=hfit
 obtain ⟨N,hN⟩:∃ N,N=s.funcs.length:=⟨_,rfl⟩
 rw [← hN] at hff ⊢
 obtain ⟨M,hM⟩:∃ M,M=s.consts.length:=⟨_,rfl⟩
 have hLC:∀ W,(∀ a v,w.cell? a=some v→W.cell? a=some v)→Lies W (.slice a0 M c0) M (cellsS s.consts):=fun W hk=>by rw [hM];exact (h0.keep hk).lies c0
 have hcl:(cellsS s.consts).length=M*1:=by rw [cellsS_len,hM]
 rw [← hM] at hfc ⊢
 have HN:Hid (N=s.funcs.length):=hN
 have HM:Hid (M=s.consts.length):=hM
 clear hN hM
 have hrow0:(((w.alloc (.cells #[.slice a0 M c0,.slice a1 N c1] 27)).alloc (.cells #[.slice none 0 0,.slice none 0 0] 27)).alloc (.cells #[] 9)).ownsRow (w.heap.size+2) 9 1 (.slice (some ⟨w.heap.size+1+1,0,none⟩) 0 0) 0 []:=by
  have:=row_lit0 ((w.alloc (.cells #[.slice a0 M c0,.slice a1 N c1] 27)).alloc (.cells #[.slice none 0 0,.slice none 0 0] 27)) 9 1 (w.heap.size+2) (by simp)
  simpa only [World.size_alloc] using this
 have hLC0:=hLC (((w.alloc (.cells #[.slice a0 M c0,.slice a1 N c1] 27)).alloc (.cells #[.slice none 0 0,.slice none 0 0] 27)).alloc (.cells #[] 9)) (fun a v h=>keepA _ _ _ _ (keepA _ _ _ _ (keepA _ _ _ _ h)))
 go_enter Tryz.func12,Tryz.ntmps12
 go_wp2_with (at_builtin;go_loud (refine wpList_appN _ rfl _ _ _ rfl elemN_str (w.heap.size+2) _ 0 [] rfl hrow0 _ rfl M (cellsS s.consts) hLC0 hcl (cellsS_one _) (by unfold maxLen;omega) (by omega) (by simp) ?_))
 intro v2 w2 hr2 hs2
 obtain ⟨a2,k2,rfl,hk2,_,_⟩:=row_form hr2
 have HR2:Hid (∀ V,Below w2.heap.size w2 V→V.ownsRow (w.heap.size+2) 9 1 (.slice a2 M k2) M (cellsS s.consts)):=hid fun V h=>row_below2 hr2 h
 obtain ⟨n0,hn0⟩:∃ n0,n0=w.heap.size:=⟨_,rfl⟩
 have e1:w2.heap[w.heap.size]?=some (.cells #[.slice a0 M c0,.slice a1 N c1] 27 (0,0)):=by
  rw [hs2.1.block _ (by simp;omega) (by simp [Value.ownBlock];omega)]
  rw [Below.heap_alloc _ _ _ (by simp;omega),Below.heap_alloc _ _ _ (by simp)]
  exact heap_alloc_new w _
 have e2:w2.heap[w.heap.size+1]?=some (.cells #[.slice none 0 0,.slice none 0 0] 27 (0,0)):=by
  rw [hs2.1.block _ (by simp) (by simp [Value.ownBlock])]
  rw [Below.heap_alloc _ _ _ (by simp)]
  have:=heap_alloc_new (w.alloc (.cells #[.slice a0 M c0,.slice a1 N c1] 27)) (.cells #[.slice none 0 0,.slice none 0 0] 27)
  simpa using this
 have hbw2:Below w.heap.size w w2:=((((Below.refl _ w).alloc (Nat.le_refl _) _).alloc (by simp) _).alloc (by simp;omega) _).trans (hs2.below (by simp;omega) (fun k h=>by simp [Value.ownBlock] at h;omega))
 clear hs2 hrow0 hLC0 hLC hcl hr2
 have hw3:Below w2.heap.size w2 (w2.alloc (.cells #[.slice a2 M k2,.slice none 0 0] 27)):=(Below.refl _ w2).alloc (Nat.le_refl _) _
 have hB3:=heap_alloc_new w2 (.cells #[.slice a2 M k2,.slice none 0 0] 27)
 go_wp2
 generalize w2.alloc (.cells #[.slice a2 M k2,.slice none 0 0] 27)=w3 at *
 have e1':=(hw3.block _ (Array.getElem?_eq_some_iff.1 e1).1).trans e1
 have e2':=(hw3.block _ (Array.getElem?_eq_some_iff.1 e2).1).trans e2
 have l1:=(Array.getElem?_eq_some_iff.1 e1).1
 have l2:=(Array.getElem?_eq_some_iff.1 e2).1
 have lB:=(Array.getElem?_eq_some_iff.1 hB3).1
 generalize w2.heap.size=B at *
 clear e1 e2
 go_loopw [4] (fun i wr=>∃ (k:Nat) (vF:Value) (xs:List Value) (γ:Nat→Nat),k≤N∧i=.int .i64 k∧wr.heap[B]?=some (.cells #[.slice a2 M k2,vF] 27 (0,0))∧wr.ownsRow (B+1) 49 4 vF k xs∧Hid (FRo (offH wr vF B) γ (s.funcs.take k) xs)∧Below B w3 wr) (fun i _=>N - (intOf i).toNat)
 case atStart=>exact ⟨0,.slice none 0 0,[],fun _=>0,Nat.zero_le _,rfl,hB3,World.ownsRow_nil _ _ _ _,FRo.nil _ _,Below.refl _ _⟩
 case round =>
  obtain ⟨k,vF,xs,γ0,hk,rfl,hob,hrow,hFR,hlow⟩:=hrel
  have eP:=(hlow.block _ l1).trans e1'
  have eR:=(hlow.block _ l2).trans e2'
  have p1:wr.cell? ⟨w.heap.size,1,none⟩=some (.slice a1 N c1):=by rw [Lib.cell_of_heap eP];rfl
  by_cases hlt:k<N
  ·rcases h1 with hz | ⟨fb,fo,rfl,hfc⟩
   ·have:=HN.out;rw [hz] at this;simp at this;omega
   have hkl:k<s.funcs.length:=by have:=HN.out;omega
   obtain ⟨v0,v1,v2,v3,q0,q1,q2,q3,hfn⟩:=hfc k hkl
   have hkeep:∀ a v,w.cell? a=some v→wr.cell? a=some v:=fun a v h=>by
    have hb3:Below w.heap.size w w3:=hbw2.trans (hw3.mono (by omega))
    have hb4:Below w.heap.size w wr:=hb3.trans (hlow.mono (by omega))
    exact below_keep hb4 a v h
   replace q0:=hkeep _ _ q0
   replace q1:=hkeep _ _ q1
   replace q2:=hkeep _ _ q2
   replace q3:=hkeep _ _ q3
   have HT:Hid (s.funcs.take (k+1)=s.funcs.take k++[s.funcs[k]]):=hid (by rw [List.take_add_one,List.getElem?_eq_getElem hkl];rfl)
   have hff2:=hfe s.funcs[k] (by simp)
   generalize s.funcs[k]=f at hfn HT hff2
   obtain ⟨⟨b0,d0,rfl,g0⟩,⟨b1,d1,rfl,g1⟩,⟨b2,d2,rfl,g2⟩,⟨b3,d3,rfl,g3⟩⟩:=hfn
   obtain ⟨m0,hm0⟩:∃ m0,m0=f.p.length:=⟨_,rfl⟩
   obtain ⟨m1,hm1⟩:∃ m1,m1=f.r.length:=⟨_,rfl⟩
   obtain ⟨m2,hm2⟩:∃ m2,m2=f.l.length:=⟨_,rfl⟩
   obtain ⟨m3,hm3⟩:∃ m3,m3=f.code.length:=⟨_,rfl⟩
   rw [← hm0] at q0
   rw [← hm1] at q1
   rw [← hm2] at q2
   rw [← hm3] at q3
   have HM0:=hid hm0
   have HM1:=hid hm1
   have HM2:=hid hm2
   have HM3:=hid hm3
   clear hm0 hm1 hm2 hm3 hfc
   go_wp2
   -- REGION 6
   have hvFl:∀ j,vF.ownBlock=some j→j<wr.heap.size+1:=fun j h=>by have:=(hrow.lt j h).2;omega
   have hvFB:∀ j,vF.ownBlock=some j→B+1≤j:=fun j h=>(hrow.lt j h).1
   have hBr:B<wr.heap.size:=(Array.getElem?_eq_some_iff.1 hob).1
   have hLies:∀ W,Below B w3 W→Lies W (.slice b0 m0 d0) m0 (cellsN f.p)∧Lies W (.slice b1 m1 d1) m1 (cellsN f.r)∧Lies W (.slice b2 m2 d2) m2 (cellsN f.l)∧Lies W (.slice b3 m3 d3) m3 (cellsI f.code):=fun W hW=>by
    have hk3:∀ a v,w.cell? a=some v→W.cell? a=some v:=below_keep ((hbw2.trans (hw3.mono (by omega))).trans (hW.mono (by omega)))
    refine ⟨?_,?_,?_,?_⟩
    ·rw [HM0.out];exact (g0.keep hk3).lies d0
    ·rw [HM1.out];exact (g1.keep hk3).lies d1
    ·rw [HM2.out];exact (g2.keep hk3).lies d2
    ·rw [HM3.out];exact (g3.keep hk3).lies d3
   have hl0:(cellsN f.p).length=m0*1:=by rw [cellsN_len,HM0.out]
   have hl1:(cellsN f.r).length=m1*1:=by rw [cellsN_len,HM1.out]
   have hl2:(cellsN f.l).length=m2*1:=by rw [cellsN_len,HM2.out]
   have hl3:(cellsI f.code).length=m3*2:=by rw [cellsI_len,HM3.out]
   obtain ⟨z0,z1,z2,z3⟩:=hff2
   rw [← HM0.out] at z0
   rw [← HM1.out] at z1
   rw [← HM2.out] at z2
   rw [← HM3.out] at z3
   refine wp_region_ghost (by kernel_rfl) 46 rfl (by kernel_rfl) (CGo B wr.heap.size k (.slice a2 M k2) vF (.slice b0 m0 d0) (.slice b1 m1 d1) (.slice b2 m2 d2) (.slice b3 m3 d3) (s.funcs.take (k+1)) xs (s.funcs.take k) w3 (wr.alloc (.cells #[.slice b0 m0 d0,.slice b1 m1 d1,.slice b2 m2 d2,.slice b3 m3 d3] 49))) (CPo B wr.heap.size (wr.heap.size+1) k vF (.slice b0 m0 d0) (.slice b1 m1 d1) (.slice b2 m2 d2) (.slice b3 m3 d3) f (s.funcs.take (k+1))) γ0 ?start ?each ?fin
   case start =>
    refine ⟨(hlow.alloc (by omega) _).drew,by simp,heap_alloc_new wr _,fun _=>⟨(Below.refl _ _).drew,hFR.out.keep (kp_below ((Below.refl _ wr).alloc (Nat.le_refl _) _).drew fun _ _=>rfl)⟩,fun _=>?_,fun h=>by simp at h⟩
    exact (Below.heap_alloc wr _ B hBr).trans hob
   case each =>
    intro i o ho γ listed a W hE hnl haf
    have hi:i<23:=(Array.getElem?_eq_some_iff.1 ho).1
    have t3:a.tmps[3]?.getD undef=.pointer (some ⟨B,0,none⟩):=hE.rest 3 (rest_of (by kernel_rfl))
    have t5:a.tmps[5]?.getD undef=.pointer (some ⟨wr.heap.size,0,none⟩):=hE.rest 5 (rest_of (by kernel_rfl))
    have hG:=hE.glob
    have hsW:wr.heap.size+1≤W.heap.size:=by have:=hG.size;simpa using this
    have hBW:B<W.heap.size:=by omega
    have hoff:=getD_off hnl
    have c20:listed.getD 20 false=true→∀ j,j≤19→listed.getD j false=true:=fun h=>by
     have l1:=hE.closed 20 _ rfl h ⟨1,.data⟩ (by simp) rfl
     have l19:=hE.closed 20 _ rfl h ⟨19,.data⟩ (by simp) rfl
     have l18:=hE.closed 19 _ rfl l19 ⟨18,.data⟩ (by simp) rfl
     have l5:=hE.closed 18 _ rfl l18 ⟨5,.data⟩ (by simp) rfl
     have l9:=hE.closed 18 _ rfl l18 ⟨9,.data⟩ (by simp) rfl
     have l13:=hE.closed 18 _ rfl l18 ⟨13,.data⟩ (by simp) rfl
     have l17:=hE.closed 18 _ rfl l18 ⟨17,.data⟩ (by simp) rfl
     have l0:=hE.closed 1 _ rfl l1 ⟨0,.data⟩ (by simp) rfl
     have l2:=hE.closed 5 _ rfl l5 ⟨2,.data⟩ (by simp) rfl
     have l4:=hE.closed 5 _ rfl l5 ⟨4,.data⟩ (by simp) rfl
     have l3:=hE.closed 4 _ rfl l4 ⟨3,.data⟩ (by simp) rfl
     have l6:=hE.closed 9 _ rfl l9 ⟨6,.data⟩ (by simp) rfl
     have l8:=hE.closed 9 _ rfl l9 ⟨8,.data⟩ (by simp) rfl
     have l7:=hE.closed 8 _ rfl l8 ⟨7,.data⟩ (by simp) rfl
     have l10:=hE.closed 13 _ rfl l13 ⟨10,.data⟩ (by simp) rfl
     have l12:=hE.closed 13 _ rfl l13 ⟨12,.data⟩ (by simp) rfl
     have l11:=hE.closed 12 _ rfl l12 ⟨11,.data⟩ (by simp) rfl
     have l14:=hE.closed 17 _ rfl l17 ⟨14,.data⟩ (by simp) rfl
     have l16:=hE.closed 17 _ rfl l17 ⟨16,.data⟩ (by simp) rfl
     have l15:=hE.closed 16 _ rfl l16 ⟨15,.data⟩ (by simp) rfl
     intro j hj
     match j,hj with
     | 0,_=>exact l0
     | 1,_=>exact l1
     | 2,_=>exact l2
     | 3,_=>exact l3
     | 4,_=>exact l4
     | 5,_=>exact l5
     | 6,_=>exact l6
     | 7,_=>exact l7
     | 8,_=>exact l8
     | 9,_=>exact l9
     | 10,_=>exact l10
     | 11,_=>exact l11
     | 12,_=>exact l12
     | 13,_=>exact l13
     | 14,_=>exact l14
     | 15,_=>exact l15
     | 16,_=>exact l16
     | 17,_=>exact l17
     | 18,_=>exact l18
     | 19,_=>exact l19
     | j+20,h=>omega
    have c22:listed.getD 22 false=true→listed.getD 20 false=true:=fun h=>hE.closed 22 _ rfl h ⟨20,.data⟩ (by simp) rfl
    have n20:i≤19→listed.getD 20 false=false:=fun h=>by
     cases hh:listed.getD 20 false with
     | false=>rfl
     | true=>rw [c20 hh i h] at hoff;cases hoff
    have n22:i≤20→listed.getD 22 false=false:=fun h=>by
     cases hh:listed.getD 22 false with
     | false=>rfl
     | true =>
      have h20:=c22 hh
      rcases Nat.lt_or_ge i 20 with h1 | h1
      ·rw [n20 (by omega)] at h20;cases h20
      ·obtain rfl:i=20:=by omega
       rw [hoff] at h20;cases h20
    have dep:∀ (j:Nat) (t:Nat) (oj:Oper),listed.getD 20 false=false→(_:Array Oper)[j]?=some oj→listed.getD j false=true→oj.dst=some t→j≠20→PrO B wr.heap.size (wr.heap.size+1) k vF (.slice b0 m0 d0) (.slice b1 m1 d1) (.slice b2 m2 d2) (.slice b3 m3 d3) f γ j (a.tmps[t]?.getD undef) W:=fun j t oj h20 hj hl ht hne=>by
     have:=hE.vals j oj t hj hl ht
     unfold CPo at this
     rw [if_neg hne,h20] at this
     rcases this with ⟨h,_⟩ | h
     ·cases h
     ·exact h
    match i,hi,ho,hnl,haf,hoff,n20,n22 with
    | 0,_,ho,hnl,haf,hoff,n20,n22 =>
     obtain rfl:=Option.some.inj ho
     exact op_value (v:=.pointer (some ⟨B,1,none⟩)) (W':=W) (by simp [execOp,go_sem,t3]) (clone_go hG hBW (Below.refl _ _) (γ':=γ) (fun _ _=>rfl) (by decide) (by decide) rfl)
    | 1,_,ho,hnl,haf,hoff,n20,n22 =>
     obtain rfl:=Option.some.inj ho
     have h:=dep 0 23 _ (n20 (by decide)) rfl (haf ⟨0,.data⟩ (by simp) rfl) rfl (by decide)
     simp only [PrO] at h
     have hc:W.cell? ⟨B,1,none⟩=some vF:=by rw [Lib.cell_of_heap (hG.obox (n22 (by decide)))];rfl
     exact op_value (v:=vF) (W':=W) (by simp [execOp,go_sem,h,hc]) (clone_go hG hBW (Below.refl _ _) (γ':=γ) (fun _ _=>rfl) (by decide) (by decide) rfl)
    | 2,_,ho,hnl,haf,hoff,n20,n22 =>
     obtain rfl:=Option.some.inj ho
     exact op_value (v:=.slice (some ⟨W.heap.size,0,none⟩) 0 0) (W':=W.alloc (.cells #[] 3)) (by simp [execOp,go_sem]) (clone_go hG hBW ((Below.refl _ W).alloc (Nat.le_refl _) _) (γ':=γ) (fun _ _=>rfl) (by decide) (by decide) ⟨_,rfl,hsW,heap_alloc_new W _⟩)
    | 3,_,ho,hnl,haf,hoff,n20,n22 =>
     obtain rfl:=Option.some.inj ho
     exact op_value (v:=.pointer (some ⟨wr.heap.size,0,none⟩)) (W':=W) (by simp [execOp,go_sem,t5]) (clone_go hG hBW (Below.refl _ _) (γ':=γ) (fun _ _=>rfl) (by decide) (by decide) rfl)
    | 4,_,ho,hnl,haf,hoff,n20,n22 =>
     obtain rfl:=Option.some.inj ho
     have h:=dep 3 26 _ (n20 (by decide)) rfl (haf ⟨3,.data⟩ (by simp) rfl) rfl (by decide)
     simp only [PrO] at h
     have hc:W.cell? ⟨wr.heap.size,0,none⟩=some (.slice b0 m0 d0):=by rw [Lib.cell_of_heap hG.fbox];rfl
     exact op_value (v:=.slice b0 m0 d0) (W':=W) (by simp [execOp,go_sem,h,hc]) (clone_go hG hBW (Below.refl _ _) (γ':=γ) (fun _ _=>rfl) (by decide) (by decide) rfl)
    | 5,_,ho,hnl,haf,hoff,n20,n22 =>
     obtain rfl:=Option.some.inj ho
     have hL:=dep 2 25 _ (n20 (by decide)) rfl (haf ⟨2,.data⟩ (by simp) rfl) rfl (by decide)
     have hS:=dep 4 27 _ (n20 (by decide)) rfl (haf ⟨4,.data⟩ (by simp) rfl) rfl (by decide)
     simp only [PrO] at hL hS
     obtain ⟨g,hu,hgb,hgl⟩:=hL
     refine wp_app1 W (.tmp 25) (.tmp 27) 28 rfl elemN_int g ((eval_tmp _ _).trans hu) _ ((eval_tmp _ _).trans hS) m0 (cellsN f.p) (hLies W hG.low).1 hl0 (cellsN_one _) (by unfold maxLen;omega) (by omega) ?_
     intro v' W' hr' hb'
     exact clone_go hG hBW hb' tag_old (by decide) (by decide) (own_tag (j:=3*k) HM0.out hvFl (by omega) hgb hgl hsW hr')
    | 6,_,ho,hnl,haf,hoff,n20,n22 =>
     obtain rfl:=Option.some.inj ho
     exact op_value (v:=.slice (some ⟨W.heap.size,0,none⟩) 0 0) (W':=W.alloc (.cells #[] 3)) (by simp [execOp,go_sem]) (clone_go hG hBW ((Below.refl _ W).alloc (Nat.le_refl _) _) (γ':=γ) (fun _ _=>rfl) (by decide) (by decide) ⟨_,rfl,hsW,heap_alloc_new W _⟩)
    | 7,_,ho,hnl,haf,hoff,n20,n22 =>
     obtain rfl:=Option.some.inj ho
     exact op_value (v:=.pointer (some ⟨wr.heap.size,1,none⟩)) (W':=W) (by simp [execOp,go_sem,t5]) (clone_go hG hBW (Below.refl _ _) (γ':=γ) (fun _ _=>rfl) (by decide) (by decide) rfl)
    | 8,_,ho,hnl,haf,hoff,n20,n22 =>
     obtain rfl:=Option.some.inj ho
     have h:=dep 7 30 _ (n20 (by decide)) rfl (haf ⟨7,.data⟩ (by simp) rfl) rfl (by decide)
     simp only [PrO] at h
     have hc:W.cell? ⟨wr.heap.size,1,none⟩=some (.slice b1 m1 d1):=by rw [Lib.cell_of_heap hG.fbox];rfl
     exact op_value (v:=.slice b1 m1 d1) (W':=W) (by simp [execOp,go_sem,h,hc]) (clone_go hG hBW (Below.refl _ _) (γ':=γ) (fun _ _=>rfl) (by decide) (by decide) rfl)
    | 9,_,ho,hnl,haf,hoff,n20,n22 =>
     obtain rfl:=Option.some.inj ho
     have hL:=dep 6 29 _ (n20 (by decide)) rfl (haf ⟨6,.data⟩ (by simp) rfl) rfl (by decide)
     have hS:=dep 8 31 _ (n20 (by decide)) rfl (haf ⟨8,.data⟩ (by simp) rfl) rfl (by decide)
     simp only [PrO] at hL hS
     obtain ⟨g,hu,hgb,hgl⟩:=hL
     refine wp_app1 W (.tmp 29) (.tmp 31) 28 rfl elemN_int g ((eval_tmp _ _).trans hu) _ ((eval_tmp _ _).trans hS) m1 (cellsN f.r) (hLies W hG.low).2.1 hl1 (cellsN_one _) (by unfold maxLen;omega) (by omega) ?_
     intro v' W' hr' hb'
     exact clone_go hG hBW hb' tag_old (by decide) (by decide) (own_tag (j:=3*k+1) HM1.out hvFl (by omega) hgb hgl hsW hr')
    | 10,_,ho,hnl,haf,hoff,n20,n22 =>
     obtain rfl:=Option.some.inj ho
     exact op_value (v:=.slice (some ⟨W.heap.size,0,none⟩) 0 0) (W':=W.alloc (.cells #[] 3)) (by simp [execOp,go_sem]) (clone_go hG hBW ((Below.refl _ W).alloc (Nat.le_refl _) _) (γ':=γ) (fun _ _=>rfl) (by decide) (by decide) ⟨_,rfl,hsW,heap_alloc_new W _⟩)
    | 11,_,ho,hnl,haf,hoff,n20,n22 =>
     obtain rfl:=Option.some.inj ho
     exact op_value (v:=.pointer (some ⟨wr.heap.size,2,none⟩)) (W':=W) (by simp [execOp,go_sem,t5]) (clone_go hG hBW (Below.refl _ _) (γ':=γ) (fun _ _=>rfl) (by decide) (by decide) rfl)
    | 12,_,ho,hnl,haf,hoff,n20,n22 =>
     obtain rfl:=Option.some.inj ho
     have h:=dep 11 34 _ (n20 (by decide)) rfl (haf ⟨11,.data⟩ (by simp) rfl) rfl (by decide)
     simp only [PrO] at h
     have hc:W.cell? ⟨wr.heap.size,2,none⟩=some (.slice b2 m2 d2):=by rw [Lib.cell_of_heap hG.fbox];rfl
     exact op_value (v:=.slice b2 m2 d2) (W':=W) (by simp [execOp,go_sem,h,hc]) (clone_go hG hBW (Below.refl _ _) (γ':=γ) (fun _ _=>rfl) (by decide) (by decide) rfl)
    | 13,_,ho,hnl,haf,hoff,n20,n22 =>
     obtain rfl:=Option.some.inj ho
     have hL:=dep 10 33 _ (n20 (by decide)) rfl (haf ⟨10,.data⟩ (by simp) rfl) rfl (by decide)
     have hS:=dep 12 35 _ (n20 (by decide)) rfl (haf ⟨12,.data⟩ (by simp) rfl) rfl (by decide)
     simp only [PrO] at hL hS
     obtain ⟨g,hu,hgb,hgl⟩:=hL
     refine wp_app1 W (.tmp 33) (.tmp 35) 28 rfl elemN_int g ((eval_tmp _ _).trans hu) _ ((eval_tmp _ _).trans hS) m2 (cellsN f.l) (hLies W hG.low).2.2.1 hl2 (cellsN_one _) (by unfold maxLen;omega) (by omega) ?_
     intro v' W' hr' hb'
     exact clone_go hG hBW hb' tag_old (by decide) (by decide) (own_tag (j:=3*k+2) HM2.out hvFl (by omega) hgb hgl hsW hr')
    | 14,_,ho,hnl,haf,hoff,n20,n22 =>
     obtain rfl:=Option.some.inj ho
     exact op_value (v:=.slice (some ⟨W.heap.size,0,none⟩) 0 0) (W':=W.alloc (.cells #[] 74)) (by simp [execOp,go_sem]) (clone_go hG hBW ((Below.refl _ W).alloc (Nat.le_refl _) _) (γ':=γ) (fun _ _=>rfl) (by decide) (by decide) ⟨_,rfl,hsW,heap_alloc_new W _⟩)
    | 15,_,ho,hnl,haf,hoff,n20,n22 =>
     obtain rfl:=Option.some.inj ho
     exact op_value (v:=.pointer (some ⟨wr.heap.size,3,none⟩)) (W':=W) (by simp [execOp,go_sem,t5]) (clone_go hG hBW (Below.refl _ _) (γ':=γ) (fun _ _=>rfl) (by decide) (by decide) rfl)
    | 16,_,ho,hnl,haf,hoff,n20,n22 =>
     obtain rfl:=Option.some.inj ho
     have h:=dep 15 38 _ (n20 (by decide)) rfl (haf ⟨15,.data⟩ (by simp) rfl) rfl (by decide)
     simp only [PrO] at h
     have hc:W.cell? ⟨wr.heap.size,3,none⟩=some (.slice b3 m3 d3):=by rw [Lib.cell_of_heap hG.fbox];rfl
     exact op_value (v:=.slice b3 m3 d3) (W':=W) (by simp [execOp,go_sem,h,hc]) (clone_go hG hBW (Below.refl _ _) (γ':=γ) (fun _ _=>rfl) (by decide) (by decide) rfl)
    | 17,_,ho,hnl,haf,hoff,n20,n22 =>
     obtain rfl:=Option.some.inj ho
     have hL:=dep 14 37 _ (n20 (by decide)) rfl (haf ⟨14,.data⟩ (by simp) rfl) rfl (by decide)
     have hS:=dep 16 39 _ (n20 (by decide)) rfl (haf ⟨16,.data⟩ (by simp) rfl) rfl (by decide)
     simp only [PrO] at hL hS
     obtain ⟨g,hu,hgb,hgl⟩:=hL
     refine wp_app0 W (.tmp 37) (.tmp 39) 47 rfl elemN_ins (wr.heap.size+1) g hgb hgl ((eval_tmp _ _).trans hu) _ ((eval_tmp _ _).trans hS) m3 (cellsI f.code) (hLies W hG.low).2.2.2 hl3 (cellsI_one _) (by unfold maxLen;omega) (by omega) hsW ?_
     intro v' W' hr' hb'
     exact (clone_go hG hBW hb' (γ':=γ) (fun _ _=>rfl) (by decide) (by decide) (is_own hvFl (by omega) hr'))
    | 18,_,ho,hnl,haf,hoff,n20,n22 =>
     obtain rfl:=Option.some.inj ho
     have h5:=dep 5 28 _ (n20 (by decide)) rfl (haf ⟨5,.data⟩ (by simp) rfl) rfl (by decide)
     have h9:=dep 9 32 _ (n20 (by decide)) rfl (haf ⟨9,.data⟩ (by simp) rfl) rfl (by decide)
     have h13:=dep 13 36 _ (n20 (by decide)) rfl (haf ⟨13,.data⟩ (by simp) rfl) rfl (by decide)
     have h17:=dep 17 40 _ (n20 (by decide)) rfl (haf ⟨17,.data⟩ (by simp) rfl) rfl (by decide)
     simp only [PrO] at h5 h9 h13 h17
     obtain ⟨x0,y0,e0,r0⟩:=h5
     obtain ⟨x1,y1,e1,r1⟩:=h9
     obtain ⟨x2,y2,e2,r2⟩:=h13
     obtain ⟨x3,y3,e3,r3⟩:=h17
     exact op_value (v:=.agg #[.slice x0 f.p.length y0,.slice x1 f.r.length y1,.slice x2 f.l.length y2,.slice x3 f.code.length y3]) (W':=W) (by simp [execOp,go_sem,e0,e1,e2,e3]) (clone_go hG hBW (Below.refl _ _) (γ':=γ) (fun _ _=>rfl) (by decide) (by decide) ⟨_,_,_,_,rfl,⟨x0,y0,rfl,r0⟩,⟨x1,y1,rfl,r1⟩,⟨x2,y2,rfl,r2⟩,⟨x3,y3,rfl,r3⟩⟩)
    | 19,_,ho,hnl,haf,hoff,n20,n22 =>
     obtain rfl:=Option.some.inj ho
     have h:=dep 18 41 _ (n20 (by decide)) rfl (haf ⟨18,.data⟩ (by simp) rfl) rfl (by decide)
     simp only [PrO] at h
     obtain ⟨u0,u1,u2,u3,e,r⟩:=h
     obtain ⟨⟨x0,y0,rfl,r0⟩,⟨x1,y1,rfl,r1⟩,⟨x2,y2,rfl,r2⟩,⟨x3,y3,rfl,r3⟩⟩:=r
     have hkp:=kp_below (v:=vF) (B:=B) (γ:=γ) (γ':=γ) ((Below.refl _ W).alloc (Nat.le_refl _) (.cells #[.slice x0 f.p.length y0,.slice x1 f.r.length y1,.slice x2 f.l.length y2,.slice x3 f.code.length y3] 49)) (fun _ _=>rfl)
     exact op_value (v:=.slice (some ⟨W.heap.size,0,none⟩) 1 1) (W':=W.alloc (.cells #[.slice x0 f.p.length y0,.slice x1 f.r.length y1,.slice x2 f.l.length y2,.slice x3 f.code.length y3] 49)) (by simp [execOp,go_sem,e]) (clone_go hG hBW ((Below.refl _ W).alloc (Nat.le_refl _) _) (γ':=γ) (fun _ _=>rfl) (by decide) (by decide) ⟨_,_,_,_,_,rfl,heap_alloc_new W _,⟨x0,y0,rfl,r0.keep hkp⟩,⟨x1,y1,rfl,r1.keep hkp⟩,⟨x2,y2,rfl,r2.keep hkp⟩,IsOwn.keep ⟨x3,y3,rfl,r3⟩ hkp⟩)
    | 20,_,ho,hnl,haf,hoff,n20,n22 =>
     obtain rfl:=Option.some.inj ho
     have h1:=dep 1 24 _ hoff rfl (haf ⟨1,.data⟩ (by simp) rfl) rfl (by decide)
     have h19:=dep 19 42 _ hoff rfl (haf ⟨19,.data⟩ (by simp) rfl) rfl (by decide)
     simp only [PrO] at h1 h19
     obtain ⟨g,u0,u1,u2,u3,e,hg,r⟩:=h19
     have hE5:Below wr.heap.size wr W:=((Below.refl _ wr).alloc (Nat.le_refl _) _).trans ((hG.early hoff).1.mono (by simp))
     have hrowW:=row_below2 hrow hE5
     have hFW:FRo (offH W vF B) γ (s.funcs.take (k+1)) (xs++[u0,u1,u2,u3]):=by rw [HT.out];exact (hG.early hoff).2.snoc (by rw [List.length_take,Nat.min_eq_left (by omega)];exact r)
     obtain ⟨⟨x0,y0,rfl,r0⟩,⟨x1,y1,rfl,r1⟩,⟨x2,y2,rfl,r2⟩,⟨x3,y3,rfl,r3⟩⟩:=r
     refine wp_appN W (.tmp 24) (.tmp 42) 25 rfl elemN_fn (B+1) vF k xs ((eval_tmp _ _).trans h1) hrowW _ ((eval_tmp _ _).trans e) 1 [.slice x0 f.p.length y0,.slice x1 f.r.length y1,.slice x2 f.l.length y2,.slice x3 f.code.length y3] (.inr ⟨⟨g,0,none⟩,1,rfl,World.news_of_block hg⟩) rfl (by intro u hu;simp at hu;rcases hu with rfl | rfl | rfl | rfl <;> rfl) (by unfold maxLen;omega) (by omega) (by omega) ?_
     intro v' W' hr' hs'
     refine ⟨γ,v',rfl,?_,⟨hG.low.trans (hs'.below (by omega) (fun j h=>by have:=hvFB j h;omega)),Nat.le_trans hG.size hs'.size,?_,fun h=>?_,fun _=>?_,fun h=>?_⟩,?_⟩
     ·unfold CPo;rw [if_pos rfl];exact .inr ⟨_,hr',hFW.keep (kp_step hs')⟩
     ·rw [hs'.1.block _ (by omega) (fun h=>by have:=(hrow.lt _ h.symm).2;omega)];exact hG.fbox
     ·rw [getD_set,if_pos ⟨rfl,getD_lt hnl⟩] at h;cases h
     ·rw [hs'.1.block _ hBW (fun h=>by have:=hvFB _ h.symm;omega)];exact hG.obox (n22 (by decide))
     ·rw [getD_far (by decide),n22 (by decide)] at h;cases h
     ·intro j u hj hP
      have hset:(listed.setIfInBounds 20 true).getD 20 false=true:=by rw [getD_set,if_pos ⟨rfl,getD_lt hnl⟩]
      unfold CPo at hP ⊢
      rw [hset,getD_far (by decide:(20:Nat)≠22)]
      by_cases hj20:j=20
      ·subst hj20;rw [hoff] at hj;cases hj
      ·rw [if_neg hj20] at hP ⊢
       by_cases hj21:j=21
       ·subst hj21
        rcases hP with ⟨_,h⟩ | h
        ·exact absurd rfl h
        ·exact .inr h
       ·exact .inl ⟨rfl,hj21⟩
    | 21,_,ho,hnl,haf,hoff,n20,n22 =>
     obtain rfl:=Option.some.inj ho
     exact op_value (v:=.pointer (some ⟨B,1,none⟩)) (W':=W) (by simp [execOp,go_sem,t3]) (clone_go hG hBW (Below.refl _ _) (γ':=γ) (fun _ _=>rfl) (by decide) (by decide) rfl)
    | 22,_,ho,hnl,haf,hoff,n20,n22 =>
     obtain rfl:=Option.some.inj ho
     have l20:=haf ⟨20,.data⟩ (by simp) rfl
     have l21:=haf ⟨21,.data⟩ (by simp) rfl
     have h21:a.tmps[44]?.getD undef=.pointer (some ⟨B,1,none⟩):=by
      have:=hE.vals 21 _ 44 rfl l21 rfl
      unfold CPo at this
      rw [if_neg (by decide)] at this
      rcases this with ⟨_,h⟩ | h
      ·exact absurd rfl h
      ·exact h
     have h20:NewRo B k (s.funcs.take (k+1)) γ (a.tmps[43]?.getD undef) W:=by
      have:=hE.vals 20 _ 43 rfl l20 rfl
      unfold CPo at this
      rw [if_pos rfl,hoff] at this
      rcases this with h | h
      ·cases h
      ·exact h
     obtain ⟨u,hu⟩:∃ u,u=a.tmps[43]?.getD undef:=⟨_,rfl⟩
     rw [← hu] at h20
     have hu:=hu.symm
     have hob':=hG.obox hoff
     have hc1:W.cell? ⟨B,1,none⟩=some vF:=by rw [Lib.cell_of_heap hob'];rfl
     have hf1:=Lib.frozen_of_heap hob' 1
     obtain ⟨xs',hr',hF'⟩:=h20
     obtain ⟨ua,uc,rfl,_,_,_⟩:=row_form hr'
     refine op_skip (W':=W.setCell ⟨B,1,none⟩ (.slice ua (k+1) uc)) (by simp [execOp,go_sem,h21,hu,hc1,hf1]) ⟨γ,undef,rfl,?_,⟨hG.low.setCell (p:=⟨B,1,none⟩) (Nat.le_refl _) _,by simpa using hG.size,?_,fun h=>?_,fun h=>?_,fun _=>⟨.slice ua (k+1) uc,?_,xs',?_,hF'.keep (kp_set (Nat.le_refl _))⟩⟩,?_⟩
     ·unfold CPo;rw [if_neg (by decide)];exact .inr trivial
     ·rw [Below.heap_setCell _ _ _ _ (by simp;omega)];exact hG.fbox
     ·rw [getD_far (by decide),l20] at h;cases h
     ·rw [getD_set,if_pos ⟨rfl,getD_lt hnl⟩] at h;cases h
     ·simp [World.setCell,Array.getElem?_modify,hob']
     ·exact ownsRow_setCell_other' hr' (by omega) _
     ·intro j u hj hP
      have hset:(listed.setIfInBounds 22 true).getD 22 false=true:=by rw [getD_set,if_pos ⟨rfl,getD_lt hnl⟩]
      unfold CPo at hP ⊢
      rw [hset,getD_far (by decide:(22:Nat)≠20),l20]
      by_cases hj20:j=20
      ·rw [if_pos hj20];exact .inl rfl
      ·rw [if_neg hj20] at hP ⊢
       by_cases hj21:j=21
       ·subst hj21
        rcases hP with ⟨_,h⟩ | h
        ·exact absurd rfl h
        ·exact .inr h
       ·exact .inl ⟨rfl,hj21⟩
    | i+23,hi,_,_,_,_,_,_=>omega
   case fin =>
    intro γ1 a W hE
    obtain ⟨u,hb1,xs',hr',hF'⟩:=hE.glob.fin (by rfl)
    have hsz:=hE.tsize
    have hdf:=hE.defers
    have hlo:=hE.glob.low
    have r:=fun t h=>hE.rest t h
    obtain ⟨tm,df⟩:=a
    simp only at hsz hdf r
    have htm:=arr_out 46 tm (by rw [hsz];rfl) undef
    simp only [List.range,List.range.loop,List.map_cons,List.map_nil] at htm
    rw [show tm[0]?.getD undef=_ from r 0 (rest_of (by kernel_rfl))] at htm
    rw [show tm[1]?.getD undef=_ from r 1 (rest_of (by kernel_rfl))] at htm
    rw [show tm[2]?.getD undef=_ from r 2 (rest_of (by kernel_rfl))] at htm
    rw [show tm[3]?.getD undef=_ from r 3 (rest_of (by kernel_rfl))] at htm
    rw [show tm[4]?.getD undef=_ from r 4 (rest_of (by kernel_rfl))] at htm
    rw [show tm[5]?.getD undef=_ from r 5 (rest_of (by kernel_rfl))] at htm
    rw [show tm[6]?.getD undef=_ from r 6 (rest_of (by kernel_rfl))] at htm
    rw [show tm[7]?.getD undef=_ from r 7 (rest_of (by kernel_rfl))] at htm
    rw [show tm[8]?.getD undef=_ from r 8 (rest_of (by kernel_rfl))] at htm
    rw [show tm[9]?.getD undef=_ from r 9 (rest_of (by kernel_rfl))] at htm
    rw [show tm[10]?.getD undef=_ from r 10 (rest_of (by kernel_rfl))] at htm
    rw [show tm[11]?.getD undef=_ from r 11 (rest_of (by kernel_rfl))] at htm
    rw [show tm[12]?.getD undef=_ from r 12 (rest_of (by kernel_rfl))] at htm
    rw [show tm[13]?.getD undef=_ from r 13 (rest_of (by kernel_rfl))] at htm
    rw [show tm[14]?.getD undef=_ from r 14 (rest_of (by kernel_rfl))] at htm
    rw [show tm[15]?.getD undef=_ from r 15 (rest_of (by kernel_rfl))] at htm
    rw [show tm[16]?.getD undef=_ from r 16 (rest_of (by kernel_rfl))] at htm
    rw [show tm[17]?.getD undef=_ from r 17 (rest_of (by kernel_rfl))] at htm
    rw [show tm[18]?.getD undef=_ from r 18 (rest_of (by kernel_rfl))] at htm
    rw [show tm[19]?.getD undef=_ from r 19 (rest_of (by kernel_rfl))] at htm
    rw [show tm[20]?.getD undef=_ from r 20 (rest_of (by kernel_rfl))] at htm
    rw [show tm[21]?.getD undef=_ from r 21 (rest_of (by kernel_rfl))] at htm
    rw [show tm[22]?.getD undef=_ from r 22 (rest_of (by kernel_rfl))] at htm
    rw [show tm[45]?.getD undef=_ from r 45 (rest_of (by kernel_rfl))] at htm
    generalize tm[23]?.getD undef=x23 at htm
    generalize tm[24]?.getD undef=x24 at htm
    generalize tm[25]?.getD undef=x25 at htm
    generalize tm[26]?.getD undef=x26 at htm
    generalize tm[27]?.getD undef=x27 at htm
    generalize tm[28]?.getD undef=x28 at htm
    generalize tm[29]?.getD undef=x29 at htm
    generalize tm[30]?.getD undef=x30 at htm
    generalize tm[31]?.getD undef=x31 at htm
    generalize tm[32]?.getD undef=x32 at htm
    generalize tm[33]?.getD undef=x33 at htm
    generalize tm[34]?.getD undef=x34 at htm
    generalize tm[35]?.getD undef=x35 at htm
    generalize tm[36]?.getD undef=x36 at htm
    generalize tm[37]?.getD undef=x37 at htm
    generalize tm[38]?.getD undef=x38 at htm
    generalize tm[39]?.getD undef=x39 at htm
    generalize tm[40]?.getD undef=x40 at htm
    generalize tm[41]?.getD undef=x41 at htm
    generalize tm[42]?.getD undef=x42 at htm
    generalize tm[43]?.getD undef=x43 at htm
    generalize tm[44]?.getD undef=x44 at htm
    simp only [List.getElem?_toArray,List.getElem?_cons_zero,List.getElem?_cons_succ,Option.getD_some] at htm
    subst htm
    have hdf:df=[]:=hdf
    subst hdf
    clear r hsz hE
    go_wp2
    exact ⟨⟨k+1,u,xs',γ1,by omega,by go_num,hb1,hr',hid hF',hlo⟩,by simp [intOf];omega⟩
  -- DONE
  ·obtain rfl:k=N:=by omega
   have htk:s.funcs.take k=s.funcs:=List.take_of_length_le (by have:=HN.out;omega)
   have hF:=hFR.out
   rw [htk] at hF
   obtain ⟨fa,fc,rfl,_,_,_⟩:=row_form hrow
   have o0:wr.cell? ⟨B,0,none⟩=some (.slice a2 M k2):=by rw [Lib.cell_of_heap hob];rfl
   have o1:wr.cell? ⟨B,1,none⟩=some (.slice fa k fc):=by rw [Lib.cell_of_heap hob];rfl
   have r0:wr.cell? ⟨w.heap.size+1,0,none⟩=some (.slice none 0 0):=by rw [Lib.cell_of_heap eR];rfl
   have r1:wr.cell? ⟨w.heap.size+1,1,none⟩=some (.slice none 0 0):=by rw [Lib.cell_of_heap eR];rfl
   have f0:=Lib.frozen_of_heap eR 0
   have f1:=Lib.frozen_of_heap eR 1
   go_wp2
   have hbl:Below w.heap.size w wr:=(hbw2.trans (hw3.mono (by omega))).trans (hlow.mono (by omega))
   have hb':Below w.heap.size w ((wr.setCell ⟨w.heap.size+1,0,none⟩ (.slice a2 M k2)).setCell ⟨w.heap.size+1,1,none⟩ (.slice fa k fc)):=(hbl.setCell (p:=⟨w.heap.size+1,0,none⟩) (by simp) _).setCell (p:=⟨w.heap.size+1,1,none⟩) (by simp) _
   have hrow':=ownsRow_setCell_other' (o:=1) (ownsRow_setCell_other' (o:=0) hrow (B:=w.heap.size+1) (by omega) (.slice a2 M k2)) (B:=w.heap.size+1) (by omega) (.slice fa k fc)
   have hF2:=(hF.keep (kp_set (γ:=γ0) (b:=w.heap.size+1) (o:=0) (u:=.slice a2 M k2) (by omega))).keep (kp_set (γ:=γ0) (b:=w.heap.size+1) (o:=1) (u:=.slice fa k fc) (by omega))
   have hC0:=HR2.out wr (hw3.trans hlow)
   have hC:=ownsRow_setCell_other' (o:=1) (ownsRow_setCell_other' (o:=0) hC0 (B:=w.heap.size+1) (by omega) (.slice a2 M k2)) (B:=w.heap.size+1) (by omega) (.slice fa k fc)
   refine ret_scr (b:=w.heap.size+1) rfl rfl rfl (x:=.slice a2 M k2) (y:=.slice fa k fc) ?_ ?_ ⟨_,_,xs,γ0,B,B+1,rfl,hb',by omega,by simpa using (Array.getElem?_eq_some_iff.1 hob).1,by rw [← HM.out];exact row_down hC (by omega),by rw [← HN.out];exact hrow',by omega,hF2⟩
   ·have h1:(wr.setCell ⟨w.heap.size+1,0,none⟩ (.slice a2 M k2)).cell? ⟨w.heap.size+1,0,none⟩=some (.slice a2 M k2):=World.cell?_setCell_same _ _ _ r0
    rw [World.cell?_setCell_other _ _ _ _ (by simp)]
    exact h1
   ·have h1:(wr.setCell ⟨w.heap.size+1,0,none⟩ (.slice a2 M k2)).cell? ⟨w.heap.size+1,1,none⟩=some (.slice none 0 0):=by rw [World.cell?_setCell_other _ _ _ _ (by simp)];exact r1
    exact World.cell?_setCell_same _ _ _ h1
end Go.Proofs.YtpmlnkjamhelnaaGreat
