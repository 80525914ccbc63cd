/- Layer 8: a map of ints to ints that lies in a block of its own. Layer 8: the walk's closure. Layer 8: rows that are made, and filled place by place. -/
import Derived.Test.YtpmlnkjamhelnaaGreatXA
import Derived.Maps.OwnSet
import Derived.Maps.Ext
import Derived.Shelf.Abstract
import Derived.Test.YtpmlnkjamhelnaaGreatChecked
import Derived.WalkKit
import Derived.WalkSpells
import Derived.WalkLawsBesides
import Derived.BigQuiet
import Derived.Deep.QuietTactic
import Derived.Deep.RegionWith
import Derived.Test.YtpmlnkjamhelnaaGreatCB
import Derived.Test.YtpmlnkjamhelnaaGreatPlain
namespace Go.Proofs.YtpmlnkjamhelnaaGreat
open Go.RowKit Go.Maps
theorem int_key8:Keyed Tryz.prog 3:=int_keyed Tryz.underlying3
theorem wf_small {x:Int}(h0:-4611686018427387904≤x)(h1:x≤4611686018427387904):(Lit.int .i64 x).wf=true:=by
 have e1:IntKind.i64.min=-9223372036854775808:=by decide
 have e2:IntKind.i64.max=9223372036854775807:=by decide
 simp only [Lit.wf,e1,e2,Bool.and_eq_true,decide_eq_true_eq]
 omega
def MapN (w:World)(b n S:Nat)(m:Nat→Option Nat):Prop:=∃ (D:DataW Unit) (N:Nat),w.ownsMap Tryz.prog 3 (plainElem Tryz.prog 3) b N D∧N+2*white n m≤S∧S≤100000 ∧
 (∀ x:Int,has D (.int .i64 x)=true→∃ k:Nat,x=k∧m k≠none)∧(∀ k v:Nat,m k=some v→k<n∧v+white n m≤S∧has D (.int .i64 k)=true∧∀ z,D.atKey (.int .i64 k) z=.lit (.int .i64 v))
theorem MapN.lt {w:World}{b n S:Nat}{m:Nat→Option Nat}(h:MapN w b n S m):b<w.heap.size:=by obtain ⟨D,N,h,_⟩:=h;exact h.lt
theorem MapN.keep {w w':World}{b n S:Nat}{m:Nat→Option Nat}(h:MapN w b n S m)(e:w'.heap[b]?=w.heap[b]?):MapN w' b n S m:=by
 obtain ⟨D,N,⟨es,cl,h1,h2⟩,h3⟩:=h
 exact ⟨D,N,⟨es,cl,e.trans h1,h2⟩,h3⟩
theorem MapN.new (w:World)(n:Nat)(hn:n≤100):MapN (w.alloc (.map #[] 0)) w.heap.size n (2*n) (fun _=>none):=by
 refine ⟨.map [],0,World.ownsMap_made w _ _ _,?_,by omega,fun x h=>?_,fun k v h=>by cases h⟩
 ·have:=white_max (fun _=>none) n;omega
 ·simp [has] at h
theorem MapN.look {w : World} {b n S : Nat} {m : Nat → Option Nat} (h : MapN w b n S m) (k : Nat) (hk : k ≤ 100000) : (Instr.lookup 119 (.map (some b)) (.int .i64 k) true).run Tryz.prog w = .ok (.tuple #[.int .i64 ((m k).getD 0 : Nat), .bool (m k).isSome]) w := by
  obtain ⟨D, N, h1, _, _, h2, h3⟩ := h
  have hz : (zeroValue 3).run Tryz.prog w = .ok (.int .i64 0) w := by kernel_rfl
  obtain ⟨v, ps, hr, hv⟩ := h1.look_ok (t := 119) int_key8 Tryz.underlying119 hz (zd := .lit (.int .i64 0)) (zp := []) (plainElem_int Tryz.underlying3 (wf_small (by omega) (by omega))) (keyOf_int_mk Tryz.underlying3 (wf_small (x := k) (by omega) (by omega)))
  rw [hr]
  obtain ⟨c, rfl, hc, _⟩ := plainElem_int_inv Tryz.underlying3 hv
  have hc := congrArg Prod.fst hc
  simp only at hc
  cases e : m k with
  | none =>
    have hn : has D (.int .i64 k) = false := by
      cases e2 : has D (.int .i64 k) with
      | false => rfl
      | true => obtain ⟨k', e3, e4⟩ := h2 _ e2; obtain rfl : k = k' := by omega
                exact absurd e e4
    rw [atKey_of_not_has hn] at hc
    cases hc
    rw [hn]
    rfl
  | some v =>
    obtain ⟨_, _, e1, e2⟩ := h3 k v e
    rw [e2] at hc
    cases hc
    rw [e1]
    rfl
theorem MapN.at {w : World} {b n S : Nat} {m : Nat → Option Nat} (h : MapN w b n S m) (k : Nat) (hk : k ≤ 100000) : (Instr.lookup 119 (.map (some b)) (.int .i64 k) false).run Tryz.prog w = .ok (.int .i64 ((m k).getD 0 : Nat)) w := by
  obtain ⟨D, N, h1, _, _, h2, h3⟩ := h
  have hz : (zeroValue 3).run Tryz.prog w = .ok (.int .i64 0) w := by kernel_rfl
  obtain ⟨c, hr, hc, _⟩ := h1.lookup_int (t := 119) int_key8 Tryz.underlying119 Tryz.underlying3 hz (keyOf_int_mk Tryz.underlying3 (wf_small (x := k) (by omega) (by omega)))
  rw [hr]
  cases e : m k with
  | none =>
    have hn : has D (.int .i64 k) = false := by
      cases e2 : has D (.int .i64 k) with
      | false => rfl
      | true => obtain ⟨k', e3, e4⟩ := h2 _ e2; obtain rfl : k = k' := by omega
                exact absurd e e4
    rw [atKey_of_not_has hn] at hc
    cases hc
    rfl
  | some v =>
    obtain ⟨_, _, e1, e2⟩ := h3 k v e
    rw [e2] at hc
    cases hc
    rfl
def Kp2 (b1 b2:Nat)(w w':World):Prop:=w'.os=w.os∧w'.tape=w.tape∧w'.output=w.output∧w.heap.size≤w'.heap.size∧∀ k,k<w.heap.size→k≠b1→k≠b2→w'.heap[k]?=w.heap[k]?
theorem Kp2.refl (b1 b2:Nat)(w:World):Kp2 b1 b2 w w:=⟨rfl,rfl,rfl,Nat.le_refl _,fun _ _ _ _=>rfl⟩
theorem Kp2.trans {b1 b2:Nat}{a b c:World}(h:Kp2 b1 b2 a b)(k:Kp2 b1 b2 b c):Kp2 b1 b2 a c:=⟨k.1.trans h.1,k.2.1.trans h.2.1,k.2.2.1.trans h.2.2.1,Nat.le_trans h.2.2.2.1 k.2.2.2.1,fun i hi h1 h2=>(k.2.2.2.2 i (Nat.lt_of_lt_of_le hi h.2.2.2.1) h1 h2).trans (h.2.2.2.2 i hi h1 h2)⟩
theorem Kp2.set2 {b1 b2:Nat}{w:World}{o:Nat}(u:Value):Kp2 b1 b2 w (w.setCell ⟨b2,o,none⟩ u):=⟨rfl,rfl,rfl,by simp [World.setCell],fun k _ _ h=>Below.heap_setCell _ _ _ _ h⟩
theorem Kp2.grown {b1 b2:Nat}{w w':World}(h:w.grownBy w' (some b1)):Kp2 b1 b2 w w':=⟨h.os,h.tape,h.output,h.size,fun k hk h1 _=>h.block k hk (fun e=>h1 (by cases e;rfl))⟩
theorem Kp2.cell {b1 b2:Nat}{w w':World}(h:Kp2 b1 b2 w w'){a:Addr}{v:Value}(hv:w.cell? a=some v)(h1:a.block≠b1)(h2:a.block≠b2):w'.cell? a=some v:=(World.cell?_of_block (h.2.2.2.2 _ (World.block_lt_of_cell? w a hv) h1 h2)).trans hv
theorem Kp2.low {b1 b2 B:Nat}{w w':World}(h:Kp2 b1 b2 w w')(h1:B≤b1)(h2:B≤b2)(hB:B≤w.heap.size):Below B w w':=⟨h.1,h.2.1,h.2.2.1,h.2.2.2.1,fun k hk=>h.2.2.2.2 k (by omega) (by omega) (by omega)⟩
theorem MapN.put {w:World}{b n S:Nat}{m:Nat→Option Nat}(h:MapN w b n S m)(k v:Nat)(hk:k<n)(hn:n≤1000)(S':Nat)(hv:v+white n (mput m k v)≤S')(hS':S'≤100000)(hS:S+1≤S'∨m k=none∧S≤S'+1) :
  ∃ w',(Instr.mapUpdate 119 (.map (some b)) (.int .i64 k) (.int .i64 v)).run Tryz.prog w=.ok () w'∧MapN w' b n S' (mput m k v)∧w.grownBy w' (some b)∧w'.heap.size=w.heap.size:=by
 obtain ⟨D,N,h1,hN,hS0,h2,h3⟩:=h
 have hkey:=keyOf_int_mk (P:=Tryz.prog) Tryz.underlying3 (wf_small (x:=k) (by omega) (by omega))
 have hkl:WideAt.IsKeyLit (.int .i64 (k:Int)):=by trivial
 obtain ⟨w',hr,h4,h5⟩:=h1.store (t:=119) int_key8 Tryz.underlying119 (by unfold maxLen;omega) hkey (plainElem_int Tryz.underlying3 (wf_small (x:=v) (by omega) (by omega)))
 have hle:white n (mput m k v)≤white n m:=white_le (fun x u hx=>if e:x=k then ⟨v,by rw [e,mput_same]⟩ else ⟨u,by rw [mput_other _ _ e,hx]⟩) n
 have hw:N+1+2*white n (mput m k v)≤S'∧∀ u,u+white n m≤S→u+white n (mput m k v)≤S':=by
  rcases hS with hS | ⟨e,hS⟩
  ·exact ⟨by omega,fun u hu=>by omega⟩
  ·have:=white_put (v:=v) e n hk
   exact ⟨by omega,fun u hu=>by omega⟩
 refine ⟨w',hr,⟨_,_,h4,hw.1,hS',fun x hx=>?_,fun x u hx=>?_⟩,h5.grown,?_⟩
 ·by_cases e:x=k
  ·exact ⟨k,e,by rw [mput_same];simp⟩
  ·rw [has_put_other (by intro e2;cases e2;exact e rfl)] at hx
   obtain ⟨k',e1,e2⟩:=h2 x hx
   exact ⟨k',e1,by rw [mput_other _ _ (by omega)];exact e2⟩
 ·by_cases e:x=k
  ·subst e
   rw [mput_same] at hx
   cases hx
   exact ⟨hk,hv,has_put_same h1.isMap hkl _,fun z=>atKey_put_same h1.isMap hkl _ z⟩
  ·rw [mput_other _ _ e] at hx
   obtain ⟨e0,e3,e1,e2⟩:=h3 x u hx
   have ne:Lit.int .i64 (x:Int)≠.int .i64 (k:Int):=by intro e2;injection e2 with _ e3;omega
   exact ⟨e0,hw.2 _ e3,by rw [has_put_other ne];exact e1,fun z=>by rw [atKey_put_other ne];exact e2 z⟩
 ·obtain ⟨es,cl,es',cl',_,rfl⟩:=h5
  simp [ChangeMaps.setBlock]
theorem mx_le {m:Nat→Option Nat}{K:Nat}:∀ (l:List Nat) (a:Nat),a≤K→(∀ c ∈ l,(m c).getD 0≤K)→l.foldl (fun a c=>max a ((m c).getD 0)) a≤K
 | [],_,h,_=>h
 | c :: l,a,h,hl=>mx_le l _ (Nat.max_le.2 ⟨h,hl c (by simp)⟩) fun d hd=>hl d (List.mem_cons_of_mem _ hd)
def lowC (B:Nat)(w:World):Addr→Option Value:=fun a=>if a.block<B then w.cell? a else none
theorem lowC_of {B:Nat}{w:World}{a:Addr}{v:Value}(h:lowC B w a=some v):a.block<B∧w.cell? a=some v:=by
 unfold lowC at h
 split at h
 ·exact ⟨by assumption,h⟩
 ·cases h
theorem lowC_mk {B:Nat}{w:World}{a:Addr}{v:Value}(h1:a.block<B)(h:w.cell? a=some v):lowC B w a=some v:=by unfold lowC;rw [if_pos h1];exact h
theorem lowC_keep {B b1 b2:Nat}{w w':World}(h:Kp2 b1 b2 w w')(h1:B≤b1)(h2:B≤b2)(x:Addr)(v:Value)(hx:lowC B w x=some v):lowC B w' x=some v:=by
 obtain ⟨e1,e2⟩:=lowC_of hx
 exact lowC_mk e1 (h.cell e2 (by omega) (by omega))
def rowI (r:List Nat):List Int:=r.map Int.ofNat
def rowsI (G:List (List Nat)):List (List Int):=G.map rowI
def gOf (G:List (List Nat))(x:Nat):List Nat:=G.getD x []
structure WBox where
 (B pm pr pg pf mb gc n:Nat)
 ga:Option Addr
structure WBox.ok (b:WBox):Prop where
 (r:b.B≤b.pr) (m:b.B≤b.mb) (mr:b.pm≠b.pr) (gr:b.pg≠b.pr) (fr:b.pf≠b.pr) (mm:b.pm≠b.mb) (gm:b.pg≠b.mb) (fm:b.pf≠b.mb) (rm:b.pr≠b.mb) (n:b.n≤1000)
def WBox.fr (b:WBox):Array Value:=#[.pointer (some ⟨b.pm,0,none⟩),.pointer (some ⟨b.pr,0,none⟩),.pointer (some ⟨b.pg,0,none⟩),.pointer (some ⟨b.pf,0,none⟩)]
structure FromSt (b:WBox)(G:List (List Nat))(S:Nat)(m:Nat→Option Nat)(r:Bool)(w:World):Prop where
 hm:w.heap[b.pm]?=some (.cells #[.map (some b.mb)] 119 (0,0))
 cr:w.heap[b.pr]?=some (.cells #[.bool r] 4 (0,0))
 cg:w.cell? ⟨b.pg,0,none⟩=some (.slice b.ga b.n b.gc)
 cf:w.cell? ⟨b.pf,0,none⟩=some (.func (.func 155) #[] b.fr)
 gs:RsAt (lowC b.B w) b.ga (rowsI G)
 map:MapN w b.mb b.n S m
theorem heap_lt {w:World}{k:Nat}{o:Obj}(h:w.heap[k]?=some o):k<w.heap.size:=(Array.getElem?_eq_some_iff.1 h).1
theorem FromSt.cm {b:WBox}{G:List (List Nat)}{S:Nat}{m:Nat→Option Nat}{r:Bool}{w:World}(h:FromSt b G S m r w):w.cell? ⟨b.pm,0,none⟩=some (.map (some b.mb)):=Lib.cell_of_heap h.hm 0
theorem FromSt.turn {b:WBox}{G:List (List Nat)}{S S':Nat}{m m':Nat→Option Nat}{r r':Bool}{w w':World}(ok:b.ok)(h:FromSt b G S m r w)(k:Kp2 b.mb b.pr w w')(cr:w'.heap[b.pr]?=some (.cells #[.bool r'] 4 (0,0)))(map:MapN w' b.mb b.n S' m'):FromSt b G S' m' r' w' :=
 ⟨(k.2.2.2.2 _ (heap_lt h.hm) ok.mm ok.mr).trans h.hm,cr,k.cell h.cg ok.gm ok.gr,k.cell h.cf ok.fm ok.fr,h.gs.keep (lowC_keep k ok.m ok.r),map⟩
def FromEnd (b:WBox)(G:List (List Nat))(S:Nat)(m:Nat→Option Nat)(r:Bool)(f:Nat)(w:World)(e:Ending)(w':World):Prop :=
 ∃ m' r' d,e=.returned (.int .i64 (d:Nat))∧Vis (gOf G) m r f m' r' d∧FromSt b G S m' r' w'∧Kp2 b.mb b.pr w w'
theorem natmax_ite (a b:Nat):((max a b:Nat):Int)=if a<b then (b:Int) else a:=by split <;> omega
theorem box_set {w:World}{p:Nat}{x u:Value}{T:TypeId}(h:w.heap[p]?=some (.cells #[x] T (0,0))):(w.setCell ⟨p,0,none⟩ u).heap[p]?=some (.cells #[u] T (0,0)):=by
 rw [heap_setCell_same _ _ _ _ _ _ h]
 rfl
set_option maxRecDepth 100000 in
set_option maxHeartbeats 1000000 in
theorem from_met (b:WBox)(ok:b.ok)(G:List (List Nat))(S:Nat)(m:Nat→Option Nat)(r:Bool)(f d:Nat)(w:World)(h:FromSt b G S m r w)(hf:m f=some d)(hL:Led (gOf G) m f)(hfn:f≤100000) :
  Calls Tryz.prog 155 (#[.int .i64 (f:Nat)]++b.fr) w (FromEnd b G S m r f w):=by
 have hl:=h.map.look f hfn
 rw [hf] at hl
 have hcm:=h.cm
 have c1:w.cell? ⟨b.pr,0,none⟩=some (.bool r):=by rw [Lib.cell_of_heap h.cr];rfl
 have c2:w.frozen? ⟨b.pr,0,none⟩=false:=by simp [World.frozen?,h.cr]
 have HE:Hid (∀ r',r'=(r || d == 0)→FromEnd b G S m r f w (.returned (.int .i64 (d:Nat))) (w.setCell ⟨b.pr,0,none⟩ (.bool r'))):=hid7 fun r' hr'=>by
  subst hr'
  have k2:Kp2 b.mb b.pr w (w.setCell ⟨b.pr,0,none⟩ (.bool (r || d == 0))):=Kp2.set2 _
  have cr':(w.setCell ⟨b.pr,0,none⟩ (.bool (r || d == 0))).heap[b.pr]?=some (.cells #[.bool (r || d == 0)] 4 (0,0)):=box_set h.cr
  exact ⟨m,_,d,rfl,vis_met hf hL,h.turn ok k2 cr' (h.map.keep (Below.heap_setCell _ _ _ _ (Ne.symm ok.rm))),k2⟩
 clear h hf hL
 unfold WBox.fr
 generalize b.pm=pm at *
 generalize b.pr=pr at *
 generalize b.pg=pg at *
 generalize b.pf=pf at *
 generalize b.mb=mb at *
 show Calls Tryz.prog 155 #[.int .i64 (f:Nat),.pointer (some ⟨pm,0,none⟩),.pointer (some ⟨pr,0,none⟩),.pointer (some ⟨pg,0,none⟩),.pointer (some ⟨pf,0,none⟩)] w _
 go_enter Tryz.func155,Tryz.ntmps155
 go_wp2_with fail
 all_goals
  go_ret
  refine HE.out _ ?_
  first | (simp_all;done) | (rw [Bool.eq_iff_iff];simp_all)
theorem row_at {B:Nat}{w:World}{ga:Option Addr}{G:List (List Nat)}(h:RsAt (lowC B w) ga (rowsI G)){f:Nat}(hf:f<G.length):∃ gb go aj cj,ga=some ⟨gb,go,none⟩∧gb<B∧w.cell? ⟨gb,go+f,none⟩=some (.slice aj (gOf G f).length cj)∧NsAt (lowC B w) aj (rowI (gOf G f)):=by
 rcases h with h | ⟨gb,go,e,h⟩
 ·rw [rowsI,List.map_eq_nil_iff] at h;subst h;cases hf
 ·have hf2:f<(rowsI G).length:=by rw [rowsI,List.length_map];exact hf
  obtain ⟨aj,cj,h1,h2⟩:=h f hf2
  have e2:(rowsI G)[f]=rowI (gOf G f):=by simp [rowsI,gOf,List.getD_eq_getElem?_getD,List.getElem?_eq_getElem hf]
  rw [e2] at h1 h2
  obtain ⟨l1,l2⟩:=lowC_of h1
  rw [rowI,List.length_map] at l2
  exact ⟨gb,go,aj,cj,e,l1,l2,h2⟩
theorem row_cell {B:Nat}{w:World}{aj:Option Addr}{r:List Nat}(h:NsAt (lowC B w) aj (rowI r)){k:Nat}(hk:k<r.length):∃ bj oj,aj=some ⟨bj,oj,none⟩∧bj<B∧w.cell? ⟨bj,oj+k,none⟩=some (.int .i64 (r[k]:Nat)):=by
 have hk2:k<(rowI r).length:=by rw [rowI,List.length_map];exact hk
 rcases h with h | ⟨b,o,e,h⟩
 ·rw [h] at hk2;cases hk2
 ·have h1:=h k hk2
  obtain ⟨l1,l2⟩:=lowC_of h1
  refine ⟨b,o,e,l1,?_⟩
  rw [l2]
  simp [rowI]
def FromLp (b:WBox)(G:List (List Nat))(S:Nat)(m:Nat→Option Nat)(r:Bool)(f k:Nat)(most:Nat)(w w':World):Prop :=
 ∃ m' r',Vil (gOf G) m r f ((gOf G f).take k) m' r' most∧FromSt b G S m' r' w'∧Kp2 b.mb b.pr w w'
set_option maxRecDepth 100000 in
set_option maxHeartbeats 1000000 in
theorem from_new (b:WBox)(ok:b.ok)(G:List (List Nat))(hG:G.length=b.n)(hI:Inn b.n (gOf G))(S:Nat)(m:Nat→Option Nat)(r:Bool)(f:Nat)(w:World)(h:FromSt b G S m r w)(hf:m f=none)(hL:Led (gOf G) m f)(hfn:f<b.n)(hr:∀ l ∈ G,l.length≤1000)
  (ih:∀ (S':Nat) (m':Nat→Option Nat) (r':Bool) (c:Nat) (w':World),white b.n m'<white b.n m→FromSt b G S' m' r' w'→Led (gOf G) m' c→c<b.n→Calls Tryz.prog 155 (#[.int .i64 (c:Nat)]++b.fr) w' (FromEnd b G S' m' r' c w')) :
  Calls Tryz.prog 155 (#[.int .i64 (f:Nat)]++b.fr) w (FromEnd b G S m r f w):=by
 have hn:=ok.n
 have hl:=h.map.look f (by omega)
 rw [hf] at hl
 have hcm:=h.cm
 obtain ⟨hS1,hS2⟩:1≤S∧0+white b.n (mput m f 0)≤S - 1:=by
  obtain ⟨D,N,h1,h2,h3,_⟩:=h.map
  have:=white_put (v:=0) hf b.n hfn
  omega
 have hS3:S≤100000:=by obtain ⟨D,N,h1,h2,h3,_⟩:=h.map;exact h3
 obtain ⟨w1,hu1,M1,K1,z1⟩:=h.map.put f 0 hfn hn (S - 1) hS2 (by omega) (.inr ⟨hf,by omega⟩)
 replace hu1:(Instr.mapUpdate 119 (.map (some b.mb)) (.int .i64 f) (.int .i64 0)).run Tryz.prog w=.ok () w1:=hu1
 have h1:FromSt b G (S - 1) (mput m f 0) r w1:=h.turn ok (Kp2.grown K1) ((K1.block _ (heap_lt h.cr) (by simp;exact ok.rm)).trans h.cr) M1
 have hcg:=h1.cg
 obtain ⟨gb,go,aj,cj,ega,hgb,hrow,hns⟩:=row_at h1.gs (by rw [hG];exact hfn)
 have hcb:b.pg≠0∨True:=.inr trivial
 have L0:Hid (FromLp b G (S - 1) m r f 0 0 w1 w1):=hid7 ⟨_,r,vil_start,h1,Kp2.refl _ _ _⟩
 have HK1:Hid (Kp2 b.mb b.pr w w1):=hid7 (Kp2.grown K1)
 have HF0:Hid (m f=none):=hid7 hf
 have HLd:Hid (Led (gOf G) m f):=hid7 hL
 have HIn:Hid (Inn b.n (gOf G)):=hid7 hI
 have HNs:Hid (NsAt (lowC b.B w1) aj (rowI (gOf G f))):=hid7 hns
 have HIH:=hid7 ih
 have HOk:=hid7 ok
 have HFn:=hid7 hfn
 have HS2:=hid7 hS2
 have hrl:(gOf G f).length≤1000:=by
  unfold gOf
  rw [List.getD_eq_getElem?_getD,List.getElem?_eq_getElem (by rw [hG];exact hfn)]
  exact hr _ (List.getElem_mem _)
 rw [ega] at hcg
 obtain ⟨pm,hpm⟩:∃ pm,pm=b.pm:=⟨_,rfl⟩
 obtain ⟨pr,hpr⟩:∃ pr,pr=b.pr:=⟨_,rfl⟩
 obtain ⟨pg,hpg⟩:∃ pg,pg=b.pg:=⟨_,rfl⟩
 obtain ⟨pf,hpf⟩:∃ pf,pf=b.pf:=⟨_,rfl⟩
 obtain ⟨mb,hmb⟩:∃ mb,mb=b.mb:=⟨_,rfl⟩
 obtain ⟨n,hbn⟩:∃ n,n=b.n:=⟨_,rfl⟩
 obtain ⟨gc,hbc⟩:∃ gc,gc=b.gc:=⟨_,rfl⟩
 unfold WBox.fr
 show Calls Tryz.prog 155 #[.int .i64 (f:Nat),.pointer (some ⟨b.pm,0,none⟩),.pointer (some ⟨b.pr,0,none⟩),.pointer (some ⟨b.pg,0,none⟩),.pointer (some ⟨b.pf,0,none⟩)] w _
 rw [← hpm] at hcm ⊢
 rw [← hpg,← hbn,← hbc] at hcg
 rw [← hmb] at hcm hl hu1
 rw [← hbn] at hfn hn
 rw [← hpr,← hpg,← hpf]
 obtain ⟨cl,hcl⟩:∃ cl,cl=(gOf G f).length:=⟨_,rfl⟩
 rw [← hcl] at hrow hrl
 have HL:=hid7 hcl
 have HB:=hid7 (And.intro hpm (And.intro hpr (And.intro hpg (And.intro hpf (And.intro hmb (And.intro hbn hbc))))))
 have eF:∀ args w,(callFunc 155 args).run Tryz.prog w=.ok (.enter 155 args) w:=enters_of Tryz.func155 (by kernel_rfl) rfl
 clear hpm hpr hpg hpf hmb hbn hbc hcl h h1 M1 z1 hS2 hcb ih hns hI hL hf K1 hr ok
 go_enter Tryz.func155,Tryz.ntmps155
 go_wp2_with fail
 go_loopw [9,32] (fun v9 v32 wr=>∃ k most:Nat,v9=.int .i64 most∧v32=.int .i64 k∧k≤cl∧most≤100000∧Hid (FromLp b G (S - 1) m r f k most w1 wr)) (fun _ v32 _=>cl - (intOf v32).toNat)
 case atStart=>exact ⟨0,0,rfl,rfl,Nat.zero_le _,by omega,L0⟩
 case round =>
  obtain ⟨k,most,rfl,rfl,hk,hmo,HLp⟩:=hrel
  clear L0 hl hu1 hcm hcg hrow
  by_cases hlt:k<cl
  ·have hkl:k<(gOf G f).length:=by rw [← HL.out];exact hlt
   obtain ⟨m1,r1,V1,F1,P1⟩:=HLp.out
   obtain ⟨e1,e2,e3,e4,e5,e6,e7⟩:=HB.out
   have hc:=List.getElem_mem hkl
   obtain ⟨bj,oj,eaj,hbj,hcell⟩:=row_cell (HNs.out.keep (lowC_keep P1 HOk.out.m HOk.out.r)) hkl
   have hcf:=F1.cf
   rw [← e4,WBox.fr,← e1,← e2,← e3,← e4] at hcf
   have hcn:(gOf G f)[k]<b.n:=HIn.out f HFn.out _ hc
   have hwl:white b.n m1<white b.n m:=by
    have h1:white b.n m1≤white b.n (mput m f 0):=white_le (fun x v hx=>⟨v,V1.keep x v hx⟩) _
    have h2:=white_put (v:=0) HF0.out b.n HFn.out
    omega
   have hC:=HIH.out (S - 1) m1 r1 _ wr hwl F1 (vil_led V1 HLd.out hc) hcn
   have HC:Hid (Calls Tryz.prog 155 (#[.int .i64 ((gOf G f)[k]:Nat)]++#[.pointer (some ⟨pm,0,none⟩),.pointer (some ⟨pr,0,none⟩),.pointer (some ⟨pg,0,none⟩),.pointer (some ⟨pf,0,none⟩)]) wr fun e w'=>∃ d:Nat,e=.returned (.int .i64 d)∧d≤100000∧Hid (FromLp b G (S - 1) m r f (k+1) (max most d) w1 w')):=hid7 (by
    rw [WBox.fr,← e1,← e2,← e3,← e4] at hC
    refine hC.mono fun e w' ⟨m2,r2,d,h1,h2,h3,h4⟩=>⟨d,h1,?_,hid7 ⟨m2,r2,?_,h3,P1.trans h4⟩⟩
    ·obtain ⟨D,N,_,_,q1,_,q2⟩:=h3.map
     have:=(q2 _ _ h2.here).2.1
     omega
    ·rw [List.take_succ_eq_append_getElem hkl]
     exact vil_step V1 hc h2)
   generalize (gOf G f)[k]=c at *
   subst eaj
   clear hC F1 V1 P1 HIH HLp HNs hc hwl HF0 HLd HIn hcn hkl e1 e2 e3 e4 e5 e6 e7 HK1
   go_wp2_with (first | (go_at_fn 155;refine HC.out.mono ?_;clear HC;rintro e w4 ⟨d4,rfl,hd4,L4⟩) | fail)
   exact ⟨⟨k+1,max most d4,by rw [natmax_ite],by go_num,by omega,by omega,L4⟩,by simp [intOf];omega⟩
  ·obtain rfl:k=cl:=by omega
   obtain ⟨m1,r1,V1,F1,P1⟩:=HLp.out
   obtain ⟨e1,e2,e3,e4,e5,e6,e7⟩:=HB.out
   rw [HL.out,List.take_length] at V1
   have V2:=vil_end HF0.out V1
   have hb1:most+white b.n m1≤S - 1:=by
    have hw0:white b.n m1≤S - 1:=by obtain ⟨D,N,_,q1,_⟩:=F1.map;omega
    rw [V1.most]
    have:=mx_le (m:=m1) (K:=S - 1 - white b.n m1) (gOf G f) 0 (by omega) fun c hc=>by
     obtain ⟨D,N,_,_,_,_,q2⟩:=F1.map
     cases e:m1 c with
     | none=>simp
     | some v=>have:=(q2 c v e).2.1;simp;omega
    unfold mx
    omega
   have hle:white b.n (mput m1 f (most+1))≤white b.n m1:=white_le (fun x u hx=>if e:x=f then ⟨most+1,by rw [e,mput_same]⟩ else ⟨u,by rw [mput_other _ _ e,hx]⟩) _
   obtain ⟨w2,hu2,M2,K2,z2⟩:=F1.map.put f (most+1) HFn.out HOk.out.n S (by omega) (by omega) (.inl (by omega))
   have F2:FromSt b G S (mput m1 f (most+1)) r1 w2:=F1.turn HOk.out (Kp2.grown K2) ((K2.block _ (heap_lt F1.cr) (by simp;exact HOk.out.rm)).trans F1.cr) M2
   have hl2:=M2.at f (by omega)
   rw [mput_same] at hl2
   replace hl2:(Instr.lookup 119 (.map (some b.mb)) (.int .i64 f) false).run Tryz.prog w2=.ok (.int .i64 ((most:Int)+1)) w2:=hl2
   replace hu2:(Instr.mapUpdate 119 (.map (some b.mb)) (.int .i64 f) (.int .i64 ((most:Int)+1))).run Tryz.prog wr=.ok () w2:=hu2
   have hcm1:=F1.cm
   have hcm2:=F2.cm
   rw [← e1,← e5] at hcm1 hcm2
   rw [← e5] at hl2 hu2
   have HE:Hid (FromEnd b G S m r f w (.returned (.int .i64 ((most:Int)+1))) w2):=hid7 ⟨_,_,most+1,by rfl,V2,F2,(HK1.out.trans P1).trans (Kp2.grown K2)⟩
   clear F1 F2 V1 V2 M2 P1 HK1 HIH HLp HNs HF0 HLd HIn e1 e2 e3 e4 e5 e6 e7 K2 z2 hb1 hle
   go_wp2_with fail
   go_ret
   exact HE.out
theorem from_any (b:WBox)(ok:b.ok)(G:List (List Nat))(hG:G.length=b.n)(hI:Inn b.n (gOf G))(hr:∀ l ∈ G,l.length≤1000):∀ (u S:Nat) (m:Nat→Option Nat) (r:Bool) (f:Nat) (w:World),white b.n m≤u→FromSt b G S m r w→Led (gOf G) m f→f<b.n →
  Calls Tryz.prog 155 (#[.int .i64 (f:Nat)]++b.fr) w (FromEnd b G S m r f w):=by
 intro u
 induction u with
 | zero =>
  intro S m r f w hu h hL hf
  have hn:=ok.n
  cases e:m f with
  | some d=>exact from_met b ok G S m r f d w h e hL (by omega)
  | none=>have:=white_put (v:=0) e b.n hf;omega
 | succ u ih =>
  intro S m r f w hu h hL hf
  have hn:=ok.n
  cases e:m f with
  | some d=>exact from_met b ok G S m r f d w h e hL (by omega)
  | none=>exact from_new b ok G hG hI S m r f w h e hL hf hr fun S' m' r' c w' h1 h2 h3 h4=>ih S' m' r' c w' (by omega) h2 h3 h4
end Go.Proofs.YtpmlnkjamhelnaaGreat
namespace Go.Proofs.YtpmlnkjamhelnaaGreat
open Go.RowKit
def Fill (w:World)(b:Nat)(e:TypeId)(n:Nat)(f:Nat→Value):Prop:=∃ cur:Array Value,w.heap[b]?=some (.cells cur e (0,0))∧cur.size=n∧∀ j<n,cur[j]?=some (f j)
theorem Fill.cell {w:World}{b n:Nat}{e:TypeId}{f:Nat→Value}(h:Fill w b e n f){j:Nat}(hj:j<n):w.cell? ⟨b,j,none⟩=some (f j):=by
 obtain ⟨cur,h1,_,h2⟩:=h
 rw [Lib.cell_of_heap h1];exact h2 j hj
theorem Fill.frozen {w:World}{b n:Nat}{e:TypeId}{f:Nat→Value}(h:Fill w b e n f)(j:Nat):w.frozen? ⟨b,j,none⟩=false:=by
 obtain ⟨cur,h1,_⟩:=h
 exact Lib.frozen_of_heap h1 j
theorem Fill.lt {w:World}{b n:Nat}{e:TypeId}{f:Nat→Value}(h:Fill w b e n f):b<w.heap.size:=by obtain ⟨cur,h1,_⟩:=h;exact heap_lt h1
theorem Fill.keep {w w':World}{b n:Nat}{e:TypeId}{f:Nat→Value}(h:Fill w b e n f)(k:w'.heap[b]?=w.heap[b]?):Fill w' b e n f:=by obtain ⟨cur,h1,h2⟩:=h;exact ⟨cur,k.trans h1,h2⟩
theorem Fill.congr {w:World}{b n:Nat}{e:TypeId}{f g:Nat→Value}(h:Fill w b e n f)(k:∀ j<n,f j=g j):Fill w b e n g:=by obtain ⟨cur,h1,h2,h3⟩:=h;exact ⟨cur,h1,h2,fun j hj=>by rw [h3 j hj,k j hj]⟩
theorem Fill.set {w:World}{b n:Nat}{e:TypeId}{f:Nat→Value}(h:Fill w b e n f)(i:Nat)(v:Value):Fill (w.setCell ⟨b,i,none⟩ v) b e n (fun j=>if j=i then v else f j):=by
 obtain ⟨cur,h1,h2,h3⟩:=h
 refine ⟨_,heap_setCell_same _ _ _ _ _ _ h1,by simpa using h2,fun j hj=>?_⟩
 rw [Array.getElem?_setIfInBounds]
 by_cases e:i=j
 ·subst e;rw [if_pos rfl,if_pos (by omega)];simp
 ·rw [if_neg e,h3 j hj];simp [Ne.symm e]
theorem made8 (W:World)(t e:TypeId)(z:Value)(bytes n:Nat)(ht:Tryz.prog.underlying t=some (.slice e))(hi:(Tryz.prog.info? e).map (fun i=>(i.zero,i.size,i.bytes))=some (some z,1,bytes))(hz:z.cells=#[z])(hb:bytes≤100)(hn:n≤100000) :
  ∃ W2,(Instr.makeSlice t (.int .i64 (n:Int)) (.int .i64 (n:Int))).run Tryz.prog W=.ok (.slice (some ⟨W.heap.size,0,none⟩) n n) W2∧Fill W2 W.heap.size e n (fun _=>z)∧Below W.heap.size W W2:=by
 obtain ⟨i0,hi,hz0,hz1,hz2⟩:=info_parts hi
 obtain ⟨W2,h1,h2,h3⟩:=run_make_full (w:=W) W.heap.size t e i0 z 1 ht hi hz0 hz1 .i64 .i64 n (by rw [hz2];have:=Nat.mul_le_mul hb hn;omega) (by unfold maxLen;omega) (Nat.le_refl _)
 refine ⟨W2,h1,?_,(Below.refl _ W).grown h3 (Nat.le_refl _) (fun k hk=>by cases hk)⟩
 rcases h2.2 with ⟨h,_⟩ | ⟨g,cap,cur,hv,_,hg,_,_,hs,ht⟩
 ·cases h
 ·injection hv with e1 _ e3
  injection e1 with e1
  injection e1 with e1
  subst e1;subst e3
  refine ⟨cur,hg,by omega,fun j hj=>?_⟩
  have e4:(cur.toList.take (n*1))[j]?=((madeCells z.cells (n*1)).toList)[j]?:=by rw [ht]
  rw [List.getElem?_take_of_lt (by omega),Array.getElem?_toList,Array.getElem?_toList] at e4
  rw [e4]
  simp [madeCells,hz,hj,Nat.mod_one]
def inTab:List (List Int):=[[],[],[],[],[],[0],[0],[0,0],[0,0],[],[0],[1,1],[1,1],[1,1],[1,1],[1,1],[1],[1,1],[1,1],[1,1],[1],[1,1],[1,1],[1,1],[1,1],[1,1],[1,1],[1,1],[1,1],[3,3],[3,3],[3],[2],[2,2],[2,1,1],[2,1],[2,2],[2,2],[1],[2],[1],[2],[2],[2,2],[2],[2],[2],[],[3],[],[],[],[3],[]]
def outTab:List (List Int):=[[],[1],[2],[3],[3],[],[0,0],[0,0],[0,0,0],[0],[],[1],[1],[1],[1],[1],[1],[1],[1],[1],[1],[1],[1],[3],[3],[3],[3],[3],[3],[3],[3],[3],[1],[2],[2],[1],[3],[3],[2],[1],[2],[2,3],[3],[],[],[2,3],[],[],[],[],[],[],[],[]]
def costTab:List Int:=[0,1,1,1,1,1,1,1,1,1,1,1,1,2,4,4,1,1,1,1,1,1,1,1,1,1,1,1,1,1,1,1,1,6,6,2,4,4,3,3,2,20,15,30,25,20,10,1,1,1,1,2,1,5]
def takesTab:List Int:=[0,1,2,0,0,0,0,0,0,3,3,0,0,0,0,0,0,0,0,0,0,0,0,0,0,0,0,0,0,0,0,0,0,0,0,0,0,0,0,0,0,0,0,0,0,0,0,0,0,0,0,4,0,5]
def nameTab:List (List UInt8):=[[],[105,110,116],[99,111,110,115,116],[116,114,117,101],[102,97,108,115,101],[100,114,111,112],[100,117,112],[115,119,97,112],[111,118,101,114],[103,101,116],[115,101,116],[97,100,100],[115,117,98],[109,117,108],[100,105,118],[114,101,109],[110,101,103],[97,110,100],[111,114],[120,111,114],[105,110,118],[115,104,108],[115,104,114],[101,113],[110,101],[108,116],[108,101],[103,116],[103,101],[98,111,116,104],[101,105,116,104,101,114],[110,111,116],[108,101,110],[106,111,105,110],[99,117,116],[97,116],[115,97,109,101],[108,101,115,115],[112,97,99,107],[117,110,112,97,99,107],[111,110,101],[108,111,97,100],[104,97,115],[115,97,118,101],[119,105,112,101],[110,101,120,116],[101,109,105,116],[97,98,111,114,116],[105,102],[101,108,115,101],[101,110,100],[108,111,111,112],[108,101,97,118,101],[99,97,108,108]]
def rowOf {α:Type}(T:List α)(d:α)(n:Int):α:=if 1≤n∧n≤53 then T.getD n.toNat d else d
def inT:Int→List Int:=rowOf inTab []
def outT:Int→List Int:=rowOf outTab []
def costT:Int→Int:=rowOf costTab 0
def takesT:Int→Int:=rowOf takesTab 0
def nameT:Int→List UInt8:=rowOf nameTab []
theorem rowOf_none {α:Type}(T:List α)(d:α)(n:Int)(h:n<1∨53<n):rowOf T d n=d:=by
 unfold rowOf;rw [if_neg (by omega)]
def sliceOf (l:List Int)(w:World):Value:=if l=[] then .slice none 0 0 else .slice (some ⟨w.heap.size,0,none⟩) l.length l.length
def worldOf (l:List Int)(w:World):World:=if l=[] then w else w.alloc (.cells (l.map fun x=>Value.int .i64 x).toArray 3)
theorem op_cases (n:Int)(h:¬ (n<1∨53<n)):n=1∨n=2∨n=3∨n=4∨n=5∨n=6∨n=7∨n=8∨n=9∨n=10∨n=11∨n=12∨n=13∨n=14∨n=15∨n=16∨n=17∨n=18∨n=19∨n=20∨n=21∨n=22∨n=23∨n=24∨n=25∨n=26∨n=27∨n=28∨n=29∨n=30∨n=31∨n=32∨n=33∨n=34∨n=35∨n=36∨n=37∨n=38∨n=39∨n=40∨n=41∨n=42∨n=43∨n=44∨n=45∨n=46∨n=47∨n=48∨n=49∨n=50∨n=51∨n=52∨n=53:=by omega
def plainB (n:Int):Bool:=decide (3≤n) && decide (n≤4) || decide (11≤n) && decide (n≤40)
theorem plain_cases (n:Int)(h:plainB n=true):n=3∨n=4∨n=11∨n=12∨n=13∨n=14∨n=15∨n=16∨n=17∨n=18∨n=19∨n=20∨n=21∨n=22∨n=23∨n=24∨n=25∨n=26∨n=27∨n=28∨n=29∨n=30∨n=31∨n=32∨n=33∨n=34∨n=35∨n=36∨n=37∨n=38∨n=39∨n=40:=by
 simp [plainB] at h
 omega
set_option maxRecDepth 100000 in
set_option maxHeartbeats 8000000 in
theorem in_pl (n:Int)(h:n=3∨n=4∨n=11∨n=12∨n=13∨n=14∨n=15∨n=16∨n=17∨n=18∨n=19∨n=20∨n=21∨n=22∨n=23∨n=24∨n=25∨n=26∨n=27∨n=28∨n=29∨n=30∨n=31∨n=32∨n=33∨n=34∨n=35∨n=36∨n=37∨n=38∨n=39∨n=40)(w:World):Calls Tryz.prog 201 #[.int .i64 n] w fun e w'=>e=.returned (sliceOf (inT n) w)∧w'=worldOf (inT n) w:=by
 rcases h with rfl | rfl | rfl | rfl | rfl | rfl | rfl | rfl | rfl | rfl | rfl | rfl | rfl | rfl | rfl | rfl | rfl | rfl | rfl | rfl | rfl | rfl | rfl | rfl | rfl | rfl | rfl | rfl | rfl | rfl | rfl | rfl
 all_goals as_aux_lemma =>
  go_enter Tryz.func201,Tryz.ntmps201
  go_wp2
  go_ret
  exact ⟨rfl,rfl⟩
set_option maxRecDepth 100000 in
set_option maxHeartbeats 8000000 in
theorem out_pl (n:Int)(h:n=3∨n=4∨n=11∨n=12∨n=13∨n=14∨n=15∨n=16∨n=17∨n=18∨n=19∨n=20∨n=21∨n=22∨n=23∨n=24∨n=25∨n=26∨n=27∨n=28∨n=29∨n=30∨n=31∨n=32∨n=33∨n=34∨n=35∨n=36∨n=37∨n=38∨n=39∨n=40)(w:World):Calls Tryz.prog 202 #[.int .i64 n] w fun e w'=>e=.returned (sliceOf (outT n) w)∧w'=worldOf (outT n) w:=by
 rcases h with rfl | rfl | rfl | rfl | rfl | rfl | rfl | rfl | rfl | rfl | rfl | rfl | rfl | rfl | rfl | rfl | rfl | rfl | rfl | rfl | rfl | rfl | rfl | rfl | rfl | rfl | rfl | rfl | rfl | rfl | rfl | rfl
 all_goals as_aux_lemma =>
  go_enter Tryz.func202,Tryz.ntmps202
  go_wp2
  go_ret
  exact ⟨rfl,rfl⟩
set_option maxHeartbeats 1000000 in
theorem name_no (n:Int)(w:World)(h:n<1∨53<n):Calls Tryz.prog 98 #[.int .i64 n] w fun e w'=>e=.returned (.string ⟨(nameT n).toArray⟩)∧w'=w:=by
 rw [show nameT n=[] from rowOf_none _ _ n h]
 rcases h with h | h
 ·have g:n≤10:=by omega
  have e1:(n == 1)=false:=by simp;omega
  have e2:(n == 2)=false:=by simp;omega
  have e3:(n == 3)=false:=by simp;omega
  have e4:(n == 4)=false:=by simp;omega
  have e5:(n == 5)=false:=by simp;omega
  have e6:(n == 6)=false:=by simp;omega
  have e7:(n == 7)=false:=by simp;omega
  have e8:(n == 8)=false:=by simp;omega
  have e9:(n == 9)=false:=by simp;omega
  have e10:(n == 10)=false:=by simp;omega
  go_enter Tryz.func98,Tryz.ntmps98
  go_wp2
  go_ret
  exact ⟨rfl,rfl⟩
 ·have g1:¬ n≤10:=by omega
  have g2:¬ n≤28:=by omega
  have g3:¬ n≤40:=by omega
  have e41:(n == 41)=false:=by simp;omega
  have e42:(n == 42)=false:=by simp;omega
  have e43:(n == 43)=false:=by simp;omega
  have e44:(n == 44)=false:=by simp;omega
  have e45:(n == 45)=false:=by simp;omega
  have e46:(n == 46)=false:=by simp;omega
  have e47:(n == 47)=false:=by simp;omega
  have e48:(n == 48)=false:=by simp;omega
  have e49:(n == 49)=false:=by simp;omega
  have e50:(n == 50)=false:=by simp;omega
  have e51:(n == 51)=false:=by simp;omega
  have e52:(n == 52)=false:=by simp;omega
  have e53:(n == 53)=false:=by simp;omega
  go_enter Tryz.func98,Tryz.ntmps98
  go_wp2
  go_ret
  exact ⟨rfl,rfl⟩
set_option maxHeartbeats 8000000 in
theorem name_in (n:Int)(h:n=1∨n=2∨n=3∨n=4∨n=5∨n=6∨n=7∨n=8∨n=9∨n=10∨n=11∨n=12∨n=13∨n=14∨n=15∨n=16∨n=17∨n=18∨n=19∨n=20∨n=21∨n=22∨n=23∨n=24∨n=25∨n=26∨n=27∨n=28∨n=29∨n=30∨n=31∨n=32∨n=33∨n=34∨n=35∨n=36∨n=37∨n=38∨n=39∨n=40∨n=41∨n=42∨n=43∨n=44∨n=45∨n=46∨n=47∨n=48∨n=49∨n=50∨n=51∨n=52∨n=53)(w:World):Calls Tryz.prog 98 #[.int .i64 n] w fun e w'=>e=.returned (.string ⟨(nameT n).toArray⟩)∧w'=w:=by
 rcases h with rfl | rfl | rfl | rfl | rfl | rfl | rfl | rfl | rfl | rfl | rfl | rfl | rfl | rfl | rfl | rfl | rfl | rfl | rfl | rfl | rfl | rfl | rfl | rfl | rfl | rfl | rfl | rfl | rfl | rfl | rfl | rfl | rfl | rfl | rfl | rfl | rfl | rfl | rfl | rfl | rfl | rfl | rfl | rfl | rfl | rfl | rfl | rfl | rfl | rfl | rfl | rfl | rfl
 all_goals as_aux_lemma =>
  go_enter Tryz.func98,Tryz.ntmps98
  go_wp2
  go_ret
  exact ⟨rfl,rfl⟩
theorem name_any (n:Int)(w:World):Calls Tryz.prog 98 #[.int .i64 n] w fun e w'=>e=.returned (.string ⟨(nameT n).toArray⟩)∧w'=w:=by
 by_cases h:n<1∨53<n
 ·exact name_no n w h
 ·exact name_in n (op_cases n h) w
def takesN (n:Int):Int:=if n=1 then 1 else if n=2 then 2 else if n=9 then 3 else if n=10 then 3 else if n=51 then 4 else if n=53 then 5 else 0
def boundsN (t:Int)(nc nf sl:Nat):Int × Int:=if t=1 then (-9223372036854775808,9223372036854775807) else if t=2 then (0,(nc:Int) - 1) else if t=3 then (0,(sl:Int) - 1) else if t=4 then (1,64) else if t=5 then (0,(nf:Int) - 1) else (0,0)
def kindOk (k:Int):Bool:=decide (1≤k) && decide (k≤3)
def insOk (nc nf sl:Nat)(x:Int × Int):Bool:=decide (1≤x.1) && decide (x.1≤53) && decide ((boundsN (takesN x.1) nc nf sl).1≤x.2) && decide (x.2≤(boundsN (takesN x.1) nc nf sl).2)
def Fn.lists (f:Fn):Bool:=decide (f.p.length≤8) && decide (f.r.length≤8) && decide (f.p.length+f.l.length≤16) && decide (f.code.length≤256) && (f.p.all kindOk && f.r.all kindOk && f.l.all kindOk)
def Fn.right (nc nf:Nat)(f:Fn):Bool:=f.lists && f.code.all (insOk nc nf (f.p.length+f.l.length))
def Scr.right (s:Scr):Bool:=decide (s.consts.length≤32) && decide (1≤s.funcs.length) && decide (s.funcs.length≤16) && s.consts.all (fun c=>decide (c.length≤256)) && s.funcs.all (Fn.right s.consts.length s.funcs.length)
set_option maxRecDepth 100000 in
theorem slotCount_any (f:Fn)(v0 v1 v2 v3:Value)(w:World)(hf:FnIs w.cell? f v0 v1 v2 v3)(hfit:f.fits):Calls Tryz.prog 94 #[.agg #[v0,v1,v2,v3]] w fun e w'=>e=.returned (.int .i64 ((f.p.length+f.l.length:Nat):Int))∧Below w.heap.size w w':=by
 obtain ⟨⟨a0,c0,rfl,_⟩,⟨a1,c1,rfl,_⟩,⟨a2,c2,rfl,_⟩,⟨a3,c3,rfl,_⟩⟩:=hf
 obtain ⟨z0,_,z2,_⟩:=hfit
 generalize f.p.length=n0 at *
 generalize f.l.length=n2 at *
 go_enter Tryz.func94,Tryz.ntmps94
 go_wp2
 go_ret
 exact ⟨by show Ending.returned (Value.int _ _)=_;congr 2,(Below.refl _ w).alloc (Nat.le_refl _) _⟩
set_option maxRecDepth 100000 in
theorem takes_all (n:Int)(w:World):Calls Tryz.prog 97 #[.int .i64 n] w fun e w'=>e=.returned (.int .i64 (takesN n))∧w'=w:=by
 unfold takesN
 go_enter Tryz.func97,Tryz.ntmps97
 go_wp2
 all_goals (go_ret;refine ⟨?_,rfl⟩;simp_all)
set_option maxRecDepth 100000 in
set_option maxHeartbeats 1000000 in
theorem bounds_any (t:Int)(s:Scr)(f:Fn)(V0 V1 v0 v1 v2 v3:Value)(w:World)(hs:ScIs w.cell? s V0 V1)(hf:FnIs w.cell? f v0 v1 v2 v3)(hsf:s.fits)(hff:f.fits):Calls Tryz.prog 96 #[.int .i64 t,.agg #[V0,V1],.agg #[v0,v1,v2,v3]] w fun e w'=>e=.returned (.tuple #[.int .i64 (boundsN t s.consts.length s.funcs.length (f.p.length+f.l.length)).1,.int .i64 (boundsN t s.consts.length s.funcs.length (f.p.length+f.l.length)).2])∧Below w.heap.size w w':=by
 have hSl:=fun W (hk:∀ a v,w.cell? a=some v→W.cell? a=some v)=>slotCount_any f v0 v1 v2 v3 W (hf.keep hk) hff
 have hslots:f.p.length+f.l.length≤35184372088832:=by have:=hff.1;have:=hff.2.2.1;omega
 obtain ⟨sl,hsl⟩:∃ sl,sl=f.p.length+f.l.length:=⟨_,rfl⟩
 rw [← hsl] at hSl hslots ⊢
 obtain ⟨⟨a0,c0,rfl,_⟩,⟨a1,c1,rfl,_⟩,⟨a2,c2,rfl,_⟩,⟨a3,c3,rfl,_⟩⟩:=hf
 obtain ⟨⟨A0,C0,rfl,_⟩,⟨A1,C1,rfl,_⟩⟩:=hs
 have z0:=hsf.1
 have z1:=hsf.2.1
 clear hsf hff hsl
 generalize s.consts.length=nc at *
 generalize s.funcs.length=nf at *
 generalize f.p.length=n0 at *
 generalize f.r.length=n1 at *
 generalize f.l.length=n2 at *
 generalize f.code.length=n3 at *
 have hb:∀ (X Y:Obj),Below w.heap.size w ((w.alloc X).alloc Y):=fun X Y=>((Below.refl _ w).alloc (Nat.le_refl _) _).alloc (by simp) _
 by_cases h3:t=3
 ·subst h3
  rw [show boundsN 3 nc nf sl=(0,(sl:Int) - 1) from rfl]
  go_enter Tryz.func96,Tryz.ntmps96
  go_wp2_with (go_at_call 94;refine (hSl _ (fun a v h=>keepA _ _ _ _ (keepA _ _ _ _ h))).mono ?_;rintro e w' ⟨rfl,hb'⟩)
  go_ret2
  exact ⟨rfl,(hb _ _).trans (hb'.mono (by simp;omega))⟩
 clear hSl
 by_cases h1:t=1
 ·subst h1
  rw [show boundsN 1 nc nf sl=(-9223372036854775808,9223372036854775807) from rfl]
  go_enter Tryz.func96,Tryz.ntmps96
  go_wp2
  go_ret2
  exact ⟨rfl,hb _ _⟩
 by_cases h2:t=2
 ·subst h2
  rw [show boundsN 2 nc nf sl=(0,(nc:Int) - 1) from rfl]
  go_enter Tryz.func96,Tryz.ntmps96
  go_wp2
  go_quiet (fail)
  go_wp2
  go_ret2
  exact ⟨rfl,below_draws2 (hb _ _) _⟩
 by_cases h4:t=4
 ·subst h4
  rw [show boundsN 4 nc nf sl=(1,64) from rfl]
  go_enter Tryz.func96,Tryz.ntmps96
  go_wp2
  go_ret2
  exact ⟨rfl,hb _ _⟩
 by_cases h5:t=5
 ·subst h5
  rw [show boundsN 5 nc nf sl=(0,(nf:Int) - 1) from rfl]
  go_enter Tryz.func96,Tryz.ntmps96
  go_wp2
  go_quiet (fail)
  go_wp2
  go_ret2
  exact ⟨rfl,below_draws2 (hb _ _) _⟩
 have e1:(t == 1)=false:=by simp [h1]
 have e2:(t == 2)=false:=by simp [h2]
 have e3:(t == 3)=false:=by simp [h3]
 have e4:(t == 4)=false:=by simp [h4]
 have e5:(t == 5)=false:=by simp [h5]
 rw [show boundsN t nc nf sl=(0,0) by simp [boundsN,h1,h2,h3,h4,h5]]
 go_enter Tryz.func96,Tryz.ntmps96
 go_wp2
 go_ret2
 exact ⟨rfl,hb _ _⟩
theorem all_stop {α:Type}{l:List α}{p:α→Bool}{k:Nat}(h:k<l.length)(hp:p l[k]=false):l.all p=false:=by
 cases ha:l.all p with
 | false=>rfl
 | true=>rw [List.all_eq_true.1 ha l[k] (by simp)] at hp;cases hp
set_option maxRecDepth 100000 in
set_option maxHeartbeats 1000000 in
theorem allTypes_any (b:Nat)(n:Nat)(X:List (List Int))(hn:X.length=n)(hn':n≤1000)(w:World)(hX:∀ k (h:k<X.length),∃ a c,w.cell? ⟨b,k,none⟩=some (.slice a X[k].length c)∧NsAt w.cell? a X[k]∧X[k].length≤17592186044416):Calls Tryz.prog 95 #[.slice (some ⟨b,0,none⟩) n n] w fun e w'=>e=.returned (.bool (X.all fun l=>l.all kindOk))∧w'=w:=by
 go_enter Tryz.func95,Tryz.ntmps95
 go_wp2
 go_loopw [9] (fun i wr=>∃ k:Nat,k≤n∧i=.int .i64 k∧Hid (∀ (j:Nat) (h:j<X.length),j<k→X[j].all kindOk=true)∧wr=w) (fun i _=>n - (intOf i).toNat)
 case atStart=>exact ⟨0,Nat.zero_le _,rfl,hid (by omega),rfl⟩
 case round =>
  obtain ⟨k,hk,rfl,hr,rfl⟩:=hrel
  by_cases hlt:k<n
  ·obtain ⟨a,c,q,hN,hz⟩:=hX k (by omega)
   have HS:Hid (X[k].all kindOk=false→(X.all fun l=>l.all kindOk)=false):=hid fun h=>all_stop (l:=X) (p:=fun (l:List Int)=>l.all kindOk) (k:=k) (by omega) h
   have HT:Hid (X[k].all kindOk=true→∀ j (h:j<X.length),j<k+1→X[j].all kindOk=true):=hid fun h j h1 hjk=>by
    rcases Nat.lt_or_ge j k with h3 | h3
    ·exact hr.out j h1 h3
    ·obtain rfl:j=k:=by omega
     exact h
   generalize X[k]=x at q hN hz HS HT
   obtain ⟨m,hm⟩:∃ m,m=x.length:=⟨_,rfl⟩
   rw [← hm] at q hz
   have HM:=hid hm
   clear hX hm
   go_wp2
   go_loopw [15] (fun i w5=>∃ j:Nat,j≤m∧i=.int .i64 j∧Hid (∀ (i:Nat) (h:i<x.length),i<j→kindOk x[i]=true)∧w5=wr) (fun i _=>m - (intOf i).toNat)
   case atStart=>exact ⟨0,Nat.zero_le _,rfl,hid (by omega),rfl⟩
   case round =>
    obtain ⟨j,hj,rfl,hrj,rfl⟩:=hrel
    by_cases hjl:j<m
    ·rcases hN with hz' | ⟨bb,off,rfl,hc⟩
     ·have:=HM.out;rw [hz'] at this;simp at this;omega
     have jl:j<x.length:=by have:=HM.out;omega
     have c0:=hc j jl
     have HS':Hid (kindOk x[j]=false→(X.all fun l=>l.all kindOk)=false):=hid fun h=>HS.out (all_stop jl h)
     have HT':Hid (kindOk x[j]=true→∀ i (h:i<x.length),i<j+1→kindOk x[i]=true):=hid fun h i h1 hij=>by
      rcases Nat.lt_or_ge i j with h3 | h3
      ·exact hrj.out i h1 h3
      ·obtain rfl:i=j:=by omega
       exact h
     generalize x[j]=y at c0 HS' HT'
     clear hc
     by_cases y1:1≤y
     ·by_cases y3:y≤3
      ·go_wp2
       refine ⟨⟨j+1,by omega,by go_num,hid (HT'.out (by simp [kindOk,y1,y3])),by first | rfl | trivial⟩,by simp [intOf];omega⟩
      ·have y3':3<y:=by omega
       go_wp2
       go_ret
       exact ⟨by rw [HS'.out (by simp [kindOk,y3])];rfl,rfl⟩
     ·have y1':y<1:=by omega
      go_wp2
      go_ret
      exact ⟨by rw [HS'.out (by simp [kindOk];omega)];rfl,rfl⟩
    ·have HE:Hid (∀ j (h:j<X.length),j<k+1→X[j].all kindOk=true):=hid (HT.out (List.all_eq_true.2 fun z hz=>by
      obtain ⟨i,hi,rfl⟩:=List.getElem_of_mem hz
      exact hrj.out i hi (by have:=HM.out;omega)))
     go_wp2
     refine ⟨⟨k+1,by omega,by go_num,HE,by first | rfl | trivial⟩,by simp [intOf];omega⟩
  ·have HE:Hid ((X.all fun l=>l.all kindOk)=true):=hid (List.all_eq_true.2 fun z hz=>by
    obtain ⟨i,hi,rfl⟩:=List.getElem_of_mem hz
    exact hr.out i hi (by omega))
   go_wp2
   go_ret
   exact ⟨by rw [HE.out];rfl,rfl⟩
set_option maxRecDepth 100000 in
set_option maxHeartbeats 1000000 in
theorem rightLists_any (f:Fn)(v0 v1 v2 v3:Value)(w:World)(hf:FnIs w.cell? f v0 v1 v2 v3)(hfit:f.fits):Calls Tryz.prog 60 #[.agg #[v0,v1,v2,v3]] w fun e w'=>e=.returned (.bool f.lists)∧Below w.heap.size w w':=by
 have hSl:=fun W (hk:∀ a v,w.cell? a=some v→W.cell? a=some v)=>slotCount_any f v0 v1 v2 v3 W (hf.keep hk) hfit
 have hslots:f.p.length+f.l.length≤35184372088832:=by have:=hfit.1;have:=hfit.2.2.1;omega
 obtain ⟨⟨a0,c0,rfl,g0⟩,⟨a1,c1,rfl,g1⟩,⟨a2,c2,rfl,g2⟩,⟨a3,c3,rfl,_⟩⟩:=hf
 obtain ⟨z0,z1,z2,z3⟩:=hfit
 have hAT:∀ W:World,(∀ a v,w.cell? a=some v→W.cell? a=some v)→Calls Tryz.prog 95 #[.slice (some ⟨W.heap.size,0,none⟩) 3 3] (W.alloc (.cells #[.slice a0 f.p.length c0,.slice a1 f.r.length c1,.slice a2 f.l.length c2] 28)) fun e w'=>e=.returned (.bool (f.p.all kindOk && f.r.all kindOk && f.l.all kindOk))∧w'=W.alloc (.cells #[.slice a0 f.p.length c0,.slice a1 f.r.length c1,.slice a2 f.l.length c2] 28):=fun W hk=>by
  have hn:=heap_alloc_new W (.cells #[.slice a0 f.p.length c0,.slice a1 f.r.length c1,.slice a2 f.l.length c2] 28)
  have hkW:=keepA W (.cells #[.slice a0 f.p.length c0,.slice a1 f.r.length c1,.slice a2 f.l.length c2] 28)
  have:=allTypes_any W.heap.size 3 [f.p,f.r,f.l] rfl (by decide) (W.alloc (.cells #[.slice a0 f.p.length c0,.slice a1 f.r.length c1,.slice a2 f.l.length c2] 28)) (fun k h=>by
   match k,h with
   | 0,_=>exact ⟨a0,c0,by rw [Lib.cell_of_heap hn];rfl,(g0.keep hk).keep hkW,z0⟩
   | 1,_=>exact ⟨a1,c1,by rw [Lib.cell_of_heap hn];rfl,(g1.keep hk).keep hkW,z1⟩
   | 2,_=>exact ⟨a2,c2,by rw [Lib.cell_of_heap hn];rfl,(g2.keep hk).keep hkW,z2⟩
   | k+3,h=>simp at h;omega)
  simpa [Bool.and_assoc] using this
 have HL:Hid (f.lists=(decide (f.p.length≤8) && decide (f.r.length≤8) && decide (f.p.length+f.l.length≤16) && decide (f.code.length≤256) && (f.p.all kindOk && f.r.all kindOk && f.l.all kindOk))):=hid rfl
 generalize (f.p.all kindOk && f.r.all kindOk && f.l.all kindOk)=T at hAT HL
 generalize f.p.length=n0 at *
 generalize f.r.length=n1 at *
 generalize f.l.length=n2 at *
 generalize f.code.length=n3 at *
 have hb:∀ (X:Obj),Below w.heap.size w (w.alloc X):=fun X=>(Below.refl _ w).alloc (Nat.le_refl _) _
 by_cases d0:n0≤8
 ·by_cases d1:n1≤8
  ·by_cases d2:n0+n2≤16
   ·by_cases d3:n3≤256
    ·have HL':Hid (f.lists=T):=hid (by rw [HL.out];simp [d0,d1,d2,d3])
     have d2':(n0:Int)+(n2:Int)≤16:=by omega
     go_enter Tryz.func60,Tryz.ntmps60
     go_wp2_with (first | (go_at_call 94;refine (hSl _ (fun a v h=>keepA _ _ _ _ h)).mono ?_;rintro e w' ⟨rfl,hb'⟩;have hbw:=(hb (.cells #[.slice a0 n0 c0,.slice a1 n1 c1,.slice a2 n2 c2,.slice a3 n3 c3] 49)).trans (hb'.mono (by simp));have hbx:=heap_alloc_new w (.cells #[.slice a0 n0 c0,.slice a1 n1 c1,.slice a2 n2 c2,.slice a3 n3 c3] 49);have hbx':=(hb'.block _ (by simp)).trans hbx;have k0:w'.cell? ⟨w.heap.size,0,none⟩=some (.slice a0 n0 c0):=(by rw [Lib.cell_of_heap hbx'];rfl);have k1:w'.cell? ⟨w.heap.size,1,none⟩=some (.slice a1 n1 c1):=(by rw [Lib.cell_of_heap hbx'];rfl);have k2:w'.cell? ⟨w.heap.size,2,none⟩=some (.slice a2 n2 c2):=(by rw [Lib.cell_of_heap hbx'];rfl);have k3:w'.cell? ⟨w.heap.size,3,none⟩=some (.slice a3 n3 c3):=(by rw [Lib.cell_of_heap hbx'];rfl)) | (go_at_call 95;refine (hAT _ (below_keep hbw)).mono ?_;rintro e w'' ⟨rfl,rfl⟩))
     go_ret
     exact ⟨by rw [HL'.out];rfl,hbw.alloc hbw.size _⟩
    ·have HL':Hid (f.lists=false):=hid (by rw [HL.out];simp [d3])
     have d2':(n0:Int)+(n2:Int)≤16:=by omega
     go_enter Tryz.func60,Tryz.ntmps60
     go_wp2_with (first | (go_at_call 94;refine (hSl _ (fun a v h=>keepA _ _ _ _ h)).mono ?_;rintro e w' ⟨rfl,hb'⟩;have hbw:=(hb (.cells #[.slice a0 n0 c0,.slice a1 n1 c1,.slice a2 n2 c2,.slice a3 n3 c3] 49)).trans (hb'.mono (by simp));have hbx:=heap_alloc_new w (.cells #[.slice a0 n0 c0,.slice a1 n1 c1,.slice a2 n2 c2,.slice a3 n3 c3] 49);have hbx':=(hb'.block _ (by simp)).trans hbx;have k3:w'.cell? ⟨w.heap.size,3,none⟩=some (.slice a3 n3 c3):=(by rw [Lib.cell_of_heap hbx'];rfl)))
     go_ret
     exact ⟨by rw [HL'.out];rfl,hbw⟩
   ·have HL':Hid (f.lists=false):=hid (by rw [HL.out];simp [d2])
    have d2':(16:Int)<(n0:Int)+(n2:Int):=by omega
    go_enter Tryz.func60,Tryz.ntmps60
    go_wp2_with (first | (go_at_call 94;refine (hSl _ (fun a v h=>keepA _ _ _ _ h)).mono ?_;rintro e w' ⟨rfl,hb'⟩;have hbw:=(hb (.cells #[.slice a0 n0 c0,.slice a1 n1 c1,.slice a2 n2 c2,.slice a3 n3 c3] 49)).trans (hb'.mono (by simp))))
    go_ret
    exact ⟨by rw [HL'.out];rfl,hbw⟩
  ·have HL':Hid (f.lists=false):=hid (by rw [HL.out];simp [d1])
   go_enter Tryz.func60,Tryz.ntmps60
   go_wp2_with fail
   go_ret
   exact ⟨by rw [HL'.out];rfl,hb _⟩
 ·have HL':Hid (f.lists=false):=hid (by rw [HL.out];simp [d0])
  go_enter Tryz.func60,Tryz.ntmps60
  go_wp2_with fail
  go_ret
  exact ⟨by rw [HL'.out];rfl,hb _⟩
theorem name_empty (n:Int):(nameT n == [])=!(decide (1≤n) && decide (n≤53)):=by
 by_cases h:n<1∨53<n
 ·have:nameT n=[]:=rowOf_none _ _ _ h
  rw [this]
  have:(decide (1≤n) && decide (n≤53))=false:=by
   rcases h with h | h
   ·simp;omega
   ·simp;omega
  rw [this]
  rfl
 ·have:(decide (1≤n) && decide (n≤53))=true:=by simp;omega
  rw [this]
  have H:∀ k:Fin 54,1≤k.1→(nameTab.getD k.1 [] == [])=false:=by decide +kernel
  have:=H ⟨n.toNat,by omega⟩ (by show 1≤n.toNat;omega)
  unfold nameT rowOf
  rw [if_pos (by omega)]
  exact this
set_option maxRecDepth 100000 in
set_option maxHeartbeats 8000000 in
theorem rightCode_any (s:Scr)(f:Fn)(V0 V1 v0 v1 v2 v3:Value)(w:World)(hs:ScIs w.cell? s V0 V1)(hf:FnIs w.cell? f v0 v1 v2 v3)(hsf:s.fits)(hff:f.fits):Calls Tryz.prog 61 #[.agg #[V0,V1],.agg #[v0,v1,v2,v3]] w fun e w'=>e=.returned (.bool (f.code.all (insOk s.consts.length s.funcs.length (f.p.length+f.l.length))))∧Below w.heap.size w w':=by
 have hBn:=fun (t:Int) (W:World) (hk:∀ a v,w.cell? a=some v→W.cell? a=some v)=>bounds_any t s f V0 V1 v0 v1 v2 v3 W (hs.keep hk) (hf.keep hk) hsf hff
 obtain ⟨⟨a0,c0,rfl,_⟩,⟨a1,c1,rfl,_⟩,⟨a2,c2,rfl,_⟩,⟨a3,c3,rfl,g3⟩⟩:=hf
 obtain ⟨⟨A0,C0,rfl,_⟩,⟨A1,C1,rfl,_⟩⟩:=hs
 obtain ⟨_,_,_,z3⟩:=hff
 obtain ⟨sl,hsl⟩:∃ sl,sl=f.p.length+f.l.length:=⟨_,rfl⟩
 rw [← hsl] at hBn ⊢
 clear hsl hsf
 generalize hnc:s.consts.length=nc at *
 generalize hnf:s.funcs.length=nf at *
 obtain ⟨n3,hn3⟩:∃ n,n=f.code.length:=⟨_,rfl⟩
 have H3:=hid hn3
 rw [← hn3] at z3 hBn ⊢
 clear hn3 hnc hnf
 generalize f.p.length=n0 at *
 generalize f.r.length=n1 at *
 generalize f.l.length=n2 at *
 obtain ⟨W2,hW2⟩:∃ W2,W2=(w.alloc (.cells #[.slice A0 nc C0,.slice A1 nf C1] 27)).alloc (.cells #[.slice a0 n0 c0,.slice a1 n1 c1,.slice a2 n2 c2,.slice a3 n3 c3] 49):=⟨_,rfl⟩
 have hb2:Below w.heap.size w W2:=by rw [hW2];exact ((Below.refl _ w).alloc (Nat.le_refl _) _).alloc (by simp) _
 have bA:W2.heap[w.heap.size]?=some (.cells #[.slice A0 nc C0,.slice A1 nf C1] 27 (0,0)):=by rw [hW2,Below.heap_alloc _ _ _ (by simp)];exact heap_alloc_new w _
 have bB:W2.heap[w.heap.size+1]?=some (.cells #[.slice a0 n0 c0,.slice a1 n1 c1,.slice a2 n2 c2,.slice a3 n3 c3] 49 (0,0)):=by
  have:=heap_alloc_new (w.alloc (.cells #[.slice A0 nc C0,.slice A1 nf C1] 27)) (.cells #[.slice a0 n0 c0,.slice a1 n1 c1,.slice a2 n2 c2,.slice a3 n3 c3] 49)
  rw [hW2];simpa using this
 have lA:=(Array.getElem?_eq_some_iff.1 bA).1
 have lB:=(Array.getElem?_eq_some_iff.1 bB).1
 replace g3:=g3.keep (below_keep hb2)
 go_enter Tryz.func61,Tryz.ntmps61
 go_wp2_with fail
 rw [← hW2]
 clear hW2
 go_loopw [12] (fun i wr=>∃ k:Nat,k≤n3∧i=.int .i64 k∧Hid (∀ (j:Nat) (h:j<f.code.length),j<k→insOk nc nf sl f.code[j]=true)∧Below W2.heap.size W2 wr) (fun i _=>n3 - (intOf i).toNat)
 case atStart=>exact ⟨0,Nat.zero_le _,rfl,hid (by omega),Below.refl _ _⟩
 case round =>
  obtain ⟨k,hk,rfl,hr,hbr⟩:=hrel
  have hbw:Below w.heap.size w wr:=hb2.trans (hbr.mono hb2.size)
  by_cases hlt:k<n3
  ·rcases g3 with hz | ⟨x0,o0,rfl,hc0⟩
   ·have:=H3.out;rw [hz] at this;simp at this;omega
   have kl:k<f.code.length:=by have:=H3.out;omega
   obtain ⟨q0,q1⟩:=hc0 k kl
   have HS:Hid (insOk nc nf sl f.code[k]=false→(f.code.all (insOk nc nf sl))=false):=hid fun h=>all_stop kl h
   have HT:Hid (insOk nc nf sl f.code[k]=true→∀ (j:Nat) (h:j<f.code.length),j<k+1→insOk nc nf sl f.code[j]=true):=hid fun h j h1 hjk=>by
    rcases Nat.lt_or_ge j k with h3 | h3
    ·exact hr.out j h1 h3
    ·obtain rfl:j=k:=by omega
     exact h
   generalize f.code[k]=x at q0 q1 HS HT
   obtain ⟨xo,xa⟩:=x
   simp only at q0 q1
   replace q0:=below_keep hbr _ _ q0
   replace q1:=below_keep hbr _ _ q1
   clear hc0
   have HI:Hid (insOk nc nf sl (xo,xa)=(decide (1≤xo) && decide (xo≤53) && decide ((boundsN (takesN xo) nc nf sl).1≤xa) && decide (xa≤(boundsN (takesN xo) nc nf sl).2))):=hid rfl
   have hTk:=fun W=>takes_all xo W
   have hNm:=fun W=>name_any xo W
   have hnm:=name_empty xo
   have hBx:=hBn (takesN xo)
   clear hBn
   generalize boundsN (takesN xo) nc nf sl=bd at hBx HI
   obtain ⟨lo,hi⟩:=bd
   simp only at hBx HI
   generalize takesN xo=tk at hTk hBx
   generalize nameT xo=nm at hNm hnm
   obtain ⟨W3,hW3⟩:∃ W3,W3=wr.alloc (.cells #[.int .i64 xo,.int .i64 xa] 74):=⟨_,rfl⟩
   have hb3:Below wr.heap.size wr W3:=by rw [hW3];exact (Below.refl _ wr).alloc (Nat.le_refl _) _
   have b3:W3.heap[wr.heap.size]?=some (.cells #[.int .i64 xo,.int .i64 xa] 74 (0,0)):=by rw [hW3];exact heap_alloc_new wr _
   have bA3:=(hb3.block _ (Nat.lt_of_lt_of_le lA hbr.size)).trans ((hbr.block _ lA).trans bA)
   have bB3:=(hb3.block _ (Nat.lt_of_lt_of_le lB hbr.size)).trans ((hbr.block _ lB).trans bB)
   have i0:W3.cell? ⟨wr.heap.size,0,none⟩=some (.int .i64 xo):=by rw [Lib.cell_of_heap b3];rfl
   have s0:W3.cell? ⟨w.heap.size,0,none⟩=some (.slice A0 nc C0):=by rw [Lib.cell_of_heap bA3];rfl
   have s1:W3.cell? ⟨w.heap.size,1,none⟩=some (.slice A1 nf C1):=by rw [Lib.cell_of_heap bA3];rfl
   have f0:W3.cell? ⟨w.heap.size+1,0,none⟩=some (.slice a0 n0 c0):=by rw [Lib.cell_of_heap bB3];rfl
   have f1:W3.cell? ⟨w.heap.size+1,1,none⟩=some (.slice a1 n1 c1):=by rw [Lib.cell_of_heap bB3];rfl
   have f2:W3.cell? ⟨w.heap.size+1,2,none⟩=some (.slice a2 n2 c2):=by rw [Lib.cell_of_heap bB3];rfl
   have f3:W3.cell? ⟨w.heap.size+1,3,none⟩=some (.slice (some ⟨x0,o0,none⟩) n3 c3):=by rw [Lib.cell_of_heap bB3];rfl
   have hB3:=hBx W3.drew (fun a v h=>below_keep ((hbw.trans (hb3.mono hbw.size)).drew) a v h)
   clear hBx
   go_wp2_with fail
   rw [← hW3]
   have l3:=(Array.getElem?_eq_some_iff.1 b3).1
   clear hW3
   go_region_with (first | (go_at_call 97;refine (hTk _).mono ?_;rintro e w' ⟨rfl,rfl⟩) | (go_at_call 96;refine hB3.mono ?_;rintro e w5 ⟨rfl,hb5⟩;have hb5':Below W3.heap.size W3 w5:=(Below.refl _ W3).drew.trans hb5;have b5:=(hb5'.block _ l3).trans b3;have j0:w5.cell? ⟨wr.heap.size,0,none⟩=some (.int .i64 xo):=(by rw [Lib.cell_of_heap b5];rfl);have j1:w5.cell? ⟨wr.heap.size,1,none⟩=some (.int .i64 xa):=(by rw [Lib.cell_of_heap b5];rfl);have hbw5:=hbw.trans ((hb3.trans (hb5'.mono hb3.size)).mono hbw.size);have hbr5:=hbr.trans ((hb3.trans (hb5'.mono hb3.size)).mono hbr.size);clear hb5 hb5' b5 hB3 hTk))
   all_goals clear i0 s0 s1 f0 f1 f2 f3 b3 bA3 bB3 hb3 q0 q1
   all_goals
    by_cases hok:1≤xo∧xo≤53
    ·have hnm':(nm == [])=false:=by rw [hnm];simp [hok.1,hok.2]
     clear hnm
     by_cases hlo:lo≤xa
     ·by_cases hhi:xa≤hi
      ·have HE:Hid (∀ (j:Nat) (h:j<f.code.length),j<k+1→insOk nc nf sl f.code[j]=true):=hid (HT.out (by rw [HI.out];simp [hok.1,hok.2,hlo,hhi]))
       clear HI HT HS
       go_wp2_with (go_at_call 98;refine (hNm _).mono ?_;rintro e w' ⟨rfl,rfl⟩)
       exact ⟨⟨k+1,by omega,by go_num,HE,hbr5⟩,by simp [intOf];omega⟩
      ·have hhi':hi<xa:=by omega
       have HE:Hid ((f.code.all (insOk nc nf sl))=false):=hid (HS.out (by rw [HI.out];simp [hhi]))
       clear HI HT HS
       go_wp2_with (go_at_call 98;refine (hNm _).mono ?_;rintro e w' ⟨rfl,rfl⟩)
       go_ret
       exact ⟨by rw [HE.out];rfl,hbw5⟩
     ·have hlo':xa<lo:=by omega
      have HE:Hid ((f.code.all (insOk nc nf sl))=false):=hid (HS.out (by rw [HI.out];simp [hlo]))
      clear HI HT HS
      go_wp2_with (go_at_call 98;refine (hNm _).mono ?_;rintro e w' ⟨rfl,rfl⟩)
      go_ret
      exact ⟨by rw [HE.out];rfl,hbw5⟩
    ·have hbd:(decide (1≤xo) && decide (xo≤53))=false:=by
      cases h:(decide (1≤xo) && decide (xo≤53)) with
      | false=>rfl
      | true=>simp at h;exact absurd h hok
     have hnm':(nm == [])=true:=by rw [hnm,hbd];rfl
     clear hnm
     have HE:Hid ((f.code.all (insOk nc nf sl))=false):=hid (HS.out (by rw [HI.out,hbd];simp))
     clear HI HT HS
     go_wp2_with (go_at_call 98;refine (hNm _).mono ?_;rintro e w' ⟨rfl,rfl⟩)
     go_ret
     exact ⟨by rw [HE.out];rfl,hbw5⟩
  ·have HE:Hid ((f.code.all (insOk nc nf sl))=true):=hid (List.all_eq_true.2 fun z hz=>by
    obtain ⟨i,hi,rfl⟩:=List.getElem_of_mem hz
    exact hr.out i hi (by have:=H3.out;omega))
   go_wp2_with fail
   go_ret
   exact ⟨by rw [HE.out];rfl,hbw⟩
set_option maxRecDepth 100000 in
set_option maxHeartbeats 2000000 in
theorem right4_any (s:Scr)(V0 V1:Value)(w:World)(hs:ScIs w.cell? s V0 V1)(hsf:s.fits):Calls Tryz.prog 30 #[.agg #[V0,V1]] w fun e w'=>e=.returned (.bool s.right)∧Below w.heap.size w w':=by
 have hRL:∀ (f:Fn) v0 v1 v2 v3 (W:World),FnIs W.cell? f v0 v1 v2 v3→f.fits→Calls Tryz.prog 60 #[.agg #[v0,v1,v2,v3]] W fun e w'=>e=.returned (.bool f.lists)∧Below W.heap.size W w':=fun f v0 v1 v2 v3 W h h'=>rightLists_any f v0 v1 v2 v3 W h h'
 have hRC:∀ (f:Fn) v0 v1 v2 v3 (W:World),(∀ a v,w.cell? a=some v→W.cell? a=some v)→FnIs W.cell? f v0 v1 v2 v3→f.fits→Calls Tryz.prog 61 #[.agg #[V0,V1],.agg #[v0,v1,v2,v3]] W fun e w'=>e=.returned (.bool (f.code.all (insOk s.consts.length s.funcs.length (f.p.length+f.l.length))))∧Below W.heap.size W w':=fun f v0 v1 v2 v3 W hk h h'=>rightCode_any s f V0 V1 v0 v1 v2 v3 W (hs.keep hk) h hsf h'
 obtain ⟨⟨A0,C0,rfl,h0⟩,⟨A1,C1,rfl,h1⟩⟩:=hs
 obtain ⟨z0,z1,z2,z3⟩:=hsf
 obtain ⟨nc,hnc⟩:∃ n,n=s.consts.length:=⟨_,rfl⟩
 obtain ⟨nf,hnf⟩:∃ n,n=s.funcs.length:=⟨_,rfl⟩
 have HR:Hid (s.right=(decide (nc≤32) && decide (1≤nf) && decide (nf≤16) && s.consts.all (fun c=>decide (c.length≤256)) && s.funcs.all (Fn.right nc nf))):=hid (by rw [hnc,hnf];rfl)
 rw [← hnc] at z0 hRC ⊢
 rw [← hnf] at z1 hRC ⊢
 have HC:=hid hnc
 have HF:=hid hnf
 clear hnc hnf
 obtain ⟨W2,hW2⟩:∃ W2,W2=w.alloc (.cells #[.slice A0 nc C0,.slice A1 nf C1] 27):=⟨_,rfl⟩
 have hb2:Below w.heap.size w W2:=by rw [hW2];exact (Below.refl _ w).alloc (Nat.le_refl _) _
 have bA:W2.heap[w.heap.size]?=some (.cells #[.slice A0 nc C0,.slice A1 nf C1] 27 (0,0)):=by rw [hW2];exact heap_alloc_new w _
 have lA:=(Array.getElem?_eq_some_iff.1 bA).1
 have pA0:W2.cell? ⟨w.heap.size,0,none⟩=some (.slice A0 nc C0):=by rw [Lib.cell_of_heap bA];rfl
 have pA1:W2.cell? ⟨w.heap.size,1,none⟩=some (.slice A1 nf C1):=by rw [Lib.cell_of_heap bA];rfl
 replace h0:=h0.keep (below_keep hb2)
 replace h1:=h1.keep (below_keep hb2)
 by_cases d0:nc≤32
 ·by_cases d1:1≤nf
  ·by_cases d2:nf≤16
   ·have HR':Hid (s.right=(s.consts.all (fun c=>decide (c.length≤256)) && s.funcs.all (Fn.right nc nf))):=hid (by rw [HR.out];simp [d0,d1,d2])
    clear HR
    go_enter Tryz.func30,Tryz.ntmps30
    go_wp2_with fail
    rw [← hW2]
    clear hW2
    go_loopw [26] (fun i wr=>∃ k:Nat,k≤nc∧i=.int .i64 k∧Hid (∀ (j:Nat) (h:j<s.consts.length),j<k→decide (s.consts[j].length≤256)=true)∧wr=W2) (fun i _=>nc - (intOf i).toNat)
    case atStart=>exact ⟨0,Nat.zero_le _,rfl,hid (by omega),rfl⟩
    case round =>
     obtain ⟨k,hk,rfl,hr,hw⟩:=hrel
     replace hw:=hw.symm
     subst hw
     by_cases hlt:k<nc
     ·rcases h0 with hz | ⟨x0,o0,rfl,hc0⟩
      ·have:=HC.out;rw [hz] at this;simp at this;omega
      have kl:k<s.consts.length:=by have:=HC.out;omega
      have q0:=hc0 k kl
      have hzz:=z3 s.consts[k] (by simp)
      have HS:Hid (decide (s.consts[k].length≤256)=false→s.right=false):=hid fun h=>by rw [HR'.out,all_stop (p:=fun (c:List UInt8)=>decide (c.length≤256)) kl h];rfl
      have HT:Hid (decide (s.consts[k].length≤256)=true→∀ (j:Nat) (h:j<s.consts.length),j<k+1→decide (s.consts[j].length≤256)=true):=hid fun h j h1 hjk=>by
       rcases Nat.lt_or_ge j k with h3 | h3
       ·exact hr.out j h1 h3
       ·obtain rfl:j=k:=by omega
        exact h
      generalize s.consts[k]=x at q0 HS HT hzz
      clear hc0
      by_cases hx:x.length≤256
      ·have HE:=hid (HT.out (decide_eq_true hx))
       clear HS HT
       go_wp2_with fail
       exact ⟨⟨k+1,by omega,by go_num,HE,by first | rfl | trivial⟩,by simp [intOf];omega⟩
      ·have hx':256<x.length:=by omega
       have HE:=hid (HS.out (decide_eq_false hx))
       clear HS HT
       go_wp2_with fail
       go_ret
       exact ⟨by rw [HE.out];rfl,hb2⟩
     ·have HA:Hid (s.right=s.funcs.all (Fn.right nc nf)):=hid (by
       have:s.consts.all (fun c=>decide (c.length≤256))=true:=List.all_eq_true.2 fun z hz=>by
        obtain ⟨i,hi,rfl⟩:=List.getElem_of_mem hz
        exact hr.out i hi (by have:=HC.out;omega)
       rw [HR'.out,this]
       rfl)
      clear hr HR'
      go_wp2_with fail
      go_loopw [37] (fun i w5=>∃ k:Nat,k≤nf∧i=.int .i64 k∧Hid (∀ (j:Nat) (h:j<s.funcs.length),j<k→Fn.right nc nf s.funcs[j]=true)∧Below W2.heap.size W2 w5) (fun i _=>nf - (intOf i).toNat)
      case atStart=>exact ⟨0,Nat.zero_le _,rfl,hid (by omega),Below.refl _ _⟩
      case round =>
       obtain ⟨k,hk,rfl,hr,hbr⟩:=hrel
       have hbw:=hb2.trans (hbr.mono hb2.size)
       by_cases hlt:k<nf
       ·rcases h1 with hz | ⟨x0,o0,rfl,hc0⟩
        ·have:=HF.out;rw [hz] at this;simp at this;omega
        have kl:k<s.funcs.length:=by have:=HF.out;omega
        obtain ⟨v0,v1,v2,v3,q0,q1,q2,q3,hfn⟩:=hc0 k kl
        have ff:=z2 s.funcs[k] (by simp)
        have HS:Hid (Fn.right nc nf s.funcs[k]=false→s.right=false):=hid fun h=>by rw [HA.out,all_stop kl h]
        have HT:Hid (Fn.right nc nf s.funcs[k]=true→∀ (j:Nat) (h:j<s.funcs.length),j<k+1→Fn.right nc nf s.funcs[j]=true):=hid fun h j h1 hjk=>by
         rcases Nat.lt_or_ge j k with h3 | h3
         ·exact hr.out j h1 h3
         ·obtain rfl:j=k:=by omega
          exact h
        generalize s.funcs[k]=f at hfn HS HT ff
        have hkp:=below_keep hbr
        replace q0:=hkp _ _ q0
        replace q1:=hkp _ _ q1
        replace q2:=hkp _ _ q2
        replace q3:=hkp _ _ q3
        replace hfn:=hfn.keep hkp
        clear hc0 hkp
        obtain ⟨⟨fa0,fc0,rfl,F0⟩,⟨fa1,fc1,rfl,F1⟩,⟨fa2,fc2,rfl,F2⟩,⟨fa3,fc3,rfl,F3⟩⟩:=hfn
        have HFR:Hid (Fn.right nc nf f=(f.lists && f.code.all (insOk nc nf (f.p.length+f.l.length)))):=hid rfl
        obtain ⟨W4,hW4⟩:∃ W4,W4=wr.alloc (.cells #[.slice fa0 f.p.length fc0,.slice fa1 f.r.length fc1,.slice fa2 f.l.length fc2,.slice fa3 f.code.length fc3] 49):=⟨_,rfl⟩
        have hb4:Below wr.heap.size wr W4:=by rw [hW4];exact (Below.refl _ wr).alloc (Nat.le_refl _) _
        have b4:W4.heap[wr.heap.size]?=some (.cells #[.slice fa0 f.p.length fc0,.slice fa1 f.r.length fc1,.slice fa2 f.l.length fc2,.slice fa3 f.code.length fc3] 49 (0,0)):=by rw [hW4];exact heap_alloc_new wr _
        have l4:=(Array.getElem?_eq_some_iff.1 b4).1
        have bA4:=(hb4.block _ (Nat.lt_of_lt_of_le lA hbr.size)).trans ((hbr.block _ lA).trans bA)
        have hFn4:FnIs W4.cell? f (.slice fa0 f.p.length fc0) (.slice fa1 f.r.length fc1) (.slice fa2 f.l.length fc2) (.slice fa3 f.code.length fc3):=FnIs.keep ⟨⟨fa0,fc0,rfl,F0⟩,⟨fa1,fc1,rfl,F1⟩,⟨fa2,fc2,rfl,F2⟩,⟨fa3,fc3,rfl,F3⟩⟩ (below_keep hb4)
        have hL:=hRL f _ _ _ _ W4 hFn4 ff
        have hbW4:Below w.heap.size w W4:=hbw.trans (hb4.mono hbw.size)
        have hbR4:Below W2.heap.size W2 W4:=hbr.trans (hb4.mono hbr.size)
        have hC:∀ W,Below W4.heap.size W4 W→Calls Tryz.prog 61 #[.agg #[.slice A0 nc C0,.slice (some ⟨x0,o0,none⟩) nf C1],.agg #[.slice fa0 f.p.length fc0,.slice fa1 f.r.length fc1,.slice fa2 f.l.length fc2,.slice fa3 f.code.length fc3]] W fun e w'=>e=.returned (.bool (f.code.all (insOk nc nf (f.p.length+f.l.length))))∧Below W.heap.size W w':=fun W hW=>hRC f _ _ _ _ W (below_keep (hbW4.trans (hW.mono hbW4.size))) (hFn4.keep (below_keep hW)) ff
        clear hRC hRL
        generalize f.code.all (insOk nc nf (f.p.length+f.l.length))=r2 at hC HFR
        generalize f.lists=r1 at hL HFR
        generalize f.p.length=n0 at *
        generalize f.r.length=n1 at *
        generalize f.l.length=n2 at *
        generalize f.code.length=n3 at *
        have hcells:∀ W,Below W4.heap.size W4 W→(W.cell? ⟨wr.heap.size,0,none⟩=some (.slice fa0 n0 fc0)∧W.cell? ⟨wr.heap.size,1,none⟩=some (.slice fa1 n1 fc1)∧W.cell? ⟨wr.heap.size,2,none⟩=some (.slice fa2 n2 fc2)∧W.cell? ⟨wr.heap.size,3,none⟩=some (.slice fa3 n3 fc3))∧W.cell? ⟨w.heap.size,0,none⟩=some (.slice A0 nc C0)∧W.cell? ⟨w.heap.size,1,none⟩=some (.slice (some ⟨x0,o0,none⟩) nf C1):=fun W hW=>by
         have e4:=(hW.block _ l4).trans b4
         have eA:=(hW.block _ (Array.getElem?_eq_some_iff.1 bA4).1).trans bA4
         exact ⟨⟨by rw [Lib.cell_of_heap e4];rfl,by rw [Lib.cell_of_heap e4];rfl,by rw [Lib.cell_of_heap e4];rfl,by rw [Lib.cell_of_heap e4];rfl⟩,by rw [Lib.cell_of_heap eA];rfl,by rw [Lib.cell_of_heap eA];rfl⟩
        obtain ⟨⟨k0,k1,k2,k3⟩,k4,k5⟩:=hcells W4 (Below.refl _ _)
        go_upto_region 12 with fail
        rw [← hW4]
        clear hW4 q0 q1 q2 q3
        cases r1 with
        | false =>
         have HE:=hid (HS.out (by rw [HFR.out];rfl))
         go_wp2_with (go_at_call 60;refine hL.mono ?_;rintro e w6 ⟨rfl,hb6⟩)
         go_ret
         exact ⟨by rw [HE.out];rfl,hbW4.trans (hb6.mono hbW4.size)⟩
        | true =>
         cases r2 with
         | false =>
          have HE:=hid (HS.out (by rw [HFR.out];rfl))
          go_wp2_with (first | (go_at_call 60;refine hL.mono ?_;rintro e w6 ⟨rfl,hb6⟩;obtain ⟨⟨j0,j1,j2,j3⟩,j4,j5⟩:=hcells w6 hb6) | (go_at_call 61;refine (hC _ hb6).mono ?_;rintro e w7 ⟨rfl,hb7⟩))
          go_ret
          exact ⟨by rw [HE.out];rfl,(hbW4.trans (hb6.mono hbW4.size)).trans (hb7.mono (Nat.le_trans hbW4.size hb6.size))⟩
         | true =>
          have HE:=hid (HT.out (by rw [HFR.out];rfl))
          go_wp2_with (first | (go_at_call 60;refine hL.mono ?_;rintro e w6 ⟨rfl,hb6⟩;obtain ⟨⟨j0,j1,j2,j3⟩,j4,j5⟩:=hcells w6 hb6) | (go_at_call 61;refine (hC _ hb6).mono ?_;rintro e w7 ⟨rfl,hb7⟩))
          exact ⟨⟨k+1,by omega,by go_num,HE,(hbR4.trans (hb6.mono hbR4.size)).trans (hb7.mono (Nat.le_trans hbR4.size hb6.size))⟩,by simp [intOf];omega⟩
       ·have HE:Hid (s.right=true):=hid (by
         rw [HA.out]
         exact List.all_eq_true.2 fun z hz=>by
          obtain ⟨i,hi,rfl⟩:=List.getElem_of_mem hz
          exact hr.out i hi (by have:=HF.out;omega))
        go_wp2_with fail
        go_ret
        exact ⟨by rw [HE.out];rfl,hbw⟩
   ·have HE:Hid (s.right=false):=hid (by rw [HR.out];simp [d2])
    go_enter Tryz.func30,Tryz.ntmps30
    go_wp2_with fail
    go_ret
    exact ⟨by rw [HE.out];rfl,by rw [← hW2];exact hb2⟩
  ·have HE:Hid (s.right=false):=hid (by rw [HR.out];simp [d1])
   have d1':(nf:Int)<1:=by omega
   go_enter Tryz.func30,Tryz.ntmps30
   go_wp2_with fail
   go_ret
   exact ⟨by rw [HE.out];rfl,by rw [← hW2];exact hb2⟩
 ·have HE:Hid (s.right=false):=hid (by rw [HR.out];simp [d0])
  go_enter Tryz.func30,Tryz.ntmps30
  go_wp2_with fail
  go_ret
  exact ⟨by rw [HE.out];rfl,by rw [← hW2];exact hb2⟩
def FreshE (w:World)(e:Ending):Prop:=∀ a n c x,e=.returned (.tuple #[.slice (some a) n c,x])→w.heap.size≤a.block
theorem fresh_nil (w:World)(n c:Nat)(x:Value):FreshE w (.returned (.tuple #[.slice none n c,x])):=fun a n c x h=>by cases h
theorem fresh_at {w:World}{g off n c:Nat}{x:Value}(h:w.heap.size≤g):FreshE w (.returned (.tuple #[.slice (some ⟨g,off,none⟩) n c,x])):=fun a n c x e=>by cases e;exact h
theorem fresh_row {w W:World}{B n k c size:Nat}{a:Option Addr}{t:TypeId}{xs:List Value}{x:Value}(hr:W.ownsRow B t size (.slice a n c) k xs)(hB:w.heap.size≤B):FreshE w (.returned (.tuple #[.slice a n c,x])):=fun b n' c' x' e=>by
 cases e
 exact Nat.le_trans hB (hr.lt b.block rfl).1
end Go.Proofs.YtpmlnkjamhelnaaGreat
