/- shape's stack of blocks: its state, size, first, top, innermostLoop. shape's stack of blocks: push, drop. shape's stack of blocks: drop; mayStand, step. shape. -/
import Derived.Test.YtpmlnkjamhelnaaGreatAN
import Derived.Test.YtpmlnkjamhelnaaGreatPlain
import Derived.Deep.RegionLaw
import Derived.BigQuiet
import Derived.Shelf.Abstract
import Derived.Test.YtpmlnkjamhelnaaGreatShelf
import Derived.Laws.CopyOwn
import Derived.Deep.RegionHeld3
import Derived.Test.YtpmlnkjamhelnaaGreatXE
namespace Go.Proofs.YtpmlnkjamhelnaaGreat
open Go.RowKit
theorem hid6 {p:Prop}(h:p):Hid p:=h
structure Blk where
 s:Int
 o:Int
 l:Bool
 deriving DecidableEq
def Blk.v (b:Blk):Value:=.agg #[.int .i64 b.s,.int .i64 b.o,.bool b.l]
def Blk.cs (b:Blk):List Value:=[.int .i64 b.s,.int .i64 b.o,.bool b.l]
def cellsB (L:List Blk):List Value:=L.flatMap Blk.cs
theorem cellsB_len (L:List Blk):(cellsB L).length=L.length*3:=by
 induction L with
 | nil=>rfl
 | cons x L ih=>simp [cellsB,Blk.cs] at ih ⊢;omega
theorem cellsB_at:∀ (L:List Blk)(j:Nat)(h:j<L.length),(cellsB L)[j*3]?=some (.int .i64 L[j].s)∧(cellsB L)[j*3+1]?=some (.int .i64 L[j].o)∧(cellsB L)[j*3+2]?=some (.bool L[j].l)
 | [],j,h=>by simp at h
 | x :: L,0,_=>⟨rfl,rfl,rfl⟩
 | x :: L,j+1,h=>by
  have:=cellsB_at L j (by simpa using h)
  have e:cellsB (x :: L)=.int .i64 x.s :: .int .i64 x.o :: .bool x.l :: cellsB L:=by simp [cellsB,Blk.cs]
  rw [e,show (j+1)*3=j*3+1+1+1 by omega,show j*3+1+1+1+1=(j*3+1)+1+1+1 by omega,show j*3+1+1+1+2=(j*3+2)+1+1+1 by omega]
  simpa using this
structure Stk (base p:Nat)(L:List Blk)(a:Option Addr)(cap:Nat)(W:World):Prop where
 box:W.heap[p]?=some (.cells #[.slice a L.length cap] 203 (0,0))
 row:W.ownsRow base 186 3 (.slice a L.length cap) L.length (cellsB L)
theorem one_cell {w:World}{b:Nat}{x:Value}{t:TypeId}(h:w.heap[b]?=some (.cells #[x] t (0,0))):w.cell? ⟨b,0,none⟩=some x∧w.frozen? ⟨b,0,none⟩=false:=by
 simp [World.cell?,World.frozen?,h]
theorem blk_lt {w:World}{b:Nat}{o:Obj}(h:w.heap[b]?=some o):b<w.heap.size:=(Array.getElem?_eq_some_iff.1 h).1
theorem Stk.keep {base p:Nat}{L:List Blk}{a:Option Addr}{cap:Nat}{W W':World}(h:Stk base p L a cap W)(hb:Below W.heap.size W W'):Stk base p L a cap W':=⟨(hb.block _ (blk_lt h.box)).trans h.box,row_below2 h.row hb⟩
theorem Stk.new (w:World):Stk (w.heap.size+1) w.heap.size [] none 0 (w.alloc (.cells #[.slice none 0 0] 203)):=⟨heap_alloc_new w _,World.ownsRow_nil _ _ _ _⟩
theorem Stk.at {base p:Nat}{L:List Blk}{a:Option Addr}{cap:Nat}{W:World}(h:Stk base p L a cap W)(hne:0<L.length):∃ g,a=some ⟨g,0,none⟩∧base≤g∧g<W.heap.size∧L.length≤cap∧∀ j (hj:j<L.length),W.cell? ⟨g,j*3,none⟩=some (.int .i64 L[j].s)∧W.cell? ⟨g,j*3+1,none⟩=some (.int .i64 L[j].o)∧W.cell? ⟨g,j*3+2,none⟩=some (.bool L[j].l):=by
 obtain ⟨x,c,e,hc,_,hr⟩:=row_form h.row
 simp only [Value.slice.injEq] at e
 obtain ⟨rfl,_,rfl⟩:=e
 rcases hr with ⟨_,h0,_⟩ | ⟨g,rfl,hg,hl,hcell⟩
 ·omega
 ·refine ⟨g,rfl,hg,hl,hc,fun j hj=>?_⟩
  obtain ⟨k0,k1,k2⟩:=cellsB_at L j hj
  exact ⟨hcell _ _ k0,hcell _ _ k1,hcell _ _ k2⟩
theorem size6_any {base p:Nat}{L:List Blk}{a:Option Addr}{cap:Nat}(W:World)(h:Stk base p L a cap W):Calls Tryz.prog 166 #[.pointer (some ⟨p,0,none⟩)] W fun e w'=>e=.returned (.int .i64 L.length)∧w'=W:=by
 obtain ⟨p0,_⟩:=one_cell h.box
 go_enter Tryz.func166,Tryz.ntmps166
 go_wp2
 go_ret
 exact ⟨rfl,rfl⟩
theorem any1 (b:Blk)(W:World):Calls Tryz.prog 168 #[b.v] W fun e w'=>e=.returned (.bool true)∧Below W.heap.size W w':=by
 unfold Blk.v
 go_enter Tryz.func168,Tryz.ntmps168
 go_wp2
 go_ret
 exact ⟨rfl,(Below.refl _ W).alloc (Nat.le_refl _) _⟩
theorem isLoop_any (b:Blk)(W:World):Calls Tryz.prog 169 #[b.v] W fun e w'=>e=.returned (.bool b.l)∧Below W.heap.size W w':=by
 unfold Blk.v
 go_enter Tryz.func169,Tryz.ntmps169
 go_wp2
 go_ret
 exact ⟨rfl,(Below.refl _ W).alloc (Nat.le_refl _) _⟩
def firstIx (L:List Blk)(pr:Blk→Bool):Nat→Option Nat
 | 0=>none
 | k+1=>match L[k]? with
  | none=>none
  | some b=>if pr b=true then some k else firstIx L pr k
def ptrIx (g:Nat):Option Nat→Value
 | none=>.pointer none
 | some i=>.pointer (some ⟨g,i*3,none⟩)
theorem firstIx_lt {L:List Blk}{pr:Blk→Bool}:∀ {k i:Nat},firstIx L pr k=some i→i<k∧∃ b,L[i]?=some b∧pr b=true
 | 0,i,h=>by cases h
 | k+1,i,h=>by
  simp only [firstIx] at h
  cases hb:L[k]? with
  | none=>rw [hb] at h;cases h
  | some b =>
   rw [hb] at h
   simp only at h
   split at h
   ·cases h
    exact ⟨Nat.lt_succ_self _,b,hb,by assumption⟩
   ·obtain ⟨h1,h2⟩:=firstIx_lt h
    exact ⟨by omega,h2⟩
set_option maxRecDepth 100000 in
set_option maxHeartbeats 1000000 in
theorem first_of {base p g:Nat}{L:List Blk}{a:Option Addr}{cap:Nat}(W:World)(h:Stk base p L a cap W)(hg:0<L.length→a=some ⟨g,0,none⟩)(hl:L.length≤1000000)(F:Nat)(pr:Blk→Bool)(hF:∀ b W,Calls Tryz.prog F #[b.v] W fun e w'=>e=.returned (.bool (pr b))∧Below W.heap.size W w')(eF:∀ args w,(callFunc F args).run Tryz.prog w=.ok (.enter F args) w)(r:Option Nat)(HR:Hid (firstIx L pr L.length=r)) :
  Calls Tryz.prog 167 #[.pointer (some ⟨p,0,none⟩),.func (.func F) #[] #[]] W fun e w'=>e=.returned (ptrIx g r)∧Below W.heap.size W w':=by
 obtain ⟨n,hn⟩:∃ n,n=L.length:=⟨_,rfl⟩
 have HN:=hid6 hn
 have hcells:∀ wr,Below W.heap.size W wr→wr.cell? ⟨p,0,none⟩=some (.slice a n cap):=fun wr hb=>by rw [hn];exact (one_cell (h.keep hb).box).1
 have hat:Hid (0<n→∀ wr,Below W.heap.size W wr→∀ j (hj:j<L.length),wr.cell? ⟨g,j*3,none⟩=some (.int .i64 L[j].s)∧wr.cell? ⟨g,j*3+1,none⟩=some (.int .i64 L[j].o)∧wr.cell? ⟨g,j*3+2,none⟩=some (.bool L[j].l)):=hid6 fun h0 wr hb j hj=>by
  rw [hn] at h0
  obtain ⟨g',e,_,_,_,hc⟩:=(h.keep hb).at h0
  rw [hg h0] at e
  cases e
  exact hc j hj
 have hcap:0<n→n≤cap∧a=some ⟨g,0,none⟩:=fun h0=>by
  rw [hn] at h0 ⊢
  obtain ⟨_,_,_,_,hc,_⟩:=h.at h0
  exact ⟨hc,hg h0⟩
 have p0:=hcells W (Below.refl _ _)
 rw [← hn] at hl
 clear h hg hn
 go_enter Tryz.func167,Tryz.ntmps167
 go_wp2_with fail
 go_loopw [5] (fun i wr=>∃ k:Nat,k≤n∧i=.int .i64 ((k:Int) - 1)∧Hid (firstIx L pr k=r)∧Below W.heap.size W wr) (fun i _=>(intOf i+1).toNat)
 case atStart=>exact ⟨n,Nat.le_refl _,rfl,hid6 (by rw [HN.out];exact HR.out),Below.refl _ _⟩
 case round =>
  obtain ⟨k,hk,rfl,HI,hb⟩:=hrel
  have q0:=hcells _ hb
  cases k with
  | zero =>
   have HE:Hid (r=none):=hid6 HI.out.symm
   clear HI
   go_wp2_with fail
   go_ret
   exact ⟨by rw [HE.out];rfl,hb⟩
  | succ k =>
   have h0:0<n:=by omega
   have kl:k<L.length:=by have:=HN.out;omega
   obtain ⟨c0,c1,c2⟩:=hat.out h0 _ hb k kl
   obtain ⟨hc,ha⟩:=hcap h0
   have hFk:=hF L[k]
   have HS:Hid (firstIx L pr (k+1)=if pr L[k]=true then some k else firstIx L pr k):=hid6 (by rw [firstIx,List.getElem?_eq_getElem kl])
   clear hF hat
   generalize L[k]=b at c0 c1 c2 hFk HS
   obtain ⟨bs,bo,bl⟩:=b
   simp only [Blk.v] at c0 c1 c2 hFk
   subst ha
   have hi:((k+1:Nat):Int) - 1=(k:Int):=by omega
   rw [hi]
   cases hp:pr ⟨bs,bo,bl⟩ with
   | true =>
    rw [hp] at hFk
    have HE:Hid (r=some k):=hid6 (by rw [← HI.out,HS.out,if_pos hp])
    clear HI HS hp
    go_wp2_with (first | (go_at_fn F;refine (hFk _).mono ?_;rintro e w2 ⟨rfl,hb2⟩;have hb3:=hb.trans (hb2.mono hb.size);have q1:=hcells _ hb3) | fail)
    go_ret
    exact ⟨by rw [HE.out];rfl,hb3⟩
   | false =>
    rw [hp] at hFk
    have HE:Hid (firstIx L pr k=r):=hid6 (by rw [← HI.out,HS.out,if_neg (by rw [hp];decide)])
    clear HI HS hp
    go_wp2_with (first | (go_at_fn F;refine (hFk _).mono ?_;rintro e w2 ⟨rfl,hb2⟩;have hb3:=hb.trans (hb2.mono hb.size)) | fail)
    exact ⟨⟨k,by omega,rfl,HE,hb3⟩,by simp [intOf]⟩
theorem top_any {base p g:Nat}{L:List Blk}{a:Option Addr}{cap:Nat}(W:World)(h:Stk base p L a cap W)(hg:0<L.length→a=some ⟨g,0,none⟩)(hl:L.length≤1000000)(r:Option Nat)(HR:Hid (firstIx L (fun _=>true) L.length=r)) :
  Calls Tryz.prog 149 #[.pointer (some ⟨p,0,none⟩)] W fun e w'=>e=.returned (ptrIx g r)∧Below W.heap.size W w':=by
 have hF:=first_of W h hg hl 168 (fun _=>true) any1 (Go.Proofs.enters_of Tryz.func168 (by kernel_rfl) rfl) r HR
 go_enter Tryz.func149,Tryz.ntmps149
 go_wp2_with (go_at_call 167;refine hF.mono ?_;rintro e w2 ⟨rfl,hb2⟩)
 go_ret
 exact ⟨rfl,hb2⟩
theorem inner_any {base p g:Nat}{L:List Blk}{a:Option Addr}{cap:Nat}(W:World)(h:Stk base p L a cap W)(hg:0<L.length→a=some ⟨g,0,none⟩)(hl:L.length≤1000000)(r:Option Nat)(HR:Hid (firstIx L Blk.l L.length=r)) :
  Calls Tryz.prog 150 #[.pointer (some ⟨p,0,none⟩)] W fun e w'=>e=.returned (ptrIx g r)∧Below W.heap.size W w':=by
 have hF:=first_of W h hg hl 169 Blk.l isLoop_any (Go.Proofs.enters_of Tryz.func169 (by kernel_rfl) rfl) r HR
 go_enter Tryz.func150,Tryz.ntmps150
 go_wp2_with (go_at_call 167;refine hF.mono ?_;rintro e w2 ⟨rfl,hb2⟩)
 go_ret
 exact ⟨rfl,hb2⟩
theorem elemN_blk:ElemN Tryz.prog 201 186 3 24:=by
 refine ⟨Tryz.underlying201,?_,by decide⟩
 obtain ⟨i,hi,h1,h2,h3⟩:=info_parts (show (Tryz.prog.info? 186).map (fun i=>(i.zero,i.size,i.bytes))=some (some (.agg #[.int .i64 0,.int .i64 0,.bool false]),3,24) by kernel_rfl)
 exact ⟨i,_,hi,h1,h2,h3,rfl⟩
theorem cells_new6 (W:World)(xs:List Value)(t:TypeId)(B:Nat)(hB:W.heap.size=B):∀ j u,xs[j]?=some u→(W.alloc (.cells xs.toArray t)).cell? ((⟨B,0,none⟩:Addr).add j)=some u:=by
 subst hB
 intro j u hu
 rw [Addr.add_lit,Lib.cell_of_heap (heap_alloc_new W (.cells xs.toArray t))]
 simpa using hu
theorem cellsB_snoc (L:List Blk)(b:Blk):cellsB (L++[b])=cellsB L++b.cs:=by simp [cellsB]
def Mv (W W':World):Prop:=W.heap.size≤W'.heap.size∧∀ (k:Nat) (cur:Array Value) (t:TypeId) (z:Nat × Nat),t≠203→t≠186→W.heap[k]?=some (.cells cur t z)→W'.heap[k]?=some (.cells cur t z)
theorem Mv.refl (W:World):Mv W W:=⟨Nat.le_refl _,fun _ _ _ _ _ _ h=>h⟩
theorem Mv.trans {A B C:World}(h:Mv A B)(g:Mv B C):Mv A C:=⟨Nat.le_trans h.1 g.1,fun k cur t z h1 h2 hk=>g.2 k cur t z h1 h2 (h.2 k cur t z h1 h2 hk)⟩
theorem Mv.below {W W':World}(h:Below W.heap.size W W'):Mv W W':=⟨h.size,fun k _ _ _ _ _ hk=>(h.block k (blk_lt hk)).trans hk⟩
theorem Mv.set {W:World}{b o:Nat}{cs:Array Value}{t0:TypeId}{z:Nat × Nat}{u:Value}(hb:W.heap[b]?=some (.cells cs t0 z))(ht:t0=203∨t0=186):Mv W (W.setCell ⟨b,o,none⟩ u):=by
 refine ⟨by simp [World.setCell],fun k cur t z' h1 h2 hk=>(Below.heap_setCell _ _ _ k fun e=>?_).trans hk⟩
 subst e
 rw [hb] at hk
 cases hk
 rcases ht with rfl | rfl
 ·exact h1 rfl
 ·exact h2 rfl
theorem Mv.step {W W':World}{base n:Nat}{v v':Value}{xs:List Value}(hr:W.ownsRow base 186 3 v n xs)(hs:Step W v W' v'):Mv W W':=by
 refine ⟨hs.1.size,fun k cur t z h1 h2 hk=>(hs.1.block k (blk_lt hk) fun h=>?_).trans hk⟩
 rcases hr.2 with ⟨rfl,_⟩ | ⟨g,cap,cur',rfl,_,hh,_⟩
 ·cases h
 ·cases h
  rw [hk] at hh
  cases hh
  exact h2 rfl
def StkEnd (p:Nat)(L:List Blk)(W:World)(e:Ending)(w':World):Prop:=e=.returned (.tuple #[])∧(∃ a cap,Stk (p+1) p L a cap w')∧Below p W w'∧Mv W w'
theorem one_set {w:World}{b:Nat}{x u:Value}{t:TypeId}(h:w.heap[b]?=some (.cells #[x] t (0,0))):(w.setCell ⟨b,0,none⟩ u).heap[b]?=some (.cells #[u] t (0,0)):=by
 simp [World.setCell,Array.getElem?_modify,h]
theorem row_other6 {w:World}{base n size b o:Nat}{e e':TypeId}{v u:Value}{xs:List Value}{cs:Array Value}(h:w.ownsRow base e size v n xs)(hb:w.heap[b]?=some (.cells cs e' (0,0)))(hne:e≠e'):(w.setCell ⟨b,o,none⟩ u).ownsRow base e size v n xs:=by
 refine ⟨h.1,?_⟩
 rcases h.2 with h2 | ⟨g,cap,cur,rfl,hg,hh,r⟩
 ·exact .inl h2
 ·refine .inr ⟨g,cap,cur,rfl,hg,?_,r⟩
  rw [Below.heap_setCell _ _ _ _ (fun e2=>?_)]
  ·exact hh
  ·subst e2
   rw [hb] at hh
   cases hh
   exact hne rfl
set_option maxRecDepth 100000 in
set_option maxHeartbeats 1000000 in
theorem push_any {p:Nat}{L:List Blk}{a:Option Addr}{cap:Nat}(b:Blk)(W:World)(h:Stk (p+1) p L a cap W)(hl:L.length≤1000000):Calls Tryz.prog 198 #[.pointer (some ⟨p,0,none⟩),b.v] W (StkEnd p (L++[b]) W):=by
 obtain ⟨bs,bo,bl⟩:=b
 simp only [Blk.v]
 have bx4:=(Below.refl _ W).alloc (Nat.le_refl _) (.cells #[.int .i64 bs,.int .i64 bo,.bool bl] 186)
 have bx5:=bx4.drew.alloc (by simp) (.cells #[.int .i64 bs,.int .i64 bo,.bool bl] 186)
 have h5:=h.keep bx5
 obtain ⟨p0,z0⟩:=one_cell h.box
 have hlt:=blk_lt h.box
 go_enter Tryz.func198,Tryz.ntmps198
 go_wp2_with fail
 go_region_law (first
  | (refine step_appN _ (by rfl) (.tmp 8) (.tmp 10) 201 (by rfl) elemN_blk (p+1) _ L.length (cellsB L) (by rfl) h5.row _ (by rfl) 1 [.int .i64 bs,.int .i64 bo,.bool bl] (.inr ⟨⟨_,0,none⟩,1,rfl,cells_new6 _ [.int .i64 bs,.int .i64 bo,.bool bl] 186 _ (World.size_alloc _ _)⟩) rfl (by simp [Value.oneCell']) (by unfold maxLen;omega) (by omega) (by simp;omega) ?_;intro v' w6 hr6 hs6;have m6:=Mv.step h5.row hs6;have b6:w6.heap[p]?=some (.cells #[.slice a L.length cap] 203 (0,0)):=(hs6.1.block p (by simp;omega) (fun e=>by have:=(h5.row.lt p e.symm).1;omega)).trans h5.box;obtain ⟨j0,j1⟩:=one_cell b6;obtain ⟨vy,vd,rfl,_⟩:=row_form hr6))
 all_goals
  go_wp2_with fail
  go_end0
  have hb6:=(bx5.mono (show p≤W.heap.size by omega)).trans ((hs6.below (B:=p+1) (by simp;omega) fun g e=>(h5.row.lt g e).1).mono (by omega))
  refine ⟨rfl,⟨vy,vd,⟨by rw [List.length_append];exact one_set b6,?_⟩⟩,hb6.setCell (p:=⟨p,0,none⟩) (Nat.le_refl _) _,((Mv.below bx5).trans m6).trans (Mv.set b6 (.inl rfl))⟩
  rw [cellsB_snoc,List.length_append]
  exact row_other6 hr6 b6 (by decide)
theorem row_less {W:World}{base g cap n:Nat}{e:TypeId}{L:List Blk}{b:Blk}(h:W.ownsRow base e 3 (.slice (some ⟨g,0,none⟩) (L++[b]).length cap) (L++[b]).length (cellsB (L++[b])))(hn:n=L.length):W.ownsRow base e 3 (.slice (some ⟨g,0,none⟩) n cap) L.length (cellsB L):=by
 subst hn
 refine ⟨cellsB_len L,.inr ?_⟩
 rcases h.2 with ⟨h2,_⟩ | ⟨g',cap',cur,e1,hg,hh,h1,h2,h3,h4⟩
 ·cases h2
 ·cases e1
  refine ⟨g,cap,cur,rfl,hg,hh,by simp at h1;omega,h2,h3,?_⟩
  rw [cellsB_snoc,List.length_append,List.length_singleton,Nat.add_mul,Nat.one_mul] at h4
  have:=congrArg (List.take (L.length*3)) h4
  rw [List.take_take,Nat.min_eq_left (by omega),List.take_append_of_le_length (by rw [cellsB_len];exact Nat.le_refl _)] at this
  exact this.trans (List.take_of_length_le (by rw [cellsB_len];exact Nat.le_refl _))
theorem Stk.dropped {p g cap n:Nat}{L:List Blk}{b:Blk}{W:World}(h:Stk (p+1) p (L++[b]) (some ⟨g,0,none⟩) cap W)(hn:n=L.length):StkEnd p L W (.returned (.tuple #[])) (W.setCell ⟨p,0,none⟩ (.slice (some ⟨g,0,none⟩) n cap)).drew:=by
 have hr:=row_less h.row hn
 refine ⟨rfl,⟨some ⟨g,0,none⟩,cap,⟨?_,?_⟩⟩,((Below.refl p W).setCell (p:=⟨p,0,none⟩) (Nat.le_refl _) _).drew,Mv.set h.box (.inl rfl)⟩
 ·rw [hn];exact one_set h.box
 ·rw [hn] at hr ⊢;exact row_other6 hr h.box (by decide)
set_option maxRecDepth 100000 in
set_option maxHeartbeats 1000000 in
theorem drop_any {p:Nat}{L:List Blk}{b:Blk}{a:Option Addr}{cap:Nat}(W:World)(h:Stk (p+1) p (L++[b]) a cap W)(hl:L.length≤1000000):Calls Tryz.prog 199 #[.pointer (some ⟨p,0,none⟩)] W (StkEnd p L W):=by
 have hx:=h.box
 obtain ⟨g,rfl,hg1,hg2,hc,_⟩:=h.at (by simp)
 rw [List.length_append,List.length_singleton] at hx hc
 obtain ⟨p0,z0⟩:=one_cell hx
 have hlt:=blk_lt h.box
 obtain ⟨n,hn⟩:∃ n,n=L.length:=⟨_,rfl⟩
 rw [← hn] at hx p0 hc hl
 have hw:IntKind.i64.wrap (n:Int)=(n:Int):=by rw [IntKind.wrap_i64];omega
 have hcc:(n:Int)≤(cap:Int):=by omega
 have HN:=hid6 hn
 have HS:=hid6 h
 clear hn h
 go_enter Tryz.func199,Tryz.ntmps199
 go_wp2_with fail
 go_region_law fail
 all_goals
  go_end0
  exact HS.out.dropped HN.out
def standS (n:Int)(L:List Blk):Bool :=
 if n=48∨n=51 then decide (L.length<8)
 else if n=49 then (match L.getLast? with | none=>false | some b=>!b.l && decide (b.o=-1))
 else if n=50 then decide (0<L.length)
 else if n=52 then (firstIx L Blk.l L.length).isSome
 else true
def stepS (n at':Int)(L:List Blk):List Blk :=
 if n=48∨n=51 then L++[⟨at',-1,decide (n=51)⟩]
 else if n=49 then (match L.getLast? with | none=>L | some b=>L.dropLast++[⟨b.s,at',b.l⟩])
 else if n=50 then L.dropLast
 else L
theorem first_snoc (M:List Blk)(b:Blk):firstIx (M++[b]) (fun _=>true) (M++[b]).length=some M.length:=by
 rw [List.length_append,List.length_singleton,firstIx]
 simp
theorem Stk.word {base p:Nat}{L:List Blk}{a:Option Addr}{cap:Nat}{W:World}(h:Stk base p L a cap W):∃ g,(0<L.length→a=some ⟨g,0,none⟩):=by
 rcases Nat.eq_zero_or_pos L.length with h0 | h0
 ·exact ⟨0,fun h1=>by omega⟩
 ·obtain ⟨g,e,_⟩:=h.at h0
  exact ⟨g,fun _=>e⟩
set_option maxRecDepth 100000 in
set_option maxHeartbeats 1000000 in
theorem may_any {p:Nat}{L:List Blk}{a:Option Addr}{cap:Nat}(n:Int)(W:World)(h:Stk (p+1) p L a cap W)(hl:L.length≤1000000)(r:Bool)(HR:Hid (standS n L=r)):Calls Tryz.prog 164 #[.int .i64 n,.pointer (some ⟨p,0,none⟩)] W fun e w'=>e=.returned (.bool r)∧Below W.heap.size W w':=by
 have hS:=fun w=>size6_any (base:=p+1) (p:=p) (L:=L) (a:=a) (cap:=cap) w
 have hS:=hS _ h
 obtain ⟨g,hg⟩:=h.word
 have HR2:=HR.out
 clear HR
 by_cases n1:n=48
 ·subst n1
  have HE:Hid (decide (L.length<8)=r):=hid6 (by rw [← HR2];simp [standS])
  generalize L.length=k at hS HE hl
  clear HR2 h hg
  go_enter Tryz.func164,Tryz.ntmps164
  go_wp2_with (first | (go_at_call 166;refine hS.mono ?_;rintro e w2 ⟨rfl,rfl⟩) | fail)
  go_ret
  exact ⟨by rw [← HE.out];congr 2;simp;omega,Below.refl _ _⟩
 by_cases n2:n=51
 ·subst n2
  have HE:Hid (decide (L.length<8)=r):=hid6 (by rw [← HR2];simp [standS])
  generalize L.length=k at hS HE hl
  clear HR2 h hg
  go_enter Tryz.func164,Tryz.ntmps164
  go_wp2_with (first | (go_at_call 166;refine hS.mono ?_;rintro e w2 ⟨rfl,rfl⟩) | fail)
  go_ret
  exact ⟨by rw [← HE.out];congr 2;simp;omega,Below.refl _ _⟩
 by_cases n3:n=50
 ·subst n3
  have HE:Hid (decide (0<L.length)=r):=hid6 (by rw [← HR2];simp [standS])
  generalize L.length=k at hS HE hl
  clear HR2 h hg
  go_enter Tryz.func164,Tryz.ntmps164
  go_wp2_with (first | (go_at_call 166;refine hS.mono ?_;rintro e w2 ⟨rfl,rfl⟩) | fail)
  go_ret
  exact ⟨by rw [← HE.out];first | rfl | (congr 2;simp),Below.refl _ _⟩
 by_cases n4:n=52
 ·subst n4
  have hI:=inner_any W h hg hl _ (hid6 rfl)
  have HE:Hid ((firstIx L Blk.l L.length).isSome=r):=hid6 (by rw [← HR2];simp [standS])
  generalize firstIx L Blk.l L.length=k at hI HE
  clear HR2 h hg hS
  cases k with
  | none =>
   simp only [ptrIx] at hI
   go_enter Tryz.func164,Tryz.ntmps164
   go_wp2_with (first | (go_at_call 150;refine hI.mono ?_;rintro e w2 ⟨rfl,hb2⟩) | fail)
   go_ret
   exact ⟨by rw [← HE.out];rfl,hb2⟩
  | some k =>
   simp only [ptrIx] at hI
   go_enter Tryz.func164,Tryz.ntmps164
   go_wp2_with (first | (go_at_call 150;refine hI.mono ?_;rintro e w2 ⟨rfl,hb2⟩) | fail)
   go_ret
   exact ⟨by rw [← HE.out];rfl,hb2⟩
 by_cases n5:n=49
 ·subst n5
  rcases List.eq_nil_or_concat L with rfl | ⟨M,b,rfl⟩
  ·have hT:=top_any W h hg hl none (hid6 rfl)
   have HE:Hid (false=r):=hid6 (by rw [← HR2];rfl)
   simp only [ptrIx] at hT
   clear HR2 h hg hS
   go_enter Tryz.func164,Tryz.ntmps164
   go_wp2_with (first | (go_at_call 149;refine hT.mono ?_;rintro e w2 ⟨rfl,hb2⟩) | fail)
   go_ret
   exact ⟨by rw [← HE.out];rfl,hb2⟩
  ·rw [List.concat_eq_append] at h hg hl HR2
   have hT:=top_any W h hg hl (some M.length) (hid6 (first_snoc M b))
   have HE:Hid ((!b.l && decide (b.o=-1))=r):=hid6 (by rw [← HR2];simp [standS])
   have hat:∀ wr,Below W.heap.size W wr→wr.cell? ⟨g,M.length*3+1,none⟩=some (.int .i64 b.o)∧wr.cell? ⟨g,M.length*3+2,none⟩=some (.bool b.l):=fun wr hb=>by
    obtain ⟨g',e,_,_,_,hc⟩:=(h.keep hb).at (by simp)
    rw [hg (by simp)] at e
    cases e
    have:=hc M.length (by simp)
    simpa using this.2
   simp only [ptrIx] at hT
   generalize M.length=k at hT hat
   obtain ⟨bs,bo,bl⟩:=b
   simp only at hat HE
   clear HR2 h hg hS hl
   cases bl with
   | true =>
    go_enter Tryz.func164,Tryz.ntmps164
    go_wp2_with (first | (go_at_call 149;refine hT.mono ?_;rintro e w2 ⟨rfl,hb2⟩;obtain ⟨d1,d2⟩:=hat _ hb2) | fail)
    go_ret
    exact ⟨by rw [← HE.out];simp,hb2⟩
   | false =>
    go_enter Tryz.func164,Tryz.ntmps164
    go_wp2_with (first | (go_at_call 149;refine hT.mono ?_;rintro e w2 ⟨rfl,hb2⟩;obtain ⟨d1,d2⟩:=hat _ hb2) | fail)
    go_ret
    exact ⟨by rw [← HE.out];by_cases hbo:bo=-1 <;> simp [hbo],hb2⟩
 ·have HE:Hid (true=r):=hid6 (by rw [← HR2];simp [standS,n1,n2,n3,n4,n5])
  clear HR2 h hg hS
  go_enter Tryz.func164,Tryz.ntmps164
  go_wp2_with fail
  go_ret
  exact ⟨by rw [← HE.out];rfl,Below.refl _ _⟩
theorem Stk.elsed {p g cap k:Nat}{M:List Blk}{b:Blk}{x:Int}{W0 W:World}(h:Stk (p+1) p (M++[b]) (some ⟨g,0,none⟩) cap W)(hk:k=M.length)(hb:Below W0.heap.size W0 W)(hp:p<W0.heap.size):StkEnd p (M++[⟨b.s,x,b.l⟩]) W0 (.returned (.tuple #[])) (W.setCell ⟨g,k*3+1,none⟩ (.int .i64 x)):=by
 subst hk
 have hlen:(M++[(⟨b.s,x,b.l⟩:Blk)]).length=(M++[b]).length:=by simp
 have hst:=h.row.stored (M.length*3+1) (.int .i64 x)
 have hg:=(h.row.lt g rfl).1
 obtain ⟨cur,hcur⟩:∃ cur,W.heap[g]?=some (.cells cur 186 (0,0)):=by
  rcases h.row.2 with ⟨h2,_⟩ | ⟨g',cap',cur,e1,_,hh,_⟩
  ·cases h2
  ·cases e1
   exact ⟨cur,hh⟩
 refine ⟨rfl,⟨some ⟨g,0,none⟩,cap,⟨?_,?_⟩⟩,(hb.mono (Nat.le_of_lt hp)).setCell (p:=⟨g,M.length*3+1,none⟩) (by show p≤g;omega) _,(Mv.below hb).trans (Mv.set hcur (.inr rfl))⟩
 ·rw [hlen,Below.heap_setCell _ _ _ _ (by show p≠g;omega)]
  exact h.box
 ·rw [hlen]
  have e:(cellsB (M++[b])).set (M.length*3+1) (.int .i64 x)=cellsB (M++[(⟨b.s,x,b.l⟩:Blk)]):=by
   rw [cellsB_snoc,cellsB_snoc,← cellsB_len M,List.set_append_right _ _ (by omega),Nat.add_sub_cancel_left]
   rfl
  rw [← e]
  exact hst.1
set_option maxRecDepth 100000 in
set_option maxHeartbeats 1000000 in
theorem step_any {p:Nat}{L:List Blk}{a:Option Addr}{cap:Nat}(n x:Int)(W:World)(h:Stk (p+1) p L a cap W)(hl:L.length≤1000)(hs:standS n L=true):Calls Tryz.prog 165 #[.int .i64 n,.int .i64 x,.pointer (some ⟨p,0,none⟩)] W (StkEnd p (stepS n x L) W):=by
 by_cases n1:n=48
 ·subst n1
  have hP:=push_any ⟨x,-1,false⟩ W h (by omega)
  have HE:Hid (stepS 48 x L=L++[⟨x,-1,false⟩]):=hid6 (by simp [stepS])
  simp only [Blk.v] at hP
  clear hs h
  go_enter Tryz.func165,Tryz.ntmps165
  go_wp2_with (first | (go_at_call 198;refine hP.mono ?_;rintro e w2 hE;obtain ⟨rfl,hE2⟩:=hE) | fail)
  go_end0
  rw [HE.out]
  exact ⟨rfl,hE2⟩
 by_cases n2:n=51
 ·subst n2
  have hP:=push_any ⟨x,-1,true⟩ W h (by omega)
  have HE:Hid (stepS 51 x L=L++[⟨x,-1,true⟩]):=hid6 (by simp [stepS])
  simp only [Blk.v] at hP
  clear hs h
  go_enter Tryz.func165,Tryz.ntmps165
  go_wp2_with (first | (go_at_call 198;refine hP.mono ?_;rintro e w2 hE;obtain ⟨rfl,hE2⟩:=hE) | fail)
  go_end0
  rw [HE.out]
  exact ⟨rfl,hE2⟩
 by_cases n3:n=50
 ·subst n3
  rcases List.eq_nil_or_concat L with rfl | ⟨M,b,rfl⟩
  ·simp [standS] at hs
  rw [List.concat_eq_append] at h hl ⊢
  have hP:=drop_any W h (by simp at hl;omega)
  have HE:Hid (stepS 50 x (M++[b])=M):=hid6 (by simp [stepS])
  clear hs h
  go_enter Tryz.func165,Tryz.ntmps165
  go_wp2_with (first | (go_at_call 199;refine hP.mono ?_;rintro e w2 hE;obtain ⟨rfl,hE2⟩:=hE) | fail)
  go_end0
  rw [HE.out]
  exact ⟨rfl,hE2⟩
 by_cases n5:n=49
 ·subst n5
  rcases List.eq_nil_or_concat L with rfl | ⟨M,b,rfl⟩
  ·simp [standS] at hs
  rw [List.concat_eq_append] at h hl ⊢
  obtain ⟨g,rfl,_⟩:=h.at (by simp)
  have hT:=top_any W h (fun _=>rfl) (by omega) (some M.length) (hid6 (first_snoc M b))
  have HE:Hid (stepS 49 x (M++[b])=M++[⟨b.s,x,b.l⟩]):=hid6 (by simp [stepS])
  have hat:∀ wr,Below W.heap.size W wr→wr.cell? ⟨g,M.length*3+1,none⟩=some (.int .i64 b.o)∧wr.frozen? ⟨g,M.length*3+1,none⟩=false:=fun wr hb=>by
   obtain ⟨g',e,_,_,_,hc⟩:=(h.keep hb).at (by simp)
   cases e
   have:=hc M.length (by simp)
   exact ⟨by simpa using this.2.1,(h.keep hb).row.frozenAt _⟩
  simp only [ptrIx] at hT
  have HS:=hid6 h
  obtain ⟨k,hk⟩:∃ k,k=M.length:=⟨_,rfl⟩
  rw [← hk] at hT hat
  have HK:=hid6 hk
  clear hs h hk
  go_enter Tryz.func165,Tryz.ntmps165
  go_wp2_with (first | (go_at_call 149;refine hT.mono ?_;rintro e w2 ⟨rfl,hb2⟩;obtain ⟨d1,d2⟩:=hat _ hb2) | fail)
  go_end0
  rw [HE.out]
  exact (HS.out.keep hb2).elsed HK.out hb2 (blk_lt HS.out.box)
 ·have HE:Hid (stepS n x L=L):=hid6 (by simp [stepS,n1,n2,n3,n5])
  have HS:=hid6 h
  clear hs h
  go_enter Tryz.func165,Tryz.ntmps165
  go_wp2_with fail
  go_end0
  rw [HE.out]
  exact ⟨rfl,⟨_,_,HS.out⟩,Below.refl _ _,Mv.refl _⟩
def runS:List Int→Int→List Blk→Option (List Blk)
 | [],_,L=>some L
 | n :: ns,x,L=>if standS n L=true then runS ns (x+1) (stepS n x L) else none
theorem runS_append:∀ (a b:List Int)(x:Int)(L:List Blk),runS (a++b) x L=(runS a x L).bind (runS b (x+a.length))
 | [],b,x,L=>by simp [runS]
 | n :: a,b,x,L=>by
  simp only [List.cons_append,runS]
  split
  ·rw [runS_append a b]
   congr 2
   simp;omega
  ·rfl
def opsI (cs:List (Int × Int)):List Int:=cs.map Prod.fst
theorem run_next {cs:List (Int × Int)}{k:Nat}{L:List Blk}(hk:k<cs.length)(h:runS (opsI (cs.take k)) 0 []=some L)(hs:standS cs[k].1 L=true):runS (opsI (cs.take (k+1))) 0 []=some (stepS cs[k].1 k L):=by
 rw [List.take_succ_eq_append_getElem hk,opsI,List.map_append,runS_append,show List.map Prod.fst (cs.take k)=opsI (cs.take k) from rfl,h]
 simp only [Option.bind,List.map_cons,List.map_nil,runS,if_pos hs]
 congr 2
 simp [opsI];omega
theorem run_stops {cs:List (Int × Int)}{k:Nat}{L:List Blk}(hk:k<cs.length)(h:runS (opsI (cs.take k)) 0 []=some L)(hs:standS cs[k].1 L=false):runS (opsI cs) 0 []=none:=by
 have e:cs=cs.take k++cs[k] :: cs.drop (k+1):=by rw [← List.drop_eq_getElem_cons hk,List.take_append_drop]
 have e2:opsI cs=opsI (cs.take k)++cs[k].1 :: opsI (cs.drop (k+1)):=by
  rw [opsI,opsI,opsI]
  conv=>lhs;rw [e]
  rw [List.map_append,List.map_cons]
 rw [e2,runS_append,h]
 simp only [Option.bind,runS,hs]
 rfl
theorem step_len {n x:Int}{L:List Blk}(hl:L.length≤8)(hs:standS n L=true):(stepS n x L).length≤8:=by
 unfold stepS
 split
 ·rename_i h
  simp only [standS,if_pos h,decide_eq_true_eq] at hs
  simp;omega
 ·split
  ·cases hg:L.getLast? with
   | none=>exact hl
   | some b =>
    have:L≠[]:=by rintro rfl;cases hg
    have:=List.length_pos_iff.2 this
    simp;omega
  ·split
   ·simp;omega
   ·exact hl
def KeptI (W W':World):Prop:=W.heap.size≤W'.heap.size∧∀ (k:Nat) (cur:Array Value) (z:Nat × Nat),W.heap[k]?=some (.cells cur 74 z)→W'.heap[k]?=some (.cells cur 74 z)
theorem two_cell {w:World}{b:Nat}{x y:Value}{t:TypeId}(h:w.heap[b]?=some (.cells #[x,y] t (0,0))):w.cell? ⟨b,0,none⟩=some x∧w.cell? ⟨b,1,none⟩=some y:=by
 simp [World.cell?,h]
def WalkEnd (cs:List (Int × Int))(J:Nat→World→Prop)(e:Ending)(w':World):Prop:=e=.returned (.bool (decide (runS (opsI cs) 0 []=some [])))∧∃ k,J k w'∧(runS (opsI cs) 0 []=some []→k=cs.length)
set_option maxRecDepth 100000 in
set_option maxHeartbeats 1000000 in
theorem walk_any (cs:List (Int × Int))(ca:Option Addr)(cc cb co:Nat)(hca:cs=[]∨ca=some ⟨cb,co,none⟩)(hn:cs.length≤9000000000000)(W:World)(J:Nat→World→Prop)
  (hJc:∀ k w,J k w→∀ j (h:j<cs.length),w.cell? ⟨cb,co+j*2,none⟩=some (.int .i64 cs[j].1)∧w.cell? ⟨cb,co+j*2+1,none⟩=some (.int .i64 cs[j].2))
  (hJs:∀ k w w',J k w→Mv w w'→Below W.heap.size w w'→J k w')
  (F:Nat) (fr:Array Value) (eF:∀ args w,(callFunc F args).run Tryz.prog w=.ok (.enter F args) w)
  (hF:∀ (k:Nat) (hk:k<cs.length) (p:Nat) (L:List Blk) (a:Option Addr) (cap:Nat) (w:World),W.heap.size≤p→runS (opsI (cs.take k)) 0 []=some L→standS cs[k].1 L=true→L.length≤8→Stk (p+1) p L a cap w→J k w →
   Calls Tryz.prog F (#[.int .i64 k,.pointer (some ⟨p,0,none⟩)]++fr) w fun e w'=>e=.returned (.tuple #[])∧(∃ a cap,Stk (p+1) p L a cap w')∧J (k+1) w'∧KeptI w w')
  (h0:J 0 W):Calls Tryz.prog 146 #[.slice ca cs.length cc,.func (.func F) #[] fr] W (WalkEnd cs J):=by
 have HW:Hid (Stk (W.heap.size+1) W.heap.size [] none 0 (W.alloc (.cells #[.slice none 0 0] 203))∧J 0 (W.alloc (.cells #[.slice none 0 0] 203))):=by
  have hb:=(Below.refl _ W).alloc (Nat.le_refl _) (.cells #[.slice none 0 0] 203)
  exact hid6 ⟨Stk.new W,hJs _ _ _ h0 (Mv.below hb) hb⟩
 obtain ⟨n,hn'⟩:∃ n,n=cs.length:=⟨_,rfl⟩
 have HN:=hid6 hn'
 rw [← hn'] at hn ⊢
 have HS:=hid6 hJs
 have HF:=hid6 hF
 have HC:=hid6 hJc
 clear hJs hF hJc hn' h0
 go_enter Tryz.func146,Tryz.ntmps146
 go_wp2_with fail
 go_loopw [12] (fun i wr=>∃ (k:Nat) (L:List Blk) (a:Option Addr) (cap:Nat),k≤n∧i=.int .i64 k∧Hid (runS (opsI (cs.take k)) 0 []=some L∧L.length≤8)∧Hid (Stk (W.heap.size+1) W.heap.size L a cap wr∧J k wr)∧W.heap.size<wr.heap.size) (fun i _=>n - (intOf i).toNat)
 case atStart=>exact ⟨0,[],none,0,Nat.zero_le _,rfl,hid6 ⟨rfl,by simp⟩,HW,by simp⟩
 case round =>
  obtain ⟨k,L,a,cap,hk,rfl,HL,HJ,hsz⟩:=hrel
  clear HW
  by_cases hlt:k<n
  ·have kl:k<cs.length:=by have:=HN.out;omega
   obtain ⟨c0,c1⟩:=HC.out _ _ HJ.out.2 k kl
   have ha:ca=some ⟨cb,co,none⟩:=by
    rcases hca with h | h
    ·rw [h] at kl;cases kl
    ·exact h
   subst ha
   obtain ⟨nn,hnn⟩:∃ nn,nn=cs[k].1:=⟨_,rfl⟩
   obtain ⟨na,hna⟩:∃ na,na=cs[k].2:=⟨_,rfl⟩
   rw [← hnn] at c0
   rw [← hna] at c1
   have HX:=hid6 hnn
   clear hnn hna hca
   have bA:=(Below.refl _ wr).alloc (Nat.le_refl _) (.cells #[.int .i64 nn,.int .i64 na] 74)
   have hx0:=hid6 (heap_alloc_new wr (.cells #[.int .i64 nn,.int .i64 na] 74))
   have HA:Hid (Stk (W.heap.size+1) W.heap.size L a cap (wr.alloc (.cells #[.int .i64 nn,.int .i64 na] 74))∧J k (wr.alloc (.cells #[.int .i64 nn,.int .i64 na] 74))):=hid6 ⟨HJ.out.1.keep bA,HS.out _ _ _ HJ.out.2 (Mv.below bA) (bA.mono (by omega))⟩
   have hl8:=HL.out.2
   have hM:=may_any nn _ HA.out.1 (by omega) _ (hid6 rfl)
   cases hst:standS nn L with
   | false =>
    rw [hst] at hM
    have HE:Hid (runS (opsI cs) 0 []=none):=hid6 (run_stops kl HL.out.1 (by rw [← HX.out];exact hst))
    clear hst
    go_wp2_with (first | (go_at_call 164;refine hM.mono ?_;rintro e w2 ⟨rfl,hb2⟩) | fail)
    go_ret
    refine ⟨by rw [HE.out];rfl,k,HS.out _ _ _ HA.out.2 (Mv.below hb2) (hb2.mono (by rw [World.size_alloc];omega)),fun h=>by rw [HE.out] at h;cases h⟩
   | true =>
    rw [hst] at hM
    have HT:=hid6 hst
    clear hst bA
    go_wp2_with (first
     | (go_at_call 164;refine hM.mono ?_;rintro e w2 ⟨rfl,hb2⟩;have H2:=hid6 (And.intro (HA.out.1.keep hb2) (HS.out _ _ _ HA.out.2 (Mv.below hb2) (hb2.mono (by rw [World.size_alloc];omega))));have hx2:=hid6 ((hb2.block wr.heap.size (by simp)).trans hx0.out);clear hM)
     | (go_at_fn F;refine (HF.out k kl W.heap.size L _ _ _ (Nat.le_refl _) HL.out.1 (by rw [← HX.out];exact HT.out) hl8 H2.out.1 H2.out.2).mono ?_;rintro e w3 ⟨rfl,⟨a3,cap3,S3⟩,J3,K3⟩;have hx3:=K3.2 _ _ _ hx2.out;obtain ⟨d0,d1⟩:=two_cell hx3;have H3:=hid6 S3;have hy3:=hid6 hx3;clear S3 hx3)
     | (go_at_call 165;refine (step_any nn (k:Int) _ H3.out (by omega) HT.out).mono ?_;rintro e w4 ⟨rfl,⟨a4,cap4,S4⟩,b4,m4⟩)
     | fail)
    refine ⟨⟨k+1,stepS nn k L,a4,cap4,by omega,by simp,hid6 ⟨?_,step_len hl8 HT.out⟩,hid6 ⟨S4,HS.out _ _ _ J3 m4 b4⟩,blk_lt S4.box⟩,?_⟩
    ·have:=run_next kl HL.out.1 (by rw [← HX.out];exact HT.out)
     rw [← HX.out] at this
     exact this
    ·simp [intOf];omega
  ·have:k=n:=by omega
   subst this
   have hE:Hid (runS (opsI cs) 0 []=some L):=hid6 (by have:=HL.out.1;rwa [List.take_of_length_le (by rw [← HN.out];exact Nat.le_refl _)] at this)
   have hSz:=size6_any _ HJ.out.1
   obtain ⟨q,hq⟩:∃ q,q=L.length:=⟨_,rfl⟩
   rw [← hq] at hSz
   have hq8:q≤8:=by rw [hq];exact HL.out.2
   have HQ:=hid6 hq
   clear hq
   go_wp2_with (first | (go_at_call 166;refine hSz.mono ?_;rintro e w2 ⟨rfl,rfl⟩) | fail)
   go_ret
   refine ⟨?_,k,HJ.out.2,fun _=>HN.out⟩
   rw [hE.out]
   have:((q:Int) == 0)=decide (some L=some []):=by
    rw [HQ.out]
    cases L with
    | nil=>rfl
    | cons x L=>simp;omega
   exact congrArg (fun b=>Ending.returned (.bool b)) this
def NumBlk (g:Nat)(ms:List Int)(W:World):Prop:=W.heap[g]?=some (.cells (cellsN ms).toArray 3 (0,0))
theorem NumBlk.at {g:Nat}{ms:List Int}{W:World}(h:NumBlk g ms W)(j:Nat)(hj:j<ms.length):W.cell? ⟨g,j,none⟩=some (.int .i64 ms[j])∧W.frozen? ⟨g,j,none⟩=false:=by
 unfold NumBlk at h
 refine ⟨?_,?_⟩
 ·rw [Lib.cell_of_heap h];simp [cellsN,hj]
 ·exact frozen_of_row _ _ _ _ _ h
theorem NumBlk.set {g:Nat}{ms:List Int}{W:World}(h:NumBlk g ms W)(j:Nat)(x:Int):NumBlk g (ms.set j x) (W.setCell ⟨g,j,none⟩ (.int .i64 x)):=by
 unfold NumBlk at h ⊢
 rw [heap_setCell_same _ _ _ _ _ _ h]
 congr 2
 simp [cellsN,List.map_set]
theorem NumBlk.alloc {g:Nat}{ms:List Int}{W:World}(h:NumBlk g ms W)(o:Obj):NumBlk g ms (W.alloc o):=(((Below.refl _ W).alloc (Nat.le_refl _) o).block g (blk_lt h)).trans h
def Only (g:Nat)(W W':World):Prop:=W.grownBy W' (some g)
theorem Only.refl (g:Nat)(W:World):Only g W W:=⟨rfl,rfl,rfl,Nat.le_refl _,fun _ _ _=>rfl⟩
theorem Only.trans {g:Nat}{A B C:World}(h:Only g A B)(k:Only g B C):Only g A C:=⟨k.os.trans h.os,k.tape.trans h.tape,k.output.trans h.output,Nat.le_trans h.size k.size,fun j hj hne=>(k.block j (Nat.lt_of_lt_of_le hj h.size) hne).trans (h.block j hj hne)⟩
theorem Only.set (g j:Nat)(u:Value)(W:World):Only g W (W.setCell ⟨g,j,none⟩ u):=⟨rfl,rfl,rfl,by simp,fun k _ hk=>heap_setCell_other W ⟨g,j,none⟩ k u (fun e=>hk (by simp [e]))⟩
theorem Only.below {g:Nat}{W W':World}(h:Below W.heap.size W W'):Only g W W':=⟨h.os,h.tape,h.output,h.size,fun k hk _=>h.block k hk⟩
theorem Only.obj {g b:Nat}{W W':World}{o:Obj}(h:Only g W W')(hb:W.heap[b]?=some o)(hne:b≠g):W'.heap[b]?=some o:=(h.block b (blk_lt hb) (fun e=>hne (by simpa using e))).trans hb
def pairS (ms:List Int)(s:Nat)(o:Option Nat)(t:Nat):List Int :=
 match o with
 | none=>(ms.set s (t:Int)).set t (s:Int)
 | some o=>((((ms.set s (t:Int)).set t (s:Int)).set s (o:Int)).set o (t:Int))
def oInt:Option Nat→Int
 | none=>-1
 | some o=>o
set_option maxRecDepth 100000 in
set_option maxHeartbeats 1000000 in
theorem pair_any (g:Nat)(ms:List Int)(n cap:Nat)(hn:ms.length=n)(s t:Nat)(o:Option Nat)(l:Bool)(hs:s<n)(ht:t<n)(ho:∀ x,o=some x→x<n)(W:World)(h:NumBlk g ms W) :
  Calls Tryz.prog 148 #[.slice (some ⟨g,0,none⟩) n cap,(Blk.mk s (oInt o) l).v,.int .i64 t] W fun e w'=>e=.returned (.tuple #[])∧NumBlk g (pairS ms s o t) w'∧Only g W w':=by
 have hgl:=blk_lt h
 obtain ⟨p0,z0⟩:=h.at s (by omega)
 obtain ⟨p1,z1⟩:=h.at t (by omega)
 simp only [Blk.v]
 have h1:=h.set s (t:Int)
 obtain ⟨q1,y1⟩:=h1.at t (by simp;omega)
 obtain ⟨q2,y2⟩:=h1.at s (by simp;omega)
 have h2:=h1.set t (s:Int)
 obtain ⟨r1,x1⟩:=h2.at s (by simp;omega)
 generalize ms[s]=ms0 at p0
 generalize ms[t]=ms1 at p1
 generalize (ms.set s (t:Int))[t]'(by simp;omega)=ms2 at q1
 generalize (ms.set s (t:Int))[s]'(by simp;omega)=ms3 at q2
 generalize ((ms.set s (t:Int)).set t (s:Int))[s]'(by simp;omega)=ms4 at r1
 have H1:=hid6 h1
 have H2:=hid6 h2
 have HH:=hid6 h
 clear h h1 h2
 cases o with
 | none =>
  simp only [oInt]
  go_enter Tryz.func148,Tryz.ntmps148
  go_wp2_with fail
  go_region_law fail
  all_goals
   go_wp2_with fail
  all_goals
   go_end0
   exact ⟨rfl,H2.out.alloc _,(((Only.set g s _ W).trans (Only.set g t _ _)).trans (Only.below ((Below.refl _ _).alloc (Nat.le_refl _) _).drew))⟩
 | some o =>
  have ho2:=ho o rfl
  clear ho
  have h3:=H2.out.set s (o:Int)
  obtain ⟨v1,u1⟩:=h3.at o (by simp;omega)
  generalize (((ms.set s (t:Int)).set t (s:Int)).set s (o:Int))[o]'(by simp;omega)=ms5 at v1
  have H4:=hid6 (h3.set o (t:Int))
  clear h3
  have hne:((o:Int) == -1)=false:=by simp
  simp only [oInt]
  go_enter Tryz.func148,Tryz.ntmps148
  go_wp2_with fail
  go_region_law fail
  all_goals
   go_wp2_with fail
  all_goals
   go_region_law fail
  all_goals
   go_end0
   exact ⟨rfl,H4.out.alloc _,((((Only.set g s _ W).trans (Only.set g t _ _)).trans ((Only.set g s _ _).trans (Only.set g o _ _))).trans (Only.below ((Below.refl _ _).alloc (Nat.le_refl _) _).drew.drew))⟩
def leadS (ops:List Int)(ms:List Int):Nat→List Int
 | 0=>ms
 | k+1=>let r:=leadS ops ms k
  if ops[k]?=some 52 then r.set k (r.getD (r.getD k 0).toNat 0) else r
theorem leadS_len (ops ms:List Int):∀ k,(leadS ops ms k).length=ms.length
 | 0=>rfl
 | k+1=>by
  simp only [leadS]
  split
  ·rw [List.length_set,leadS_len ops ms k]
  ·exact leadS_len ops ms k
theorem leadS_same (ops ms:List Int):∀ k j,k≤j→(leadS ops ms k).getD j 0=ms.getD j 0
 | 0,_,_=>rfl
 | k+1,j,h=>by
  simp only [leadS]
  split
  ·rw [List.getD_eq_getElem?_getD,List.getElem?_set_ne (by omega),← List.getD_eq_getElem?_getD]
   exact leadS_same ops ms k j (by omega)
  ·exact leadS_same ops ms k j (by omega)
set_option maxRecDepth 100000 in
set_option maxHeartbeats 1000000 in
theorem lead_any (cs:List (Int × Int))(ca:Option Addr)(cc cb co:Nat)(hca:cs=[]∨ca=some ⟨cb,co,none⟩)(hn:cs.length≤9000000000000)(g:Nat)(ms:List Int)(hml:ms.length=cs.length)(cap:Nat)(hcap:cs.length≤cap)(hgc:cb≠g)
  (hm:∀ k (h:k<cs.length),cs[k].1=52→0≤ms.getD k 0∧ms.getD k 0<cs.length)
  (W:World) (hc:∀ j (h:j<cs.length),W.cell? ⟨cb,co+j*2,none⟩=some (.int .i64 cs[j].1)∧W.cell? ⟨cb,co+j*2+1,none⟩=some (.int .i64 cs[j].2)) (h:NumBlk g ms W) :
  Calls Tryz.prog 151 #[.slice ca cs.length cc,.slice (some ⟨g,0,none⟩) cs.length cap] W fun e w'=>e=.returned (.tuple #[])∧NumBlk g (leadS (opsI cs) ms cs.length) w'∧Only g W w':=by
 obtain ⟨n,hn'⟩:∃ n,n=cs.length:=⟨_,rfl⟩
 have HN:=hid6 hn'
 rw [← hn'] at hn hcap hml ⊢
 have HC:=hid6 hc
 have HM:=hid6 hm
 have H0:=hid6 h
 have HL:=hid6 hml
 clear hc hm h hml hn'
 go_enter Tryz.func151,Tryz.ntmps151
 go_wp2_with fail
 go_loopw [8] (fun i wr=>∃ k:Nat,k≤n∧i=.int .i64 k∧Hid (NumBlk g (leadS (opsI cs) ms k) wr∧Only g W wr)) (fun i _=>n - (intOf i).toNat)
 case atStart=>exact ⟨0,Nat.zero_le _,rfl,hid6 ⟨H0.out,Only.refl _ _⟩⟩
 case round =>
  obtain ⟨k,hk,rfl,HR⟩:=hrel
  by_cases hlt:k<n
  ·have kl:k<cs.length:=by have:=HN.out;omega
   have hcw:wr.cell? ⟨cb,co+k*2,none⟩=some (.int .i64 cs[k].1)∧wr.cell? ⟨cb,co+k*2+1,none⟩=some (.int .i64 cs[k].2):=by
    obtain ⟨c0,c1⟩:=HC.out k kl
    exact ⟨(HR.out.2.cell c0 (by simpa using hgc)),(HR.out.2.cell c1 (by simpa using hgc))⟩
   obtain ⟨c0,c1⟩:=hcw
   have ha:ca=some ⟨cb,co,none⟩:=by
    rcases hca with h | h
    ·rw [h] at kl;cases kl
    ·exact h
   subst ha
   have hop:(opsI cs)[k]?=some cs[k].1:=by simp [opsI,kl]
   have HM2:=hid6 (HM.out k kl)
   obtain ⟨nn,hnn⟩:∃ nn,nn=cs[k].1:=⟨_,rfl⟩
   obtain ⟨na,hna⟩:∃ na,na=cs[k].2:=⟨_,rfl⟩
   rw [← hnn] at c0 hop HM2
   rw [← hna] at c1
   clear hnn hna hca
   by_cases h52:nn=52
   ·subst h52
    obtain ⟨ml,mu⟩:=HM2.out rfl
    obtain ⟨R,hR⟩:∃ R,R=leadS (opsI cs) ms k:=⟨_,rfl⟩
    have hB:=HR.out.1
    rw [← hR] at hB
    have hRl:R.length=n:=by rw [hR,leadS_len];exact HL.out
    have hRk:R.getD k 0=ms.getD k 0:=by rw [hR];exact leadS_same _ _ _ _ (Nat.le_refl _)
    obtain ⟨q,hq⟩:∃ q:Nat,R.getD k 0=(q:Int):=⟨(ms.getD k 0).toNat,by rw [hRk];omega⟩
    have hqn:q<n:=by rw [hRk] at hq;have:=HN.out;omega
    have HE:Hid (leadS (opsI cs) ms (k+1)=R.set k (R.getD q 0)):=hid6 (by simp only [leadS];rw [if_pos hop,← hR,hq];rfl)
    obtain ⟨p0,z0⟩:=hB.at k (by omega)
    obtain ⟨p1,z1⟩:=hB.at q (by omega)
    have e0:R[k]'(by omega)=(q:Int):=by rw [← hq,List.getD_eq_getElem?_getD,List.getElem?_eq_getElem (by omega)];rfl
    have e1:R[q]'(by omega)=R.getD q 0:=by rw [List.getD_eq_getElem?_getD,List.getElem?_eq_getElem (by omega)];rfl
    rw [e0] at p0
    rw [e1] at p1
    generalize R.getD q 0=y at p1 HE
    have H2:=hid6 (hB.set k y)
    have hgl:=blk_lt hB
    clear hB e0 e1 hq hRk hR hRl mu ml hop
    go_wp2_with fail
    refine ⟨⟨k+1,by omega,by simp,hid6 ⟨?_,?_⟩⟩,?_⟩
    ·rw [HE.out];exact H2.out.alloc _
    ·exact HR.out.2.trans ((Only.set g k _ _).trans (Only.below ((Below.refl _ _).alloc (Nat.le_refl _) _)))
    ·simp [intOf];omega
   ·have HE:Hid (leadS (opsI cs) ms (k+1)=leadS (opsI cs) ms k):=hid6 (by simp only [leadS];rw [if_neg (by rw [hop];simpa using h52)])
    clear hop HM2
    go_wp2_with fail
    refine ⟨⟨k+1,by omega,by simp,hid6 ⟨?_,?_⟩⟩,?_⟩
    ·rw [HE.out];exact HR.out.1.alloc _
    ·exact HR.out.2.trans (Only.below ((Below.refl _ _).alloc (Nat.le_refl _) _))
    ·simp [intOf];omega
  ·have:k=n:=by omega
   subst this
   go_wp2_with fail
   go_end0
   exact ⟨rfl,HR.out.1,HR.out.2⟩
def fillS (n k:Nat):List Int:=List.replicate k (-1)++List.replicate (n - k) 0
theorem fillS_len {n k:Nat}(h:k≤n):(fillS n k).length=n:=by simp [fillS];omega
theorem fillS_all (n:Nat):fillS n n=List.replicate n (-1):=by simp [fillS]
theorem fillS_at {n k j:Nat}(h:j<k):(fillS n k)[j]?=some (-1):=by
 rw [fillS,List.getElem?_append_left (by simpa using h)]
 simp [h]
theorem splice_fill {n k m:Nat}(h:k+m≤n):splice (cellsN (fillS n k)) k (cellsN (List.replicate m (-1)))=cellsN (fillS n (k+m)):=by
 simp only [splice,cellsN,fillS,List.map_append,List.map_replicate,List.length_replicate]
 rw [List.take_append_of_le_length (by simp),List.take_of_length_le (by simp),List.drop_append,List.drop_of_length_le (by simp),← List.append_assoc,List.replicate_append_replicate]
 rw [List.length_replicate,List.drop_replicate,show n - k - (k+m - k)=n - (k+m) by omega,List.nil_append]
theorem copy_fill (W:World)(g n k m:Nat)(dp sp:Option Addr)(dl dc sl sc:Nat)(hg:NumBlk g (fillS n k) W)(hm:m=Nat.min sl dl)(hk:k+m≤n)(hp:0<m→dp=some ⟨g,k,none⟩∧∃ ad,sp=some ad∧∀ j,j<m→W.cell? (ad.add j)=some (.int .i64 (-1))) :
  ∃ W2,(Builtin.copy_ #[28,28] 3 #[.slice dp dl dc,.slice sp sl sc]).run Tryz.prog W=.ok (.int .i64 m) W2∧NumBlk g (fillS n (k+m)) W2∧Below g W W2:=by
 have hsz:(Tryz.prog.info? 3).map (·.size)=some 1:=by
  obtain ⟨i0,hi,hz0,hz1,hz2⟩:=info_parts (show (Tryz.prog.info? 3).map (fun i=>(i.zero,i.size,i.bytes))=some (some (.int .i64 0),1,8) by kernel_rfl)
  rw [hi];simp [hz1]
 by_cases h0:m=0
 ·have hr:=run_copy_none (P:=Tryz.prog) W 28 28 3 3 dp sp dl dc sl sc Tryz.underlying28 hsz (by rw [← hm];exact h0)
  refine ⟨W,?_,?_,Below.refl _ _⟩
  ·rw [hr,h0];rfl
  ·rw [h0];exact hg
 ·obtain ⟨rfl,ad,rfl,hc⟩:=hp (by omega)
  have hlen:(cellsN (List.replicate m (-1))).length=m:=by simp [cellsN]
  have hr:=run_copy_row (P:=Tryz.prog) W 28 28 3 3 g k dl dc ad sl sc _ 3 (cellsN (List.replicate m (-1))) Tryz.underlying28 hsz hg (by rw [hlen];exact hm) (by
   intro j v hv
   have hj:j<m:=by rw [← hlen];exact (List.getElem?_eq_some_iff.1 hv).1
   simp only [cellsN,List.map_replicate] at hv
   rw [List.getElem?_replicate,if_pos hj] at hv
   cases hv
   exact hc j hj) (by rw [hlen];simp [cellsN,fillS_len (show k≤n by omega)];omega) (cellsN_one _)
  refine ⟨_,hr.trans (by rw [hlen];rfl),?_,below_setRow (Below.refl _ _) (Nat.le_refl _) _⟩
  unfold NumBlk
  rw [← splice_fill hk,splice,hlen,← List.append_assoc]
  exact setRow_heap _ _ _ _ _ _ hg
set_option maxRecDepth 100000 in
set_option maxHeartbeats 1000000 in
theorem repeat_any (b0:Nat)(n:Nat)(hn:n≤9000000000000)(w:World)(h0:w.cell? ⟨b0,0,none⟩=some (.int .i64 (-1))) :
  Calls Tryz.prog 145 #[.slice (some ⟨b0,0,none⟩) 1 1,.int .i64 n] w fun e w'=>e=.returned (.slice (some ⟨w.heap.size,0,none⟩) n n)∧NumBlk w.heap.size (List.replicate n (-1)) w'∧Below w.heap.size w w':=by
 have hMul:∀ W,Calls Tryz.prog 163 #[.int .u64 1,.int .u64 n] W fun e w'=>e=.returned (.tuple #[.int .u64 0,.int .u64 n])∧w'=W:=fun W=>by
  have:=Tryz.bits_Mul 1 n (by omega) (by omega) W
  rw [show 1*n / 18446744073709551616=0 by omega,show 1*n % 18446744073709551616=n by omega] at this
  exact this
 obtain ⟨i0,hi,hz0,hz1,hz2⟩:=info_parts (show (Tryz.prog.info? 3).map (fun i=>(i.zero,i.size,i.bytes))=some (some (.int .i64 0),1,8) by kernel_rfl)
 have hw:IntKind.u64.wrap (n:Int)=(n:Int):=by rw [IntKind.wrap_u64];omega
 have hw2:IntKind.i64.wrap (n:Int)=(n:Int):=by rw [IntKind.wrap_i64];omega
 have hbl:=World.block_lt_of_cell? w _ h0
 have hmk:(Instr.makeSlice 28 (.int .i64 (n:Int)) (.int .i64 (n:Int))).run Tryz.prog w=.ok (.slice (some ⟨w.heap.size,0,none⟩) n n) (w.alloc (.cells (cellsN (fillS n 0)).toArray 3)):=by
  have hr:=run_make (P:=Tryz.prog) w 28 3 i0 (.int .i64 0) Tryz.underlying28 hi hz0 .i64 .i64 (n:Int) (n:Int) (by omega) (Int.le_refl _) (by rw [hz2];omega) (by omega)
  rw [hr,hz1]
  simp only [Int.toNat_natCast,Nat.mul_one]
  have e:(madeCells (Value.cells (.int .i64 0)) n)=(cellsN (fillS n 0)).toArray:=by
   apply Array.toList_inj.1
   rw [show Value.cells (.int .i64 0)=#[.int .i64 0] from rfl,toList_madeCells_one]
   simp [cellsN,fillS]
  rw [e]
 have hb1:=(Below.refl _ w).alloc (Nat.le_refl _) (.cells (cellsN (fillS n 0)).toArray 3)
 obtain ⟨q,hq⟩:∃ q,q=Nat.min 1 n:=⟨_,rfl⟩
 have hq1:q≤n∧(0<n→0<q):=by rw [hq];show min 1 n≤n∧(0<n→0<min 1 n);omega
 obtain ⟨w2,hcp,hG2,hB2⟩:=copy_fill (w.alloc (.cells (cellsN (fillS n 0)).toArray 3)) w.heap.size n 0 q (some ⟨w.heap.size,0,none⟩) (some ⟨b0,0,none⟩) n n 1 1 (heap_alloc_new w _) hq (by omega) (fun _=>⟨rfl,_,rfl,fun j hj=>by
  have:j=0:=by rw [hq] at hj;have:j<min 1 n:=hj;omega
  subst this
  rw [Addr.add_lit,Nat.zero_add]
  exact (hb1.cell hbl).trans h0⟩)
 have HG2:=hid6 (And.intro hG2 ((hb1.mono (Nat.le_refl _)).trans hB2))
 rw [Nat.zero_add] at HG2
 clear hi hz0 hz1 hz2 hG2 hB2 hq hb1
 generalize (cellsN (fillS n 0)).toArray=cur0 at hmk hcp
 go_enter Tryz.func145,Tryz.ntmps145
 go_wp2_with (first
  | (go_at_call 163;refine (hMul _).mono ?_;rintro e w' ⟨rfl,e1⟩;rw [e1];clear e1)
  | fail)
 go_loopw [8] (fun i wr=>∃ k:Nat,k≤n∧(0<n→0<k)∧i=.int .i64 k∧Hid (NumBlk w.heap.size (fillS n k) wr∧Below w.heap.size w wr)) (fun i _=>n - (intOf i).toNat)
 case atStart=>exact ⟨q,hq1.1,hq1.2,rfl,HG2⟩
 case round =>
  obtain ⟨k,hk,hk0,rfl,HR⟩:=hrel
  clear hcp hmk hMul HG2
  by_cases hlt:k<n
  ·have hkk:=hk0 (by omega)
   obtain ⟨m,hm⟩:∃ m,m=Nat.min k (n - k):=⟨_,rfl⟩
   have hm1:0<m∧k+m≤n:=by rw [hm];show 0<min k (n - k)∧k+min k (n - k)≤n;omega
   obtain ⟨w3,hcp3,hG3,hB3⟩:=copy_fill wr.drew w.heap.size n k m (some ⟨w.heap.size,k,none⟩) (some ⟨w.heap.size,0,none⟩) (n - k) (n - k) k n HR.out.1 hm hm1.2 (fun _=>⟨rfl,_,rfl,fun j hj=>by
    have hj2:j<k:=by rw [hm] at hj;have:j<min k (n - k):=hj;omega
    rw [Addr.add_lit,Nat.zero_add]
    obtain ⟨e,_⟩:=HR.out.1.at j (by rw [fillS_len hk];omega)
    have e2:=fillS_at (n:=n) hj2
    rw [List.getElem?_eq_getElem (by rw [fillS_len hk];omega)] at e2
    have e3:(fillS n k)[j]'(by rw [fillS_len hk];omega)=-1:=by simpa using e2
    rw [e3] at e
    exact e⟩)
   have H3:=hid6 (And.intro hG3 (HR.out.2.drew.trans hB3))
   have hn1:¬ n=k:=by omega
   have hwk:IntKind.i64.wrap ((k:Int)+(m:Int))=(k:Int)+(m:Int):=by rw [IntKind.wrap_i64];omega
   clear hG3 hB3 hm
   go_wp2_with fail
   go_region_law fail
   all_goals simp [Act.put]
   all_goals go_wp2_with fail
   all_goals exact ⟨⟨k+m,hm1.2,fun _=>by omega,by simp,H3⟩,by simp [intOf];omega⟩
  ·have:k=n:=by omega
   subst this
   go_wp2_with fail
   go_ret
   exact ⟨rfl,by rw [← fillS_all];exact HR.out.1,HR.out.2⟩
def oOf (x:Int):Option Nat:=if x=-1 then none else some x.toNat
def visS (nn:Int)(k:Nat)(L:List Blk)(ms:List Int):List Int :=
 if nn=50 then (match L.getLast? with | none=>ms | some b=>pairS ms b.s.toNat (oOf b.o) k)
 else if nn=52 then (match firstIx L Blk.l L.length with | none=>ms | some i=>ms.set k ((L[i]?.map Blk.s).getD 0))
 else ms
def Blk.ok (n:Nat)(b:Blk):Prop:=0≤b.s∧b.s<n∧(b.o=-1∨0≤b.o∧b.o<n)
theorem Stk.only {p g:Nat}{L:List Blk}{a:Option Addr}{cap:Nat}{W W':World}(h:Stk (p+1) p L a cap W)(ho:Only g W W')(hg:g<p):Stk (p+1) p L a cap W':=by
 refine ⟨ho.obj h.box (by omega),?_⟩
 have hk:=h.row.kept ho (by
  rcases hb:(Value.slice a L.length cap).ownBlock with _ | q
  ·exact .inl rfl
  ·right
   intro e
   have:=(h.row.lt q hb).1
   cases e
   omega)
 exact hk
theorem pairS_len (ms:List Int)(s:Nat)(o:Option Nat)(t:Nat):(pairS ms s o t).length=ms.length:=by cases o <;> simp [pairS]
theorem visS_len (nn:Int)(k:Nat)(L:List Blk)(ms:List Int):(visS nn k L ms).length=ms.length:=by
 unfold visS
 split
 ·split
  ·rfl
  ·exact pairS_len _ _ _ _
 ·split
  ·split
   ·rfl
   ·simp
  ·rfl
set_option maxRecDepth 100000 in
set_option maxHeartbeats 1000000 in
theorem visit_any {p g cB mB cb co cc n k:Nat}{nn:Int}{ms:List Int}{L:List Blk}{a:Option Addr}{cap:Nat}(W:World)(hS:Stk (p+1) p L a cap W)(hl:L.length≤8)(hk:k<n)(hml:ms.length=n)(hok:∀ b ∈ L,b.ok n)(hst:standS nn L=true)
  (hcb:W.heap[cB]?=some (.cells #[.slice (some ⟨cb,co,none⟩) n cc] 47 (0,0))) (hmb:W.heap[mB]?=some (.cells #[.slice (some ⟨g,0,none⟩) n n] 28 (0,0))) (hc:W.cell? ⟨cb,co+k*2,none⟩=some (.int .i64 nn)) (hB:NumBlk g ms W) (hgp:g<p) :
  Calls Tryz.prog 147 #[.int .i64 k,.pointer (some ⟨p,0,none⟩),.pointer (some ⟨cB,0,none⟩),.pointer (some ⟨mB,0,none⟩)] W fun e w'=>e=.returned (.tuple #[])∧Stk (p+1) p L a cap w'∧NumBlk g (visS nn k L ms) w'∧Only g W w':=by
 obtain ⟨x0,_⟩:=one_cell hcb
 obtain ⟨x1,_⟩:=one_cell hmb
 have hkeep:∀ w,Below W.heap.size W w→w.cell? ⟨mB,0,none⟩=some (.slice (some ⟨g,0,none⟩) n n):=fun w hb=>(hb.cell (blk_lt hmb)).trans x1
 by_cases n1:nn=50
 ·subst n1
  rcases List.eq_nil_or_concat L with rfl | ⟨M,b,rfl⟩
  ·simp [standS] at hst
  rw [List.concat_eq_append] at hS hl hok ⊢
  obtain ⟨gg,rfl,_⟩:=hS.at (by simp)
  have hT:=top_any W.drew (hS.keep (Below.refl _ W).drew) (fun _=>rfl) (by omega) (some M.length) (hid6 (first_snoc M b))
  have hat:∀ wr,Below W.heap.size W wr→wr.cell? ⟨gg,M.length*3,none⟩=some (.int .i64 b.s)∧wr.cell? ⟨gg,M.length*3+1,none⟩=some (.int .i64 b.o)∧wr.cell? ⟨gg,M.length*3+2,none⟩=some (.bool b.l):=fun wr hb=>by
   obtain ⟨g',e,_,_,_,hc⟩:=(hS.keep hb).at (by simp)
   cases e
   simpa using hc M.length (by simp)
  obtain ⟨ok1,ok2,ok3⟩:=hok b (by simp)
  obtain ⟨s,hs⟩:∃ s:Nat,b.s=s:=⟨b.s.toNat,by omega⟩
  have HE:Hid (visS 50 k (M++[b]) ms=pairS ms s (oOf b.o) k):=hid6 (by simp [visS,hs])
  have ho:b.o=oInt (oOf b.o):=by
   unfold oOf
   rcases ok3 with h | ⟨h1,h2⟩
   ·rw [if_pos h,h];rfl
   ·rw [if_neg (by omega)];simp only [oInt];omega
  have hoo:∀ x,oOf b.o=some x→x<n:=by
   intro x hx
   unfold oOf at hx
   split at hx
   ·cases hx
   ·cases hx;omega
  have hsn:s<n:=by omega
  rw [hs,ho] at hat
  generalize oOf b.o=o at hat HE hoo
  have hP:=fun w (h:NumBlk g ms w)=>pair_any g ms n n hml s k o b.l hsn hk hoo w h
  simp only [Blk.v] at hP
  simp only [ptrIx] at hT
  generalize oInt o=oi at hat hP
  generalize b.l=bl at hat hP
  generalize M.length=q at hat hT
  have hmg:mB≠g:=by
   rintro rfl
   unfold NumBlk at hB
   rw [hmb] at hB
   simp at hB
  have hgg:gg≠g:=by
   have:=(hS.row.lt gg rfl).1
   omega
  have hS4:∀ w,Below W.heap.size W w→w.cell? ⟨mB,0,none⟩=some (.slice (some ⟨g,0,none⟩) n n)∧w.cell? ⟨gg,q*3,none⟩=some (.int .i64 s)∧w.cell? ⟨gg,q*3+1,none⟩=some (.int .i64 oi)∧w.cell? ⟨gg,q*3+2,none⟩=some (.bool bl):=fun w hb=>⟨hkeep w hb,hat w hb⟩
  have hS5:∀ w w',Below W.heap.size W w→Only g w w'→w'.cell? ⟨mB,0,none⟩=some (.slice (some ⟨g,0,none⟩) n n)∧w'.cell? ⟨gg,q*3,none⟩=some (.int .i64 s)∧w'.cell? ⟨gg,q*3+1,none⟩=some (.int .i64 oi)∧w'.cell? ⟨gg,q*3+2,none⟩=some (.bool bl):=fun w w' hb ho=>by
   obtain ⟨e0,e1,e2,e3⟩:=hS4 w hb
   exact ⟨ho.cell e0 (by simpa using hmg),ho.cell e1 (by simpa using hgg),ho.cell e2 (by simpa using hgg),ho.cell e3 (by simpa using hgg)⟩
  obtain ⟨_,y0,y1,y2⟩:=hS4 W (Below.refl _ _)
  have HS:=hid6 hS
  have HB:=hid6 hB
  have HP:=hid6 hP
  clear hS hB hok hst ok1 ok2 ok3 hs ho hoo hcb hmb hP
  go_enter Tryz.func147,Tryz.ntmps147
  go_wp2_with fail
  go_region_held3 (fun W=>W.cell? ⟨mB,0,none⟩=some (.slice (some ⟨g,0,none⟩) n n)∧W.cell? ⟨gg,q*3,none⟩=some (.int .i64 s)∧W.cell? ⟨gg,q*3+1,none⟩=some (.int .i64 oi)∧W.cell? ⟨gg,q*3+2,none⟩=some (.bool bl)) (first | go_keep | exact hS5 _ _ hb2 hO3 | exact hS4 _ hb2 | exact hS4 _ (Below.refl _ W).drew) (first
   | (go_at_call 149;refine hT.mono ?_;clear hT;rintro e w2 ⟨rfl,hb2'⟩;have hb2:Below W.heap.size W w2:=(Below.refl _ W).drew.trans hb2';skip)
   | (go_at_call 148;refine (HP.out _ ((hb2.block _ (blk_lt HB.out)).trans HB.out)).mono ?_;rintro e w3 ⟨rfl,hB3,hO3⟩))
  all_goals
   go_wp2_with fail
   go_end0
   exact ⟨rfl,(HS.out.keep hb2).only hO3 hgp,by rw [HE.out];exact hB3,(Only.below hb2).trans hO3⟩
 by_cases n2:nn=52
 ·subst n2
  have hsome:(firstIx L Blk.l L.length).isSome=true:=by simpa [standS] using hst
  obtain ⟨i,hi⟩:=Option.isSome_iff_exists.1 hsome
  obtain ⟨hil,b,hb,_⟩:=firstIx_lt hi
  obtain ⟨gg,rfl,_⟩:=hS.at (by omega)
  have hT:=inner_any W.drew (hS.keep (Below.refl _ W).drew) (fun _=>rfl) (by omega) (some i) (hid6 hi)
  have hbi:L[i]'hil=b:=by rw [List.getElem?_eq_getElem hil] at hb;exact Option.some.inj hb
  have hat:∀ wr,Below W.heap.size W wr→wr.cell? ⟨gg,i*3,none⟩=some (.int .i64 b.s):=fun wr hb=>by
   obtain ⟨g',e,_,_,_,hc⟩:=(hS.keep hb).at (by omega)
   cases e
   rw [← hbi]
   exact (hc i hil).1
  have HE:Hid (visS 52 k L ms=ms.set k b.s):=hid6 (by simp [visS,hi,hb])
  simp only [ptrIx] at hT
  generalize b.s=s at hat HE
  have hmg:mB≠g:=by
   rintro rfl
   unfold NumBlk at hB
   rw [hmb] at hB
   simp at hB
  have hgg:gg≠g:=by
   have:=(hS.row.lt gg rfl).1
   omega
  have hS4:∀ w,Below W.heap.size W w→w.cell? ⟨mB,0,none⟩=some (.slice (some ⟨g,0,none⟩) n n)∧w.cell? ⟨gg,i*3,none⟩=some (.int .i64 s):=fun w hb=>⟨hkeep w hb,hat w hb⟩
  have hS5:∀ w w',Below W.heap.size W w→Only g w w'→w'.cell? ⟨mB,0,none⟩=some (.slice (some ⟨g,0,none⟩) n n)∧w'.cell? ⟨gg,i*3,none⟩=some (.int .i64 s):=fun w w' hb ho=>by
   obtain ⟨e0,e1⟩:=hS4 w hb
   exact ⟨ho.cell e0 (by simpa using hmg),ho.cell e1 (by simpa using hgg)⟩
  obtain ⟨_,y0⟩:=hS4 W (Below.refl _ _)
  have HZ:Hid (∀ w,Below W.heap.size W w→NumBlk g ms w):=hid6 fun w hb=>(hb.block _ (blk_lt hB)).trans hB
  have HS:=hid6 hS
  clear hS hB hok hst hcb hmb hi hsome hb hbi
  go_enter Tryz.func147,Tryz.ntmps147
  go_wp2_with fail
  go_region_held3 (fun W=>W.cell? ⟨mB,0,none⟩=some (.slice (some ⟨g,0,none⟩) n n)∧W.cell? ⟨gg,i*3,none⟩=some (.int .i64 s)) (first | exact ⟨x1,y0⟩ | exact hS5 _ _ hb2 (Only.set g k _ _) | exact hS4 _ hb2 | go_keep) (first
   | (go_at_call 150;refine hT.mono ?_;clear hT;rintro e w2 ⟨rfl,hb2'⟩;have hb2:Below W.heap.size W w2:=(Below.refl _ W).drew.trans hb2';obtain ⟨z0,z1⟩:=(HZ.out _ hb2).at k (by omega)))
  all_goals
   go_wp2_with fail
   go_end0
   exact ⟨rfl,(HS.out.keep hb2).only (Only.set g k _ _) hgp,by rw [HE.out];exact (HZ.out _ hb2).set k _,(Only.below hb2).trans (Only.set g k _ _)⟩
 ·have HE:Hid (visS nn k L ms=ms):=hid6 (by simp [visS,n1,n2])
  have HH:=hid6 (And.intro hS hB)
  clear hS hB hst
  go_enter Tryz.func147,Tryz.ntmps147
  go_wp2_with fail
  go_end0
  exact ⟨rfl,HH.out.1,by rw [HE.out];exact HH.out.2,Only.refl _ _⟩
def mst (cs:List (Int × Int)):Nat→List Blk × List Int
 | 0=>([],List.replicate cs.length (-1))
 | k+1=>(stepS ((opsI cs).getD k 0) k (mst cs k).1,visS ((opsI cs).getD k 0) k (mst cs k).1 (mst cs k).2)
def okv (n:Nat)(x:Int):Prop:=0≤x∧x<n
theorem set_ok {n i j:Nat}{ms:List Int}{v:Int}(h:okv n (ms.getD j 0))(hv:okv n v):okv n ((ms.set i v).getD j 0):=by
 rw [List.getD_eq_getElem?_getD,List.getElem?_set]
 split
 ·split
  ·exact hv
  ·rw [List.getD_eq_getElem?_getD,List.getElem?_eq_none (by omega)] at h
   exact h
 ·rw [← List.getD_eq_getElem?_getD];exact h
theorem set_ok' {n j:Nat}{ms:List Int}{v:Int}(hj:j<ms.length)(hv:okv n v):okv n ((ms.set j v).getD j 0):=by
 rw [List.getD_eq_getElem?_getD,List.getElem?_set_self hj]
 exact hv
theorem oOf_lt {n:Nat}{x:Int}(h:x=-1∨0≤x∧x<n):∀ o,oOf x=some o→o<n:=by
 intro o ho
 unfold oOf at ho
 split at ho
 ·cases ho
 ·cases ho;omega
theorem visS_ok {n k j:Nat}{nn:Int}{L:List Blk}{ms:List Int}(hk:k<n)(hL:∀ b ∈ L,b.ok n)(h:okv n (ms.getD j 0)):okv n ((visS nn k L ms).getD j 0):=by
 have hkv:okv n (k:Int):=⟨by omega,by omega⟩
 unfold visS
 split
 ·split
  ·exact h
  ·rename_i b hb
   obtain ⟨s1,s2,s3⟩:=hL b (List.mem_of_getLast? hb)
   have hsv:okv n ((b.s.toNat:Nat):Int):=⟨by omega,by omega⟩
   cases ho:oOf b.o with
   | none=>exact set_ok (set_ok h hkv) hsv
   | some o =>
    have:=oOf_lt s3 o ho
    exact set_ok (set_ok (set_ok (set_ok h hkv) hsv) ⟨by omega,by omega⟩) hkv
 ·split
  ·split
   ·exact h
   ·rename_i i hi
    obtain ⟨_,b,hb,_⟩:=firstIx_lt hi
    obtain ⟨s1,s2,_⟩:=hL b (List.mem_of_getElem? hb)
    rw [hb]
    exact set_ok h ⟨s1,s2⟩
  ·exact h
theorem step_ok {n k:Nat}{nn:Int}{L:List Blk}(hk:k<n)(hL:∀ b ∈ L,b.ok n):∀ b ∈ stepS nn k L,b.ok n:=by
 intro b hb
 unfold stepS at hb
 split at hb
 ·rcases List.mem_append.1 hb with h | h
  ·exact hL b h
  ·simp at h
   subst h
   exact ⟨by simp,by simp;omega,.inl rfl⟩
 ·split at hb
  ·split at hb
   ·exact hL b hb
   ·rename_i b' hb'
    rcases List.mem_append.1 hb with h | h
    ·exact hL b ((List.dropLast_sublist _).subset h)
    ·simp at h
     subst h
     obtain ⟨s1,s2,_⟩:=hL b' (List.mem_of_getLast? hb')
     exact ⟨s1,s2,.inr ⟨by simp,by simp;omega⟩⟩
  ·split at hb
   ·exact hL b ((List.dropLast_sublist _).subset hb)
   ·exact hL b hb
theorem run_prev {cs:List (Int × Int)}{k:Nat}{L':List Blk}(hk:k<cs.length)(h:runS (opsI (cs.take (k+1))) 0 []=some L'):∃ L,runS (opsI (cs.take k)) 0 []=some L∧standS cs[k].1 L=true∧L'=stepS cs[k].1 k L:=by
 cases hr:runS (opsI (cs.take k)) 0 [] with
 | none =>
  rw [List.take_succ_eq_append_getElem hk,opsI,List.map_append,runS_append,show List.map Prod.fst (cs.take k)=opsI (cs.take k) from rfl,hr] at h
  cases h
 | some L =>
  refine ⟨L,rfl,?_⟩
  cases hs:standS cs[k].1 L with
  | true =>
   have:=run_next hk hr hs
   rw [h] at this
   exact ⟨rfl,Option.some.inj this⟩
  | false =>
   rw [List.take_succ_eq_append_getElem hk,opsI,List.map_append,runS_append,show List.map Prod.fst (cs.take k)=opsI (cs.take k) from rfl,hr] at h
   simp [runS,hs] at h
theorem ops_at {cs:List (Int × Int)}{k:Nat}(hk:k<cs.length):(opsI cs).getD k 0=cs[k].1:=by
 rw [List.getD_eq_getElem?_getD,opsI,List.getElem?_map,List.getElem?_eq_getElem hk];rfl
theorem mst_len (cs:List (Int × Int)):∀ k,(mst cs k).2.length=cs.length
 | 0=>by simp [mst]
 | k+1=>by simp only [mst];rw [visS_len];exact mst_len cs k
theorem mst_inv (cs:List (Int × Int)):∀ k L,k≤cs.length→runS (opsI (cs.take k)) 0 []=some L→(mst cs k).1=L∧(∀ b ∈ L,b.ok cs.length)∧∀ j (_:j<k) (h2:j<cs.length),cs[j].1=52→okv cs.length ((mst cs k).2.getD j 0)
 | 0,L,_,h=>by
  simp [opsI,runS] at h
  subst h
  exact ⟨rfl,fun b hb=>(by cases hb),fun j h=>(by omega)⟩
 | k+1,L',hk,h=>by
  obtain ⟨L,h1,hs,rfl⟩:=run_prev (by omega) h
  obtain ⟨i1,i2,i3⟩:=mst_inv cs k L (by omega) h1
  have hop:=ops_at (cs:=cs) (k:=k) (by omega)
  refine ⟨by simp only [mst];rw [hop,i1],step_ok (by omega) i2,?_⟩
  intro j hj hj2 h52
  simp only [mst]
  rw [hop,i1]
  by_cases e:j=k
  ·subst e
   rw [h52] at hs ⊢
   have hsome:(firstIx L Blk.l L.length).isSome=true:=by simpa [standS] using hs
   obtain ⟨i,hi⟩:=Option.isSome_iff_exists.1 hsome
   obtain ⟨_,b,hb,_⟩:=firstIx_lt hi
   obtain ⟨s1,s2,_⟩:=i2 b (List.mem_of_getElem? hb)
   have:visS 52 j L (mst cs j).2=(mst cs j).2.set j b.s:=by simp [visS,hi,hb]
   rw [this]
   exact set_ok' (by rw [mst_len];omega) ⟨s1,s2⟩
  ·exact visS_ok (by omega) i2 (i3 j (by omega) hj2 h52)
def matchS (cs:List (Int × Int)):List Int:=leadS (opsI cs) (mst cs cs.length).2 cs.length
def goodS (cs:List (Int × Int)):Bool:=decide (runS (opsI cs) 0 []=some [])
def MatchEnd (cs:List (Int × Int))(w:World)(e:Ending)(w':World):Prop :=
 (if goodS cs=true then ∃ g,w.heap.size≤g∧e=.returned (.tuple #[.slice (some ⟨g,0,none⟩) cs.length cs.length,.int .i64 0])∧NumBlk g (matchS cs) w' else e=.returned (.tuple #[.slice none 0 0,.int .i64 31]))∧Below w.heap.size w w'
structure MJ (cs:List (Int × Int))(ca:Option Addr)(cc cb co cB mB g B:Nat)(w0:World)(k:Nat)(W:World):Prop where
 c:W.heap[cB]?=some (.cells #[.slice ca cs.length cc] 47 (0,0))
 m:W.heap[mB]?=some (.cells #[.slice (some ⟨g,0,none⟩) cs.length cs.length] 28 (0,0))
 n:NumBlk g (mst cs k).2 W
 a:∀ j (h:j<cs.length),W.cell? ⟨cb,co+j*2,none⟩=some (.int .i64 cs[j].1)∧W.cell? ⟨cb,co+j*2+1,none⟩=some (.int .i64 cs[j].2)
 b:Below B w0 W
theorem Only.belowB {g B:Nat}{W W':World}(h:Only g W W')(hB:B≤g)(hg:g<W.heap.size):Below B W W':=⟨h.os,h.tape,h.output,h.size,fun k hk=>h.block k (by omega) (fun e=>by cases e;omega)⟩
theorem blk_ne {W:World}{a b:Nat}{x y:Array Value}{s t:TypeId}{u v:Nat × Nat}(ha:W.heap[a]?=some (.cells x s u))(hb:W.heap[b]?=some (.cells y t v))(hne:s≠t):a≠b:=by
 rintro rfl
 rw [ha] at hb
 cases hb
 exact hne rfl
theorem mwalk (cs:List (Int × Int))(ca:Option Addr)(cc cb co cB mB g B:Nat)(w0 W:World)(hca:cs=[]∨ca=some ⟨cb,co,none⟩)(hn:cs.length≤9000000000000)(hcb:0<cs.length→cb<B)(hBg:B≤g)(hBW:B≤W.heap.size)(h0:MJ cs ca cc cb co cB mB g B w0 0 W) :
  Calls Tryz.prog 146 #[.slice ca cs.length cc,.func (.func 147) #[] #[.pointer (some ⟨cB,0,none⟩),.pointer (some ⟨mB,0,none⟩)]] W (WalkEnd cs (MJ cs ca cc cb co cB mB g B w0)):=by
 refine walk_any cs ca cc cb co hca hn W (MJ cs ca cc cb co cB mB g B w0) (fun _ _ h=>h.a) ?_ 147 _ (Go.Proofs.enters_of Tryz.func147 (by kernel_rfl) rfl) ?_ h0
 ·intro k w1 w2 h mv bl
  refine ⟨mv.2 _ _ _ _ (by decide) (by decide) h.c,mv.2 _ _ _ _ (by decide) (by decide) h.m,mv.2 _ _ _ _ (by decide) (by decide) h.n,fun j hj=>?_,h.b.trans (bl.mono hBW)⟩
  have:=hcb (by omega)
  obtain ⟨a0,a1⟩:=h.a j hj
  exact ⟨(bl.cell (by show cb<_;omega)).trans a0,(bl.cell (by show cb<_;omega)).trans a1⟩
 ·intro k hk p L a cap w1 hp hrun hst hl8 hS hJ
  obtain ⟨i1,i2,_⟩:=mst_inv cs k L (by omega) hrun
  have hcb':=hcb (by omega)
  have hgl:g<W.heap.size:=blk_lt h0.n
  have ha:ca=some ⟨cb,co,none⟩:=by
   rcases hca with h | h
   ·rw [h] at hk;cases hk
   ·exact h
  have hJc:=hJ.c
  rw [ha] at hJc
  refine (visit_any (nn:=cs[k].1) (ms:=(mst cs k).2) w1 hS hl8 hk (mst_len cs k) i2 hst hJc hJ.m (hJ.a k hk).1 hJ.n (by omega)).mono ?_
  rintro e w2 ⟨rfl,hS2,hN2,hO2⟩
  have hcg:=blk_ne hJ.c hJ.n (by decide)
  have hmg:=blk_ne hJ.m hJ.n (by decide)
  refine ⟨rfl,⟨a,cap,hS2⟩,⟨hO2.obj hJ.c hcg,hO2.obj hJ.m hmg,?_,fun j hj=>?_,hJ.b.trans (hO2.belowB hBg (blk_lt hJ.n))⟩,hO2.size,fun q cur z hq=>hO2.obj hq (blk_ne hq hJ.n (by decide))⟩
  ·simp only [mst]
   rw [ops_at hk,i1]
   exact hN2
  ·obtain ⟨a0,a1⟩:=hJ.a j hj
   have hne:some cb≠some g:=fun e=>by cases e;omega
   exact ⟨hO2.cell a0 hne,hO2.cell a1 hne⟩
set_option maxRecDepth 100000 in
set_option maxHeartbeats 1000000 in
theorem match_any (cs:List (Int × Int))(ca:Option Addr)(cc cb co:Nat)(hca:cs=[]∨ca=some ⟨cb,co,none⟩)(hn:cs.length≤9000000000000)(w:World)
  (hc:∀ j (h:j<cs.length),w.cell? ⟨cb,co+j*2,none⟩=some (.int .i64 cs[j].1)∧w.cell? ⟨cb,co+j*2+1,none⟩=some (.int .i64 cs[j].2)) :
  Calls Tryz.prog 111 #[.slice ca cs.length cc] w (MatchEnd cs w):=by
 have hcb:0<cs.length→cb<w.heap.size:=fun h0=>World.block_lt_of_cell? w _ (hc 0 h0).1
 obtain ⟨n,hn'⟩:∃ n,n=cs.length:=⟨_,rfl⟩
 have HN:=hid6 hn'
 rw [← hn'] at hn ⊢
 have HC:=hid6 hc
 have HA:=hid6 hca
 have HCB:=hid6 hcb
 clear hc hca hcb hn'
 have hb1:=(((Below.refl _ w).alloc (Nat.le_refl _) (.cells #[.slice ca n cc] 47)).alloc (by simp) (.cells #[.int .i64 (-1)] 3))
 have hx1:((w.alloc (.cells #[.slice ca n cc] 47)).alloc (.cells #[.int .i64 (-1)] 3)).heap[w.heap.size]?=some (.cells #[.slice ca n cc] 47 (0,0)):=by
  rw [((Below.refl _ (w.alloc (.cells #[.slice ca n cc] 47))).alloc (Nat.le_refl _) (.cells #[.int .i64 (-1)] 3)).block _ (by simp)]
  exact heap_alloc_new w _
 obtain ⟨w1,hw1⟩:∃ w1,w1=(w.alloc (.cells #[.slice ca n cc] 47)).alloc (.cells #[.int .i64 (-1)] 3):=⟨_,rfl⟩
 have hs1:w1.heap.size=w.heap.size+2:=by rw [hw1];simp
 have hR:Calls Tryz.prog 145 #[.slice (some ⟨w.heap.size+1,0,none⟩) 1 1,.int .i64 n] w1 fun e w2=>∃ G,w.heap.size≤G∧e=.returned (.slice (some ⟨G,0,none⟩) n n)∧Hid (NumBlk G (List.replicate n (-1)) w2∧w2.heap[w.heap.size]?=some (.cells #[.slice ca n cc] 47 (0,0))∧Below w.heap.size w w2):=by
  refine (repeat_any (w.heap.size+1) n hn w1 (by
   rw [hw1]
   have:=(one_cell (heap_alloc_new (w.alloc (.cells #[.slice ca n cc] 47)) (.cells #[.int .i64 (-1)] 3))).1
   rw [World.size_alloc] at this
   exact this)).mono ?_
  rintro e w2 ⟨rfl,h2,h3⟩
  refine ⟨_,by omega,rfl,hid6 ⟨h2,?_,?_⟩⟩
  ·rw [h3.block _ (by omega),hw1]
   exact hx1
  ·rw [← hw1] at hb1
   exact hb1.trans (h3.mono (by omega))
 rw [hw1] at hR
 clear hw1 hs1 hx1 hb1
 have HJ0:Hid (∀ w2 G,w.heap.size≤G→NumBlk G (List.replicate n (-1)) w2∧w2.heap[w.heap.size]?=some (.cells #[.slice ca n cc] 47 (0,0))∧Below w.heap.size w w2→Calls Tryz.prog 146 #[.slice ca n cc,.func (.func 147) #[] #[.pointer (some ⟨w.heap.size,0,none⟩),.pointer (some ⟨w2.heap.size,0,none⟩)]] (w2.alloc (.cells #[.slice (some ⟨G,0,none⟩) n n] 28)) (WalkEnd cs (MJ cs ca cc cb co w.heap.size w2.heap.size G w.heap.size w))):=hid6 (by
  rintro w2 G hG ⟨h1,h2,h3⟩
  have e:=HN.out
  subst e
  have b2:=(Below.refl _ w2).alloc (Nat.le_refl _) (.cells #[.slice (some ⟨G,0,none⟩) cs.length cs.length] 28)
  have b3:=h3.trans (b2.mono h3.size)
  refine mwalk cs ca cc cb co w.heap.size w2.heap.size G w.heap.size w _ HA.out hn HCB.out hG b3.size ⟨(b2.block _ (blk_lt h2)).trans h2,heap_alloc_new w2 _,h1.alloc _,fun j hj=>?_,b3⟩
  have hl:=HCB.out (by omega)
  obtain ⟨a0,a1⟩:=HC.out j hj
  exact ⟨(b3.cell hl).trans a0,(b3.cell hl).trans a1⟩)
 cases hgd:goodS cs with
 | false =>
  have HF:Hid (decide (runS (opsI cs) 0 []=some [])=false):=hid6 hgd
  have HM:Hid (∀ e w',e=.returned (.tuple #[.slice none 0 0,.int .i64 31])→Below w.heap.size w w'→MatchEnd cs w e w'):=hid6 fun e w' he hb=>⟨by rw [hgd];exact he,hb⟩
  clear hgd
  go_enter Tryz.func111,Tryz.ntmps111
  go_wp2_with (first
   | (go_at_call 145;refine hR.mono ?_;clear hR;rintro e w2 ⟨G,hG,rfl,H2⟩;have hc2:=(one_cell H2.out.2.1).1;have hl2:=blk_lt H2.out.2.1)
   | (go_at_call 146;refine (HJ0.out w2 G hG H2.out).mono ?_;rintro e w3 ⟨he,k,hJ,_⟩;rw [HF.out] at he;subst he)
   | fail)
  go_ret2
  exact HM.out _ _ rfl hJ.b
 | true =>
  have HF:Hid (decide (runS (opsI cs) 0 []=some [])=true):=hid6 hgd
  have HM:Hid (∀ e w' G,w.heap.size≤G→e=.returned (.tuple #[.slice (some ⟨G,0,none⟩) n n,.int .i64 0])→NumBlk G (matchS cs) w'→Below w.heap.size w w'→MatchEnd cs w e w'):=hid6 fun e w' G hG he hN hb=>⟨by rw [hgd];rw [HN.out] at he;exact ⟨G,hG,he,hN⟩,hb⟩
  have HL:Hid (∀ mB G W,w.heap.size≤G→MJ cs ca cc cb co w.heap.size mB G w.heap.size w cs.length W→Calls Tryz.prog 151 #[.slice ca n cc,.slice (some ⟨G,0,none⟩) n n] W fun e w'=>e=.returned (.tuple #[])∧NumBlk G (matchS cs) w'∧Only G W w'):=hid6 (by
   intro mB G W hG hJ
   have e:=HN.out
   subst e
   have hrun:runS (opsI (cs.take cs.length)) 0 []=some []:=by rw [List.take_length];exact of_decide_eq_true HF.out
   obtain ⟨_,_,i3⟩:=mst_inv cs cs.length [] (Nat.le_refl _) hrun
   by_cases h0:cs=[]
   ·subst h0
    exact lead_any [] ca cc (G+1) co (.inl rfl) hn G _ (mst_len _ _) _ (Nat.le_refl _) (by omega) (fun k h=>by cases h) W (fun j h=>by cases h) hJ.n
   ·have hl:cb<w.heap.size:=HCB.out (List.length_pos_iff.2 h0)
    exact lead_any cs ca cc cb co HA.out hn G _ (mst_len _ _) _ (Nat.le_refl _) (by omega) (fun k h h52=>i3 k h h h52) W hJ.a hJ.n)
  clear hgd
  go_enter Tryz.func111,Tryz.ntmps111
  go_wp2_with (first
   | (go_at_call 145;refine hR.mono ?_;clear hR;rintro e w2 ⟨G,hG,rfl,H2⟩;have hc2:=(one_cell H2.out.2.1).1;have hl2:=blk_lt H2.out.2.1)
   | (go_at_call 146;refine (HJ0.out w2 G hG H2.out).mono ?_;rintro e w3 ⟨he,k,hJ,hk⟩;rw [HF.out] at he;subst he;have hk2:=hk (of_decide_eq_true HF.out);subst hk2;have hc3:=(one_cell hJ.c).1;have hm3:=(one_cell hJ.m).1;rw [← HN.out] at hc3 hm3;have HJ:=hid6 hJ;clear hJ hk)
   | (go_at_call 151;refine (HL.out _ _ _ hG HJ.out).mono ?_;rintro e w4 ⟨rfl,hN4,hO4⟩;have hm4:=(one_cell (hO4.obj HJ.out.m (blk_ne HJ.out.m HJ.out.n (by decide)))).1;rw [← HN.out] at hm4)
   | fail)
  go_ret2
  exact HM.out _ _ G hG rfl hN4 (HJ.out.b.trans (hO4.belowB hG (blk_lt HJ.out.n)))
end Go.Proofs.YtpmlnkjamhelnaaGreat
namespace Go.Proofs.YtpmlnkjamhelnaaGreat
def TM:Nat:=1048577
def cut (n:Nat):Nat:=min n TM
theorem cut_le (n:Nat):cut n≤TM:=Nat.min_le_right _ _
theorem cut_id {n:Nat}(h:n≤TM):cut n=n:=Nat.min_eq_left h
theorem cut_add (a b:Nat):cut (a+cut b)=cut (a+b):=by unfold cut TM;omega
theorem cut_add' (a b:Nat):cut (cut a+b)=cut (a+b):=by unfold cut TM;omega
def costN (n:Int):Nat:=(costT n).toNat
theorem costT_pos (n:Int):costT n=(costN n:Int)∧costN n≤30:=by
 have h:∀ x ∈ costTab,0≤x∧x≤30:=by decide
 have:0≤costT n∧costT n≤30:=by
  unfold costT rowOf
  split
  ·rename_i hh
   rw [List.getD_eq_getElem?_getD]
   cases e:costTab[n.toNat]? with
   | none=>simp
   | some x=>exact h x (List.mem_of_getElem? e)
  ·simp
 unfold costN
 omega
structure Lev where
 (l:Bool) (t:Int) (s:Nat) (e:Option Nat)
def closed9 (b:Lev):Nat :=
 if b.l then cut (costN 51+cut (min b.t.toNat TM*cut (b.s+costN 50)))
 else match b.e with
  | some y=>cut (costN 48+max y (cut (b.s+costN 50)))
  | none=>cut (costN 48+cut (b.s+costN 50))
def lstep (cal:List Int)(x:Int × Int):List Lev→List Lev
 | []=>[]
 | b :: r =>
  if x.1=48∨x.1=51 then ⟨decide (x.1=51),x.2,0,none⟩ :: b :: r
  else if x.1=49 then { b with e:=some (cut (b.s+costN 49)),s:=0 } :: r
  else if x.1=50 then (match r with | p :: q=>{ p with s:=cut (p.s+closed9 b) } :: q | []=>[b])
  else if x.1=53 then { b with s:=cut (b.s+costN 53+(cal.getD x.2.toNat 0).toNat) } :: r
  else { b with s:=cut (b.s+costN x.1) } :: r
def lrun (cal:List Int)(cs:List (Int × Int))(S:List Lev):List Lev:=cs.foldl (fun S x=>lstep cal x S) S
theorem lrun_append (cal:List Int)(a b:List (Int × Int))(S:List Lev):lrun cal (a++b) S=lrun cal b (lrun cal a S):=List.foldl_append
def base0:Lev:=⟨false,0,0,none⟩
def gasS (cal:List Int)(cs:List (Int × Int)):Nat:=match lrun cal cs [base0] with | [b]=>b.s | _=>0
/-! ### Shapes,without places. -/
def astand (n:Int)(L:List (Bool × Bool)):Bool :=
 if n=48∨n=51 then decide (L.length<8)
 else if n=49 then (match L with | []=>false | b :: _=>!b.1 && !b.2)
 else if n=50 then decide (0<L.length)
 else if n=52 then L.any Prod.fst
 else true
def astep (n:Int)(L:List (Bool × Bool)):List (Bool × Bool) :=
 if n=48∨n=51 then (decide (n=51),false) :: L
 else if n=49 then (match L with | []=>[] | b :: r=>(b.1,true) :: r)
 else if n=50 then L.tail
 else L
def arun:List (Int × Int)→List (Bool × Bool)→Option (List (Bool × Bool))
 | [],L=>some L
 | x :: cs,L=>if astand x.1 L=true then arun cs (astep x.1 L) else none
theorem arun_append:∀ (a b:List (Int × Int))(L:List (Bool × Bool)),arun (a++b) L=(arun a L).bind (arun b)
 | [],b,L=>rfl
 | x :: a,b,L=>by
  simp only [List.cons_append,arun]
  split
  ·exact arun_append a b _
  ·rfl
def absB (b:Blk):Bool × Bool:=(b.l,decide (b.o≠-1))
def absL (L:List Blk):List (Bool × Bool):=(L.map absB).reverse
theorem absL_snoc (L:List Blk)(b:Blk):absL (L++[b])=absB b :: absL L:=by simp [absL]
theorem firstIx_some {L:List Blk}:∀ k,k≤L.length→((firstIx L Blk.l k).isSome=true ↔ ∃ b ∈ L.take k,b.l=true):=by
 intro k
 induction k with
 | zero=>intro _;simp [firstIx]
 | succ k ih =>
  intro hk
  have e:L[k]?=some L[k]:=List.getElem?_eq_getElem (by omega)
  have hm:∀ b,b ∈ L.take (k+1) ↔ b ∈ L.take k∨b=L[k]:=by
   intro b
   rw [List.take_succ_eq_append_getElem (by omega),List.mem_append,List.mem_singleton]
  rw [firstIx]
  simp only [e]
  cases hb:L[k].l with
  | true =>
   refine ⟨fun _=>⟨L[k],(hm _).2 (Or.inr rfl),hb⟩,fun _=>rfl⟩
  | false =>
   refine Iff.trans (ih (by omega)) ⟨fun ⟨b,h1,h2⟩=>⟨b,(hm _).2 (Or.inl h1),h2⟩,fun ⟨b,h1,h2⟩=>?_⟩
   rcases (hm _).1 h1 with h | h
   ·exact ⟨b,h,h2⟩
   ·rw [h,hb] at h2;cases h2
theorem stand_abs (n:Int)(L:List Blk):standS n L=astand n (absL L):=by
 unfold standS astand
 have hl:(absL L).length=L.length:=by simp [absL]
 split
 ·rw [hl]
 ·split
  ·rcases List.eq_nil_or_concat L with h | ⟨M,b,h⟩
   ·subst h;rfl
   ·rw [List.concat_eq_append] at h;subst h
    rw [absL_snoc,List.getLast?_concat]
    simp [absB]
  ·split
   ·rw [hl]
   ·split
    ·rw [Bool.eq_iff_iff,firstIx_some L.length (Nat.le_refl _),List.take_length]
     simp [absL,absB]
    ·rfl
theorem step_abs (n:Int)(x:Nat)(L:List Blk):absL (stepS n x L)=astep n (absL L):=by
 unfold stepS astep
 split
 ·rw [absL_snoc];simp [absB]
 ·split
  ·rcases List.eq_nil_or_concat L with h | ⟨M,b,h⟩
   ·subst h;rfl
   ·rw [List.concat_eq_append] at h;subst h
    rw [List.getLast?_concat]
    simp only [List.dropLast_concat]
    rw [absL_snoc,absL_snoc]
    simp [absB]
  ·split
   ·rcases List.eq_nil_or_concat L with h | ⟨M,b,h⟩
    ·subst h;rfl
    ·rw [List.concat_eq_append] at h;subst h
     rw [List.dropLast_concat,absL_snoc]
     rfl
   ·rfl
theorem run_abs:∀ (cs:List (Int × Int))(x:Nat)(L:List Blk),(runS (opsI cs) x L).map absL=arun cs (absL L)
 | [],_,_=>rfl
 | c :: cs,x,L=>by
  show (if standS c.1 L=true then runS (opsI cs) ((x:Int)+1) (stepS c.1 x L) else none).map absL=_
  rw [arun,← stand_abs]
  split
  ·have:=run_abs cs (x+1) (stepS c.1 x L)
   rw [step_abs] at this
   exact this
  ·rfl
theorem good_abs (cs:List (Int × Int)):goodS cs=true ↔ arun cs []=some []:=by
 have:=run_abs cs 0 []
 rw [goodS,decide_eq_true_eq]
 show runS (opsI cs) ((0:Nat):Int) []=some [] ↔ _
 rw [show absL []=[] from rfl] at this
 rw [← this]
 cases h:runS (opsI cs) ((0:Nat):Int) [] with
 | none=>simp
 | some L =>
  simp only [Option.map_some,Option.some.injEq]
  constructor
  ·intro e;rw [e];rfl
  ·intro e
   have:L.length=0:=by have:=congrArg List.length e;simpa [absL] using this
   exact List.length_eq_zero_iff.1 this
end Go.Proofs.YtpmlnkjamhelnaaGreat
namespace Go.Proofs.YtpmlnkjamhelnaaGreat
open Go.RowKit
set_option maxRecDepth 100000 in
set_option maxHeartbeats 1000000 in
theorem cost9_no (n:Int)(w:World)(h:n<1∨53<n):Calls Tryz.prog 183 #[.int .i64 n] w fun e w'=>e=.returned (.int .i64 (costT n))∧w'=w:=by
 rw [show costT n=0 from rowOf_none _ _ n h]
 have e13:(n == 13)=false:=by simp;omega
 have e14:(n == 14)=false:=by simp;omega
 have e15:(n == 15)=false:=by simp;omega
 have e33:(n == 33)=false:=by simp;omega
 have e34:(n == 34)=false:=by simp;omega
 have e35:(n == 35)=false:=by simp;omega
 have e36:(n == 36)=false:=by simp;omega
 have e37:(n == 37)=false:=by simp;omega
 have e38:(n == 38)=false:=by simp;omega
 have e39:(n == 39)=false:=by simp;omega
 have e40:(n == 40)=false:=by simp;omega
 have e41:(n == 41)=false:=by simp;omega
 have e42:(n == 42)=false:=by simp;omega
 have e43:(n == 43)=false:=by simp;omega
 have e44:(n == 44)=false:=by simp;omega
 have e45:(n == 45)=false:=by simp;omega
 have e46:(n == 46)=false:=by simp;omega
 have e51:(n == 51)=false:=by simp;omega
 have e53:(n == 53)=false:=by simp;omega
 go_enter Tryz.func183,Tryz.ntmps183
 go_wp2
 all_goals (go_ret;exact ⟨rfl,rfl⟩)
set_option maxRecDepth 100000 in
set_option maxHeartbeats 8000000 in
theorem cost9_in (n:Int)(h:n=1∨n=2∨n=3∨n=4∨n=5∨n=6∨n=7∨n=8∨n=9∨n=10∨n=11∨n=12∨n=13∨n=14∨n=15∨n=16∨n=17∨n=18∨n=19∨n=20∨n=21∨n=22∨n=23∨n=24∨n=25∨n=26∨n=27∨n=28∨n=29∨n=30∨n=31∨n=32∨n=33∨n=34∨n=35∨n=36∨n=37∨n=38∨n=39∨n=40∨n=41∨n=42∨n=43∨n=44∨n=45∨n=46∨n=47∨n=48∨n=49∨n=50∨n=51∨n=52∨n=53)(w:World):Calls Tryz.prog 183 #[.int .i64 n] w fun e w'=>e=.returned (.int .i64 (costT n))∧w'=w:=by
 rcases h with rfl | rfl | rfl | rfl | rfl | rfl | rfl | rfl | rfl | rfl | rfl | rfl | rfl | rfl | rfl | rfl | rfl | rfl | rfl | rfl | rfl | rfl | rfl | rfl | rfl | rfl | rfl | rfl | rfl | rfl | rfl | rfl | rfl | rfl | rfl | rfl | rfl | rfl | rfl | rfl | rfl | rfl | rfl | rfl | rfl | rfl | rfl | rfl | rfl | rfl | rfl | rfl | rfl
 all_goals as_aux_lemma =>
  go_enter Tryz.func183,Tryz.ntmps183
  go_wp2
  go_ret
  exact ⟨rfl,rfl⟩
theorem cost9_t (n:Int)(w:World):Calls Tryz.prog 183 #[.int .i64 n] w fun e w'=>e=.returned (.int .i64 (costT n))∧w'=w:=by
 by_cases h:n<1∨53<n
 ·exact cost9_no n w h
 ·exact cost9_in n (op_cases n h) w
theorem cost9_any (n:Int)(w:World):Calls Tryz.prog 183 #[.int .i64 n] w fun e w'=>e=.returned (.int .i64 (costN n:Nat))∧w'=w:=by
 have h:=(costT_pos n).1
 rw [← h]
 exact cost9_t n w
theorem hid9 {p:Prop}(h:p):Hid p:=h
set_option maxRecDepth 100000 in
set_option maxHeartbeats 1000000 in
theorem sum9_any (zs:List Nat)(a:Option Addr)(n c:Nat)(hn:zs.length=n)(bn:n≤100000)(W:World)(hz:NsAt W.cell? a (zs.map Int.ofNat)) :
  Calls Tryz.prog 182 #[.slice a n c] W fun e w'=>e=.returned (.int .i64 (cut zs.sum:Nat))∧w'=W:=by
 have HN:=hid9 hn
 have HZ:=hid9 hz
 clear hn hz
 go_enter Tryz.func182,Tryz.ntmps182
 go_wp2_with fail
 go_loopw [3,8] (fun gv iv wr=>∃ k g:Nat,gv=.int .i64 g∧iv=.int .i64 k∧k≤n∧g≤1048577∧W=wr∧Hid (g=cut (zs.take k).sum)) (fun _ iv _=>n - (intOf iv).toNat)
 case atStart=>exact ⟨0,0,rfl,rfl,Nat.zero_le _,by omega,rfl,hid9 rfl⟩
 case round =>
  obtain ⟨k,g,rfl,rfl,hk,hg,rfl,HG⟩:=hrel
  by_cases hlt:k<n
  ·have hkl:k<zs.length:=by rw [HN.out];exact hlt
   obtain ⟨zb,zo,e1,z1⟩:∃ zb zo,a=some ⟨zb,zo,none⟩∧W.cell? ⟨zb,zo+k,none⟩=some (.int .i64 (zs[k]:Nat)):=by
    rcases HZ.out with h | ⟨b,o,e,h⟩
    ·rw [List.map_eq_nil_iff] at h;rw [h] at hkl;cases hkl
    ·refine ⟨b,o,e,?_⟩
     have:=h k (by rw [List.length_map];exact hkl)
     rw [List.getElem_map] at this
     exact this
   subst e1
   have HS:Hid (cut (zs.take (k+1)).sum=g+min zs[k] (1048577 - g)):=hid9 (by
    rw [List.take_succ_eq_append_getElem hkl,List.sum_append_nat,List.sum_singleton,← cut_add',← HG.out]
    unfold cut TM
    omega)
   generalize zs[k]=z at *
   clear HG HZ
   go_wp2_with fail
   exact ⟨⟨k+1,g+min z (1048577 - g),by congr 1;first | (split <;> omega) | omega,by go_num,by omega,by omega,trivial,hid9 HS.out.symm⟩,by simp [intOf];omega⟩
  ·obtain rfl:k=n:=by omega
   have HE:Hid (g=cut zs.sum):=hid9 (by rw [HG.out,← HN.out,List.take_length])
   clear HG HZ
   go_wp2_with fail
   go_ret
   exact ⟨by rw [← HE.out];rfl,rfl⟩
theorem sum9_one (x:Nat)(w:World) :
  Calls Tryz.prog 182 #[.slice (some ⟨w.heap.size,0,none⟩) 1 1] (w.alloc (.cells #[.int .i64 (x:Int)] 3)) fun e w'=>e=.returned (.int .i64 (cut x:Nat))∧w'=w.alloc (.cells #[.int .i64 (x:Int)] 3):=by
 have:=sum9_any [x] (some ⟨w.heap.size,0,none⟩) 1 1 rfl (by omega) (w.alloc (.cells #[.int .i64 (x:Int)] 3)) (.inr ⟨_,_,rfl,fun j hj=>by
  obtain rfl:j=0:=by simp at hj;omega
  exact Lib.cell_of_heap (heap_alloc_new w _) 0⟩)
 simpa using this
theorem sum9_two (x y:Nat)(w:World) :
  Calls Tryz.prog 182 #[.slice (some ⟨w.heap.size,0,none⟩) 2 2] (w.alloc (.cells #[.int .i64 (x:Int),.int .i64 (y:Int)] 3)) fun e w'=>e=.returned (.int .i64 (cut (x+y):Nat))∧w'=w.alloc (.cells #[.int .i64 (x:Int),.int .i64 (y:Int)] 3):=by
 have:=sum9_any [x,y] (some ⟨w.heap.size,0,none⟩) 2 2 rfl (by omega) (w.alloc (.cells #[.int .i64 (x:Int),.int .i64 (y:Int)] 3)) (.inr ⟨_,_,rfl,fun j hj=>by
  have hj2:j=0∨j=1:=by simp at hj;omega
  rcases hj2 with rfl | rfl
  ·exact Lib.cell_of_heap (heap_alloc_new w _) 0
  ·exact Lib.cell_of_heap (heap_alloc_new w _) 1⟩)
 simpa using this
theorem sum9_at (x y:Nat)(w:World)(B:Nat)(hB:w.heap.size=B) :
  Calls Tryz.prog 182 #[.slice (some ⟨B,0,none⟩) 2 2] (w.alloc (.cells #[.int .i64 (x:Int),.int .i64 (y:Int)] 3)) fun e w'=>e=.returned (.int .i64 (cut (x+y):Nat))∧w'=w.alloc (.cells #[.int .i64 (x:Int),.int .i64 (y:Int)] 3):=by
 subst hB
 exact sum9_two x y w
set_option maxRecDepth 100000 in
set_option maxHeartbeats 1000000 in
theorem times9_any (r g:Nat)(hg:g≤1048577)(w:World) :
  Calls Tryz.prog 184 #[.int .i64 (r:Int),.int .i64 (g:Int)] w fun e w'=>e=.returned (.int .i64 (cut (min r TM*g):Nat))∧Below w.heap.size w w':=by
 obtain ⟨v,hv⟩:∃ v,v=cut (min r TM*g):=⟨_,rfl⟩
 rw [← hv]
 rcases Nat.lt_or_ge 1048577 r with h | h
 ·have hp:1048577*g≤1048577*1048577:=Nat.mul_le_mul_left _ hg
  have HS:Hid (∀ w:World,Calls Tryz.prog 182 #[.slice (some ⟨w.heap.size,0,none⟩) 1 1] (w.alloc (.cells #[.int .i64 (1048577*(g:Int))] 3)) fun e w'=>e=.returned (.int .i64 (v:Nat))∧w'=w.alloc (.cells #[.int .i64 (1048577*(g:Int))] 3)):=hid9 fun w=>by
   have:=sum9_one (1048577*g) w
   rw [hv,Nat.min_eq_right (show TM≤r from Nat.le_of_lt h)]
   simpa [TM] using this
  have hmin:min (r:Int) 1048577=1048577:=by omega
  clear hv
  go_enter Tryz.func184,Tryz.ntmps184
  go_wp2_with (first | (go_at_call 182;refine (HS.out _).mono ?_;clear HS;rintro e w' ⟨rfl,rfl⟩) | fail)
  go_ret
  exact ⟨rfl,(Below.refl _ w).alloc (Nat.le_refl _) _⟩
 ·have hp:r*g≤1048577*1048577:=Nat.mul_le_mul h hg
  have e1:((r*g:Nat):Int)=(r:Int)*(g:Int):=Int.natCast_mul _ _
  have HS:Hid (∀ w:World,Calls Tryz.prog 182 #[.slice (some ⟨w.heap.size,0,none⟩) 1 1] (w.alloc (.cells #[.int .i64 ((r:Int)*(g:Int))] 3)) fun e w'=>e=.returned (.int .i64 (v:Nat))∧w'=w.alloc (.cells #[.int .i64 ((r:Int)*(g:Int))] 3)):=hid9 fun w=>by
   have:=sum9_one (r*g) w
   rw [hv,Nat.min_eq_left (show r≤TM from h),← e1]
   exact this
  have b1:(r:Int)*(g:Int)≤1048577*1048577:=by rw [← e1];omega
  have b2:0≤(r:Int)*(g:Int):=by rw [← e1];omega
  have hmin:min (r:Int) 1048577=(r:Int):=by omega
  clear hv e1
  go_enter Tryz.func184,Tryz.ntmps184
  go_wp2_with (first | (go_at_call 182;refine (HS.out _).mono ?_;clear HS;rintro e w' ⟨rfl,rfl⟩) | fail)
  go_ret
  exact ⟨rfl,(Below.refl _ w).alloc (Nat.le_refl _) _⟩
end Go.Proofs.YtpmlnkjamhelnaaGreat
namespace Go.Proofs.YtpmlnkjamhelnaaGreat
def seg9 (cs:List (Int × Int))(a m:Nat):List (Int × Int):=(cs.take m).drop a
theorem seg9_same (cs:List (Int × Int))(a:Nat):seg9 cs a a=[]:=by
 unfold seg9
 rw [List.drop_eq_nil_iff]
 simp
 omega
theorem seg9_snoc {cs:List (Int × Int)}{a k:Nat}(h:a≤k)(hk:k<cs.length):seg9 cs a (k+1)=seg9 cs a k++[cs[k]]:=by
 unfold seg9
 rw [List.take_succ_eq_append_getElem hk,List.drop_append_of_le_length (by simp;omega)]
theorem seg9_cat {cs:List (Int × Int)}{a k m:Nat}(h:a≤k)(h2:k≤m)(hk:k≤cs.length):seg9 cs a m=seg9 cs a k++seg9 cs k m:=by
 unfold seg9
 have e1:(cs.take m).take k=cs.take k:=by rw [List.take_take,Nat.min_eq_left h2]
 have h3:(cs.take m)=(cs.take m).take k++(cs.take m).drop k:=(List.take_append_drop _ _).symm
 conv=>lhs;rw [h3,e1]
 rw [List.drop_append_of_le_length (by rw [List.length_take];omega)]
theorem lstep_open {cal:List Int}{x:Int × Int}(h:x.1=48∨x.1=51)(b:Lev)(R:List Lev):lstep cal x (b :: R)=⟨decide (x.1=51),x.2,0,none⟩ :: b :: R:=by
 simp only [lstep];rw [if_pos h]
theorem lstep_else {cal:List Int}{x:Int × Int}(h:x.1=49)(b:Lev)(R:List Lev):lstep cal x (b :: R)={ b with e:=some (cut (b.s+costN 49)),s:=0 } :: R:=by
 simp only [lstep];rw [if_neg (by omega),if_pos h]
theorem lstep_end {cal:List Int}{x:Int × Int}(h:x.1=50)(b p:Lev)(R:List Lev):lstep cal x (b :: p :: R)={ p with s:=cut (p.s+closed9 b) } :: R:=by
 simp only [lstep];rw [if_neg (by omega),if_neg (by omega),if_pos h]
theorem lstep_call {cal:List Int}{x:Int × Int}(h:x.1=53)(b:Lev)(R:List Lev):lstep cal x (b :: R)={ b with s:=cut (b.s+costN 53+(cal.getD x.2.toNat 0).toNat) } :: R:=by
 simp only [lstep];rw [if_neg (by omega),if_neg (by omega),if_neg (by omega),if_pos h]
theorem lstep_plain {cal:List Int}{x:Int × Int}(h1:x.1≠48)(h2:x.1≠49)(h3:x.1≠50)(h4:x.1≠51)(h5:x.1≠53)(b:Lev)(R:List Lev):lstep cal x (b :: R)={ b with s:=cut (b.s+costN x.1) } :: R:=by
 simp only [lstep];rw [if_neg (by omega),if_neg h2,if_neg h3,if_neg h5]
theorem astep_open {n:Int}(h:n=48∨n=51)(L:List (Bool × Bool)):astep n L=(decide (n=51),false) :: L:=by
 unfold astep;rw [if_pos h]
theorem astep_plain {n:Int}(h1:n≠48)(h2:n≠49)(h3:n≠50)(h4:n≠51)(L:List (Bool × Bool)):astep n L=L:=by
 unfold astep;rw [if_neg (by omega),if_neg h2,if_neg h3]
structure PI (cal:List Int)(cs:List (Int × Int))(a k g:Nat)(L:List (Bool × Bool)):Prop where
 le:a≤k
 kn:k≤cs.length
 ar:arun (cs.take k) []=some L
 lr:∀ l t s e R,s≤TM→lrun cal (seg9 cs a k) (⟨l,t,s,e⟩ :: R)=⟨l,t,cut (s+g),e⟩ :: R
 gl:g≤TM
theorem PI.lr0 {cal:List Int}{cs:List (Int × Int)}{a k g:Nat}{L:List (Bool × Bool)}(h:PI cal cs a k g L)(l t e R):lrun cal (seg9 cs a k) (⟨l,t,0,e⟩ :: R)=⟨l,t,g,e⟩ :: R:=by
 rw [h.lr l t 0 e R (Nat.zero_le _),Nat.zero_add,cut_id h.gl]
theorem pi_start {cal:List Int}{cs:List (Int × Int)}{a:Nat}{L:List (Bool × Bool)}(h:a≤cs.length)(ar:arun (cs.take a) []=some L):PI cal cs a a 0 L :=
 ⟨Nat.le_refl _,h,ar,fun l t s e R hs=>by rw [seg9_same,Nat.add_zero,cut_id hs];rfl,Nat.zero_le _⟩
theorem good_stand {cs:List (Int × Int)}(hg:goodS cs=true){k:Nat}(hk:k<cs.length){L:List (Bool × Bool)}(ar:arun (cs.take k) []=some L):astand cs[k].1 L=true∧arun (cs.take (k+1)) []=some (astep cs[k].1 L):=by
 have h:=(good_abs cs).1 hg
 have e:cs=cs.take k++(cs[k] :: cs.drop (k+1)):=by rw [List.getElem_cons_drop,List.take_append_drop]
 have h2:arun (cs.take k++(cs[k] :: cs.drop (k+1))) []=some []:=by rw [← e];exact h
 rw [arun_append,ar,Option.bind_some,arun] at h2
 have hs:astand cs[k].1 L=true:=by
  by_cases q:astand cs[k].1 L=true
  ·exact q
  ·rw [if_neg q] at h2;cases h2
 refine ⟨hs,?_⟩
 rw [List.take_succ_eq_append_getElem hk,arun_append,ar,Option.bind_some,arun,if_pos hs]
 rfl
theorem good_end {cs:List (Int × Int)}(hg:goodS cs=true){L:List (Bool × Bool)}(ar:arun (cs.take cs.length) []=some L):L=[]:=by
 have h:=(good_abs cs).1 hg
 rw [List.take_length,h] at ar
 cases ar
 rfl
theorem lrun_one (cal:List Int)(x:Int × Int)(S:List Lev):lrun cal [x] S=lstep cal x S:=rfl
theorem pi_plain {cal:List Int}{cs:List (Int × Int)}(hg:goodS cs=true){a k g:Nat}{L:List (Bool × Bool)}(h:PI cal cs a k g L)(hk:k<cs.length)(h1:cs[k].1≠48)(h2:cs[k].1≠49)(h3:cs[k].1≠50)(h4:cs[k].1≠51)(h5:cs[k].1≠53):PI cal cs a (k+1) (cut (g+costN cs[k].1)) L:=by
 have h0:=h.le
 refine ⟨by omega,hk,?_,fun l t s e R hs=>?_,cut_le _⟩
 ·rw [(good_stand hg hk h.ar).2,astep_plain h1 h2 h3 h4]
 ·rw [seg9_snoc h.le hk,lrun_append,h.lr _ _ _ _ _ hs,lrun_one,lstep_plain h1 h2 h3 h4 h5,cut_add',cut_add,Nat.add_assoc]
theorem pi_call {cal:List Int}{cs:List (Int × Int)}(hg:goodS cs=true){a k g v:Nat}{L:List (Bool × Bool)}(h:PI cal cs a k g L)(hk:k<cs.length)(h1:cs[k].1=53)(hv:(cal.getD cs[k].2.toNat 0).toNat=v):PI cal cs a (k+1) (cut (cut (g+costN 53)+v)) L:=by
 have h0:=h.le
 refine ⟨by omega,hk,?_,fun l t s e R hs=>?_,cut_le _⟩
 ·rw [(good_stand hg hk h.ar).2,astep_plain (by omega) (by omega) (by omega) (by omega)]
 ·rw [seg9_snoc h.le hk,lrun_append,h.lr _ _ _ _ _ hs,lrun_one,lstep_call h1,hv]
  simp only [cut_add,cut_add',Nat.add_assoc]
theorem pi_open {cs:List (Int × Int)}(hg:goodS cs=true){k:Nat}{L:List (Bool × Bool)}(ar:arun (cs.take k) []=some L)(hk:k<cs.length)(h1:cs[k].1=48∨cs[k].1=51):arun (cs.take (k+1)) []=some ((decide (cs[k].1=51),false) :: L):=by
 rw [(good_stand hg hk ar).2,astep_open h1]
theorem pi_else {cs:List (Int × Int)}(hg:goodS cs=true){k:Nat}{L:List (Bool × Bool)}{b:Bool × Bool}(ar:arun (cs.take k) []=some (b :: L))(hk:k<cs.length)(h1:cs[k].1=49):b=(false,false)∧arun (cs.take (k+1)) []=some ((false,true) :: L):=by
 obtain ⟨s1,s2⟩:=good_stand hg hk ar
 rw [h1] at s1 s2
 have e:b=(false,false):=by
  obtain ⟨b1,b2⟩:=b
  cases b1 <;> cases b2 <;> first | rfl | (exact absurd s1 (by simp [astand]))
 refine ⟨e,?_⟩
 rw [s2,e]
 rfl
theorem pi_shut {cs:List (Int × Int)}(hg:goodS cs=true){k:Nat}{L:List (Bool × Bool)}{b:Bool × Bool}(ar:arun (cs.take k) []=some (b :: L))(hk:k<cs.length)(h1:cs[k].1=50):arun (cs.take (k+1)) []=some L:=by
 rw [(good_stand hg hk ar).2,h1]
 rfl
theorem seg9_block {cs:List (Int × Int)}{a k m:Nat}(h1:a≤k)(hk:k<cs.length)(h2:k+1≤m)(hm:m<cs.length):seg9 cs a (m+1)=seg9 cs a k++([cs[k]]++(seg9 cs (k+1) m++[cs[m]])):=by
 rw [seg9_snoc (by omega) hm,seg9_cat (k:=k+1) (by omega) h2 hk,seg9_snoc h1 hk]
 simp
theorem pi_loop {cal:List Int}{cs:List (Int × Int)}(hg:goodS cs=true){a k g m y:Nat}{L:List (Bool × Bool)}(h:PI cal cs a k g L)(hk:k<cs.length)(h1:cs[k].1=51)(hy:PI cal cs (k+1) m y ((true,false) :: L))(hm:m<cs.length)(h2:cs[m].1=50):PI cal cs a (m+1) (cut (cut (g+costN 51)+cut (min cs[k].2.toNat TM*cut (y+costN 50)))) L:=by
 have h0:=h.le
 have h3:=hy.le
 refine ⟨by omega,hm,pi_shut hg hy.ar hm h2,fun l t s e R hs=>?_,cut_le _⟩
 rw [seg9_block h.le hk hy.le hm,lrun_append,h.lr _ _ _ _ _ hs,lrun_append,lrun_one,lstep_open (.inr h1),lrun_append,hy.lr0,lrun_one,lstep_end h2]
 simp only [closed9,h1,decide_true,if_true,cut_add,cut_add',Nat.add_assoc]
theorem pi_if {cal:List Int}{cs:List (Int × Int)}(hg:goodS cs=true){a k g m y:Nat}{L:List (Bool × Bool)}(h:PI cal cs a k g L)(hk:k<cs.length)(h1:cs[k].1=48)(hy:PI cal cs (k+1) m y ((false,false) :: L))(hm:m<cs.length)(h2:cs[m].1=50):PI cal cs a (m+1) (cut (cut (g+costN 48)+cut (y+costN 50))) L:=by
 have h0:=h.le
 have h3:=hy.le
 refine ⟨by omega,hm,pi_shut hg hy.ar hm h2,fun l t s e R hs=>?_,cut_le _⟩
 rw [seg9_block h.le hk hy.le hm,lrun_append,h.lr _ _ _ _ _ hs,lrun_append,lrun_one,lstep_open (.inl h1),lrun_append,hy.lr0,lrun_one,lstep_end h2]
 have e51:¬ (48:Int)=51:=by omega
 simp only [closed9,h1,e51,decide_false,Bool.false_eq_true,if_false,cut_add,cut_add',Nat.add_assoc]
theorem pi_ifelse {cal:List Int}{cs:List (Int × Int)}(hg:goodS cs=true){a k g m y m2 z:Nat}{L:List (Bool × Bool)}(h:PI cal cs a k g L)(hk:k<cs.length)(h1:cs[k].1=48)(hy:PI cal cs (k+1) m y ((false,false) :: L))(hm:m<cs.length)(h2:cs[m].1=49)(hz:PI cal cs (m+1) m2 z ((false,true) :: L))(hm2:m2<cs.length)(h3:cs[m2].1=50):PI cal cs a (m2+1) (cut (cut (g+costN 48)+max (cut (y+costN 49)) (cut (z+costN 50)))) L:=by
 have h0:=h.le
 have h4:=hy.le
 have h5:=hz.le
 refine ⟨by omega,hm2,pi_shut hg hz.ar hm2 h3,fun l t s e R hs=>?_,cut_le _⟩
 have es:seg9 cs a (m2+1)=seg9 cs a k++([cs[k]]++(seg9 cs (k+1) m++([cs[m]]++(seg9 cs (m+1) m2++[cs[m2]])))):=by
  rw [seg9_snoc (by omega) hm2,seg9_cat (k:=m+1) (by omega) hz.le hm,seg9_block h.le hk hy.le hm]
  simp
 rw [es,lrun_append,h.lr _ _ _ _ _ hs,lrun_append,lrun_one,lstep_open (.inl h1),lrun_append,hy.lr0,lrun_append,lrun_one,lstep_else h2,lrun_append,hz.lr0,lrun_one,lstep_end h3]
 have e51:¬ (48:Int)=51:=by omega
 simp only [closed9,h1,e51,decide_false,Bool.false_eq_true,if_false,cut_add,cut_add',Nat.add_assoc]
theorem pi_gas {cal:List Int}{cs:List (Int × Int)}{g:Nat}(h:PI cal cs 0 cs.length g []):gasS cal cs=g:=by
 have:=h.lr0 false 0 none []
 unfold seg9 at this
 rw [List.take_length,List.drop_zero] at this
 unfold gasS base0
 rw [this]
theorem pi_ex {cal:List Int}{cs:List (Int × Int)}(hg:goodS cs=true):∀ (u a k g:Nat) (L:List (Bool × Bool)),cs.length - k≤u→PI cal cs a k g L→∃ m g',k≤m∧PI cal cs a m g' L∧(m=cs.length∨∃ h:m<cs.length,cs[m].1=49∨cs[m].1=50):=by
 intro u
 induction u with
 | zero=>intro a k g L hu h;exact ⟨k,g,Nat.le_refl _,h,.inl (by have:=h.kn;omega)⟩
 | succ u ih =>
  intro a k g L hu h
  rcases Nat.lt_or_ge k cs.length with hk | hk
  ·have fin:∀ k' g',k<k'→PI cal cs a k' g' L→∃ m g',k≤m∧PI cal cs a m g' L∧(m=cs.length∨∃ h:m<cs.length,cs[m].1=49∨cs[m].1=50):=fun k' g' h1 h2=>by
    obtain ⟨m,g2,q1,q2,q3⟩:=ih a k' g' L (by omega) h2
    exact ⟨m,g2,by omega,q2,q3⟩
   have inn:∀ k' L',k<k'→k'≤cs.length→arun (cs.take k') []=some L'→L'≠[]→∃ m y,k'≤m∧PI cal cs k' m y L'∧∃ h:m<cs.length,cs[m].1=49∨cs[m].1=50:=fun k' L' h1 h2 h3 h4=>by
    obtain ⟨m,y,q1,q2,q3⟩:=ih k' k' 0 L' (by omega) (pi_start h2 h3)
    refine ⟨m,y,q1,q2,?_⟩
    rcases q3 with q3 | q3
    ·have q8:=q2.ar
     rw [q3] at q8
     exact absurd (good_end hg q8) h4
    ·exact q3
   rcases (show cs[k].1=49∨cs[k].1=50∨cs[k].1=53∨cs[k].1=48∨cs[k].1=51∨(cs[k].1≠49∧cs[k].1≠50∧cs[k].1≠53∧cs[k].1≠48∧cs[k].1≠51) by omega) with hx | hx | hx | hx | hx | ⟨x1,x2,x3,x4,x5⟩
   ·exact ⟨k,g,Nat.le_refl _,h,.inr ⟨hk,.inl hx⟩⟩
   ·exact ⟨k,g,Nat.le_refl _,h,.inr ⟨hk,.inr hx⟩⟩
   ·exact fin _ _ (Nat.lt_succ_self k) (pi_call hg h hk hx rfl)
   ·have ho:=pi_open hg h.ar hk (.inl hx)
    rw [hx] at ho
    obtain ⟨m,y,q1,q2,q3,q4⟩:=inn (k+1) _ (Nat.lt_succ_self k) hk ho (by simp)
    rcases q4 with q4 | q4
    ·have he:=(pi_else hg q2.ar q3 q4).2
     obtain ⟨m2,z,r1,r2,r3,r4⟩:=inn (m+1) _ (by omega) q3 he (by simp)
     rcases r4 with r4 | r4
     ·have:=(pi_else hg r2.ar r3 r4).1
      simp at this
     ·exact fin _ _ (by omega) (pi_ifelse hg h hk hx q2 q3 q4 r2 r3 r4)
    ·exact fin _ _ (by omega) (pi_if hg h hk hx q2 q3 q4)
   ·have ho:=pi_open hg h.ar hk (.inr hx)
    rw [hx] at ho
    obtain ⟨m,y,q1,q2,q3,q4⟩:=inn (k+1) _ (Nat.lt_succ_self k) hk ho (by simp)
    rcases q4 with q4 | q4
    ·have:=(pi_else hg q2.ar q3 q4).1
     simp at this
    ·exact fin _ _ (by omega) (pi_loop hg h hk hx q2 q3 q4)
   ·exact fin _ _ (Nat.lt_succ_self k) (pi_plain hg h hk x4 x1 x2 x5 x3)
  ·exact ⟨k,g,Nat.le_refl _,h,.inl (Nat.le_antisymm h.kn hk)⟩
theorem pi_whole {cal:List Int}{cs:List (Int × Int)}(hg:goodS cs=true):PI cal cs 0 cs.length (gasS cal cs) []:=by
 obtain ⟨m,g,_,h,hm⟩:=pi_ex (cal:=cal) hg cs.length 0 0 0 [] (by omega) (pi_start (Nat.zero_le _) rfl)
 have e:m=cs.length:=by
  rcases hm with hm | ⟨h1,h2⟩
  ·exact hm
  ·have:=(good_stand hg h1 h.ar).1
   rcases h2 with h2 | h2 <;> rw [h2] at this <;> simp [astand] at this
 rw [e] at h
 rw [pi_gas h]
 exact h
theorem gas_le {cal:List Int}{cs:List (Int × Int)}(hg:goodS cs=true):gasS cal cs≤TM:=(pi_whole (cal:=cal) hg).gl
end Go.Proofs.YtpmlnkjamhelnaaGreat
