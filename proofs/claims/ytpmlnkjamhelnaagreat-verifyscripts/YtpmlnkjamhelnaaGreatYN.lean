/- Layer 9, plain: the document's levels, as they lie in a row. What the document's table of costs comes to. Layer 9: the document's Cut, closed, fine. -/
import Derived.Test.YtpmlnkjamhelnaaGreatSA
import Derived.WalkKit
import Derived.WalkSpells
import Derived.WalkLawsBesides
import Derived.BigQuiet
import Derived.Deep.QuietTactic
import Derived.Deep.RegionWith
import Derived.Maps.AppendAt
import Derived.OwnWalk
import Derived.Test.YtpmlnkjamhelnaaGreatYE
import Derived.Test.YtpmlnkjamhelnaaGreatCTg
import Derived.Deep.RegionLaw
namespace Go.Proofs.YtpmlnkjamhelnaaGreat
open Go.RowKit
structure DL where
 (op t:Int) (s th:Nat) (o:Bool)
def dclosed (b:DL):Nat :=
 if b.op=51 then cut (costN 51+cut (min b.t.toNat TM*cut (b.s+costN 50)))
 else if b.o=true then cut (costN b.op+max b.th (cut (b.s+costN 50)))
 else cut (costN b.op+cut (b.s+costN 50))
def dstep (cal:List Int)(x:Int × Int):List DL→List DL
 | []=>[]
 | b :: r =>
  if x.1=48∨x.1=51 then ⟨x.1,x.2,0,0,false⟩ :: b :: r
  else if x.1=49 then { b with th:=cut (b.s+costN 49),s:=0,o:=true } :: r
  else if x.1=50 then (match r with | p :: q=>{ p with s:=cut (p.s+dclosed b) } :: q | []=>[b])
  else if x.1=53 then { b with s:=cut (b.s+costN 53+cut (cal.getD x.2.toNat 0).toNat) } :: r
  else { b with s:=cut (b.s+costN x.1) } :: r
def LvR (d:DL)(b:Lev):Prop:=d.s=b.s∧d.s≤TM∧d.th≤TM∧(b.l=true→d.op=51∧d.t=b.t)∧(b.l=false→d.op=48)∧b.e=(if d.o=true then some d.th else none)
def LvB (d:DL)(b:Lev):Prop:=d.s=b.s∧d.s≤TM∧d.th≤TM
def StR:List DL→List Lev→Prop
 | d :: ds,b :: bs=>(if ds=[] then LvB d b∧bs=[] else LvR d b∧StR ds bs)
 | _,_=>False
theorem dclosed_eq {d:DL}{b:Lev}(h:LvR d b):dclosed d=closed9 b:=by
 obtain ⟨h1,_,_,h2,h3,h4⟩:=h
 unfold dclosed closed9
 cases hl:b.l with
 | true =>
  obtain ⟨e1,e2⟩:=h2 hl
  rw [if_pos e1,if_pos rfl,e2,h1]
 | false =>
  have e1:=h3 hl
  rw [if_neg (by omega),e1,h4,h1]
  cases d.o <;> rfl
theorem dclosed_le (d:DL):dclosed d≤TM:=by
 unfold dclosed
 split
 ·exact cut_le _
 ·split <;> exact cut_le _
theorem str_cons {d:DL}{ds:List DL}{T:List Lev}(h:StR (d :: ds) T):∃ b bs,T=b :: bs∧LvB d b∧(ds=[]→bs=[])∧(ds≠[]→LvR d b∧StR ds bs):=by
 cases T with
 | nil=>cases h
 | cons b bs =>
  unfold StR at h
  split at h
  ·rename_i e;exact ⟨b,bs,rfl,h.1,fun _=>h.2,fun q=>absurd e q⟩
  ·rename_i e;exact ⟨b,bs,rfl,⟨h.1.1,h.1.2.1,h.1.2.2.1⟩,fun q=>absurd q e,fun _=>h⟩
theorem str_mk {d:DL}{ds:List DL}{b:Lev}{bs:List Lev}(hB:LvB d b)(h1:ds=[]→bs=[])(h2:ds≠[]→LvR d b∧StR ds bs):StR (d :: ds) (b :: bs):=by
 unfold StR
 split
 ·rename_i e;exact ⟨hB,h1 e⟩
 ·rename_i e;exact h2 e
theorem dstep_rel {cal:List Int}{x:Int × Int}{S:List DL}{T:List Lev}(h:StR S T)(hx:x.1=50→2≤S.length):StR (dstep cal x S) (lstep cal x T):=by
 cases S with
 | nil=>cases T <;> cases h
 | cons d r =>
  have hS:=h
  obtain ⟨b,bs,rfl,hB,hn,hr⟩:=str_cons h
  by_cases c1:x.1=48∨x.1=51
  ·rw [lstep_open c1];simp only [dstep];rw [if_pos c1]
   refine str_mk ⟨rfl,Nat.zero_le _,Nat.zero_le _⟩ (fun q=>by cases q) fun _=>⟨⟨rfl,Nat.zero_le _,Nat.zero_le _,fun q=>⟨by simpa using q,rfl⟩,fun q=>?_,rfl⟩,hS⟩
   have:x.1≠51:=by simpa using q
   show x.1=48
   omega
  by_cases c2:x.1=49
  ·rw [lstep_else c2];simp only [dstep];rw [if_neg c1,if_pos c2]
   refine str_mk ⟨rfl,Nat.zero_le _,cut_le _⟩ hn fun q=>⟨⟨rfl,Nat.zero_le _,cut_le _,(hr q).1.2.2.2.1,(hr q).1.2.2.2.2.1,?_⟩,(hr q).2⟩
   simp [hB.1]
  by_cases c3:x.1=50
  ·have h2:=hx c3
   cases r with
   | nil=>simp at h2
   | cons p q =>
    obtain ⟨l1,l2⟩:=hr (by simp)
    obtain ⟨b2,bs2,rfl,hB2,hn2,hr2⟩:=str_cons l2
    rw [lstep_end c3];simp only [dstep];rw [if_neg c1,if_neg c2,if_pos c3]
    have e:cut (p.s+dclosed d)=cut (b2.s+closed9 b):=by rw [dclosed_eq l1,hB2.1]
    exact str_mk ⟨e,cut_le _,hB2.2.2⟩ hn2 fun q=>⟨⟨e,cut_le _,hB2.2.2,(hr2 q).1.2.2.2.1,(hr2 q).1.2.2.2.2.1,(hr2 q).1.2.2.2.2.2⟩,(hr2 q).2⟩
  by_cases c4:x.1=53
  ·rw [lstep_call c4];simp only [dstep];rw [if_neg c1,if_neg c2,if_neg c3,if_pos c4]
   have e:cut (d.s+costN 53+cut (cal.getD x.2.toNat 0).toNat)=cut (b.s+costN 53+(cal.getD x.2.toNat 0).toNat):=by rw [cut_add,hB.1]
   exact str_mk ⟨e,cut_le _,hB.2.2⟩ hn fun q=>⟨⟨e,cut_le _,hB.2.2,(hr q).1.2.2.2.1,(hr q).1.2.2.2.2.1,(hr q).1.2.2.2.2.2⟩,(hr q).2⟩
  ·rw [lstep_plain (fun e=>c1 (.inl e)) c2 c3 (fun e=>c1 (.inr e)) c4];simp only [dstep];rw [if_neg c1,if_neg c2,if_neg c3,if_neg c4]
   have e:cut (d.s+costN x.1)=cut (b.s+costN x.1):=by rw [hB.1]
   exact str_mk ⟨e,cut_le _,hB.2.2⟩ hn fun q=>⟨⟨e,cut_le _,hB.2.2,(hr q).1.2.2.2.1,(hr q).1.2.2.2.2.1,(hr q).1.2.2.2.2.2⟩,(hr q).2⟩
def AtD (cal:List Int)(cs:List (Int × Int))(i:Nat)(S:List DL):Prop:=StR S (lrun cal (cs.take i) [base0])∧∃ L,arun (cs.take i) []=some L∧S.length=L.length+1
def dbase:DL:=⟨0,0,0,0,false⟩
theorem atD_start (cal:List Int)(cs:List (Int × Int)):AtD cal cs 0 [dbase]:=by
 rw [AtD,List.take_zero]
 exact ⟨str_mk ⟨rfl,Nat.zero_le _,Nat.zero_le _⟩ (fun _=>rfl) (fun q=>absurd rfl q),[],rfl,rfl⟩
theorem atD_pos {cal:List Int}{cs:List (Int × Int)}{i:Nat}{S:List DL}(h:AtD cal cs i S):∃ b r,S=b :: r:=by
 obtain ⟨_,L,_,hl⟩:=h
 cases S with
 | nil=>simp at hl
 | cons b r=>exact ⟨b,r,rfl⟩
theorem atD_end {cal:List Int}{cs:List (Int × Int)}(hg:goodS cs=true){i:Nat}{S:List DL}(h:AtD cal cs i S)(hi:i<cs.length)(hx:cs[i].1=50):∃ b p r,S=b :: p :: r:=by
 obtain ⟨_,L,ar,hl⟩:=h
 have:=(good_stand hg hi ar).1
 unfold astand at this
 rw [if_neg (by omega),if_neg (by omega),if_pos hx] at this
 have:0<L.length:=by simpa using this
 match S,hl with
 | [],hl=>simp at hl
 | [_],hl=>rw [List.length_singleton] at hl;exfalso;omega
 | b :: p :: r,_=>exact ⟨b,p,r,rfl⟩
theorem atD_step {cal:List Int}{cs:List (Int × Int)}(hg:goodS cs=true){i:Nat}{S:List DL}(h:AtD cal cs i S)(hi:i<cs.length):AtD cal cs (i+1) (dstep cal cs[i] S):=by
 have h0:=h
 obtain ⟨h1,L,ar,hl⟩:=h
 have hx:cs[i].1=50→2≤S.length:=fun e=>by
  obtain ⟨b,p,r,rfl⟩:=atD_end hg h0 hi e
  simp
 obtain ⟨s1,s2⟩:=good_stand hg hi ar
 refine ⟨?_,_,s2,?_⟩
 ·rw [List.take_succ_eq_append_getElem hi,lrun_append,lrun_one]
  exact dstep_rel h1 hx
 ·obtain ⟨b,r,rfl⟩:=atD_pos h0
  simp only [dstep]
  unfold astep
  split
  ·simp only [List.length_cons] at *;omega
  ·split
   ·rename_i c1 c2
    unfold astand at s1
    rw [if_neg c1,if_pos c2] at s1
    cases L with
    | nil=>cases s1
    | cons y z=>simp only [List.length_cons] at *;omega
   ·split
    ·rename_i c1 c2 c3
     obtain ⟨b',p,q,e⟩:=atD_end hg h0 hi c3
     cases e
     simp only [List.length_cons,List.length_tail] at *;omega
    ·split <;> simp only [List.length_cons] at*<;> omega
theorem arun_len:∀ (a:List (Int × Int))(L M:List (Bool × Bool)),arun a L=some M→M.length≤L.length+a.length
 | [],L,M,h=>by cases h;simp
 | x :: a,L,M,h=>by
  rw [arun] at h
  split at h
  ·have ih:=arun_len a _ M h
   have:(astep x.1 L).length≤L.length+1:=by
    unfold astep
    split
    ·simp
    ·split
     ·cases L <;> simp
     ·split <;> simp;omega
   rw [List.length_cons]
   omega
  ·cases h
theorem atD_len {cal:List Int}{cs:List (Int × Int)}{i:Nat}{S:List DL}(h:AtD cal cs i S)(hi:i≤cs.length):S.length≤i+1:=by
 obtain ⟨_,L,ar,hl⟩:=h
 have:=arun_len _ _ _ ar
 simp at this
 omega
theorem atD_done {cal:List Int}{cs:List (Int × Int)}(hg:goodS cs=true){S:List DL}(h:AtD cal cs cs.length S):∃ b,S=[b]∧b.s=gasS cal cs:=by
 obtain ⟨h1,L,ar,hl⟩:=h
 rw [List.take_length] at h1 ar
 rw [(good_abs cs).1 hg] at ar
 cases ar
 obtain ⟨b,e⟩:=List.length_eq_one_iff.1 hl
 subst e
 obtain ⟨c,cs2,e2,hB,hn,_⟩:=str_cons h1
 refine ⟨b,rfl,?_⟩
 rw [gasS,e2,hn rfl]
 exact hB.1
theorem cell_cost9 (w:World)(k:Nat)(hk:k<54):(w.alloc (.cells #[.int .i64 0,.int .i64 1,.int .i64 1,.int .i64 1,.int .i64 1,.int .i64 1,.int .i64 1,.int .i64 1,.int .i64 1,.int .i64 1,.int .i64 1,.int .i64 1,.int .i64 1,.int .i64 2,.int .i64 4,.int .i64 4,.int .i64 1,.int .i64 1,.int .i64 1,.int .i64 1,.int .i64 1,.int .i64 1,.int .i64 1,.int .i64 1,.int .i64 1,.int .i64 1,.int .i64 1,.int .i64 1,.int .i64 1,.int .i64 1,.int .i64 1,.int .i64 1,.int .i64 1,.int .i64 6,.int .i64 6,.int .i64 2,.int .i64 4,.int .i64 4,.int .i64 3,.int .i64 3,.int .i64 2,.int .i64 20,.int .i64 15,.int .i64 30,.int .i64 25,.int .i64 20,.int .i64 10,.int .i64 1,.int .i64 1,.int .i64 1,.int .i64 1,.int .i64 2,.int .i64 1,.int .i64 5] 3)).cell? ⟨w.heap.size,k,none⟩=some (.int .i64 (costTab.getD k 0)):=by
 rw [cell_of_row _ _ k _ _ (0,0) (heap_alloc_new w _)]
 have e:(#[.int .i64 0,.int .i64 1,.int .i64 1,.int .i64 1,.int .i64 1,.int .i64 1,.int .i64 1,.int .i64 1,.int .i64 1,.int .i64 1,.int .i64 1,.int .i64 1,.int .i64 1,.int .i64 2,.int .i64 4,.int .i64 4,.int .i64 1,.int .i64 1,.int .i64 1,.int .i64 1,.int .i64 1,.int .i64 1,.int .i64 1,.int .i64 1,.int .i64 1,.int .i64 1,.int .i64 1,.int .i64 1,.int .i64 1,.int .i64 1,.int .i64 1,.int .i64 1,.int .i64 1,.int .i64 6,.int .i64 6,.int .i64 2,.int .i64 4,.int .i64 4,.int .i64 3,.int .i64 3,.int .i64 2,.int .i64 20,.int .i64 15,.int .i64 30,.int .i64 25,.int .i64 20,.int .i64 10,.int .i64 1,.int .i64 1,.int .i64 1,.int .i64 1,.int .i64 2,.int .i64 1,.int .i64 5]:Array Value)=(costTab.map fun x=>.int .i64 x).toArray:=rfl
 rw [e]
 have hl:k<costTab.length:=hk
 simp [List.getD,hl]
set_option maxHeartbeats 1000000 in
theorem rcost9_any (n:Int)(w:World):Calls Tryz.prog 132 #[.int .i64 n] w fun e w'=>e=.returned (.int .i64 (costT n))∧Below w.heap.size w w':=by
 by_cases h1:n<1
 ·rw [show costT n=0 from rowOf_none _ _ n (.inl h1)]
  go_enter Tryz.func132,Tryz.ntmps132
  go_wp2
  go_ret
  exact ⟨rfl,(Below.refl _ w).alloc (Nat.le_refl _) _⟩
 by_cases h2:53<n
 ·rw [show costT n=0 from rowOf_none _ _ n (.inr h2)]
  go_enter Tryz.func132,Tryz.ntmps132
  go_wp2
  go_ret
  exact ⟨rfl,(Below.refl _ w).alloc (Nat.le_refl _) _⟩
 obtain ⟨k,rfl⟩:∃ k:Nat,n=k:=⟨n.toNat,by omega⟩
 have hk:k<54:=by omega
 have hc:=cell_cost9 w k hk
 rw [show costT k=costTab.getD k 0 from by unfold costT rowOf;rw [if_pos (by omega)];simp]
 generalize costTab.getD k 0=r at *
 go_enter Tryz.func132,Tryz.ntmps132
 go_wp2
 go_ret
 exact ⟨rfl,(Below.refl _ w).alloc (Nat.le_refl _) _⟩
set_option maxHeartbeats 1000000 in
theorem rcut_any (z:Int)(n:Nat)(hz:z=n)(w:World):Calls Tryz.prog 133 #[.int .i64 z] w fun e w'=>e=.returned (.int .i64 (cut n:Nat))∧w'=w:=by
 subst hz
 have h:cut n=n∧n≤1048577∨cut n=1048577∧1048577<n:=by unfold cut TM;omega
 rcases h with ⟨h1,h2⟩ | ⟨h1,h2⟩
 ·rw [h1]
  go_enter Tryz.func133,Tryz.ntmps133
  go_wp2
  all_goals (go_ret;exact ⟨rfl,rfl⟩)
 ·rw [h1]
  go_enter Tryz.func133,Tryz.ntmps133
  go_wp2
  all_goals (go_ret;exact ⟨rfl,rfl⟩)
def BoxL (W:World)(g:Nat)(b:DL):Prop:=W.cell? ⟨g,0,none⟩=some (.int .i64 b.op)∧W.cell? ⟨g,1,none⟩=some (.int .i64 b.t)∧W.cell? ⟨g,2,none⟩=some (.int .i64 b.s)∧W.cell? ⟨g,3,none⟩=some (.int .i64 b.th)∧W.cell? ⟨g,4,none⟩=some (.bool b.o)
theorem BoxL.keep {W W':World}{g:Nat}{b:DL}(h:BoxL W g b)(hb:Below W.heap.size W W'):BoxL W' g b:=⟨below_keep hb _ _ h.1,below_keep hb _ _ h.2.1,below_keep hb _ _ h.2.2.1,below_keep hb _ _ h.2.2.2.1,below_keep hb _ _ h.2.2.2.2⟩
set_option maxRecDepth 100000 in
set_option maxHeartbeats 2000000 in
theorem rclosed_any (b:DL)(hs:b.s≤TM)(hth:b.th≤TM)(ht:b.op=51→0≤b.t)(w:World) :
  Calls Tryz.prog 134 #[.agg #[.int .i64 b.op,.int .i64 b.t,.int .i64 b.s,.int .i64 b.th,.bool b.o]] w fun e w'=>e=.returned (.int .i64 (dclosed b:Nat))∧Below w.heap.size w w':=by
 obtain ⟨w0,hw0⟩:∃ w0,w0=w.alloc (.cells #[.int .i64 b.op,.int .i64 b.t,.int .i64 b.s,.int .i64 b.th,.bool b.o] 172):=⟨_,rfl⟩
 have b0:Below w.heap.size w w0:=by rw [hw0];exact (Below.refl _ w).alloc (Nat.le_refl _) _
 have hx0:BoxL w0 w.heap.size b:=by
  have:=heap_alloc_new w (.cells #[.int .i64 b.op,.int .i64 b.t,.int .i64 b.s,.int .i64 b.th,.bool b.o] 172)
  rw [hw0]
  exact ⟨Lib.cell_of_heap this 0,Lib.cell_of_heap this 1,Lib.cell_of_heap this 2,Lib.cell_of_heap this 3,Lib.cell_of_heap this 4⟩
 obtain ⟨op,t,s,th,o⟩:=b
 simp only at hs hth ht hx0 hw0 ⊢
 have c50:costT 50=1:=by decide
 have HC0:Hid (Calls Tryz.prog 132 #[.int .i64 50] (w.alloc (.cells #[.int .i64 op,.int .i64 t,.int .i64 s,.int .i64 th,.bool o] 172)) fun e W1=>e=.returned (.int .i64 1)∧BoxL W1 w.heap.size ⟨op,t,s,th,o⟩∧Hid (Below w.heap.size w W1)):=hid9 (by
  rw [← hw0]
  refine (rcost9_any 50 w0).mono fun e W1 ⟨h1,h2⟩=>?_
  rw [c50] at h1
  exact ⟨h1,hx0.keep h2,hid9 (b0.trans (h2.mono b0.size))⟩)
 obtain ⟨kO,hkO⟩:∃ kO,kO=costN op:=⟨_,rfl⟩
 have HC1:Hid (∀ n W,n=op→BoxL W w.heap.size ⟨op,t,s,th,o⟩→Below w.heap.size w W→Calls Tryz.prog 132 #[.int .i64 n] W.drew fun e W1=>e=.returned (.int .i64 (kO:Nat))∧Hid (BoxL W1 w.heap.size ⟨op,t,s,th,o⟩∧Below w.heap.size w W1)):=hid9 fun n W hno hb hB=>(rcost9_any n W.drew).mono fun e W1 ⟨h1,h2⟩=>by
  rw [(costT_pos n).1,hno,← hkO] at h1
  have h3:Below W.heap.size W W1:=(Below.refl _ W).drew.trans h2
  exact ⟨h1,hid9 ⟨hb.keep h3,hB.trans (h3.mono hB.size)⟩⟩
 have HC2:Hid (∀ n W,n=op→BoxL W w.heap.size ⟨op,t,s,th,o⟩→Below w.heap.size w W→Calls Tryz.prog 132 #[.int .i64 n] W fun e W1=>e=.returned (.int .i64 (kO:Nat))∧Hid (BoxL W1 w.heap.size ⟨op,t,s,th,o⟩∧Below w.heap.size w W1)):=hid9 fun n W hno hb hB=>(rcost9_any n W).mono fun e W1 ⟨h1,h2⟩=>by
  rw [(costT_pos n).1,hno,← hkO] at h1
  exact ⟨h1,hid9 ⟨hb.keep h2,hB.trans (h2.mono hB.size)⟩⟩
 have hK:=(costT_pos op).2
 rw [← hkO] at hK
 have eIn:cut (s+1)=cut (s+costN 50):=by rw [show costN 50=1 from by decide]
 have hq:=cut_le (s+costN 50)
 clear hw0 b0 hx0 c50
 unfold TM at hs hth hq
 have HD:Hid (dclosed ⟨op,t,s,th,o⟩=if op=51 then cut (kO+cut (min t.toNat TM*cut (s+costN 50))) else if o=true then cut (kO+max th (cut (s+costN 50))) else cut (kO+cut (s+costN 50))):=hid9 (by
  subst hkO
  unfold dclosed
  by_cases h:op=51
  ·subst h;rfl
  ·rw [if_neg h,if_neg h])
 clear hkO
 generalize hqe:cut (s+costN 50)=q at *
 clear hqe
 generalize dclosed ⟨op,t,s,th,o⟩=R at *
 by_cases h51:op=51
 ·subst h51
  have ht0:0≤t:=ht rfl
  obtain ⟨T,rfl⟩:∃ T:Nat,t=T:=⟨t.toNat,by omega⟩
  have HD2:Hid (R=cut (kO+cut (min T TM*q))):=hid9 (by have:=HD.out;rw [if_pos rfl] at this;simpa using this)
  clear HD
  obtain ⟨U,hU,hUl,hUe⟩:∃ U:Nat,(U=T∧T≤1048577∨U=1048577∧1048577<T)∧U≤1048577∧min T TM=U:=by
   rcases Nat.lt_or_ge 1048577 T with h | h
   ·exact ⟨1048577,.inr ⟨rfl,h⟩,Nat.le_refl _,by unfold TM;omega⟩
   ·exact ⟨T,.inl ⟨rfl,h⟩,h,by unfold TM;omega⟩
  rw [hUe] at HD2
  clear hUe
  have hP:U*q≤1048577*1048577:=Nat.mul_le_mul hUl hq
  have hPe:((U*q:Nat):Int)=(U:Int)*(q:Int):=Int.natCast_mul _ _
  have hW:IntKind.i64.wrap ((U:Int)*(q:Int))=((U*q:Nat):Int):=by rw [← hPe,IntKind.wrap_i64];omega
  have hc:=cut_le (U*q)
  unfold TM at hc
  have hA:IntKind.i64.wrap ((kO:Int)+((cut (U*q):Nat):Int))=((kO+cut (U*q):Nat):Int):=by rw [IntKind.wrap_i64];omega
  have C1:Hid (∀ z W,z=((U*q:Nat):Int)→Calls Tryz.prog 133 #[.int .i64 z] W fun e w'=>e=.returned (.int .i64 (cut (U*q):Nat))∧w'=W):=hid9 fun z W hz=>rcut_any z (U*q) hz W
  have C2:Hid (∀ z W,z=((kO+cut (U*q):Nat):Int)→Calls Tryz.prog 133 #[.int .i64 z] W fun e w'=>e=.returned (.int .i64 (cut (kO+cut (U*q)):Nat))∧w'=W):=hid9 fun z W hz=>rcut_any z (kO+cut (U*q)) hz W
  rcases hU with ⟨hU,hT⟩ | ⟨hU,hT⟩
  ·subst hU
   generalize U*q=P at *
   go_enter Tryz.func134,Tryz.ntmps134
   go_wp2_with (first
    | (go_at_call 132;refine HC0.out.mono ?_;clear HC0;rintro e w1 ⟨rfl,HX,HB⟩;have HU:=hid9 (HC1.out _ w1 rfl HX HB.out);clear HC1;obtain ⟨x0,x1,x2,x3,x4⟩:=HX)
    | (go_at_call 133;refine (rcut_any _ (s+1) (by omega) _).mono ?_;rintro e w9 ⟨rfl,w9e⟩;rw [w9e,eIn];clear w9e)
    | fail)
   go_region_held3 (fun W=>W.cell? ⟨w.heap.size,0,none⟩=some (.int .i64 51)∧W.cell? ⟨w.heap.size,1,none⟩=some (.int .i64 (U:Int))) (first | exact ⟨x0,x1⟩ | exact ⟨HV.out.1.1,HV.out.1.2.1⟩ | go_keep) (first
    | (go_at_call 132;refine HU.out.mono ?_;clear HU;rintro e w2 ⟨rfl,HV⟩)
    | (go_at_call 133;first | (refine (C1.out _ _ (by first | exact hW | exact hPe.symm | (rw [if_neg (by omega)];exact hW) | (rw [if_pos (by omega)];exact hW) | (rw [if_neg (by omega)];exact hPe.symm) | (rw [if_pos (by omega)];exact hPe.symm))).mono ?_;clear C1;rintro e w9 ⟨rfl,w9e⟩;rw [w9e];clear w9e) | (refine (C2.out _ _ (by first | exact hA | omega | (rw [if_neg (by omega)];exact hA) | (rw [if_pos (by omega)];exact hA))).mono ?_;clear C2;rintro e w9 ⟨rfl,w9e⟩;rw [w9e];clear w9e)))
   all_goals
    go_wp2_with fail
    go_ret
    exact ⟨by rw [HD2.out];rfl,HV.out.2⟩
  ·subst hU
   generalize 1048577*q=P at *
   go_enter Tryz.func134,Tryz.ntmps134
   go_wp2_with (first
    | (go_at_call 132;refine HC0.out.mono ?_;clear HC0;rintro e w1 ⟨rfl,HX,HB⟩;have HU:=hid9 (HC1.out _ w1 rfl HX HB.out);clear HC1;obtain ⟨x0,x1,x2,x3,x4⟩:=HX)
    | (go_at_call 133;refine (rcut_any _ (s+1) (by omega) _).mono ?_;rintro e w9 ⟨rfl,w9e⟩;rw [w9e,eIn];clear w9e)
    | fail)
   go_region_held3 (fun W=>W.cell? ⟨w.heap.size,0,none⟩=some (.int .i64 51)∧W.cell? ⟨w.heap.size,1,none⟩=some (.int .i64 (T:Int))) (first | exact ⟨x0,x1⟩ | exact ⟨HV.out.1.1,HV.out.1.2.1⟩ | go_keep) (first
    | (go_at_call 132;refine HU.out.mono ?_;clear HU;rintro e w2 ⟨rfl,HV⟩)
    | (go_at_call 133;first | (refine (C1.out _ _ (by first | exact hW | exact hPe.symm | (rw [if_neg (by omega)];exact hW) | (rw [if_pos (by omega)];exact hW) | (rw [if_neg (by omega)];exact hPe.symm) | (rw [if_pos (by omega)];exact hPe.symm))).mono ?_;clear C1;rintro e w9 ⟨rfl,w9e⟩;rw [w9e];clear w9e) | (refine (C2.out _ _ (by first | exact hA | omega | (rw [if_neg (by omega)];exact hA) | (rw [if_pos (by omega)];exact hA))).mono ?_;clear C2;rintro e w9 ⟨rfl,w9e⟩;rw [w9e];clear w9e)))
   all_goals
    go_wp2_with fail
    go_ret
    exact ⟨by rw [HD2.out];rfl,HV.out.2⟩
 ·have h51b:(op == 51)=false:=by simpa using h51
  have HD2:Hid (R=if o=true then cut (kO+max th q) else cut (kO+q)):=hid9 (by have:=HD.out;rw [if_neg h51] at this;exact this)
  clear HD
  cases o with
  | true =>
   have HD3:Hid (R=cut (kO+max th q)):=hid9 (by have:=HD2.out;rw [if_pos rfl] at this;exact this)
   clear HD2
   have HD2:=HD3
   obtain ⟨U,hU,hUl⟩:∃ U,U=max th q∧U≤1048577:=⟨_,rfl,by omega⟩
   rw [← hU] at HD2
   have hA:IntKind.i64.wrap ((kO:Int)+(U:Int))=((kO+U:Nat):Int):=by rw [IntKind.wrap_i64];omega
   have C2:Hid (∀ z W,z=((kO+U:Nat):Int)→Calls Tryz.prog 133 #[.int .i64 z] W fun e w'=>e=.returned (.int .i64 (cut (kO+U):Nat))∧w'=W):=hid9 fun z W hz=>rcut_any z (kO+U) hz W
   clear HD3
   rcases Nat.lt_or_ge th q with hlt | hge
   ·have e:U=q:=by omega
    clear hU
    subst e
    go_enter Tryz.func134,Tryz.ntmps134
    go_wp2_with (first
     | (go_at_call 132;refine HC0.out.mono ?_;clear HC0;rintro e w1 ⟨rfl,HX,HB⟩;have HU:=hid9 (HC1.out _ w1 rfl HX HB.out);clear HC1;obtain ⟨x0,x1,x2,x3,x4⟩:=HX)
     | (go_at_call 133;refine (rcut_any _ (s+1) (by omega) _).mono ?_;rintro e w9 ⟨rfl,w9e⟩;rw [w9e,eIn];clear w9e)
     | fail)
    go_region_held3 (fun W=>W.cell? ⟨w.heap.size,0,none⟩=some (.int .i64 op)∧W.cell? ⟨w.heap.size,3,none⟩=some (.int .i64 (th:Int))) (first | exact ⟨x0,x3⟩ | exact ⟨HV.out.1.1,HV.out.1.2.2.2.1⟩ | go_keep) (first
     | (go_at_call 132;refine HU.out.mono ?_;clear HU;rintro e w2 ⟨rfl,HV⟩)
     | (go_at_call 133;first | (refine (C2.out _ _ (by first | exact hA | omega | (rw [if_neg (by omega)];exact hA) | (rw [if_pos (by omega)];exact hA))).mono ?_;clear C2;rintro e w9 ⟨rfl,w9e⟩;rw [w9e];clear w9e)))
    all_goals
     go_wp2_with fail
     go_ret
     exact ⟨by rw [HD2.out];rfl,HV.out.2⟩
   ·have e:U=th:=by omega
    clear hU
    subst e
    go_enter Tryz.func134,Tryz.ntmps134
    go_wp2_with (first
     | (go_at_call 132;refine HC0.out.mono ?_;clear HC0;rintro e w1 ⟨rfl,HX,HB⟩;have HU:=hid9 (HC1.out _ w1 rfl HX HB.out);clear HC1;obtain ⟨x0,x1,x2,x3,x4⟩:=HX)
     | (go_at_call 133;refine (rcut_any _ (s+1) (by omega) _).mono ?_;rintro e w9 ⟨rfl,w9e⟩;rw [w9e,eIn];clear w9e)
     | fail)
    go_region_held3 (fun W=>W.cell? ⟨w.heap.size,0,none⟩=some (.int .i64 op)∧W.cell? ⟨w.heap.size,3,none⟩=some (.int .i64 (U:Int))) (first | exact ⟨x0,x3⟩ | exact ⟨HV.out.1.1,HV.out.1.2.2.2.1⟩ | go_keep) (first
     | (go_at_call 132;refine HU.out.mono ?_;clear HU;rintro e w2 ⟨rfl,HV⟩)
     | (go_at_call 133;first | (refine (C2.out _ _ (by first | exact hA | omega | (rw [if_neg (by omega)];exact hA) | (rw [if_pos (by omega)];exact hA))).mono ?_;clear C2;rintro e w9 ⟨rfl,w9e⟩;rw [w9e];clear w9e)))
    all_goals
     go_wp2_with fail
     go_ret
     exact ⟨by rw [HD2.out];rfl,HV.out.2⟩
  | false =>
   have HD3:Hid (R=cut (kO+q)):=hid9 (by have:=HD2.out;simpa using this)
   clear HD2
   have HD2:=HD3
   clear HD3
   have hA:IntKind.i64.wrap ((kO:Int)+(q:Int))=((kO+q:Nat):Int):=by rw [IntKind.wrap_i64];omega
   have C0:Hid (∀ z W,z=((s+1:Nat):Int)→Calls Tryz.prog 133 #[.int .i64 z] W fun e w'=>e=.returned (.int .i64 (cut (s+1):Nat))∧w'=W):=hid9 fun z W hz=>rcut_any z (s+1) hz W
   have C2:Hid (∀ z W,z=((kO+q:Nat):Int)→Calls Tryz.prog 133 #[.int .i64 z] W fun e w'=>e=.returned (.int .i64 (cut (kO+q):Nat))∧w'=W):=hid9 fun z W hz=>rcut_any z (kO+q) hz W
   go_enter Tryz.func134,Tryz.ntmps134
   go_wp2_with (first
    | (go_at_call 132;first | (refine HC0.out.mono ?_;clear HC0;rintro e w1 ⟨rfl,HX,HB⟩;have HU:=hid9 (HC2.out _ w1 rfl HX HB.out);clear HC2;obtain ⟨x0,x1,x2,x3,x4⟩:=HX) | (refine HU.out.mono ?_;clear HU;rintro e w2 ⟨rfl,HV⟩))
    | (go_at_call 133;first | (refine (C0.out _ _ (by omega)).mono ?_;clear C0;rintro e w9 ⟨rfl,w9e⟩;rw [w9e,eIn];clear w9e) | (refine (C2.out _ _ (by first | exact hA | omega | (rw [if_neg (by omega)];exact hA) | (rw [if_pos (by omega)];exact hA))).mono ?_;clear C2;rintro e w9 ⟨rfl,w9e⟩;rw [w9e];clear w9e))
    | fail)
   go_ret
   exact ⟨by rw [HD2.out];rfl,HV.out.2⟩
set_option maxRecDepth 100000 in
set_option maxHeartbeats 1000000 in
theorem rfine_any (cs:List (Int × Int))(cal:List Int)(ca la:Option Addr)(cc lc n l:Nat)(hn:cs.length=n)(hl:cal.length=l)(bn:n≤9000000000000)(bl:l≤1000000000000000)(w:World)(hi:IsAt w.cell? ca cs)(hz:NsAt w.cell? la cal) :
  Calls Tryz.prog 131 #[.slice ca n cc,.slice la l lc] w fun e w'=>e=.returned (.bool (rightB cs cal))∧w'=w:=by
 have HI:=hid9 hi
 have HZ:=hid9 hz
 have HN:=hid9 hn
 have HLn:=hid9 hl
 clear hi hz hn hl
 go_enter Tryz.func131,Tryz.ntmps131
 go_wp2_with fail
 go_loopw [5] (fun iv wr=>∃ i:Nat,iv=.int .i64 i∧i≤l∧Hid ((cal.take i).any below9=false)∧w=wr) (fun iv _=>l - (intOf iv).toNat)
 case atStart=>exact ⟨0,rfl,Nat.zero_le _,hid9 (by simp),rfl⟩
 case round =>
  obtain ⟨i,rfl,hil,HA,rfl⟩:=hrel
  by_cases hlt:i<l
  ·have hl2:i<cal.length:=by rw [HLn.out];exact hlt
   obtain ⟨zb,zo,e1,z1⟩:∃ zb zo,la=some ⟨zb,zo,none⟩∧w.cell? ⟨zb,zo+i,none⟩=some (.int .i64 cal[i]):=by
    rcases HZ.out with h | ⟨b,o,e,h⟩
    ·rw [h] at hl2;cases hl2
    ·exact ⟨b,o,e,h i hl2⟩
   subst e1
   by_cases hneg:cal[i]<0
   ·have HF:Hid (rightB cs cal=false):=hid9 (by
     unfold rightB
     have:cal.any below9=true:=List.any_eq_true.2 ⟨cal[i],List.getElem_mem hl2,by unfold below9;exact decide_eq_true hneg⟩
     rw [this];simp)
    generalize cal[i]=x at *
    go_wp2_with fail
    go_ret
    exact ⟨by rw [HF.out];rfl,rfl⟩
   ·have HA2:Hid ((cal.take (i+1)).any below9=false):=hid9 (by
     rw [List.take_succ_eq_append_getElem hl2,List.any_append,HA.out]
     simp [below9];omega)
    generalize cal[i]=x at *
    go_wp2_with fail
    exact ⟨⟨i+1,by go_num,by omega,HA2,by first | trivial | rfl⟩,by simp [intOf];omega⟩
  ·have e:i=l:=by omega
   subst e
   have HA2:Hid (cal.any below9=false):=hid9 (by have:=HA.out;rw [← HLn.out,List.take_length] at this;exact this)
   clear HA
   go_wp2_with fail
   go_loopw [6] (fun iv wr=>∃ k:Nat,iv=.int .i64 k∧k≤n∧Hid ((cs.take k).any (wrong9 cal.length)=false)∧w=wr) (fun iv _=>n - (intOf iv).toNat)
   case atStart=>exact ⟨0,rfl,Nat.zero_le _,hid9 (by simp),rfl⟩
   case round =>
    obtain ⟨k,rfl,hkn,HB,rfl⟩:=hrel
    by_cases hlt2:k<n
    ·have hk2:k<cs.length:=by rw [HN.out];exact hlt2
     obtain ⟨cb,co,e1,q0,q1⟩:∃ cb co,ca=some ⟨cb,co,none⟩∧w.cell? ⟨cb,co+k*2,none⟩=some (.int .i64 cs[k].1)∧w.cell? ⟨cb,co+k*2+1,none⟩=some (.int .i64 cs[k].2):=by
      rcases HI.out with h | ⟨b,o,e,h⟩
      ·rw [h] at hk2;cases hk2
      ·exact ⟨b,o,e,h k hk2⟩
     subst e1
     have HW:Hid (wrong9 cal.length cs[k]=true→rightB cs cal=false):=hid9 fun h=>by
      unfold rightB
      have:cs.any (wrong9 cal.length)=true:=List.any_eq_true.2 ⟨cs[k],List.getElem_mem hk2,h⟩
      rw [this];simp
     have HV:Hid (wrong9 cal.length cs[k]=false→(cs.take (k+1)).any (wrong9 cal.length)=false):=hid9 fun h=>by
      rw [List.take_succ_eq_append_getElem hk2,List.any_append,HB.out]
      simp [h]
     have HE:Hid (wrong9 cal.length cs[k]=(if cs[k].1=53 then decide (cs[k].2<0∨(i:Int)≤cs[k].2) else if cs[k].1=51 then decide (cs[k].2<0) else false)):=hid9 (by rw [wrong9,HLn.out])
     generalize wrong9 cal.length cs[k]=wr9 at *
     generalize cs[k].1=o at *
     generalize cs[k].2=a at *
     clear HB HA2 HI HZ
     by_cases o1:o=53
     ·subst o1
      have E2:Hid (wr9=decide (a<0∨(i:Int)≤a)):=hid9 (by have:=HE.out;simpa using this)
      clear HE
      by_cases a1:a<0∨(i:Int)≤a
      ·have E3:Hid (rightB cs cal=false):=hid9 (HW.out (by rw [E2.out];exact decide_eq_true a1))
       rcases Int.lt_or_le a 0 with a2 | a2
       ·go_wp2_with fail
        go_ret
        exact ⟨by rw [E3.out];rfl,rfl⟩
       ·have a3:(i:Int)≤a:=by omega
        go_wp2_with fail
        go_ret
        exact ⟨by rw [E3.out];rfl,rfl⟩
      ·have E3:=hid9 (HV.out (by rw [E2.out];exact decide_eq_false a1))
       have a2:0≤a:=by omega
       have a3:a<(i:Int):=by omega
       go_wp2_with fail
       exact ⟨⟨k+1,by go_num,by omega,E3,by first | trivial | rfl⟩,by simp [intOf];omega⟩
     have o1b:(o == 53)=false:=by simpa using o1
     by_cases o2:o=51
     ·subst o2
      have E2:Hid (wr9=decide (a<0)):=hid9 (by have:=HE.out;simpa using this)
      clear HE
      by_cases a1:a<0
      ·have E3:Hid (rightB cs cal=false):=hid9 (HW.out (by rw [E2.out];exact decide_eq_true a1))
       go_wp2_with fail
       go_ret
       exact ⟨by rw [E3.out];rfl,rfl⟩
      ·have E3:=hid9 (HV.out (by rw [E2.out];exact decide_eq_false a1))
       have a2:0≤a:=by omega
       go_wp2_with fail
       exact ⟨⟨k+1,by go_num,by omega,E3,by first | trivial | rfl⟩,by simp [intOf];omega⟩
     ·have o2b:(o == 51)=false:=by simpa using o2
      have E3:=hid9 (HV.out (by rw [HE.out,if_neg o1,if_neg o2]))
      clear HE
      go_wp2_with fail
      exact ⟨⟨k+1,by go_num,by omega,E3,by first | trivial | rfl⟩,by simp [intOf];omega⟩
    ·have HF:Hid (rightB cs cal=true):=hid9 (by
      have h1:=HB.out
      rw [show k=n by omega,← HN.out,List.take_length] at h1
      unfold rightB
      rw [h1,HA2.out];rfl)
     go_wp2_with fail
     go_ret
     exact ⟨by rw [HF.out];rfl,rfl⟩
def cellsD (b:DL):List Value:=[.int .i64 b.op,.int .i64 b.t,.int .i64 b.s,.int .i64 b.th,.bool b.o]
def rowD (S:List DL):List Value:=S.reverse.flatMap cellsD
theorem rowD_cons (b:DL)(r:List DL):rowD (b :: r)=rowD r++cellsD b:=by simp [rowD]
theorem rowD_len (S:List DL):(rowD S).length=S.length*5:=by
 induction S with
 | nil=>rfl
 | cons b r ih=>rw [rowD_cons,List.length_append,ih,List.length_cons];simp [cellsD];omega
theorem elemN_lvl:ElemN Tryz.prog 173 172 5 40:=by
 refine ⟨Tryz.underlying173,?_,by decide⟩
 obtain ⟨i0,hi,hz0,hz1,hz2⟩:=info_parts (show (Tryz.prog.info? 172).map (fun i=>(i.zero,i.size,i.bytes))=some (some (.agg #[.int .i64 0,.int .i64 0,.int .i64 0,.int .i64 0,.bool false]),5,40) by kernel_rfl)
 exact ⟨i0,_,hi,hz0,hz1,hz2,rfl⟩
def RowL (B:Nat)(W:World)(g cap:Nat)(S:List DL):Prop:=W.ownsRow B 172 5 (.slice (some ⟨g,0,none⟩) S.length cap) S.length (rowD S)
theorem RowL.top {B:Nat}{W:World}{g cap:Nat}{b:DL}{r:List DL}(h:RowL B W g cap (b :: r)) :
  W.cell? ⟨g,r.length*5,none⟩=some (.int .i64 b.op)∧W.cell? ⟨g,r.length*5+1,none⟩=some (.int .i64 b.t)∧W.cell? ⟨g,r.length*5+2,none⟩=some (.int .i64 b.s)∧W.cell? ⟨g,r.length*5+3,none⟩=some (.int .i64 b.th)∧W.cell? ⟨g,r.length*5+4,none⟩=some (.bool b.o):=by
 obtain ⟨_,_,e,_,_,h2⟩:=row_form h
 rcases h2 with ⟨h2,_⟩ | ⟨g',h2,_,_,hc⟩
 ·cases e;cases h2
 ·cases e
  cases h2
  rw [rowD_cons] at hc
  have hl:=rowD_len r
  have key:∀ k u,(cellsD b)[k]?=some u→W.cell? ⟨g,r.length*5+k,none⟩=some u:=fun k u hu=>hc _ _ (by rw [List.getElem?_append_right (by omega),hl,Nat.add_sub_cancel_left];exact hu)
  exact ⟨key 0 _ rfl,key 1 _ rfl,key 2 _ rfl,key 3 _ rfl,key 4 _ rfl⟩
theorem RowL.fz {B:Nat}{W:World}{g cap:Nat}{S:List DL}(h:RowL B W g cap S)(k:Nat):W.frozen? ⟨g,k,none⟩=false:=World.ownsRow.frozenAt h k
theorem RowL.keep {B:Nat}{W W':World}{g cap:Nat}{S:List DL}(h:RowL B W g cap S)(hb:Below W.heap.size W W'):RowL B W' g cap S:=row_below2 h hb
theorem RowL.ge {B:Nat}{W:World}{g cap:Nat}{S:List DL}(h:RowL B W g cap S):B≤g∧g<W.heap.size:=World.ownsRow.lt h g rfl
theorem set_top (r:List DL)(b b':DL)(k:Nat)(u:Value)(h:(cellsD b).set k u=cellsD b'):(rowD (b :: r)).set (r.length*5+k) u=rowD (b' :: r):=by
 rw [rowD_cons,rowD_cons,List.set_append_right _ _ (by rw [rowD_len];omega),rowD_len,Nat.add_sub_cancel_left,h]
theorem RowL.set {B:Nat}{W:World}{g cap:Nat}{b b':DL}{r:List DL}(h:RowL B W g cap (b :: r))(k:Nat)(u:Value)(e:(cellsD b).set k u=cellsD b'):RowL B (W.setCell ⟨g,r.length*5+k,none⟩ u) g cap (b' :: r):=by
 have:=(World.ownsRow.stored h (r.length*5+k) u).1
 rw [set_top r b b' k u e] at this
 exact this
theorem RowL.pop {B:Nat}{W:World}{g cap:Nat}{b p:DL}{r:List DL}(h:RowL B W g cap (b :: p :: r)):RowL B W g cap (p :: r):=by
 have hl:=h.1
 rcases h.2 with ⟨e,_⟩ | ⟨g',cap',cur,e,hg,hh,h1,h2,h3,h4⟩
 ·cases e
 ·cases e
  refine ⟨by rw [rowD_len],.inr ⟨g,cap,cur,rfl,hg,hh,by simp only [List.length_cons] at *;omega,h2,h3,?_⟩⟩
  have e2:rowD (p :: r)=(rowD (b :: p :: r)).take ((p :: r).length*5):=by
   rw [rowD_cons b,List.take_left' (rowD_len _)]
  rw [e2,← h4,List.take_take,Nat.min_eq_left (by simp only [List.length_cons];omega)]
theorem ps_set {w W:World}{g cap k:Nat}{b b':DL}{r:List DL}(hR:RowL w.heap.size W g cap (b :: r)∧Below w.heap.size w W)(hk:k=r.length)(j:Nat)(u:Value)(e:(cellsD b).set j u=cellsD b'):RowL w.heap.size (W.setCell ⟨g,k*5+j,none⟩ u) g cap (b' :: r)∧Below w.heap.size w (W.setCell ⟨g,k*5+j,none⟩ u):=by
 subst hk
 exact ⟨hR.1.set j u e,hR.2.setCell hR.1.ge.1 u⟩
def HB9 (b:DL):Prop:=b.s≤1048577∧b.th≤1048577
theorem atD_bounds {cal:List Int}{cs:List (Int × Int)}{i:Nat}{b:DL}{r:List DL}(h:AtD cal cs i (b :: r)):HB9 b:=by
 obtain ⟨_,_,_,hB,_,_⟩:=str_cons h.1
 exact ⟨hB.2.1,hB.2.2⟩
def TopL (W:World)(g k:Nat)(b:DL):Prop:=(W.cell? ⟨g,k*5,none⟩=some (.int .i64 b.op)∧W.cell? ⟨g,k*5+1,none⟩=some (.int .i64 b.t)∧W.cell? ⟨g,k*5+2,none⟩=some (.int .i64 b.s)∧W.cell? ⟨g,k*5+3,none⟩=some (.int .i64 b.th)∧W.cell? ⟨g,k*5+4,none⟩=some (.bool b.o))∧W.frozen? ⟨g,k*5+2,none⟩=false∧W.frozen? ⟨g,k*5+3,none⟩=false∧W.frozen? ⟨g,k*5+4,none⟩=false
theorem RowL.topL {B:Nat}{W:World}{g cap k:Nat}{b:DL}{r:List DL}(h:RowL B W g cap (b :: r))(hk:k=r.length):TopL W g k b:=by
 subst hk
 exact ⟨h.top,h.fz _,h.fz _,h.fz _⟩
theorem ps_drew {w W:World}{g cap:Nat}{S:List DL}(h:RowL w.heap.size W g cap S∧Below w.heap.size w W):RowL w.heap.size W.drew g cap S∧Below w.heap.size w W.drew:=⟨World.ownsRow.drew h.1,h.2.drew⟩
theorem ps_app {w W W2:World}{g cap k:Nat}{b d:DL}{r:List DL}{o:Obj}{v v':Value}{xs:List Value}(HK:k=r.length)(h:RowL w.heap.size W g cap (b :: r)∧Below w.heap.size w W)(hr:(W.alloc o).ownsRow w.heap.size 172 5 v (k+1) xs)(hr2:W2.ownsRow w.heap.size 172 5 v' (k+1+1) (rowD (b :: r)++cellsD d))(hs:Step (W.alloc o) v W2 v') :
  ∃ g' cap',v'=.slice (some ⟨g',0,none⟩) (k+1+1) cap'∧Hid (RowL w.heap.size W2 g' cap' (d :: b :: r)∧Below w.heap.size w W2):=by
 obtain ⟨a',cap',e,_,_,hc⟩:=row_form hr2
 subst e
 rcases hc with ⟨_,h0,_⟩ | ⟨g',e,_⟩
 ·omega
 ·subst e
  refine ⟨g',cap',rfl,hid9 ⟨?_,(h.2.alloc h.2.size o).trans (hs.below (by have:=h.2.size;simp;omega) fun q hq=>(hr.lt q hq).1)⟩⟩
  unfold RowL
  rw [show (d :: b :: r).length=k+1+1 by rw [HK];rfl,rowD_cons d]
  exact hr2
def NN (S:List DL):Prop:=∀ d ∈ S,d.op=51→0≤d.t
theorem nn_step {cal:List Int}{x:Int × Int}{S:List DL}(h:NN S)(hx:x.1=51→0≤x.2):NN (dstep cal x S):=by
 cases S with
 | nil=>exact h
 | cons b r =>
  simp only [dstep]
  have hb:=h b (by simp)
  have hr:∀ d ∈ r,d.op=51→0≤d.t:=fun d hd=>h d (by simp [hd])
  split
  ·intro d hd
   rcases List.mem_cons.1 hd with e | hd
   ·subst e;exact hx
   ·exact h d hd
  ·split
   ·intro d hd
    rcases List.mem_cons.1 hd with e | hd
    ·subst e;exact hb
    ·exact hr d hd
   ·split
    ·split
     ·rename_i p q
      intro d hd
      rcases List.mem_cons.1 hd with e | hd
      ·subst e;exact hr p (by simp)
      ·exact hr d (by simp [hd])
     ·exact h
    ·split
     ·intro d hd
      rcases List.mem_cons.1 hd with e | hd
      ·subst e;exact hb
      ·exact hr d hd
     ·intro d hd
      rcases List.mem_cons.1 hd with e | hd
      ·subst e;exact hb
      ·exact hr d hd
theorem atD_bounds2 {cal:List Int}{cs:List (Int × Int)}{i:Nat}{b p:DL}{q:List DL}(h:AtD cal cs i (b :: p :: q)):p.s≤1048577:=by
 obtain ⟨_,_,_,_,_,hr⟩:=str_cons h.1
 obtain ⟨_,_,_,hB,_,_⟩:=str_cons (hr (by simp)).2
 exact hB.2.1
def PS (w:World)(cal:List Int)(cs:List (Int × Int))(i:Nat)(S:List DL)(g cap:Nat)(W:World):Prop:=(AtD cal cs i S∧NN S)∧RowL w.heap.size W g cap S∧Below w.heap.size w W
set_option maxRecDepth 100000 in
set_option maxHeartbeats 2000000 in
theorem rpart_good (cs:List (Int × Int))(cal:List Int)(ca la:Option Addr)(cc lc n l:Nat)(hn:cs.length=n)(hl:cal.length=l)(bn:n≤1000000)(bl:l≤1000000000000000)(w:World)(hi:IsAt w.cell? ca cs)(hz:NsAt w.cell? la cal)(hg:goodS cs=true)(hr:rightB cs cal=true) :
  Calls Tryz.prog 93 #[.slice ca n cc,.slice la l lc] w fun e w'=>e=.returned (.tuple #[.int .i64 (gasS cal cs:Nat),.int .i64 0])∧Below w.heap.size w w':=by
 have HM:Hid (Calls Tryz.prog 89 #[.slice ca n cc] w fun e w'=>∃ g:Nat,e=.returned (.tuple #[.slice (some ⟨g,0,none⟩) n n,.int .i64 0])∧Hid (Below w.heap.size w w')):=hid9 ((rmatch_any cs ca cc n hn bn w hi).mono fun e w' ⟨h1,h2⟩=>by
  rw [if_pos hg,hn] at h1
  obtain ⟨g,_,h1,_⟩:=h1
  exact ⟨g,h1,hid9 h2⟩)
 have HR:Hid (∀ W,Below w.heap.size w W→Calls Tryz.prog 131 #[.slice ca n cc,.slice la l lc] W fun e w'=>e=.returned (.bool true)∧w'=W):=hid9 fun W hb=>by
  have:=rfine_any cs cal ca la cc lc n l hn hl (by omega) bl W (hi.keep (below_keep hb)) (hz.keep (below_keep hb))
  rw [hr] at this
  exact this
 have HI:Hid (∀ W,Below w.heap.size w W→IsAt W.cell? ca cs∧NsAt W.cell? la cal):=hid9 fun W hb=>⟨hi.keep (below_keep hb),hz.keep (below_keep hb)⟩
 have HN:=hid9 hn
 have HG:=hid9 hg
 have HRi:=hid9 (right_of hr)
 clear hi hz hn hg hr
 go_enter Tryz.func93,Tryz.ntmps93
 go_wp2_with (first
  | (go_at_call 89;refine HM.out.mono ?_;clear HM;rintro e w1 ⟨g,rfl,HW⟩)
  | (go_at_call 131;refine (HR.out _ HW.out).mono ?_;clear HR;rintro e w2 ⟨rfl,w2e⟩;rw [w2e];clear w2e)
  | fail)
 have HP0:Hid (PS w cal cs 0 [dbase] w1.heap.size 1 (w1.alloc (.cells #[.int .i64 0,.int .i64 0,.int .i64 0,.int .i64 0,.bool false] 172))):=hid9 ⟨⟨atD_start cal cs,fun d hd h=>by simp [dbase] at hd;subst hd;exact Int.le_refl _⟩,World.ownsRow_lit w1 #[.int .i64 0,.int .i64 0,.int .i64 0,.int .i64 0,.bool false] 1 HW.out.size (by unfold maxLen;omega) rfl,HW.out.alloc HW.out.size _⟩
 clear HW
 go_loopw [8,9] (fun lv iv wr=>∃ (i g cap:Nat) (S:List DL),iv=.int .i64 i∧i≤n∧lv=.slice (some ⟨g,0,none⟩) S.length cap∧Hid (PS w cal cs i S g cap wr)) (fun _ iv _=>n - (intOf iv).toNat)
 case atStart=>exact ⟨0,w1.heap.size,1,[dbase],rfl,Nat.zero_le _,rfl,HP0⟩
 case round =>
  obtain ⟨i,gl,cap,S,rfl,hin,rfl,HP⟩:=hrel
  clear HP0
  by_cases hlt:i<n
  ·have hil:i<cs.length:=by rw [HN.out];exact hlt
   obtain ⟨b,r,hS⟩:=atD_pos HP.out.1.1
   subst hS
   have HS2:=hid9 (And.intro (atD_step HG.out HP.out.1.1 hil) (nn_step (cal:=cal) HP.out.1.2 (x:=cs[i]) (fun h=>(HRi.out.1 _ (List.getElem_mem hil)).2 h)))
   have HBb:=hid9 (atD_bounds HP.out.1.1)
   have hcap:r.length+1≤cap:=by obtain ⟨_,_,e,h,_⟩:=row_form HP.out.2.1;cases e;simpa using h
   have HPp:Hid (∀ p q,r=p :: q→p.s≤1048577):=hid9 fun p q e=>by have:=HP.out.1.1;rw [e] at this;exact atD_bounds2 this
   have HTt:Hid (b.op=51→0≤b.t):=hid9 (HP.out.1.2 b (by simp))
   have hr2:r.length≤1000000:=by have:=atD_len HP.out.1.1 (by omega);simp at this;omega
   have HE:Hid (cs[i].1=50→∃ p q,r=p :: q):=hid9 fun e=>by obtain ⟨_,p,q,h⟩:=atD_end HG.out HP.out.1.1 hil e;cases h;exact ⟨p,q,rfl⟩
   have HX:Hid ((cs[i].1=53→0≤cs[i].2∧cs[i].2<cal.length)∧(∀ z ∈ cal,0≤z)):=hid9 ⟨fun h=>(HRi.out.1 _ (List.getElem_mem hil)).1 h,HRi.out.2⟩
   obtain ⟨k,hk⟩:∃ k,k=r.length:=⟨_,rfl⟩
   have HC:Hid (Calls Tryz.prog 132 #[.int .i64 cs[i].1] wr fun e W=>e=.returned (.int .i64 (costN cs[i].1:Nat))∧(∀ cb co,ca=some ⟨cb,co,none⟩→W.cell? ⟨cb,co+i*2,none⟩=some (.int .i64 cs[i].1)∧W.cell? ⟨cb,co+i*2+1,none⟩=some (.int .i64 cs[i].2))∧TopL W gl k b∧Hid (RowL w.heap.size W gl cap (b :: r)∧Below w.heap.size w W)):=hid9 ((rcost9_any cs[i].1 wr).mono fun e W ⟨h1,h2⟩=>by
    rw [(costT_pos _).1] at h1
    have hB:=HP.out.2.2.trans (h2.mono HP.out.2.2.size)
    have hR:=HP.out.2.1.keep h2
    refine ⟨h1,fun cb co e=>?_,hR.topL hk,hid9 ⟨hR,hB⟩⟩
    rcases (HI.out W hB).1 with h | ⟨cb',co',e',h⟩
    ·rw [h] at hil;cases hil
    ·rw [e] at e';cases e';exact h i hil)
   obtain ⟨cb,co,e1,c0⟩:∃ cb co,ca=some ⟨cb,co,none⟩∧wr.cell? ⟨cb,co+i*2,none⟩=some (.int .i64 cs[i].1):=by
    rcases (HI.out wr HP.out.2.2).1 with h | ⟨b,o,e,h⟩
    ·rw [h] at hil;cases hil
    ·exact ⟨b,o,e,(h i hil).1⟩
   subst e1
   rw [show (b :: r).length=k+1 by rw [hk];rfl]
   have HK:=hid9 hk
   rw [← hk] at hr2 hcap
   have hcap0:¬ cap=0:=by omega
   clear hk
   generalize cs[i]=x at *
   obtain ⟨o,a⟩:=x
   simp only at *
   have hk30:=(costT_pos o).2
   clear HP HRi
   have HSm:Hid (HB9 b):=hid9 HBb.out
   have hbs:=HSm.out.1
   have hbt:=HSm.out.2
   by_cases o2:o=49
   ·subst o2
    have HD:Hid (dstep cal (49,a) (b :: r)={ b with th:=cut (b.s+costN 49),s:=0,o:=true } :: r):=hid9 (by simp [dstep])
    rw [HD.out] at HS2
    have CU:Hid (∀ z W,z=((b.s+costN 49:Nat):Int)→Calls Tryz.prog 133 #[.int .i64 z] W fun e w'=>e=.returned (.int .i64 (cut (b.s+costN 49):Nat))∧w'=W):=hid9 fun z W hz=>rcut_any z (b.s+costN 49) hz W
    go_wp2_with (first
    | (go_at_call 132;refine HC.out.mono ?_;clear HC;rintro e w3 ⟨rfl,hcc,⟨⟨t0,t1,t2,t3,t4⟩,f2,f3,f4⟩,HQ⟩;obtain ⟨d0,d1⟩:=hcc _ _ rfl;clear hcc)
    | (go_at_call 133;refine (CU.out _ _ (by omega)).mono ?_;clear CU;rintro e w9 ⟨rfl,w9e⟩;rw [w9e];clear w9e)
    | fail)
    have h1:=ps_set (b':={ b with th:=cut (b.s+costN 49) }) HQ.out HK.out 3 _ rfl
    have h2:=ps_set (b':={ b with th:=cut (b.s+costN 49),s:=0 }) h1 HK.out 2 (.int .i64 0) rfl
    have h3:=ps_set (b':={ b with th:=cut (b.s+costN 49),s:=0,o:=true }) h2 HK.out 4 (.bool true) rfl
    exact ⟨⟨i+1,gl,cap,_ :: r,by go_num,by omega,by rw [List.length_cons,← HK.out],hid9 ⟨HS2.out,h3.1,h3.2⟩⟩,by simp [intOf];omega⟩
   by_cases o3:o=50
   ·subst o3
    obtain ⟨p,q,rfl⟩:=HE.out rfl
    have HD:Hid (dstep cal (50,a) (b :: p :: q)={ p with s:=cut (p.s+dclosed b) } :: q):=hid9 (by simp [dstep])
    rw [HD.out] at HS2
    obtain ⟨k',rfl⟩:∃ k',k=k'+1:=⟨q.length,by rw [HK.out];rfl⟩
    have HK2:Hid (k'=q.length):=hid9 (by have:=HK.out;simp at this;exact this)
    have hps:=HPp.out p q rfl
    have hdc:=dclosed_le b
    unfold TM at hdc
    have CL:Hid (∀ W,RowL w.heap.size W gl cap (b :: p :: q)∧Below w.heap.size w W→Calls Tryz.prog 134 #[.agg #[.int .i64 b.op,.int .i64 b.t,.int .i64 b.s,.int .i64 b.th,.bool b.o]] W fun e W1=>e=.returned (.int .i64 (dclosed b:Nat))∧TopL W1 gl k' p∧Hid (RowL w.heap.size W1 gl cap (p :: q)∧Below w.heap.size w W1)):=hid9 fun W hW=>(rclosed_any b (by unfold TM;omega) (by unfold TM;omega) HTt.out W).mono fun e W1 ⟨h1,h2⟩=>by
     have hR:=(hW.1.keep h2).pop
     exact ⟨h1,hR.topL HK2.out,hid9 ⟨hR,hW.2.trans (h2.mono hW.2.size)⟩⟩
    have CU:Hid (∀ z W,z=((p.s+dclosed b:Nat):Int)→Calls Tryz.prog 133 #[.int .i64 z] W fun e w'=>e=.returned (.int .i64 (cut (p.s+dclosed b):Nat))∧w'=W):=hid9 fun z W hz=>rcut_any z (p.s+dclosed b) hz W
    generalize dclosed b=dc at *
    go_wp2_with (first
    | (go_at_call 132;refine HC.out.mono ?_;clear HC;rintro e w3 ⟨rfl,hcc,⟨⟨t0,t1,t2,t3,t4⟩,f2,f3,f4⟩,HQ⟩;obtain ⟨d0,d1⟩:=hcc _ _ rfl;clear hcc)
    | (go_at_call 134;refine (CL.out _ HQ.out).mono ?_;clear CL HQ;rintro e w4 ⟨rfl,⟨⟨v0,v1,v2,v3,v4⟩,j2,j3,j4⟩,HQ⟩)
    | (go_at_call 133;refine (CU.out _ _ (by omega)).mono ?_;clear CU;rintro e w9 ⟨rfl,w9e⟩;rw [w9e];clear w9e)
    | fail)
    have h1:=ps_set (b':={ p with s:=cut (p.s+dc) }) HQ.out HK2.out 2 _ rfl
    exact ⟨⟨i+1,gl,cap,_ :: q,by go_num,by omega,by rw [List.length_cons,← HK2.out],hid9 ⟨HS2.out,h1.1,h1.2⟩⟩,by simp [intOf];omega⟩
   by_cases o4:o=53
   ·subst o4
    obtain ⟨ha0,ha1⟩:=HX.out.1 rfl
    obtain ⟨A,rfl⟩:∃ A:Nat,a=A:=⟨a.toNat,by omega⟩
    have hAl:A<cal.length:=by omega
    obtain ⟨v,hv⟩:∃ v:Nat,cal[A]=(v:Int):=⟨cal[A].toNat,by have:=HX.out.2 _ (List.getElem_mem hAl);omega⟩
    have HD:Hid (dstep cal (53,(A:Int)) (b :: r)={ b with s:=cut (b.s+costN 53+cut v) } :: r):=hid9 (by simp [dstep,hAl,hv])
    rw [HD.out] at HS2
    have HLc:Hid (∀ W,Below w.heap.size w W→∃ lb lo,la=some ⟨lb,lo,none⟩∧W.cell? ⟨lb,lo+A,none⟩=some (.int .i64 (v:Int))):=hid9 fun W hW=>by
     rcases (HI.out W hW).2 with h | ⟨lb,lo,e,h⟩
     ·rw [h] at hAl;cases hAl
     ·exact ⟨lb,lo,e,by have:=h A hAl;rw [hv] at this;exact this⟩
    obtain ⟨lb,lo,ela,_⟩:=HLc.out w (Below.refl _ _)
    subst ela
    have hcv:=cut_le v
    unfold TM at hcv
    have C1:Hid (∀ z W,z=(v:Int)→Calls Tryz.prog 133 #[.int .i64 z] W fun e w'=>e=.returned (.int .i64 (cut v:Nat))∧w'=W):=hid9 fun z W hz=>rcut_any z v hz W
    have C2:Hid (∀ z W,z=((b.s+costN 53+cut v:Nat):Int)→Calls Tryz.prog 133 #[.int .i64 z] W fun e w'=>e=.returned (.int .i64 (cut (b.s+costN 53+cut v):Nat))∧w'=W):=hid9 fun z W hz=>rcut_any z (b.s+costN 53+cut v) hz W
    have hAl2:A<l:=by omega
    clear hv
    go_wp2_with (first
    | (go_at_call 132;refine HC.out.mono ?_;clear HC;rintro e w3 ⟨rfl,hcc,⟨⟨t0,t1,t2,t3,t4⟩,f2,f3,f4⟩,HQ⟩;obtain ⟨d0,d1⟩:=hcc _ _ rfl;clear hcc;obtain ⟨_,_,el,d2⟩:=HLc.out _ HQ.out.2;cases el;clear HLc)
    | (go_at_call 133;first | (refine (C1.out _ _ (by omega)).mono ?_;clear C1;rintro e w9 ⟨rfl,w9e⟩;rw [w9e];clear w9e) | (refine (C2.out _ _ (by omega)).mono ?_;clear C2;rintro e w9 ⟨rfl,w9e⟩;rw [w9e];clear w9e))
    | fail)
    have e2:IntKind.i64.wrap (IntKind.i64.wrap ((b.s:Int)+(costN 53:Int))+(cut v:Int))=((b.s+costN 53+cut v:Nat):Int):=by
     rw [show IntKind.i64.wrap ((b.s:Int)+(costN 53:Int))=(b.s:Int)+(costN 53:Int) by rw [IntKind.wrap_i64];omega,IntKind.wrap_i64];omega
    go_region_with (first
     | (go_at_call 133;first | (refine (C1.out _ _ (by omega)).mono ?_;clear C1;rintro e w9 ⟨rfl,w9e⟩;rw [w9e];clear w9e) | (refine (C2.out _ _ e2).mono ?_;clear C2;rintro e w9 ⟨rfl,w9e⟩;rw [w9e];clear w9e) | (refine (C2.out _ _ (by omega)).mono ?_;clear C2;rintro e w9 ⟨rfl,w9e⟩;rw [w9e];clear w9e)))
    all_goals
     go_wp2_with fail
     have h1:=ps_set (b':={ b with s:=cut (b.s+costN 53+cut v) }) (ps_drew HQ.out) HK.out 2 _ rfl
     exact ⟨⟨i+1,gl,cap,_ :: r,by go_num,by omega,by rw [List.length_cons,← HK.out],hid9 ⟨HS2.out,h1.1,h1.2⟩⟩,by simp [intOf];omega⟩
   by_cases o1:o=48∨o=51
   ·have HD:Hid (dstep cal (o,a) (b :: r)=⟨o,a,0,0,false⟩ :: b :: r):=hid9 (by simp only [dstep];rw [if_pos o1])
    rw [HD.out] at HS2
    have n3:(o == 49)=false:=by simp;omega
    have n1:((o == 48) || (o == 51))=true:=by rcases o1 with h | h <;> simp [h]
    rcases o1 with o1 | o1
    ·subst o1
     go_wp2_with (first
      | (go_at_call 132;refine HC.out.mono ?_;clear HC;rintro e w3 ⟨rfl,hcc,⟨⟨t0,t1,t2,t3,t4⟩,f2,f3,f4⟩,HQ⟩;obtain ⟨d0,d1⟩:=hcc _ _ rfl;clear hcc)
      | fail)
     have e0:w3.drew.cell? ⟨cb,co+i*2,none⟩=some (.int .i64 48):=d0
     have e1:w3.drew.cell? ⟨cb,co+i*2+1,none⟩=some (.int .i64 a):=d1
     have r3:w3.drew.ownsRow w.heap.size 172 5 (.slice (some ⟨gl,0,none⟩) (k+1) cap) (k+1) (rowD (b :: r)):=by
      have:=World.ownsRow.drew HQ.out.1
      rw [show (b :: r).length=k+1 by rw [HK.out];rfl] at this
      exact this
     have hs3:=HQ.out.2.size
     go_region_law (first
      | (refine step_appN _ (by rfl) (.tmp 61) (.tmp 73) 173 (by rfl) elemN_lvl w.heap.size _ (k+1) (rowD (b :: r)) (by rfl) (World.ownsRow.alloc r3 _) _ (by rfl) 1 (cellsD ⟨48,a,0,0,false⟩) (.inr ⟨⟨w3.heap.size,0,none⟩,1,rfl,cells_new9 w3.drew (cellsD ⟨48,a,0,0,false⟩) 172 _ rfl⟩) rfl (by simp [cellsD,Value.oneCell']) (by unfold maxLen;omega) (by omega) (by simp;omega) ?_;intro v' w12 hr12 hs12;obtain ⟨y12,t12,ev,HZ⟩:=ps_app (HK:=HK.out) (ps_drew HQ.out) (World.ownsRow.alloc r3 _) hr12 hs12;subst ev;clear hr12 hs12))
     all_goals
      go_wp2_with fail
      exact ⟨⟨i+1,y12,t12,_ :: b :: r,by go_num,by omega,by rw [List.length_cons,List.length_cons,← HK.out],hid9 ⟨HS2.out,HZ.out.1,HZ.out.2⟩⟩,by simp [intOf];omega⟩
    ·subst o1
     go_wp2_with (first
      | (go_at_call 132;refine HC.out.mono ?_;clear HC;rintro e w3 ⟨rfl,hcc,⟨⟨t0,t1,t2,t3,t4⟩,f2,f3,f4⟩,HQ⟩;obtain ⟨d0,d1⟩:=hcc _ _ rfl;clear hcc)
      | fail)
     have e0:w3.drew.cell? ⟨cb,co+i*2,none⟩=some (.int .i64 51):=d0
     have e1:w3.drew.cell? ⟨cb,co+i*2+1,none⟩=some (.int .i64 a):=d1
     have r3:w3.drew.ownsRow w.heap.size 172 5 (.slice (some ⟨gl,0,none⟩) (k+1) cap) (k+1) (rowD (b :: r)):=by
      have:=World.ownsRow.drew HQ.out.1
      rw [show (b :: r).length=k+1 by rw [HK.out];rfl] at this
      exact this
     have hs3:=HQ.out.2.size
     go_region_law (first
      | (refine step_appN _ (by rfl) (.tmp 61) (.tmp 73) 173 (by rfl) elemN_lvl w.heap.size _ (k+1) (rowD (b :: r)) (by rfl) (World.ownsRow.alloc r3 _) _ (by rfl) 1 (cellsD ⟨51,a,0,0,false⟩) (.inr ⟨⟨w3.heap.size,0,none⟩,1,rfl,cells_new9 w3.drew (cellsD ⟨51,a,0,0,false⟩) 172 _ rfl⟩) rfl (by simp [cellsD,Value.oneCell']) (by unfold maxLen;omega) (by omega) (by simp;omega) ?_;intro v' w12 hr12 hs12;obtain ⟨y12,t12,ev,HZ⟩:=ps_app (HK:=HK.out) (ps_drew HQ.out) (World.ownsRow.alloc r3 _) hr12 hs12;subst ev;clear hr12 hs12))
     all_goals
      go_wp2_with fail
      exact ⟨⟨i+1,y12,t12,_ :: b :: r,by go_num,by omega,by rw [List.length_cons,List.length_cons,← HK.out],hid9 ⟨HS2.out,HZ.out.1,HZ.out.2⟩⟩,by simp [intOf];omega⟩
   have HD:Hid (dstep cal (o,a) (b :: r)={ b with s:=cut (b.s+costN o) } :: r):=hid9 (by simp only [dstep];rw [if_neg o1,if_neg o2,if_neg o3,if_neg o4])
   rw [HD.out] at HS2
   have n1:(o == 48)=false:=by simp;omega
   have n2:(o == 51)=false:=by simp;omega
   have n3:(o == 49)=false:=by simp;omega
   have n4:(o == 50)=false:=by simp;omega
   have n5:(o == 53)=false:=by simp;omega
   have CU:Hid (∀ z W,z=((b.s+costN o:Nat):Int)→Calls Tryz.prog 133 #[.int .i64 z] W fun e w'=>e=.returned (.int .i64 (cut (b.s+costN o):Nat))∧w'=W):=hid9 fun z W hz=>rcut_any z (b.s+costN o) hz W
   go_wp2_with (first
    | (go_at_call 132;refine HC.out.mono ?_;clear HC;rintro e w3 ⟨rfl,hcc,⟨⟨t0,t1,t2,t3,t4⟩,f2,f3,f4⟩,HQ⟩;obtain ⟨d0,d1⟩:=hcc _ _ rfl;clear hcc)
    | (go_at_call 133;refine (CU.out _ _ (by omega)).mono ?_;clear CU;rintro e w9 ⟨rfl,w9e⟩;rw [w9e];clear w9e)
    | fail)
   have h1:=ps_set (b':={ b with s:=cut (b.s+costN o) }) HQ.out HK.out 2 _ rfl
   exact ⟨⟨i+1,gl,cap,_ :: r,by go_num,by omega,by rw [List.length_cons,← HK.out],hid9 ⟨HS2.out,h1.1,h1.2⟩⟩,by simp [intOf];omega⟩
  ·have hE:=hid9 (atD_done HG.out (show AtD cal cs cs.length S by have:=HP.out.1.1;rw [show i=cs.length by rw [HN.out];omega] at this;exact this))
   obtain ⟨b,rfl,hb⟩:=hE.out
   have hT:=HP.out.2.1.topL (r:=[]) rfl
   obtain ⟨⟨t0,t1,t2,t3,t4⟩,_⟩:=hT
   simp only [List.length_nil,Nat.zero_mul,Nat.zero_add,hb] at t2
   simp only [List.length_singleton]
   clear hE hb t0 t1 t3 t4
   go_wp2_with fail
   go_ret2
   exact ⟨rfl,HP.out.2.2⟩
set_option maxRecDepth 100000 in
set_option maxHeartbeats 1000000 in
theorem rpart9_any (cs:List (Int × Int))(cal:List Int)(ca la:Option Addr)(cc lc n l:Nat)(hn:cs.length=n)(hl:cal.length=l)(bn:n≤1000000)(bl:l≤1000000000000000)(w:World)(hi:IsAt w.cell? ca cs)(hz:NsAt w.cell? la cal) :
  Calls Tryz.prog 93 #[.slice ca n cc,.slice la l lc] w fun e w'=>e=.returned (.tuple #[.int .i64 ((partS cs cal).1:Nat),.int .i64 (partS cs cal).2])∧Below w.heap.size w w':=by
 have HM:=hid9 (rmatch_any cs ca cc n hn bn w hi)
 by_cases hg:goodS cs=true
 ·by_cases hr:rightB cs cal=true
  ·rw [show partS cs cal=(gasS cal cs,0) from by unfold partS;rw [if_pos hg,if_pos hr]]
   exact rpart_good cs cal ca la cc lc n l hn hl bn bl w hi hz hg hr
  ·rw [show partS cs cal=(0,1) from by unfold partS;rw [if_pos hg,if_neg hr]]
   rw [Bool.not_eq_true] at hr
   replace HM:Hid (Calls Tryz.prog 89 #[.slice ca n cc] w fun e w'=>∃ g:Nat,e=.returned (.tuple #[.slice (some ⟨g,0,none⟩) n n,.int .i64 0])∧Hid (Below w.heap.size w w')):=hid9 (HM.out.mono fun e w' ⟨h1,h2⟩=>by
    rw [if_pos hg,hn] at h1
    obtain ⟨g,_,h1,_⟩:=h1
    exact ⟨g,h1,hid9 h2⟩)
   have HR:Hid (∀ W,Below w.heap.size w W→Calls Tryz.prog 131 #[.slice ca n cc,.slice la l lc] W fun e w'=>e=.returned (.bool false)∧w'=W):=hid9 fun W hb=>by
    have:=rfine_any cs cal ca la cc lc n l hn hl (by omega) bl W (hi.keep (below_keep hb)) (hz.keep (below_keep hb))
    rw [hr] at this
    exact this
   clear hi hz hg hr hn hl
   go_enter Tryz.func93,Tryz.ntmps93
   go_wp2_with (first
    | (go_at_call 89;refine HM.out.mono ?_;clear HM;rintro e w1 ⟨g,rfl,HW⟩)
    | (go_at_call 131;refine (HR.out _ HW.out).mono ?_;clear HR;rintro e w2 ⟨rfl,w2e⟩;rw [w2e];clear w2e)
    | fail)
   go_ret2
   exact ⟨rfl,HW.out⟩
 ·rw [show partS cs cal=(0,31) from by unfold partS;rw [if_neg hg]]
  replace HM:Hid (Calls Tryz.prog 89 #[.slice ca n cc] w fun e w'=>e=.returned (.tuple #[.slice none 0 0,.int .i64 31])∧Hid (Below w.heap.size w w')):=hid9 (HM.out.mono fun e w' ⟨h1,h2⟩=>by
   rw [if_neg hg] at h1
   exact ⟨h1,hid9 h2⟩)
  clear hi hz hg hn hl
  go_enter Tryz.func93,Tryz.ntmps93
  go_wp2_with (first | (go_at_call 89;refine HM.out.mono ?_;clear HM;rintro e w1 ⟨rfl,HW⟩) | fail)
  go_ret2
  exact ⟨rfl,HW.out⟩
end Go.Proofs.YtpmlnkjamhelnaaGreat
