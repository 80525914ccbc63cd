/- Layer 8: num, Stacks (law07's), whole rows of rows. Layer 8: the document's calls. -/
import Derived.Test.YtpmlnkjamhelnaaGreatCB
import Derived.Test.YtpmlnkjamhelnaaGreatPlain
namespace Go.Proofs.YtpmlnkjamhelnaaGreat
open Go.RowKit
theorem hid7 {p:Prop}(h:p):Hid p:=h
def RsAt (C:Addr→Option Value)(a:Option Addr)(R:List (List Int)):Prop:=R=[]∨∃ b off,a=some ⟨b,off,none⟩∧∀ j (h:j<R.length),∃ aj cj,C ⟨b,off+j,none⟩=some (.slice aj R[j].length cj)∧NsAt C aj R[j]
theorem RsAt.keep {C C':Addr→Option Value}{a:Option Addr}{R:List (List Int)}(h:RsAt C a R)(hk:∀ x v,C x=some v→C' x=some v):RsAt C' a R:=by
 rcases h with h | ⟨b,off,e,h⟩
 ·exact .inl h
 ·refine .inr ⟨b,off,e,fun j hj=>?_⟩
  obtain ⟨aj,cj,h1,h2⟩:=h j hj
  exact ⟨aj,cj,hk _ _ h1,h2.keep hk⟩
def callsN (cs:List (Int × Int))(G:Int)(k:Nat):Bool:=(cs.take k).any fun x=>x.1 == 53 && x.2 == G
def callsS (cs:List (Int × Int))(G:Int):Bool:=callsN cs G cs.length
theorem callsN_succ {cs:List (Int × Int)}{G:Int}{k:Nat}(h:k<cs.length):callsN cs G (k+1)=(callsN cs G k || (cs[k].1 == 53 && cs[k].2 == G)):=by
 unfold callsN
 rw [List.take_succ_eq_append_getElem h,List.any_append]
 simp
theorem callsN_mono {cs:List (Int × Int)}{G:Int}{k:Nat}(h:callsN cs G k=true):callsS cs G=true:=by
 unfold callsS callsN at *
 rw [List.take_length]
 obtain ⟨x,hx,hp⟩:=List.any_eq_true.1 h
 exact List.any_eq_true.2 ⟨x,List.mem_of_mem_take hx,hp⟩
set_option maxRecDepth 100000 in
set_option maxHeartbeats 1000000 in
theorem rcalls_any (cs:List (Int × Int))(fb fo k fl c1:Nat)(V0:Value)(a3:Option Addr)(c3 N:Nat)(hN:cs.length=N)(bN:N≤100000)(hk:k<fl)(G:Int)(w:World)(h3:w.cell? ⟨fb,fo+k*4+3,none⟩=some (.slice a3 N c3))(hc:IsAt w.cell? a3 cs) :
  Calls Tryz.prog 59 #[.agg #[V0,.slice (some ⟨fb,fo,none⟩) fl c1],.int .i64 k,.int .i64 G] w fun e w'=>e=.returned (.bool (callsS cs G))∧Below w.heap.size w w':=by
 have HW:Hid (∀ W,Below (w.alloc (.cells #[V0,.slice (some ⟨fb,fo,none⟩) fl c1] 27)).heap.size (w.alloc (.cells #[V0,.slice (some ⟨fb,fo,none⟩) fl c1] 27)) W→W.cell? ⟨w.heap.size,1,none⟩=some (.slice (some ⟨fb,fo,none⟩) fl c1)∧W.cell? ⟨fb,fo+k*4+3,none⟩=some (.slice a3 N c3)∧Hid (IsAt W.cell? a3 cs)∧Hid (Below w.heap.size w W)):=hid7 fun W hW=>by
  have b1:=(Below.refl _ w).alloc (Nat.le_refl _) (.cells #[V0,.slice (some ⟨fb,fo,none⟩) fl c1] 27)
  have e1:(w.alloc (.cells #[V0,.slice (some ⟨fb,fo,none⟩) fl c1] 27)).heap[w.heap.size]?=some (.cells #[V0,.slice (some ⟨fb,fo,none⟩) fl c1] 27 (0,0)):=heap_alloc_new w _
  have e2:=(hW.block _ (Array.getElem?_eq_some_iff.1 e1).1).trans e1
  have bw:=b1.trans (hW.mono b1.size)
  have kk:=below_keep bw
  exact ⟨by rw [Lib.cell_of_heap e2];rfl,kk _ _ h3,hid7 (hc.keep kk),hid7 bw⟩
 have HN:=hid7 hN
 obtain ⟨W1,hW1⟩:∃ W1,W1=w.alloc (.cells #[V0,.slice (some ⟨fb,fo,none⟩) fl c1] 27):=⟨_,rfl⟩
 clear hc hN
 go_enter Tryz.func59,Tryz.ntmps59
 go_wp2
 rw [← hW1] at HW ⊢
 clear hW1
 go_loopw [7] (fun iv wr=>∃ i:Nat,iv=.int .i64 i∧i≤N∧Hid (callsN cs G i=false)∧Hid (Below W1.heap.size W1 wr)) (fun iv _=>N - (intOf iv).toNat)
 case atStart=>exact ⟨0,rfl,Nat.zero_le _,hid7 (by simp [callsN]),hid7 (Below.refl _ _)⟩
 case round =>
  obtain ⟨i,rfl,hi,hF,hB⟩:=hrel
  obtain ⟨q1,q3,HI,Bw⟩:=HW.out wr hB.out
  by_cases hiN:i<N
  ·have hil:i<cs.length:=by rw [HN.out];exact hiN
   have hS:=callsN_succ (G:=G) hil
   obtain ⟨b3,o3,e3,x0,x1⟩:∃ b3 o3,a3=some ⟨b3,o3,none⟩∧wr.cell? ⟨b3,o3+i*2,none⟩=some (.int .i64 cs[i].1)∧wr.cell? ⟨b3,o3+i*2+1,none⟩=some (.int .i64 cs[i].2):=by
    rcases HI.out with h0 | ⟨b,off,e,h⟩
    ·rw [h0] at hil;cases hil
    ·exact ⟨b,off,e,h i hil⟩
   subst e3
   rw [hF.out,Bool.false_or] at hS
   generalize cs[i]=x at *
   obtain ⟨n,A⟩:=x
   simp only at *
   have b5:=(Below.refl _ wr).alloc (Nat.le_refl _) (.cells #[.int .i64 n,.int .i64 A] 74)
   have B5:=hid7 (hB.out.trans (b5.mono hB.out.size))
   have Bw5:=hid7 (Bw.out.trans (b5.mono Bw.out.size))
   have HS:=hid7 hS
   clear hS b5 hF HI
   by_cases h53:n=53
   ·subst h53
    by_cases hA:A=G
    ·subst hA
     have HT:Hid (callsS cs A=true):=hid7 (callsN_mono (k:=i+1) (by rw [HS.out];simp))
     go_wp2
     go_ret
     exact ⟨by rw [HT.out];rfl,Bw5.out⟩
    ·have t1:(A == G)=false:=by simpa using hA
     have HT:Hid (callsN cs G (i+1)=false):=hid7 (by rw [HS.out,t1];simp)
     clear hA HS
     go_wp2
     exact ⟨⟨i+1,by go_num,hiN,HT,B5⟩,by simp [intOf];omega⟩
   ·have t1:(n == 53)=false:=by simpa using h53
    have HT:Hid (callsN cs G (i+1)=false):=hid7 (by rw [HS.out,t1];simp)
    clear h53 HS
    go_wp2
    exact ⟨⟨i+1,by go_num,hiN,HT,B5⟩,by simp [intOf];omega⟩
  ·have hiN:i=N:=by omega
   subst hiN
   have HT:Hid (callsS cs G=false):=hid7 (by unfold callsS;rw [HN.out];exact hF.out)
   clear hF
   go_wp2
   go_ret
   exact ⟨by rw [HT.out];rfl,Bw.out⟩
end Go.Proofs.YtpmlnkjamhelnaaGreat
namespace Go.Proofs.YtpmlnkjamhelnaaGreat
theorem rise_eq:∀ {a b:List Int},a.Pairwise (·<·)→b.Pairwise (·<·)→(∀ x,x ∈ a ↔ x ∈ b)→a=b
 | [],[],_,_,_=>rfl
 | [],y :: b,_,_,h=>by have:=(h y).2 (by simp);cases this
 | x :: a,[],_,_,h=>by have:=(h x).1 (by simp);cases this
 | x :: a,y :: b,ha,hb,h=>by
  rw [List.pairwise_cons] at ha hb
  have hxy:x=y:=by
   rcases Int.lt_trichotomy x y with h1 | h1 | h1
   ·have:=(h x).1 (by simp)
    rcases List.mem_cons.1 this with e | e
    ·exact e
    ·have:=hb.1 x e;omega
   ·exact h1
   ·have:=(h y).2 (by simp)
    rcases List.mem_cons.1 this with e | e
    ·exact e.symm
    ·have:=ha.1 y e;omega
  subst hxy
  rw [rise_eq ha.2 hb.2 fun z=>?_]
  constructor
  ·intro hz
   rcases List.mem_cons.1 ((h z).1 (List.mem_cons_of_mem _ hz)) with e | e
   ·subst e;have:=ha.1 _ hz;omega
   ·exact e
  ·intro hz
   rcases List.mem_cons.1 ((h z).2 (List.mem_cons_of_mem _ hz)) with e | e
   ·subst e;have:=hb.1 _ hz;omega
   ·exact e
theorem nodup_le:∀ {a b:List Nat},a.Nodup→(∀ x ∈ a,x ∈ b)→a.length≤b.length
 | [],_,_,_=>Nat.zero_le _
 | x :: a,b,ha,h=>by
  rw [List.nodup_cons] at ha
  have hx:=h x (by simp)
  have:=nodup_le (a:=a) (b:=b.erase x) ha.2 fun y hy=>(List.mem_erase_of_ne (fun e=>ha.1 (by rw [← e];exact hy))).2 (h y (List.mem_cons_of_mem _ hy))
  have e:=List.length_erase_of_mem hx
  have:0<b.length:=List.length_pos_of_mem hx
  simp only [List.length_cons]
  omega
inductive Rch (g:Nat→List Nat):Nat→Nat→Prop
 | refl (x:Nat):Rch g x x
 | step {x y z:Nat}:y ∈ g x→Rch g y z→Rch g x z
theorem Rch.trans {g:Nat→List Nat}{x y z:Nat}(h:Rch g x y)(k:Rch g y z):Rch g x z:=by
 induction h with
 | refl=>exact k
 | step h1 _ ih=>exact .step h1 (ih k)
def Rnd (g:Nat→List Nat)(x y:Nat):Prop:=∃ c ∈ g x,Rch g c y
theorem Rnd.call {g:Nat→List Nat}{x y z:Nat}(h:Rnd g x y)(k:z ∈ g y):Rnd g x z:=by
 obtain ⟨c,hc,h⟩:=h
 exact ⟨c,hc,h.trans (.step k (.refl _))⟩
theorem Rnd.one {g:Nat→List Nat}{x y:Nat}(k:y ∈ g x):Rnd g x y:=⟨y,k,.refl _⟩
def Inn (n:Nat)(g:Nat→List Nat):Prop:=∀ x<n,∀ c ∈ g x,c<n
def Acy (n:Nat)(g:Nat→List Nat):Prop:=∃ rk:Nat→Nat,∀ x<n,∀ c ∈ g x,rk c<rk x
theorem Acy.none {n:Nat}{g:Nat→List Nat}(hI:Inn n g)(h:Acy n g){x:Nat}(hx:x<n):¬ Rnd g x x:=by
 obtain ⟨rk,h⟩:=h
 have le:∀ {a b:Nat},Rch g a b→a<n→rk b≤rk a:=by
  intro a b hab
  induction hab with
  | refl=>intro _;exact Nat.le_refl _
  | step h1 _ ih=>intro ha;have:=ih (hI _ ha _ h1);have:=h _ ha _ h1;omega
 rintro ⟨c,hc,hr⟩
 have h1:=h x hx c hc
 have h2:=le hr (hI _ hx _ hc)
 omega
/-! ### The walk. -/
def mx (m:Nat→Option Nat)(l:List Nat):Nat:=l.foldl (fun a c=>max a ((m c).getD 0)) 0
theorem mx_snoc (m:Nat→Option Nat)(l:List Nat)(c:Nat):mx m (l++[c])=max (mx m l) ((m c).getD 0):=by simp [mx,List.foldl_append]
theorem mx_fold_congr {m m':Nat→Option Nat}:∀ (l:List Nat) (a:Nat),(∀ c ∈ l,m c=m' c)→l.foldl (fun a c=>max a ((m c).getD 0)) a=l.foldl (fun a c=>max a ((m' c).getD 0)) a
 | [],_,_=>rfl
 | c :: l,a,h=>by
  simp only [List.foldl_cons]
  rw [h c (by simp)]
  exact mx_fold_congr l _ fun d hd=>h d (List.mem_cons_of_mem _ hd)
theorem mx_congr {m m':Nat→Option Nat}{l:List Nat}(h:∀ c ∈ l,m c=m' c):mx m l=mx m' l:=mx_fold_congr l 0 h
theorem le_fold {m:Nat→Option Nat}:∀ (l:List Nat) (a:Nat),a≤l.foldl (fun a c=>max a ((m c).getD 0)) a∧∀ c ∈ l,(m c).getD 0≤l.foldl (fun a c=>max a ((m c).getD 0)) a
 | [],a=>⟨Nat.le_refl _,by simp⟩
 | c :: l,a=>by
  obtain ⟨h1,h2⟩:=le_fold (m:=m) l (max a ((m c).getD 0))
  simp only [List.foldl_cons]
  refine ⟨by omega,fun d hd=>?_⟩
  rcases List.mem_cons.1 hd with e | e
  ·subst e;omega
  ·exact h2 d e
theorem le_mx {m:Nat→Option Nat}{l:List Nat}{c:Nat}(h:c ∈ l):(m c).getD 0≤mx m l:=(le_fold l 0).2 c h
def mput (m:Nat→Option Nat)(f v:Nat):Nat→Option Nat:=fun x=>if x=f then some v else m x
theorem mput_same (m:Nat→Option Nat)(f v:Nat):mput m f v f=some v:=by simp [mput]
theorem mput_other (m:Nat→Option Nat){f x:Nat}(v:Nat)(h:x≠f):mput m f v x=m x:=by simp [mput,h]
def white:Nat→(Nat→Option Nat)→Nat
 | 0,_=>0
 | n+1,m=>white n m+(if (m n).isNone then 1 else 0)
theorem white_le {m m':Nat→Option Nat}(h:∀ x v,m x=some v→∃ v',m' x=some v'):∀ n,white n m'≤white n m
 | 0=>Nat.le_refl _
 | n+1=>by
  have:=white_le h n
  simp only [white]
  cases e:m n with
  | none=>simp;split <;> omega
  | some v=>obtain ⟨v',e'⟩:=h n v e;rw [e'];simp;omega
theorem white_put {m:Nat→Option Nat}{f v:Nat}(h:m f=none):∀ n,f<n→white n (mput m f v)+1≤white n m
 | 0,hf=>by omega
 | n+1,hf=>by
  simp only [white]
  by_cases e:n=f
  ·subst e
   rw [mput_same,h]
   have:white n (mput m n v)≤white n m:=white_le (fun x v' hx=>if e:x=n then ⟨v,by rw [e,mput_same]⟩ else ⟨v',by rw [mput_other _ _ e,hx]⟩) n
   simp;omega
  ·rw [mput_other _ _ e]
   have:=white_put h n (by omega) (v:=v)
   omega
theorem white_max (m:Nat→Option Nat):∀ n,white n m≤n
 | 0=>Nat.le_refl _
 | n+1=>by have:=white_max m n;simp only [white];split <;> omega
structure Vis (g:Nat→List Nat)(m:Nat→Option Nat)(r:Bool)(f:Nat)(m':Nat→Option Nat)(r':Bool)(d:Nat):Prop where
 keep:∀ x v,m x=some v→m' x=some v
 here:m' f=some d
 new:∀ x v,m x=none→m' x=some v→0<v∧Rch g f x
 shut:∀ x v,m x=none→m' x=some v→∀ c ∈ g x,m' c≠none
 good:r'=false→r=false∧0<d∧∀ x v,m x=none→m' x=some v→v=mx m' (g x)+1∧∀ c ∈ g x,m' c≠some 0
 bad:r'=true→r=true∨∃ x,Rnd g x x
def Led (g:Nat→List Nat)(m:Nat→Option Nat)(f:Nat):Prop:=∀ x,m x=some 0→Rnd g x f
theorem vis_met {g:Nat→List Nat}{m:Nat→Option Nat}{r:Bool}{f d:Nat}(h:m f=some d)(hL:Led g m f):Vis g m r f m (r || d == 0) d:=by
 refine ⟨fun x v h=>h,h,fun x v h1 h2=>?_,fun x v h1 h2=>?_,fun hr=>?_,fun hr=>?_⟩
 ·rw [h1] at h2;cases h2
 ·rw [h1] at h2;cases h2
 ·simp at hr
  refine ⟨hr.1,by omega,fun x v h1 h2=>?_⟩
  rw [h1] at h2;cases h2
 ·simp at hr
  rcases hr with hr | hr
  ·exact .inl hr
  ·subst hr;exact .inr ⟨f,hL f h⟩
structure Vil (g:Nat→List Nat)(m:Nat→Option Nat)(r:Bool)(f:Nat)(done:List Nat)(m':Nat→Option Nat)(r':Bool)(most:Nat):Prop where
 keep:∀ x v,mput m f 0 x=some v→m' x=some v
 met:∀ c ∈ done,m' c≠none
 most:most=mx m' done
 new:∀ x v,x≠f→m x=none→m' x=some v→0<v∧Rch g f x
 shut:∀ x v,x≠f→m x=none→m' x=some v→∀ c ∈ g x,m' c≠none
 good:r'=false→r=false∧(∀ c ∈ done,m' c≠some 0)∧∀ x v,x≠f→m x=none→m' x=some v→v=mx m' (g x)+1∧∀ c ∈ g x,m' c≠some 0
 bad:r'=true→r=true∨∃ x,Rnd g x x
theorem vil_start {g:Nat→List Nat}{m:Nat→Option Nat}{r:Bool}{f:Nat}:Vil g m r f [] (mput m f 0) r 0:=by
 refine ⟨fun x v h=>h,by simp,rfl,fun x v h1 h2 h3=>?_,fun x v h1 h2 h3=>?_,fun hr=>⟨hr,by simp,fun x v h1 h2 h3=>?_⟩,fun hr=>.inl hr⟩
 all_goals
  rw [mput_other _ _ h1,h2] at h3
  cases h3
theorem vil_led {g:Nat→List Nat}{m m':Nat→Option Nat}{r r':Bool}{f most:Nat}{done:List Nat}(h:Vil g m r f done m' r' most)(hL:Led g m f){c:Nat}(hc:c ∈ g f):Led g m' c:=by
 intro x hx
 by_cases e:x=f
 ·subst e;exact .one hc
 ·cases em:m x with
  | none=>have:=(h.new x 0 e em hx).1;omega
  | some v =>
   have:=h.keep x v (by rw [mput_other _ _ e,em])
   rw [hx] at this
   cases this
   exact (hL x em).call hc
theorem vil_step {g:Nat→List Nat}{m m' m'':Nat→Option Nat}{r r' r'':Bool}{f most c d:Nat}{done:List Nat}(h:Vil g m r f done m' r' most)(hc:c ∈ g f)(hv:Vis g m' r' c m'' r'' d):Vil g m r f (done++[c]) m'' r'' (max most d):=by
 have kp:∀ x,m' x≠none→m'' x=m' x:=fun x hx=>by
  cases e:m' x with
  | none=>exact absurd e hx
  | some v=>exact hv.keep x v e
 refine ⟨fun x v hx=>hv.keep x v (h.keep x v hx),fun y hy=>?_,?_,fun x v h1 h2 h3=>?_,fun x v h1 h2 h3 y hy=>?_,fun hr=>?_,fun hr=>?_⟩
 ·rcases List.mem_append.1 hy with e | e
  ·rw [kp y (h.met y e)];exact h.met y e
  ·rw [List.mem_singleton.1 e,hv.here];simp
 ·rw [mx_snoc,hv.here,h.most,mx_congr (fun y hy=>(kp y (h.met y hy)).symm)]
  rfl
 ·cases e:m' x with
  | none =>
   obtain ⟨p,q⟩:=hv.new x v e h3
   exact ⟨p,.step hc q⟩
  | some v' =>
   have:=hv.keep x v' e
   rw [h3] at this
   cases this
   exact h.new x v h1 h2 e
 ·cases e:m' x with
  | none=>exact hv.shut x v e h3 y hy
  | some v' =>
   have:=hv.keep x v' e
   rw [h3] at this
   cases this
   have h5:=h.shut x v h1 h2 e y hy
   rw [kp y h5];exact h5
 ·obtain ⟨g1,g2,g3⟩:=hv.good hr
  obtain ⟨k1,k2,k3⟩:=h.good g1
  refine ⟨k1,fun y hy=>?_,fun x v h1 h2 h3=>?_⟩
  ·rcases List.mem_append.1 hy with e | e
   ·rw [kp y (h.met y e)];exact k2 y e
   ·rw [List.mem_singleton.1 e,hv.here];intro e0;cases e0;omega
  ·cases e:m' x with
   | none=>exact g3 x v e h3
   | some v' =>
    have:=hv.keep x v' e
    rw [h3] at this
    cases this
    obtain ⟨p,q⟩:=k3 x v h1 h2 e
    have sh:=h.shut x v h1 h2 e
    exact ⟨by rw [p,mx_congr (fun y hy=>(kp y (sh y hy)).symm)],fun y hy=>by rw [kp y (sh y hy)];exact q y hy⟩
 ·rcases hv.bad hr with e | e
  ·exact h.bad e
  ·exact .inr e
theorem vil_end {g:Nat→List Nat}{m m':Nat→Option Nat}{r r':Bool}{f most:Nat}(hf:m f=none)(h:Vil g m r f (g f) m' r' most):Vis g m r f (mput m' f (most+1)) r' (most+1):=by
 have ff:m' f=some 0:=h.keep f 0 (mput_same _ _ _)
 have nn:∀ c,m' c≠none→mput m' f (most+1) c≠none:=fun c hc=>by
  by_cases e:c=f
  ·subst e;rw [mput_same];simp
  ·rw [mput_other _ _ e];exact hc
 refine ⟨fun x v hx=>?_,mput_same _ _ _,fun x v h1 h2=>?_,fun x v h1 h2 c hc=>?_,fun hr=>?_,h.bad⟩
 ·have e:x≠f:=fun e=>by rw [e,hf] at hx;cases hx
  rw [mput_other _ _ e]
  exact h.keep x v (by rw [mput_other _ _ e];exact hx)
 ·by_cases e:x=f
  ·subst e
   rw [mput_same] at h2
   cases h2
   exact ⟨by omega,.refl _⟩
  ·rw [mput_other _ _ e] at h2
   exact h.new x v e h1 h2
 ·by_cases e:x=f
  ·subst e;exact nn c (h.met c hc)
  ·rw [mput_other _ _ e] at h2
   exact nn c (h.shut x v e h1 h2 c hc)
 ·obtain ⟨k1,k2,k3⟩:=h.good hr
  have ne:∀ c,m' c≠some 0→mput m' f (most+1) c=m' c:=fun c hc=>mput_other _ _ fun e=>hc (e ▸ ff)
  refine ⟨k1,by omega,fun x v h1 h2=>?_⟩
  by_cases e:x=f
  ·subst e
   rw [mput_same] at h2
   cases h2
   exact ⟨by rw [← mx_congr fun c hc=>(ne c (k2 c hc)).symm,← h.most],fun c hc=>by rw [ne c (k2 c hc)];exact k2 c hc⟩
  ·rw [mput_other _ _ e] at h2
   obtain ⟨p,q⟩:=k3 x v e h1 h2
   exact ⟨by rw [p,mx_congr fun c hc=>(ne c (q c hc)).symm],fun c hc=>by rw [ne c (q c hc)];exact q c hc⟩
structure Wlk (g:Nat→List Nat)(done:List Nat)(m:Nat→Option Nat)(r:Bool):Prop where
 met:∀ c ∈ done,m c≠none
 new:∀ x v,m x=some v→0<v∧∃ f ∈ done,Rch g f x
 shut:∀ x v,m x=some v→∀ c ∈ g x,m c≠none
 good:r=false→∀ x v,m x=some v→v=mx m (g x)+1
 bad:r=true→∃ x,Rnd g x x
theorem wlk_start {g:Nat→List Nat}:Wlk g [] (fun _=>none) false:=⟨by simp,by simp,by simp,by simp,by simp⟩
theorem wlk_led {g:Nat→List Nat}{m:Nat→Option Nat}{r:Bool}{done:List Nat}(h:Wlk g done m r)(f:Nat):Led g m f:=fun x hx=>by have:=(h.new x 0 hx).1;omega
theorem wlk_step {g:Nat→List Nat}{m m':Nat→Option Nat}{r r':Bool}{done:List Nat}{f d:Nat}(h:Wlk g done m r)(hv:Vis g m r f m' r' d):Wlk g (done++[f]) m' r':=by
 have kp:∀ x,m x≠none→m' x=m x:=fun x hx=>by
  cases e:m x with
  | none=>exact absurd e hx
  | some v=>exact hv.keep x v e
 refine ⟨fun y hy=>?_,fun x v hx=>?_,fun x v hx c hc=>?_,fun hr x v hx=>?_,fun hr=>?_⟩
 ·rcases List.mem_append.1 hy with e | e
  ·rw [kp y (h.met y e)];exact h.met y e
  ·rw [List.mem_singleton.1 e,hv.here];simp
 ·cases e:m x with
  | none=>obtain ⟨p,q⟩:=hv.new x v e hx;exact ⟨p,f,by simp,q⟩
  | some v' =>
   have:=hv.keep x v' e
   rw [hx] at this
   cases this
   obtain ⟨p,y,hy,q⟩:=h.new x v e
   exact ⟨p,y,by simp [hy],q⟩
 ·cases e:m x with
  | none=>exact hv.shut x v e hx c hc
  | some v'=>have h5:=h.shut x v' e c hc;rw [kp c h5];exact h5
 ·obtain ⟨g1,_,g3⟩:=hv.good hr
  cases e:m x with
  | none=>exact (g3 x v e hx).1
  | some v' =>
   have:=hv.keep x v' e
   rw [hx] at this
   cases this
   rw [h.good g1 x v e,mx_congr fun c hc=>(kp c (h.shut x v e c hc)).symm]
 ·rcases hv.bad hr with e | e
  ·exact h.bad e
  ·exact e
def DeepIs (n:Nat)(g:Nat→List Nat)(d:Nat→Nat):Prop:=∀ x<n,d x=mx (fun c=>some (d c)) (g x)+1
theorem DeepIs.acy {n:Nat}{g:Nat→List Nat}{d:Nat→Nat}(h:DeepIs n g d):Acy n g:=⟨d,fun x hx c hc=>by
 rw [h x hx]
 have:=le_mx (m:=fun c=>some (d c)) hc
 simp at this
 omega⟩
theorem wlk_deep {n:Nat}{g:Nat→List Nat}(hI:Inn n g){m:Nat→Option Nat}(h:Wlk g (List.range n) m false):DeepIs n g (fun x=>(m x).getD 0):=fun x hx=>by
 have hx2:=h.met x (by simpa using hx)
 cases e:m x with
 | none=>exact absurd e hx2
 | some v =>
  show (m x).getD 0=_
  rw [e]
  show v=_
  rw [h.good rfl x v e,mx_congr (m':=fun c=>some ((m c).getD 0)) fun c hc=>?_]
  have:=h.met c (by simpa using hI x hx c hc)
  cases e:m c with
  | none=>exact absurd e this
  | some v=>rfl
theorem deep_uniq {n:Nat}{g:Nat→List Nat}(hI:Inn n g){d d':Nat→Nat}(h:DeepIs n g d)(h':DeepIs n g d'):∀ x<n,d x=d' x:=by
 have:∀ k x,x<n→d x≤k→d x=d' x:=by
  intro k
  induction k with
  | zero=>intro x hx hk;rw [h x hx] at hk;omega
  | succ k ih =>
   intro x hx hk
   rw [h x hx,h' x hx]
   congr 1
   refine mx_congr fun c hc=>?_
   congr 1
   refine ih c (hI x hx c hc) ?_
   have:=le_mx (m:=fun c=>some (d c)) hc
   simp at this
   rw [h x hx] at hk
   omega
 exact fun x hx=>this _ x hx (Nat.le_refl _)
end Go.Proofs.YtpmlnkjamhelnaaGreat
namespace Go.Proofs.YtpmlnkjamhelnaaGreat
def rdy (g:Nat→List Nat)(l:List Nat)(f:Nat):Bool:=!l.contains f && (g f).all l.contains
def pick (n:Nat)(g:Nat→List Nat)(l:List Nat):Option Nat:=(List.range n).find? (rdy g l)
def ordN (n:Nat)(g:Nat→List Nat):Nat→Option (List Nat)
 | 0=>some []
 | k+1=>(ordN n g k).bind fun l=>(pick n g l).map fun f=>l++[f]
def ordS (n:Nat)(g:Nat→List Nat):Option (List Nat):=ordN n g n
def Told (n:Nat)(g:Nat→List Nat)(l:List Nat):Prop:=∀ i (h:i<l.length),l[i]<n∧l[i] ∉ l.take i∧∀ c ∈ g l[i],c ∈ l.take i
theorem told_nil (n:Nat)(g:Nat→List Nat):Told n g []:=fun i h=>by cases h
theorem told_snoc {n:Nat}{g:Nat→List Nat}{l:List Nat}{f:Nat}(h:Told n g l)(hf:f<n)(hr:rdy g l f=true):Told n g (l++[f]):=by
 intro i hi
 rw [List.length_append,List.length_singleton] at hi
 rcases Nat.lt_or_ge i l.length with h1 | h1
 ·rw [List.getElem_append_left h1,List.take_append_of_le_length (by omega)]
  exact h i h1
 ·obtain rfl:i=l.length:=by omega
  simp only [rdy,Bool.and_eq_true,Bool.not_eq_true',List.all_eq_true,List.contains_iff_mem] at hr
  rw [List.getElem_append_right (Nat.le_refl _)]
  simp only [Nat.sub_self,List.getElem_cons_zero,List.take_left']
  refine ⟨hf,fun hm=>?_,hr.2⟩
  have:=hr.1
  rw [← Bool.not_eq_true,List.contains_iff_mem] at this
  exact this hm
theorem pick_some {n:Nat}{g:Nat→List Nat}{l:List Nat}{f:Nat}(h:pick n g l=some f):f<n∧rdy g l f=true:=by
 have h1:=List.mem_of_find?_eq_some h
 have h2:=List.find?_some h
 exact ⟨by simpa using h1,h2⟩
theorem ord_told {n:Nat}{g:Nat→List Nat}:∀ {k:Nat} {l:List Nat},ordN n g k=some l→l.length=k∧Told n g l
 | 0,l,h=>by cases h;exact ⟨rfl,told_nil n g⟩
 | k+1,l,h=>by
  simp only [ordN,Option.bind_eq_some_iff,Option.map_eq_some_iff] at h
  obtain ⟨l0,h0,f,hf,rfl⟩:=h
  obtain ⟨h1,h2⟩:=ord_told h0
  obtain ⟨h3,h4⟩:=pick_some hf
  exact ⟨by simp [h1],told_snoc h2 h3 h4⟩
theorem told_nodup {n:Nat}{g:Nat→List Nat}{l:List Nat}(h:Told n g l):l.Nodup:=by
 rw [List.nodup_iff_pairwise_ne,List.pairwise_iff_getElem]
 intro i j hi hj hij e
 refine (h j hj).2.1 ?_
 rw [← e]
 exact List.mem_take_iff_getElem.2 ⟨i,by omega,rfl⟩
theorem told_all {n:Nat}{g:Nat→List Nat}{l:List Nat}(h:Told n g l)(hl:l.length=n){x:Nat}(hx:x<n):x ∈ l:=by
 false_or_by_contra
 rename_i hn
 have h1:(x :: l).Nodup:=List.nodup_cons.2 ⟨hn,told_nodup h⟩
 have:=nodup_le (b:=List.range n) h1 fun y hy=>by
  rcases List.mem_cons.1 hy with e | e
  ·subst e;simpa using hx
  ·obtain ⟨i,hi,rfl⟩:=List.mem_iff_getElem.1 e
   simpa using (h i hi).1
 simp at this
 omega
theorem idx_le:∀ (l:List Nat)(j:Nat)(h:j<l.length),l.idxOf l[j]≤j
 | [],j,h=>by cases h
 | a :: l,0,h=>by simp
 | a :: l,j+1,h=>by
  rw [List.getElem_cons_succ,List.idxOf_cons]
  have hj:j<l.length:=by simpa using h
  have:=idx_le l j hj
  cases a == l[j]'hj with
  | true=>exact Nat.zero_le _
  | false=>simpa using this
theorem told_acy {n:Nat}{g:Nat→List Nat}{l:List Nat}(h:Told n g l)(hl:l.length=n):Acy n g:=by
 refine ⟨fun x=>l.idxOf x,fun x hx c hc=>?_⟩
 have hx2:=told_all h hl hx
 have hi:l.idxOf x<l.length:=List.idxOf_lt_length_of_mem hx2
 have e:l[l.idxOf x]=x:=List.getElem_idxOf hi
 have h3:=(h _ hi).2.2 c (by rw [e];exact hc)
 obtain ⟨j,hj,ej⟩:=List.mem_take_iff_getElem.1 h3
 have hle:l.idxOf c≤j:=by
  rw [← ej]
  exact idx_le l j (by omega)
 show l.idxOf c<l.idxOf x
 omega
theorem acy_pick {n:Nat}{g:Nat→List Nat}(hI:Inn n g)(ha:Acy n g){l:List Nat}(hl:l.length<n):∃ f,pick n g l=some f:=by
 obtain ⟨rk,ha⟩:=ha
 cases e:pick n g l with
 | some f=>exact ⟨f,rfl⟩
 | none =>
  exfalso
  have hn:∀ x<n,rdy g l x=false:=fun x hx=>by
   have:=List.find?_eq_none.1 e x (by simpa using hx)
   simpa using this
  have hall:∀ k x,x<n→rk x≤k→x ∈ l:=by
   intro k
   induction k with
   | zero =>
    intro x hx hk
    false_or_by_contra
    rename_i hnl
    have:=hn x hx
    simp only [rdy,Bool.and_eq_false_iff,Bool.not_eq_false',List.contains_iff_mem] at this
    rcases this with h | h
    ·exact hnl h
    ·rw [List.all_eq_false] at h
     obtain ⟨c,hc,_⟩:=h
     have:=ha x hx c hc
     omega
   | succ k ih =>
    intro x hx hk
    false_or_by_contra
    rename_i hnl
    have:=hn x hx
    simp only [rdy,Bool.and_eq_false_iff,Bool.not_eq_false',List.contains_iff_mem] at this
    rcases this with h | h
    ·exact hnl h
    ·rw [List.all_eq_false] at h
     obtain ⟨c,hc,hc2⟩:=h
     have:=ha x hx c hc
     exact hc2 (List.contains_iff_mem.2 (ih c (hI x hx c hc) (by omega)))
  have:=nodup_le (a:=List.range n) (b:=l) List.nodup_range fun x hx=>hall _ x (by simpa using hx) (Nat.le_refl _)
  simp at this
  omega
theorem acy_ord {n:Nat}{g:Nat→List Nat}(hI:Inn n g)(ha:Acy n g):∀ k≤n,∃ l,ordN n g k=some l
 | 0,_=>⟨[],rfl⟩
 | k+1,hk=>by
  obtain ⟨l,hl⟩:=acy_ord hI ha k (by omega)
  obtain ⟨f,hf⟩:=acy_pick hI ha (l:=l) (by rw [(ord_told hl).1];omega)
  exact ⟨l++[f],by simp [ordN,hl,hf]⟩
theorem ord_iff {n:Nat}{g:Nat→List Nat}(hI:Inn n g):Acy n g ↔ ∃ l,ordS n g=some l :=
 ⟨fun h=>acy_ord hI h n (Nat.le_refl _),fun ⟨_,h⟩=>told_acy (ord_told h).2 (ord_told h).1⟩
theorem wlk_ord {n:Nat}{g:Nat→List Nat}(hI:Inn n g)(hO:∀ x c,c ∈ g x→x<n){m:Nat→Option Nat}{r:Bool}(h:Wlk g (List.range n) m r):r=(ordS n g).isNone:=by
 cases r with
 | false =>
  obtain ⟨l,e⟩:=(ord_iff hI).1 (wlk_deep hI h).acy
  rw [e];rfl
 | true =>
  obtain ⟨x,hx⟩:=h.bad rfl
  cases e:ordS n g with
  | none=>rfl
  | some l =>
   exfalso
   have ha:=(ord_iff hI).2 ⟨l,e⟩
   have hxn:x<n:=by obtain ⟨c,hc,_⟩:=hx;exact hO x c hc
   exact ha.none hI hxn hx
/-! ### The document's Reach. -/
end Go.Proofs.YtpmlnkjamhelnaaGreat
