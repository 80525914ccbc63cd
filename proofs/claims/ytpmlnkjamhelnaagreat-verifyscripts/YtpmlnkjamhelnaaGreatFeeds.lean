/- A loop over an iterator that keeps its place in one cell of its own: what the iterator owes, what the loop's body owes, and what then holds. -/
import Derived.RangeFuncWrites
import Derived.Shelf.Abstract
import Derived.WalkKit
import Derived.Test.YtpmlnkjamhelnaaGreatAN
import Derived.RangeFuncNested
import Derived.RangeFuncBound
import Derived.RangeFuncCalls
import Derived.RangeFuncLeaves
import Derived.OrdersIn
import Derived.Test.YtpmlnkjamhelnaaGreatCB
import Derived.RangeFuncBox
import Derived.OwnWalkIn
import Derived.TacticsInMore
import Derived.LoopNIn
import Derived.LoopIn
import Derived.Test.YtpmlnkjamhelnaaGreatYE
import Derived.Maps.AppendAt
import Derived.Maps.OwnIn
namespace Go.Proofs.YtpmlnkjamhelnaaGreat
open Go.RowKit
def Blind {β:Type}(b:Nat)(J:β→World→Prop):Prop:=∀ s W v,J s W→J s (W.setCell ⟨b,0,none⟩ v)
def Feeds {α:Type}(F:Fence)(n:Nat)(P:Program)(g:Nat)(lb:Array Value)(encs:α→Array Value)(b:Nat)(Kp:World→World→Prop)(xs:List α)(W:World):Prop :=
 ∀ (l:Nat) (J Jx:List α→World→Prop),Blind b J→Blind b Jx →
  (∀ pre x W1,J pre W1→pre++[x] <+: xs→YieldAt F (n - 1) P l (encs x) W1 fun e W'=>(e=.returned (.bool true)∧J (pre++[x]) W'∧Kp W1 W')∨(e=.returned (.bool false)∧Jx (pre++[x]) W')) →
  J [] W→CallsIn F n P g (#[.func (.yield l) #[] #[]]++lb) W fun e W'=>(∃ v,e=.returned v)∧(J xs W'∨∃ pre,Jx pre W')
def RoundEnd (B:Nat)(Kp:World→World→Prop)(I R:World→Prop)(W:World):Exit→Act→World→Prop
 | .normal,_,W'=>KeepsFrom B W W'∧Kp W W'∧I W'
 | .ret,_,W'=>KeepsFrom B W W'∧R W'
 | _,_,_=>False
theorem range_feeds {F:Fence}{n:Nat}{P:Program}{α:Type}{g:Operand}{ps:Array Tmp}{assign body:Code}{Q:Exit→Act→World→Prop}{a:Act}{w:World}(hro:F.round=none)(h1:1≤n){gf:Nat}{lb:Array Value}
  (hg:a.eval g=.func (.func gf) #[] lb) (hFg:F.fn gf) (eg:∀ args w,(callFunc gf args).run P w=.ok (.enter gf args) w) {encs:α→Array Value} {b:Nat} {Kp:World→World→Prop} {xs:List α} (hb:b<w.heap.size)
  (hseq:∀ W,Below w.heap.size w W→Feeds F (n - 1) P gf lb encs b Kp xs W) (hKt:∀ {A B C:World},Kp A B→Kp B C→Kp A C) (hKb:∀ (W:World) (l:Nat) (o:Obj),w.heap.size≤l→Kp W (W.putObj l o)) (hps:∀ x,(encs x).size=ps.size)
  (I R:List α→World→Prop) (hI:OwnFrom w.heap.size I) (hR:OwnFrom w.heap.size R) (hIb:Blind b I) (hRb:Blind b R) (h0:I [] w) (a₁:α→Act)
  (hassign:∀ (l:Nat) (x:α) (W:World) (K:Act→World→Prop),K (a₁ x) W →
   assign.wpIn (F.inRound l) (n - 1 - 1) P (Exit.then K (fun _ _ _=>False)) { tmps:=(ps.zip (encs x)).foldl (fun t (p,v)=>t.setIfInBounds p v) a.tmps,defers:=[] } W)
  (hbody:∀ (l:Nat) (pre:List α) (x:α) (W:World),I pre W→pre++[x] <+: xs→body.wpIn (F.inRound l) (n - 1 - 1) P (RoundEnd w.heap.size Kp (I (pre++[x])) (R (pre++[x])) W) (a₁ x) W)
  (hdone:∀ (D:Nat) (W:World),w.heap.size≤D→I xs W→W.heap[D]?=some (.deferred (some []))→Q .normal { a with defers:={ target:=.collected D,args:=#[] } :: a.defers } W)
  (hret:∀ (D:Nat) (pre:List α) (W:World),w.heap.size≤D→R pre W→W.heap[D]?=some (.deferred (some []))→Code.ret.wpIn F n P Q { a with defers:={ target:=.collected D,args:=#[] } :: a.defers } W) :
  (Code.rangeFunc g ps assign body).wpIn F n P Q a w:=by
 refine wpIn_rangeFunc fun fn hfn=>?_
 rw [hro]
 -- the loop's record in its three states, and the two blocks that the loop lays
 let rec0:LoopState→Option Code→Loop:=fun st pe=>{ state:=st,pending:=pe,fn:=fn,tmps:=a.tmps,params:=ps,assign:=assign,body:=body,defers:=w.heap.size }
 let s:=w.heap.size
 let W0:=(w.alloc (.deferred (some []))).alloc (.loop (rec0 .ready none))
 have e0:W0.heap[s]?=some (.deferred (some [])):=(Below.heap_alloc _ _ _ (by simp [s])).trans (World.alloc_heap_new w _)
 have e1:W0.heap[s+1]?=some (.loop (rec0 .ready none)):=by
  have:=World.alloc_heap_new (w.alloc (.deferred (some []))) (.loop (rec0 .ready none))
  rwa [World.size_alloc] at this
 have hbel:Below w.heap.size w W0:=((Below.refl _ w).alloc (Nat.le_refl _) _).alloc (by simp) _
 let Rec:Loop→World→Prop:=fun r W=>W.heap[s+1]?=some (.loop r)∧W.heap[s]?=some (.deferred (some []))
 have blindRec:∀ r W v,Rec r W→Rec r (W.setCell ⟨b,0,none⟩ v):=fun r W v h =>
  ⟨(Below.heap_setCell W _ v (s+1) (by show s+1≠b;omega)).trans h.1,(Below.heap_setCell W _ v s (by show s≠b;omega)).trans h.2⟩
 refine ⟨s+1,[{ target:=.collected s,args:=#[] }],W0,{ target:=.fn (.func gf) lb,args:=#[.func (.yield (s+1)) #[] #[]] },W0,gf,#[.func (.yield (s+1)) #[] #[]]++lb,W0,run_enterLoop_outer _ _ _ _ _,?_,?_,?_,fun _=>h1,?_⟩
 ·simp only [resolve,hg]
  simp [go_sem]
 ·intro f' hf'
  simp [Target.leads] at hf'
  subst hf'
  exact hFg
 ·simp [invoke,go_sem,eg]
 refine (hseq W0 hbel (s+1) (fun pre W=>I pre W∧Rec (rec0 .ready none) W) (fun pre W=>R pre W∧Rec (rec0 .done (some .ret)) W)
  (fun pre W v h=>⟨hIb pre W v h.1,blindRec _ W v h.2⟩) (fun pre W v h=>⟨hRb pre W v h.1,blindRec _ W v h.2⟩) ?_ ⟨hI.alloc _ (hI.alloc _ h0),e1,e0⟩).mono ?_
 ·-- one round
  rintro pre x W ⟨hi,hl,hk⟩ hx
  have hlt:s+1<W.heap.size:=(Array.getElem?_eq_some_iff.1 hl).1
  refine ⟨fn,_,assign,body,run_yield hl (hps x),roundIn_of_wpIn hfn (hassign _ x W _ ⟨_,run_beginRound hl rfl,?_⟩)⟩
  have hl2:(W.putObj (s+1) (.loop { rec0 .ready none with state:=.busy })).heap[s+1]?=some (.loop { rec0 .ready none with state:=.busy }):=World.putObj_heap_same hlt
  have hk2:(W.putObj (s+1) (.loop { rec0 .ready none with state:=.busy })).heap[s]?=some (.deferred (some [])):=(World.putObj_heap_other (by omega)).trans hk
  refine wpIn_mono (hbody _ pre x _ (hI.putObj _ hi (by omega) hl rfl) hx) ?_
  intro e a3 W3 hp
  have tail:KeepsFrom w.heap.size (W.putObj (s+1) (.loop { rec0 .ready none with state:=.busy })) W3→W3.heap[s+1]?=some (.loop { rec0 .ready none with state:=.busy })∧W3.heap[s]?=some (.deferred (some []))∧s+1<W3.heap.size:=fun h3 =>
   ⟨h3.same _ _ (by omega) hl2 rfl,h3.same _ _ (Nat.le_refl _) hk2 rfl,(Array.getElem?_eq_some_iff.1 (h3.same _ _ (by omega) hl2 rfl)).1⟩
  cases e with
  | normal =>
   obtain ⟨hk3,hkp,hi3⟩:=hp
   obtain ⟨t1,t2,t3⟩:=tail hk3
   exact ⟨_,_,run_endRound none t1,.inl ⟨rfl,⟨hI.putObj _ hi3 (by omega) t1 rfl,World.putObj_heap_same t3,(World.putObj_heap_other (by omega)).trans t2⟩,hKt (hKt (hKb _ _ _ (by omega)) hkp) (hKb _ _ _ (by omega))⟩⟩
  | ret =>
   obtain ⟨hk3,hi3⟩:=hp
   obtain ⟨t1,t2,t3⟩:=tail hk3
   exact ⟨_,_,run_endRound (some .ret) t1,.inr ⟨rfl,hR.putObj _ hi3 (by omega) t1 rfl,World.putObj_heap_same t3,(World.putObj_heap_other (by omega)).trans t2⟩⟩
  | exit id=>exact hp.elim
  | goto t=>exact hp.elim
  | panic ch=>exact hp.elim
  | outgrown=>exact hp.elim
 ·-- behind the iterator
  rintro e W2 ⟨⟨v,rfl⟩,(⟨hi,hl,hk⟩ | ⟨pre,hi,hl,hk⟩)⟩
  ·exact ⟨none,_,run_endLoop hl (by simp [rec0]),hdone _ _ (Nat.le_refl _) (hI.putObj _ hi (by omega) hl rfl) ((World.putObj_heap_other (by omega)).trans hk)⟩
  ·exact ⟨some .ret,_,run_endLoop hl (by simp [rec0]),hret _ pre _ (Nat.le_refl _) (hR.putObj _ hi (by omega) hl rfl) ((World.putObj_heap_other (by omega)).trans hk)⟩
section
variable {P:Program} {ops:Array Oper} {Q:Exit→Act→World→Prop} {md:Region.Mode}
end
def CopyEnd (e:TypeId)(size n:Nat)(xs:List Value)(w:World)(x:Ending)(w':World):Prop:=(∃ v,x=.returned v∧w'.ownsRow w.heap.size e size v n xs)∧Below w.heap.size w w'
set_option maxRecDepth 100000 in
set_option maxHeartbeats 1000000 in
theorem copyN (a:Option Addr)(n c:Nat)(xs:List Value)(w:World)(hy:Lies w (.slice a n c) n xs)(hl:xs.length=n*1)(h1:∀ u ∈ xs,u.oneCell'=true)(hn:n≤17592186044416):Calls Tryz.prog 109 #[.slice a n c] w (CopyEnd 3 1 n xs w):=by
 cases a with
 | none =>
  have h0:n=0∧xs=[]:=by
   rcases hy with ⟨c',e,rfl,rfl⟩ | ⟨ad,c',e,_⟩
   ·exact ⟨rfl,rfl⟩
   ·cases e
  obtain ⟨rfl,rfl⟩:=h0
  have he:∀ w:World,(binOp .eql 28 (.slice none 0 c) (.slice none 0 0)).run Tryz.prog w=.ok (.bool true) w:=fun _=>rfl
  go_enter Tryz.func109,Tryz.ntmps109
  go_wp2_with fail
  go_ret
  exact ⟨⟨_,rfl,⟨rfl,.inl ⟨rfl,rfl⟩⟩⟩,Below.refl _ _⟩
 | some a =>
  have he:∀ w:World,(binOp .eql 28 (.slice (some a) n c) (.slice none 0 0)).run Tryz.prog w=.ok (.bool false) w:=fun _=>rfl
  have hrow:=row_lit0 w 3 1 w.heap.size (Nat.le_refl _)
  have hb1:Below w.heap.size w (w.alloc (.cells #[] 3)):=(Below.refl _ w).alloc (Nat.le_refl _) _
  have hy1:=hy.keep (below_keep hb1)
  go_enter Tryz.func109,Tryz.ntmps109
  go_wp2_with (at_builtin;go_loud (refine wpList_appN _ rfl _ _ _ rfl elemN_int w.heap.size _ 0 [] rfl hrow _ rfl n xs hy1 hl h1 (by unfold maxLen;omega) (by omega) hb1.size ?_);intro v' w6 hr6 hs6)
  go_ret
  exact ⟨⟨v',rfl,by simpa using hr6⟩,hb1.trans (hs6.below hb1.size fun j h=>by cases h;exact Nat.le_refl _)⟩
set_option maxRecDepth 100000 in
set_option maxHeartbeats 1000000 in
theorem copyS (a:Option Addr)(n c:Nat)(xs:List Value)(w:World)(hy:Lies w (.slice a n c) n xs)(hl:xs.length=n*1)(h1:∀ u ∈ xs,u.oneCell'=true)(hn:n≤8796093022208):Calls Tryz.prog 77 #[.slice a n c] w (CopyEnd 9 1 n xs w):=by
 cases a with
 | none =>
  have h0:n=0∧xs=[]:=by
   rcases hy with ⟨c',e,rfl,rfl⟩ | ⟨ad,c',e,_⟩
   ·exact ⟨rfl,rfl⟩
   ·cases e
  obtain ⟨rfl,rfl⟩:=h0
  have he:∀ w:World,(binOp .eql 24 (.slice none 0 c) (.slice none 0 0)).run Tryz.prog w=.ok (.bool true) w:=fun _=>rfl
  go_enter Tryz.func77,Tryz.ntmps77
  go_wp2_with fail
  go_ret
  exact ⟨⟨_,rfl,⟨rfl,.inl ⟨rfl,rfl⟩⟩⟩,Below.refl _ _⟩
 | some a =>
  have he:∀ w:World,(binOp .eql 24 (.slice (some a) n c) (.slice none 0 0)).run Tryz.prog w=.ok (.bool false) w:=fun _=>rfl
  have hrow:=row_lit0 w 9 1 w.heap.size (Nat.le_refl _)
  have hb1:Below w.heap.size w (w.alloc (.cells #[] 9)):=(Below.refl _ w).alloc (Nat.le_refl _) _
  have hy1:=hy.keep (below_keep hb1)
  go_enter Tryz.func77,Tryz.ntmps77
  go_wp2_with (at_builtin;go_loud (refine wpList_appN _ rfl _ _ _ rfl elemN_str w.heap.size _ 0 [] rfl hrow _ rfl n xs hy1 hl h1 (by unfold maxLen;omega) (by omega) hb1.size ?_);intro v' w6 hr6 hs6)
  go_ret
  exact ⟨⟨v',rfl,by simpa using hr6⟩,hb1.trans (hs6.below hb1.size fun j h=>by cases h;exact Nat.le_refl _)⟩
set_option maxRecDepth 100000 in
set_option maxHeartbeats 1000000 in
theorem copyI (a:Option Addr)(n c:Nat)(xs:List Value)(w:World)(hy:Lies w (.slice a n c) n xs)(hl:xs.length=n*2)(h1:∀ u ∈ xs,u.oneCell'=true)(hn:n≤8796093022208):Calls Tryz.prog 110 #[.slice a n c] w (CopyEnd 74 2 n xs w):=by
 cases a with
 | none =>
  have h0:n=0∧xs=[]:=by
   rcases hy with ⟨c',e,rfl,rfl⟩ | ⟨ad,c',e,_⟩
   ·exact ⟨rfl,rfl⟩
   ·cases e
  obtain ⟨rfl,rfl⟩:=h0
  have he:∀ w:World,(binOp .eql 47 (.slice none 0 c) (.slice none 0 0)).run Tryz.prog w=.ok (.bool true) w:=fun _=>rfl
  go_enter Tryz.func110,Tryz.ntmps110
  go_wp2_with fail
  go_ret
  exact ⟨⟨_,rfl,⟨rfl,.inl ⟨rfl,rfl⟩⟩⟩,Below.refl _ _⟩
 | some a =>
  have he:∀ w:World,(binOp .eql 47 (.slice (some a) n c) (.slice none 0 0)).run Tryz.prog w=.ok (.bool false) w:=fun _=>rfl
  have hrow:=row_lit0 w 74 2 w.heap.size (Nat.le_refl _)
  have hb1:Below w.heap.size w (w.alloc (.cells #[] 74)):=(Below.refl _ w).alloc (Nat.le_refl _) _
  have hy1:=hy.keep (below_keep hb1)
  go_enter Tryz.func110,Tryz.ntmps110
  go_wp2_with (at_builtin;go_loud (refine wpList_appN _ rfl _ _ _ rfl elemN_ins w.heap.size _ 0 [] rfl hrow _ rfl n xs hy1 hl h1 (by unfold maxLen;omega) (by omega) hb1.size ?_);intro v' w6 hr6 hs6)
  go_ret
  exact ⟨⟨v',rfl,by simpa using hr6⟩,hb1.trans (hs6.below hb1.size fun j h=>by cases h;exact Nat.le_refl _)⟩
set_option maxRecDepth 100000 in
set_option maxHeartbeats 1000000 in
theorem copyF (a:Option Addr)(n c:Nat)(xs:List Value)(w:World)(hy:Lies w (.slice a n c) n xs)(hl:xs.length=n*4)(h1:∀ u ∈ xs,u.oneCell'=true)(hn:n≤1466015503701):Calls Tryz.prog 78 #[.slice a n c] w (CopyEnd 49 4 n xs w):=by
 cases a with
 | none =>
  have h0:n=0∧xs=[]:=by
   rcases hy with ⟨c',e,rfl,rfl⟩ | ⟨ad,c',e,_⟩
   ·exact ⟨rfl,rfl⟩
   ·cases e
  obtain ⟨rfl,rfl⟩:=h0
  have he:∀ w:World,(binOp .eql 25 (.slice none 0 c) (.slice none 0 0)).run Tryz.prog w=.ok (.bool true) w:=fun _=>rfl
  go_enter Tryz.func78,Tryz.ntmps78
  go_wp2_with fail
  go_ret
  exact ⟨⟨_,rfl,⟨rfl,.inl ⟨rfl,rfl⟩⟩⟩,Below.refl _ _⟩
 | some a =>
  have he:∀ w:World,(binOp .eql 25 (.slice (some a) n c) (.slice none 0 0)).run Tryz.prog w=.ok (.bool false) w:=fun _=>rfl
  have hrow:=row_lit0 w 49 4 w.heap.size (Nat.le_refl _)
  have hb1:Below w.heap.size w (w.alloc (.cells #[] 49)):=(Below.refl _ w).alloc (Nat.le_refl _) _
  have hy1:=hy.keep (below_keep hb1)
  go_enter Tryz.func78,Tryz.ntmps78
  go_wp2_with (at_builtin;go_loud (refine wpList_appN _ rfl _ _ _ rfl elemN_fn w.heap.size _ 0 [] rfl hrow _ rfl n xs hy1 hl h1 (by unfold maxLen;omega) (by omega) hb1.size ?_);intro v' w6 hr6 hs6)
  go_ret
  exact ⟨⟨v',rfl,by simpa using hr6⟩,hb1.trans (hs6.below hb1.size fun j h=>by cases h;exact Nat.le_refl _)⟩
def IntEnd (ns:List Int)(w:World)(e:Ending)(w':World):Prop:=∃ a cc,e=.returned (.slice a ns.length cc)∧ns.length≤cc∧w'.ownsRow w.heap.size 3 1 (.slice a ns.length cc) ns.length (cellsN ns)∧Below w.heap.size w w'
set_option maxRecDepth 100000 in
set_option maxHeartbeats 1000000 in
theorem put_any (a b:Option Addr)(c d n m:Nat)(ns ms:List Int)(hn:ns.length=n)(hm:ms.length=m)(bn:n≤1000000)(bm:m≤1000000)(w:World)(ha:NsAt w.cell? a ns)(hb:NsAt w.cell? b ms) :
  Calls Tryz.prog 172 #[.slice a n c,.slice b m d] w (IntEnd (ns++ms) w):=by
 have hC:=copyN a n c (cellsN ns) w (hn ▸ ha.lies c) (by rw [cellsN_len,hn,Nat.mul_one]) (cellsN_one _) (by omega)
 have HL:Hid (∀ W,Below w.heap.size w W→Lies W (.slice b m d) m (cellsN ms)):=hid7 fun W hW=>hm ▸ (hb.keep fun a v h=>(hW.cell (World.block_lt_of_cell? w a h)).trans h).lies d
 have HE:Hid (∀ W v,W.ownsRow w.heap.size 3 1 v (n+m) (cellsN ns++cellsN ms)→Below w.heap.size w W→∀ e,e=.returned v→IntEnd (ns++ms) w e W):=hid7 fun W v hr hB e he=>by
  obtain ⟨va,vc,rfl,hvc,_⟩:=row_form hr
  have hl:(ns++ms).length=n+m:=by rw [List.length_append,hn,hm]
  exact ⟨va,vc,by rw [hl];exact he,by omega,by rw [hl,cellsN_append];exact hr,hB⟩
 have hl2:(cellsN ms).length=m*1:=by rw [cellsN_len,hm,Nat.mul_one]
 have HO:Hid (∀ u ∈ cellsN ms,u.oneCell'=true):=hid7 (cellsN_one _)
 generalize cellsN ns=xs at hC HE
 generalize cellsN ms=ys at HL HE hl2 HO
 clear ha hb hn hm
 unfold CopyEnd at hC
 go_enter Tryz.func172,Tryz.ntmps172
 go_wp2_with (first
  | (go_at_call 109;refine hC.mono ?_;clear hC;rintro e w1 ⟨⟨v1,rfl,hr1⟩,b1⟩;obtain ⟨va,vc,e0,_,_⟩:=row_form hr1;subst e0;have L1:=HL.out w1 b1;have h1s:=b1.size)
  | (at_builtin;refine wpList_appN _ rfl _ _ 28 rfl elemN_int w.heap.size _ n xs rfl hr1 _ rfl m ys L1 hl2 HO.out (by unfold maxLen;omega) (by omega) (by omega) ?_;intro v' w6 hr6 hs6;obtain ⟨va6,vc6,e6,_,_⟩:=row_form hr6;subst e6)
  | fail)
 go_ret
 exact HE.out _ _ hr6 (b1.trans (hs6.below b1.size fun g e=>(hr1.lt g e).1)) _ rfl
end Go.Proofs.YtpmlnkjamhelnaaGreat
namespace Go.Proofs.YtpmlnkjamhelnaaGreat
open Go.RowKit Go.Shelf
attribute [local go_sem] Oper.semAt_some
def bw (ts:List Int):Nat→List (Nat × Int)
 | 0=>[]
 | k+1=>(k,ts.getD k 0) :: bw ts k
def KpB (b B:Nat)(W W':World):Prop:=∀ k,k=b∨k<B→W'.heap[k]?=W.heap[k]?
theorem KpB.trans {b B:Nat}{X Y Z:World}(h:KpB b B X Y)(k:KpB b B Y Z):KpB b B X Z:=fun j hj=>(k j hj).trans (h j hj)
theorem KpB.refl (b B:Nat)(W:World):KpB b B W W:=fun _ _=>rfl
theorem cell_same7 {w W:World}{a:Addr}(h:W.heap[a.block]?=w.heap[a.block]?):W.cell? a=w.cell? a:=by
 unfold World.cell?
 rw [h]
theorem cell_heap7 {W W':World}{b o:Nat}(h:W'.heap[b]?=W.heap[b]?):W'.cell? ⟨b,o,none⟩=W.cell? ⟨b,o,none⟩:=by simp [World.cell?,h]
set_option maxRecDepth 100000 in
set_option maxHeartbeats 2000000 in
theorem back_feeds (n:Nat)(hn1:1≤n)(b bS B:Nat)(ta:Option Addr)(tc m:Nat)(ts:List Int)(hm:ts.length=m)(bm:m≤1000000)(W:World)(c:W.cell? ⟨bS,0,none⟩=some (.slice ta m tc))(hT:∀ W',KpB bS B W W'→NsAt W'.cell? ta ts) :
  Feeds Fence.wide n Tryz.prog 213 #[.pointer (some ⟨bS,0,none⟩)] (fun x:Nat × Int=>#[.int .i64 x.1,.int .i64 x.2]) b (KpB bS B) (bw ts m) W:=by
 intro l J Jx _ _ hY h0
 refine callsIn_of_wp Tryz.func213 rfl trivial ?_ rfl
 simp only [Tryz.ntmps213,List.size_toArray,List.length_cons,List.length_nil,Nat.reduceAdd,Nat.reduceSub,Array.replicate_succ,Array.replicate_zero,List.push_toArray,List.append_toArray,List.nil_append,List.cons_append]
 have HT:=hid7 hT
 have HC:=hid7 c
 clear hT
 gi_wp2
 clear c
 gi_loopw [3] (fun iv wr=>∃ (k:Nat) (pre:List (Nat × Int)),iv=.int .i64 ((k:Int) - 1)∧k≤m∧Hid (bw ts m=pre++bw ts k)∧Hid (KpB bS B W wr)∧J pre wr) (fun iv _=>(intOf iv+1).toNat)
 case atStart=>exact ⟨m,[],by go_num,Nat.le_refl _,hid7 (by simp),hid7 (KpB.refl _ _ _),h0⟩
 case round =>
  obtain ⟨k,pre,rfl,hk,hp,hK,hj⟩:=hrel
  cases k with
  | zero =>
   have hE:Hid (J (bw ts m) wr):=hid7 (by rw [hp.out];simpa [bw] using hj)
   gi_wp2
   go_end0
   exact ⟨⟨_,rfl⟩,.inl hE.out⟩
  | succ k =>
   have c0:wr.cell? ⟨bS,0,none⟩=some (.slice ta m tc):=(cell_heap7 (hK.out bS (.inl rfl))).trans HC.out
   have hn:=HT.out wr hK.out
   obtain ⟨tb,tf,rfl⟩:=ns_some hn (by omega)
   have c1:=ns_at hn k (by omega)
   have hp2:bw ts m=pre++[(k,ts.getD k 0)]++bw ts k:=by rw [hp.out];simp [bw]
   obtain ⟨fn,tmps,assign,body,hy,hR⟩:=hY pre (k,ts.getD k 0) wr hj (by rw [hp2];exact List.prefix_append _ _)
   have HP:=hid7 hp2
   clear hp hp2 hn
   have e1:((k+1:Nat):Int) - 1=k:=by omega
   rw [e1]
   generalize ts.getD k 0=y at c1 hy hR HP
   gi_wp2
   refine hR.mono ?_
   rintro e W3 (⟨rfl,hJ3,hK3⟩ | ⟨rfl,hx3⟩)
   ·have K4:=hid7 (hK.out.trans hK3)
    clear hK3 hR hy hj hK c0 c1
    gi_wp2
    exact ⟨⟨k,_,by go_num,by omega,HP,K4,hJ3⟩,by simp [intOf]⟩
   ·gi_wp2
    refine bodyPost_ret (results_none rfl _ _ _) rfl ?_
    exact ⟨⟨_,rfl⟩,.inr ⟨_,hx3⟩⟩
end Go.Proofs.YtpmlnkjamhelnaaGreat
namespace Go.Proofs.YtpmlnkjamhelnaaGreat
open Go.RowKit Go.Shelf
attribute [local go_sem] Oper.semAt_some
def tkS (st:List Int):List Int→Nat→Int × Nat
 | [],l=>(0,l)
 | x :: r,l=>if l=0 then (32,0) else if x≠0∧x≠st.getD (l - 1) 0 then (33,0) else tkS st r (l - 1)
def takeS (st ts:List Int):Int × Nat:=tkS st ts.reverse st.length
theorem bw_snd (ts:List Int):∀ k,k≤ts.length→(bw ts k).map Prod.snd=(ts.take k).reverse
 | 0,_=>rfl
 | k+1,h=>by
  rw [bw,List.map_cons,bw_snd ts k (by omega),List.take_succ_eq_append_getElem (by omega),List.reverse_append,List.getD_eq_getElem?_getD,List.getElem?_eq_getElem (by omega)]
  rfl
def TakeEnd (st ts:List Int)(a:Option Addr)(c:Nat)(w:World)(e:Ending)(w':World):Prop :=
 e=.returned (.tuple (if (takeS st ts).1=0 then #[.slice a (takeS st ts).2 c,.int .i64 0] else #[.slice none 0 0,.int .i64 (takeS st ts).1]))∧Below w.heap.size w w'
theorem backward_any (a:Option Addr)(n c:Nat)(w:World):Calls Tryz.prog 200 #[.slice a n c] w fun e w'=>e=.returned (.func (.func 213) #[] #[.pointer (some ⟨w.heap.size,0,none⟩)])∧w'=w.alloc (.cells #[.slice a n c] 28):=by
 go_enter Tryz.func200,Tryz.ntmps200
 go_wp2
 go_ret
 exact ⟨rfl,rfl⟩
theorem results_cells7 {fn:Func}{t u:Tmp}{ty uy:TypeId}(h:fn.results=#[.cell t ty,.cell u uy])(tmps:Array Value)(P:Program)(w:World)(a b:Addr)(v x:Value)(ha:tmps[t]?.getD undef=.pointer (some a))(hb:tmps[u]?.getD undef=.pointer (some b))(hl:(loadVar ty a).run P w=.ok v w)(hm:(loadVar uy b).run P w=.ok x w) :
  (results fn tmps).run P w=.ok (.tuple #[v,x]) w:=by
 simp [results,h,ha,hb,asAddr,hl,hm]
theorem load_ints7 {w:World}{b:Nat}{v:Value}(h:w.cell? ⟨b,0,none⟩=some v):(loadVar 28 ⟨b,0,none⟩).run Tryz.prog w=.ok v w:=by
 simp [loadVar,go_sem,h]
theorem load_errno7 {w:World}{b:Nat}{v:Value}(h:w.cell? ⟨b,0,none⟩=some v):(loadVar 31 ⟨b,0,none⟩).run Tryz.prog w=.ok v w:=by
 simp [loadVar,go_sem,h]
theorem box_putObj7 {W:World}{b D:Nat}{t:TypeId}{v:Value}(h:Boxed W b t v)(hne:b≠D)(o:Obj):Boxed (W.putObj D o) b t v:=(World.putObj_heap_other (w:=W) (o:=o) hne).trans h
theorem below_putObj7 {n D:Nat}{w W:World}(h:Below n w W)(hn:n≤D)(o:Obj)(hK:D<W.heap.size):Below n w (W.putObj D o):=h.grown (grownBy_putObj' W D o) (by have:=h.size;omega) fun j ej=>by cases ej;exact hn
structure TkI (st:List Int)(a:Option Addr)(c n z:Nat)(w:World)(pre:List (Nat × Int))(W:World):Prop where
 box:∃ l,Boxed W z 28 (.slice a l c)∧l≤n∧∀ rest,tkS st (pre.map Prod.snd++rest) n=tkS st rest l
 res:Boxed W (z+1) 28 (.slice none 0 0)
 err:Boxed W (z+2) 31 (.int .i64 0)
 bel:Below z w W
 siz:z+4≤W.heap.size
structure TkR (st ts:List Int)(z:Nat)(w:World)(W:World):Prop where
 no:∃ er,er≠0∧takeS st ts=(er,0)∧Boxed W (z+2) 31 (.int .i64 er)
 res:Boxed W (z+1) 28 (.slice none 0 0)
 bel:Below z w W
 siz:z+4≤W.heap.size
theorem TkI.grow {st:List Int}{a:Option Addr}{c n z:Nat}{w:World}{pre:List (Nat × Int)}{W W':World}{row:Option Nat}(h:TkI st a c n z w pre W)(hg:W.grownBy W' row)(hr:∀ k,row=some k→z+3≤k):TkI st a c n z w pre W':=by
 obtain ⟨l,h1,h2⟩:=h.box
 exact ⟨⟨l,h1.kept hg (fun e=>by have:=hr _ e.symm;omega),h2⟩,h.res.kept hg (fun e=>by have:=hr _ e.symm;omega),h.err.kept hg (fun e=>by have:=hr _ e.symm;omega),h.bel.grown hg (by have:=h.siz;omega) (fun k e=>by have:=hr k e;omega),Nat.le_trans h.siz hg.size⟩
theorem TkR.grow {st ts:List Int}{z:Nat}{w W W':World}{row:Option Nat}(h:TkR st ts z w W)(hg:W.grownBy W' row)(hr:∀ k,row=some k→z+3≤k):TkR st ts z w W':=by
 obtain ⟨er,h0,h1,h2⟩:=h.no
 exact ⟨⟨er,h0,h1,h2.kept hg (fun e=>by have:=hr _ e.symm;omega)⟩,h.res.kept hg (fun e=>by have:=hr _ e.symm;omega),h.bel.grown hg (by have:=h.siz;omega) (fun k e=>by have:=hr k e;omega),Nat.le_trans h.siz hg.size⟩
set_option maxRecDepth 100000 in
set_option maxHeartbeats 4000000 in
theorem take_any (a b:Option Addr)(c d n m:Nat)(st ts:List Int)(hn:st.length=n)(hm:ts.length=m)(bn:n≤1000000)(bm:m≤1000000)(hcn:n≤c)(w:World)(ha:NsAt w.cell? a st)(hb:NsAt w.cell? b ts) :
  Calls Tryz.prog 170 #[.slice a n c,.slice b m d] w (TakeEnd st ts a c w):=by
 refine (callsIn_wide (n:=3)).1 ?_
 refine callsIn_of_wp_marks Tryz.func170 rfl trivial ?_ rfl
 simp only [Tryz.ntmps170,List.size_toArray,List.length_cons,List.length_nil,Nat.reduceAdd,Nat.reduceSub,Array.replicate_succ,Array.replicate_zero,List.push_toArray,List.append_toArray,List.nil_append,List.cons_append]
 gi_wp2_with (refine ⟨trivial,?_⟩;gi_at_call 200;refine (callsIn_wide.2 (backward_any _ _ _ _)).mono ?_;rintro e w' ⟨rfl,rfl⟩)
 have b0:=((((Boxed.new w 28 (.slice a n c)).alloc (.cells #[.slice none 0 0] 28)).alloc (.cells #[.int .i64 0] 31)).alloc (.cells #[.slice b m d] 28))
 have b1:=((Boxed.new (w.alloc (.cells #[.slice a n c] 28)) 28 (.slice none 0 0)).alloc (.cells #[.int .i64 0] 31)).alloc (.cells #[.slice b m d] 28)
 have b2:=(Boxed.new ((w.alloc (.cells #[.slice a n c] 28)).alloc (.cells #[.slice none 0 0] 28)) 31 (.int .i64 0)).alloc (.cells #[.slice b m d] 28)
 have b3:=Boxed.new (((w.alloc (.cells #[.slice a n c] 28)).alloc (.cells #[.slice none 0 0] 28)).alloc (.cells #[.int .i64 0] 31)) 28 (.slice b m d)
 simp only [World.size_alloc] at b0 b1 b2 b3
 have hB0:Below w.heap.size w ((((w.alloc (.cells #[.slice a n c] 28)).alloc (.cells #[.slice none 0 0] 28)).alloc (.cells #[.int .i64 0] 31)).alloc (.cells #[.slice b m d] 28)) :=
  ((((Below.refl _ w).alloc (Nat.le_refl _) _).alloc (by simp) _).alloc (by simp;omega) _).alloc (by simp;omega) _
 have hsz:((((w.alloc (.cells #[.slice a n c] 28)).alloc (.cells #[.slice none 0 0] 28)).alloc (.cells #[.int .i64 0] 31)).alloc (.cells #[.slice b m d] 28)).heap.size=w.heap.size+4:=by simp
 generalize ((((w.alloc (.cells #[.slice a n c] 28)).alloc (.cells #[.slice none 0 0] 28)).alloc (.cells #[.int .i64 0] 31)).alloc (.cells #[.slice b m d] 28))=W0 at *
 have hT:∀ W W',Below w.heap.size w W→KpB (w.heap.size+3) w.heap.size W W'→NsAt W'.cell? b ts:=fun W W' hW hK=>hb.keep fun x v h=>by
  have hlt:=World.block_lt_of_cell? w x h
  exact (cell_same7 (hK x.block (.inr hlt))).trans ((hW.cell hlt).trans h)
 refine range_feeds (b:=w.heap.size+3) (Kp:=KpB (w.heap.size+3) w.heap.size) (xs:=bw ts m) (encs:=fun x:Nat × Int=>#[.int .i64 x.1,.int .i64 x.2]) rfl (by decide) (gf:=213) (lb:=#[.pointer (some ⟨w.heap.size+3,0,none⟩)]) rfl trivial (enters_of Tryz.func213 (by kernel_rfl) rfl) (by omega)
  (fun W hW=>back_feeds 2 (by decide) _ (w.heap.size+3) w.heap.size b d m ts hm bm W ((hW.cell (p:=⟨w.heap.size+3,0,none⟩) (by show w.heap.size+3<_;omega)).trans b3.cell) (fun W' hK=>hT W W' (hB0.trans (hW.mono (by omega))) hK))
  (fun h k=>h.trans k) (fun W l o hl k hk=>World.putObj_heap_other (by omega)) (fun _=>rfl)
  (fun pre W=>TkI st a c n w.heap.size w pre W) (fun _ W=>TkR st ts w.heap.size w W) ?hI ?hR ?hIb ?hRb ?h0
  (fun x=>{ tmps:=#[.slice a n c,.slice b m d,.pointer (some ⟨w.heap.size,0,none⟩),undef,.pointer (some ⟨w.heap.size+1,0,none⟩),.pointer (some ⟨w.heap.size+1+1,0,none⟩),undef,.int .i64 x.2,undef,.slice b m d,.func (.func 213) #[] #[.pointer (some ⟨w.heap.size+1+1+1,0,none⟩)],.int .i64 x.1,.int .i64 x.2,undef,undef,undef,undef,undef,undef,undef,undef,undef,undef,undef,undef,undef,undef,undef,undef,undef,undef,undef,undef],defers:=[] }) ?assign ?body ?done ?ret
 case assign =>
  intro l x W K hK
  gi_wp2
  exact hK
 case hI =>
  rintro pre X Y row h hg hrow
  exact h.grow hg (fun k e=>by have:=(hrow _ e).1;omega)
 case hR =>
  rintro pre X Y row h hg hrow
  exact h.grow hg (fun k e=>by have:=(hrow _ e).1;omega)
 case hIb =>
  rintro pre W v h
  exact h.grow (grownBy_setCell' _ _ _) (fun k e=>by simp at e;omega)
 case hRb =>
  rintro pre W v h
  exact h.grow (grownBy_setCell' _ _ _) (fun k e=>by simp at e;omega)
 case h0=>exact ⟨⟨n,b0,Nat.le_refl _,fun rest=>rfl⟩,b1,b2,hB0,by omega⟩
 case body =>
  rintro l pre x W h hx
  obtain ⟨q,hbx,hq,htk⟩:=h.box
  obtain ⟨rest,hrest⟩:=hx
  have hts:ts.reverse=pre.map Prod.snd++x.2 :: rest.map Prod.snd:=by
   have e:=bw_snd ts m (by omega)
   rw [← hm,List.take_length,hm,← hrest] at e
   rw [← e]
   simp
  have HTk:Hid (takeS st ts=tkS st (x.2 :: rest.map Prod.snd) q):=hid7 (by rw [takeS,hts,hn];exact htk _)
  have HTn:Hid (∀ rr,tkS st ((pre++[x]).map Prod.snd++rr) n=tkS st (x.2 :: rr) q):=hid7 fun rr=>by
   have:=htk (x.2 :: rr)
   rw [← this]
   simp
  have hres:=hid7 h.res
  have herr:=hid7 h.err
  have hbel:=hid7 h.bel
  have hsiz:=h.siz
  have c0:=hbx.cell
  have z0:=hbx.frozen
  have c1:=h.res.cell
  have z1:=h.res.frozen
  have c2:=h.err.cell
  have z2:=h.err.frozen
  have hst:=hid7 (ha.keep (C':=W.cell?) fun x v hh=>(h.bel.cell (World.block_lt_of_cell? w x hh)).trans hh)
  have HB:=hid7 hbx
  obtain ⟨x1,y⟩:=x
  simp only at HTk HTn ⊢
  clear h hbx htk hts hrest b0 b1 b2 b3 hB0 hT
  have hno:∀ er:Int,er≠0→takeS st ts=(er,0)→∀ W',W'=(W.setCell ⟨w.heap.size+1,0,none⟩ (.slice none 0 0)).setCell ⟨w.heap.size+1+1,0,none⟩ (.int .i64 er)→KeepsFrom W0.heap.size W W'∧TkR st ts w.heap.size w W':=by
   rintro er h0 h1 W' rfl
   refine ⟨((KeepsOthers.setCell _ _ _).trans (KeepsOthers.setCell _ _ _)).from _,⟨er,h0,h1,?_⟩,?_,?_,?_⟩
   ·exact (herr.out.kept (grownBy_setCell' _ (w.heap.size+1) (.slice none 0 0)) (by simp)).set _
   ·exact (hres.out.set _).kept (grownBy_setCell' _ _ _) (by simp)
   ·exact (hbel.out.setCell (p:=⟨w.heap.size+1,0,none⟩) (by show w.heap.size≤w.heap.size+1;omega) _).setCell (p:=⟨w.heap.size+1+1,0,none⟩) (by show w.heap.size≤w.heap.size+1+1;omega) _
   ·simpa using hsiz
  have HNo:=hid7 hno
  clear hno
  by_cases hq0:q=0
  ·subst hq0
   have HT0:=hid7 (show takeS st ts=(32,0) by rw [HTk.out,tkS,if_pos rfl])
   clear HTk HTn
   gi_wp2
   exact HNo.out 32 (by decide) HT0.out _ rfl
  ·obtain ⟨ab,ao,rfl⟩:=ns_some hst.out (by omega)
   have s0:=ns_at hst.out (q - 1) (by omega)
   have HT0:=hid7 (show takeS st ts=if y≠0∧y≠st.getD (q - 1) 0 then (33,0) else tkS st (rest.map Prod.snd) (q - 1) by rw [HTk.out,tkS,if_neg hq0])
   have HT1:Hid (∀ rr,tkS st ((pre++[(x1,y)]).map Prod.snd++rr) n=if y≠0∧y≠st.getD (q - 1) 0 then (33,0) else tkS st rr (q - 1)):=hid7 fun rr=>by rw [HTn.out rr,tkS,if_neg hq0]
   clear HTk HTn
   generalize st.getD (q - 1) 0=u at s0 HT0 HT1
   obtain ⟨q',rfl⟩:∃ q',q=q'+1:=⟨q - 1,by omega⟩
   rw [Nat.add_sub_cancel] at s0 HT0 HT1
   by_cases hbad:y≠0∧y≠u
   ·have HT2:=hid7 (HT0.out.trans (if_pos hbad))
    obtain ⟨g1,g2⟩:=hbad
    have t1:(y != 0)=true:=by simpa using g1
    have t2:(y != u)=true:=by simpa using g2
    clear HT0 HT1
    gi_wp2
    exact HNo.out 33 (by decide) HT2.out _ rfl
   ·have HT2:Hid (∀ rr,tkS st ((pre++[(x1,y)]).map Prod.snd++rr) n=tkS st rr q'):=hid7 fun rr=>(HT1.out rr).trans (if_neg hbad)
    have HN:Hid (KeepsFrom W0.heap.size W (W.setCell ⟨w.heap.size,0,none⟩ (.slice (some ⟨ab,ao,none⟩) q' c))∧KpB (w.heap.size+3) w.heap.size W (W.setCell ⟨w.heap.size,0,none⟩ (.slice (some ⟨ab,ao,none⟩) q' c))∧TkI st (some ⟨ab,ao,none⟩) c n w.heap.size w (pre++[(x1,y)]) (W.setCell ⟨w.heap.size,0,none⟩ (.slice (some ⟨ab,ao,none⟩) q' c))):=hid7 (by
     refine ⟨(KeepsOthers.setCell _ _ _).from _,fun k hk=>Below.heap_setCell _ _ _ k (by show k≠w.heap.size;omega),⟨q',HB.out.set _,by omega,HT2.out⟩,?_,?_,?_,?_⟩
     ·exact hres.out.kept (grownBy_setCell' _ _ _) (by simp)
     ·exact herr.out.kept (grownBy_setCell' _ _ _) (by simp)
     ·exact hbel.out.setCell (p:=⟨w.heap.size,0,none⟩) (Nat.le_refl _) _
     ·simpa using hsiz)
    clear HT0 HT1 HT2
    by_cases hy:y=0
    ·subst hy
     gi_wp2
     exact HN.out
    ·have hyu:y=u:=by
      by_cases h:y=u
      ·exact h
      ·exact absurd ⟨hy,h⟩ hbad
     subst hyu
     have t1:(y != 0)=true:=by simpa using hy
     clear hbad
     gi_wp2
     exact HN.out
 case done =>
  rintro D W hD h hK
  obtain ⟨q,hbx,hq,htk⟩:=h.box
  have HTk:Hid (takeS st ts=(0,q)):=hid7 (by
   have:=htk []
   rw [List.append_nil,bw_snd ts m (by omega),← hm,List.take_length] at this
   rw [takeS,hn,this]
   rfl)
  have hc:=hbx.cell
  have c1:=h.res.cell
  have d1:=h.res.frozen
  have f2:=h.err.kept (grownBy_setCell' _ (w.heap.size+1) (.slice a q c)) (by simp)
  have c2:=f2.cell
  have d2:=f2.frozen
  have H:=hid7 h
  have F2:=hid7 f2
  clear hbx htk b0 b1 b2 b3 hB0 hT h f2
  gi_wp2
  have hK2:((W.setCell ⟨w.heap.size+1,0,none⟩ (.slice a q c)).setCell ⟨w.heap.size+1+1,0,none⟩ (.int .i64 0)).heap[D]?=some (.deferred (some [])) :=
   (Below.heap_setCell _ _ _ D (by show D≠w.heap.size+1+1;omega)).trans ((Below.heap_setCell _ _ _ D (by show D≠w.heap.size+1;omega)).trans hK)
  refine ⟨by simp,.inl ⟨_,_,rfl,run_takeDeferred hK2,?_⟩⟩
  have g1:=box_putObj7 ((H.out.res.set (.slice a q c)).kept (grownBy_setCell' _ (w.heap.size+1+1) (.int .i64 0)) (by simp)) (by omega) (D:=D) (.deferred none)
  have g2:=box_putObj7 (F2.out.set (.int .i64 0)) (by omega) (D:=D) (.deferred none)
  refine ⟨_,results_cells7 rfl _ _ _ ⟨w.heap.size+1,0,none⟩ ⟨w.heap.size+1+1,0,none⟩ _ _ rfl rfl (load_ints7 g1.cell) (load_errno7 g2.cell),?_⟩
  refine ⟨?_,below_putObj7 ((H.out.bel.setCell (p:=⟨w.heap.size+1,0,none⟩) (by show w.heap.size≤w.heap.size+1;omega) _).setCell (p:=⟨w.heap.size+1+1,0,none⟩) (by show w.heap.size≤w.heap.size+1+1;omega) _) (by omega) _ (Array.getElem?_eq_some_iff.1 hK2).1⟩
  rw [HTk.out]
  rfl
 case ret =>
  rintro D pre W hD h hK
  obtain ⟨er,h0,h1,h2⟩:=h.no
  have HR:Hid (takeS st ts=(er,0)):=hid7 h1
  have H:=hid7 h
  have H2:=hid7 h2
  clear b0 b1 b2 b3 hB0 hT h h1 h2
  gi_wp2
  refine ⟨by simp,.inl ⟨_,_,rfl,run_takeDeferred hK,?_⟩⟩
  have g1:=box_putObj7 H.out.res (by omega) (D:=D) (.deferred none)
  have g2:=box_putObj7 H2.out (by omega) (D:=D) (.deferred none)
  refine ⟨_,results_cells7 rfl _ _ _ ⟨w.heap.size+1,0,none⟩ ⟨w.heap.size+1+1,0,none⟩ _ _ rfl rfl (load_ints7 g1.cell) (load_errno7 g2.cell),?_⟩
  refine ⟨?_,below_putObj7 H.out.bel (by omega) _ (Array.getElem?_eq_some_iff.1 hK).1⟩
  rw [HR.out]
  show _=Ending.returned (.tuple (if er=0 then _ else _))
  rw [if_neg h0]
end Go.Proofs.YtpmlnkjamhelnaaGreat
