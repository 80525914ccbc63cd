/- What value's simple functions come to. -/
import Derived.Test.YtpmlnkjamhelnaaGreatChecked
import Derived.WalkKit
import Derived.WalkSpells
import Derived.BigQuiet
import Derived.Deep.QuietTactic
import Derived.Deep.RegionWith
import Derived.Laws.StructEq
namespace Go.Proofs.YtpmlnkjamhelnaaGreat
open Go.RowKit
structure Val where
 t:Int
 n:Int
 b:List UInt8
deriving DecidableEq
def Val.v (x:Val):Value:=.agg #[.int .i64 x.t,.int .i64 x.n,.string ⟨x.b.toArray⟩]
def Val.right (x:Val):Bool :=
 if x.t=1 then decide (x.b=[]) else if x.t=2 then decide (x.n=0) && decide (x.b.length≤256) else if x.t=3 then (decide (x.n=0) || decide (x.n=1)) && decide (x.b=[]) else false
theorem results_cell {fn:Func}{t:Tmp}{ty:TypeId}(h:fn.results=#[.cell t ty])(tmps:Array Value)(P:Program)(w:World)(a:Addr)(v:Value)(ha:tmps[t]?.getD undef=.pointer (some a))(hl:(loadVar ty a).run P w=.ok v w) :
  (results fn tmps).run P w=.ok v w:=by
 simp [results,h,ha,asAddr,hl]
def ValAt (w:World)(b:Nat)(x:Val):Prop:=w.cell? ⟨b,0,none⟩=some (.int .i64 x.t)∧w.cell? ⟨b,1,none⟩=some (.int .i64 x.n)∧w.cell? ⟨b,2,none⟩=some (.string ⟨x.b.toArray⟩)
theorem load_val {w:World}{b:Nat}{x:Val}(h:ValAt w b x):(loadVar 76 ⟨b,0,none⟩).run Tryz.prog w=.ok x.v w:=by
 obtain ⟨h0,h1,h2⟩:=h
 simp [loadVar,go_sem,h0,h1,h2]
 rfl
def Val.box (x:Val):Obj:=.cells #[.int .i64 x.t,.int .i64 x.n,.string ⟨x.b.toArray⟩] 76
theorem val_new (w:World)(x:Val):ValAt (w.alloc x.box) w.heap.size x:=by
 have h:=heap_alloc_new w x.box
 exact ⟨by rw [cell_of_row _ _ 0 _ _ (0,0) h];rfl,by rw [cell_of_row _ _ 1 _ _ (0,0) h];rfl,by rw [cell_of_row _ _ 2 _ _ (0,0) h];rfl⟩
theorem ret_val {fn:Func}{R:Ending→World→Prop}{a:Act}{t:Tmp}(w:World)(x:Val)(h:fn.results=#[.cell t 76])(ha:a.tmps[t]?.getD undef=.pointer (some ⟨w.heap.size,0,none⟩))(hd:a.defers=[])(hR:R (.returned x.v) (w.alloc x.box)):bodyPost Tryz.prog fn R .ret a (w.alloc x.box) :=
 bodyPost_ret (results_cell h _ _ _ _ _ ha (load_val (val_new w x))) hd hR
theorem ret_at {fn:Func}{R:Ending→World→Prop}{a:Act}{t:Tmp}(w:World)(b:Nat)(x:Val)(h:fn.results=#[.cell t 76])(ha:a.tmps[t]?.getD undef=.pointer (some ⟨b,0,none⟩))(hd:a.defers=[])(hv:ValAt w b x)(hR:R (.returned x.v) w):bodyPost Tryz.prog fn R .ret a w :=
 bodyPost_ret (results_cell h _ _ _ _ _ ha (load_val hv)) hd hR
theorem ValAt.keep {w w':World}{b:Nat}{x:Val}(h:ValAt w b x)(hk:∀ a v,w.cell? a=some v→w'.cell? a=some v):ValAt w' b x:=⟨hk _ _ h.1,hk _ _ h.2.1,hk _ _ h.2.2⟩
theorem keep_alloc (w:World)(o:Obj):∀ a v,w.cell? a=some v→(w.alloc o).cell? a=some v:=fun a v h=>by
 rw [((Below.refl _ w).alloc (Nat.le_refl _) o).cell (p:=a) (World.block_lt_of_cell? _ _ h)];exact h
theorem number_any' (n:Int)(w:World):Calls Tryz.prog 139 #[.int .i64 n] w fun e w'=>e=.returned (Val.v ⟨1,n,[]⟩)∧w'=w.alloc (Val.box ⟨1,n,[]⟩):=by
 go_enter Tryz.func139,Tryz.ntmps139
 go_wp2
 exact ret_val w ⟨1,n,[]⟩ rfl rfl rfl ⟨rfl,rfl⟩
theorem text_any' (s:List UInt8)(w:World):Calls Tryz.prog 140 #[.string ⟨s.toArray⟩] w fun e w'=>e=.returned (Val.v ⟨2,0,s⟩)∧w'=w.alloc (Val.box ⟨2,0,s⟩):=by
 go_enter Tryz.func140,Tryz.ntmps140
 go_wp2
 exact ret_val w ⟨2,0,s⟩ rfl rfl rfl ⟨rfl,rfl⟩
def Val.truth (c:Bool):Val:=⟨3,if c then 1 else 0,[]⟩
theorem truth_any' (c:Bool)(w:World):Calls Tryz.prog 141 #[.bool c] w fun e w'=>e=.returned (Val.v (Val.truth c))∧w'=(w.alloc (Val.box (Val.truth c))).alloc (Val.box (Val.truth c)):=by
 cases c
 all_goals
  go_enter Tryz.func141,Tryz.ntmps141
  go_wp2
  first
   | exact ret_at _ w.heap.size (Val.truth false) rfl rfl rfl ((val_new w (Val.truth false)).keep (keep_alloc _ _)) ⟨rfl,rfl⟩
   | exact ret_at _ w.heap.size (Val.truth true) rfl rfl rfl ((val_new w (Val.truth true)).keep (keep_alloc _ _)) ⟨rfl,rfl⟩
theorem eq_val (t n s m:Int)(b c:List UInt8)(w:World):(Op.equalIn 10000 76 (.agg #[.int .i64 t,.int .i64 n,.string ⟨b.toArray⟩]) (.agg #[.int .i64 s,.int .i64 m,.string ⟨c.toArray⟩])).run Tryz.prog w=.ok (t == s && (n == m && decide (b=c))) w:=by
 have hS:Tryz.prog.underlying 76=some (.struct (Tryz.prog.fieldsOf 76)):=by kernel_rfl
 rw [show (10000:Nat)=9999+1 from rfl,run_equalIn_agg w 9999 76 _ _ hS (by kernel_rfl)]
 simp only [Program.fieldsOf,Tryz.underlying76]
 go_simp
 by_cases h1:t=s <;> by_cases h2:n=m <;> by_cases h3:b=c <;> simp [h1,h2,h3]
theorem eq_val0 (t n s m:Int)(b:List UInt8)(w:World):(Op.equalIn 10000 76 (.agg #[.int .i64 t,.int .i64 n,.string ⟨b.toArray⟩]) (.agg #[.int .i64 s,.int .i64 m,.string ⟨#[]⟩])).run Tryz.prog w=.ok (t == s && (n == m && decide (b=[]))) w:=eq_val t n s m b [] w
attribute [local go_sem high] eq_val eq_val0
set_option maxRecDepth 100000 in
set_option maxHeartbeats 1000000 in
theorem right_most (x:Val)(_hb:x.b.length≤9223372036854775807)(hx:x.t=2→x.n=0)(w:World):Calls Tryz.prog 99 #[x.v] w fun e w'=>e=.returned (.bool x.right)∧Below w.heap.size w w':=by
 obtain ⟨t,n,b⟩:=x
 simp only [Val.v,Val.right] at _hb hx ⊢
 by_cases h1:t=1
 ·subst h1
  go_enter Tryz.func99,Tryz.ntmps99
  go_wp2
  go_region_with (first | (go_at_call 139;refine (number_any' _ _).mono ?_;rintro e w' ⟨rfl,rfl⟩;simp only [Val.box,Val.v]))
  all_goals go_wp2
  all_goals (go_ret;exact ⟨rfl,(((Below.refl _ w).alloc (Nat.le_refl _) _).alloc (by simp) _).drew⟩)
 by_cases h2:t=2
 ·subst h2
  obtain rfl:n=0:=hx rfl
  ·go_enter Tryz.func99,Tryz.ntmps99
   go_wp2
   go_region_with (first | (go_at_call 140;refine (text_any' _ _).mono ?_;rintro e w' ⟨rfl,rfl⟩;simp only [Val.box,Val.v]))
   all_goals go_wp2
   all_goals (go_ret;exact ⟨by first | rfl | (simp;omega) | simp,(((Below.refl _ w).alloc (Nat.le_refl _) _).alloc (by simp) _).drew⟩)
 by_cases h3:t=3
 ·subst h3
  by_cases hn:n=1
  ·subst hn
   go_enter Tryz.func99,Tryz.ntmps99
   go_wp2
   go_region_with (first | (go_at_call 141;refine (truth_any' _ _).mono ?_;rintro e w' ⟨rfl,rfl⟩;simp only [Val.box,Val.v,Val.truth]))
   all_goals go_wp2
   all_goals (go_ret;exact ⟨by first | rfl | simp,((((Below.refl _ w).alloc (Nat.le_refl _) _).alloc (by simp) _).alloc (by simp;omega) _).drew⟩)
  ·have hn':(n == 1)=false:=by simp [hn]
   go_enter Tryz.func99,Tryz.ntmps99
   go_wp2
   go_region_with (first | (go_at_call 141;refine (truth_any' _ _).mono ?_;rintro e w' ⟨rfl,rfl⟩;simp only [Val.box,Val.v,Val.truth]))
   all_goals go_wp2
   all_goals (go_ret;exact ⟨by first | rfl | simp [hn],((((Below.refl _ w).alloc (Nat.le_refl _) _).alloc (by simp) _).alloc (by simp;omega) _).drew⟩)
 have e1:(t == 1)=false:=by simp [h1]
 have e2:(t == 2)=false:=by simp [h2]
 have e3:(t == 3)=false:=by simp [h3]
 go_enter Tryz.func99,Tryz.ntmps99
 go_wp2
 go_ret
 exact ⟨by first | rfl | simp [h1,h2,h3],(Below.refl _ w).alloc (Nat.le_refl _) _⟩
end Go.Proofs.YtpmlnkjamhelnaaGreat
