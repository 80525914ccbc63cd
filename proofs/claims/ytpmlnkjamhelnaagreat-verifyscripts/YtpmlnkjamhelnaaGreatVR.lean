/- value.Right, whole; allRight. -/
import Derived.Test.YtpmlnkjamhelnaaGreatVA
namespace Go.Proofs.YtpmlnkjamhelnaaGreat
open Go.RowKit
attribute [local go_sem high] eq_val eq_val0
set_option maxRecDepth 100000 in
set_option maxHeartbeats 1000000 in
theorem right_rest (n:Int)(b:List UInt8)(_hb:b.length≤9223372036854775807)(hx:n≠0)(w:World):Calls Tryz.prog 99 #[Val.v ⟨2,n,b⟩] w fun e w'=>e=.returned (.bool (Val.right ⟨2,n,b⟩))∧Below w.heap.size w w':=by
 simp only [Val.v,Val.right]
 have hn':(n == 0)=false:=by simp [hx]
 go_enter Tryz.func99,Tryz.ntmps99
 go_wp2
 first
  | go_region_with (first | (go_at_call 140;refine (text_any' _ _).mono ?_;rintro e w' ⟨rfl,rfl⟩;simp only [Val.box,Val.v]))
  | fail
 all_goals go_wp2
 all_goals (go_ret;exact ⟨by first | rfl | simp [hx],(((Below.refl _ w).alloc (Nat.le_refl _) _).alloc (by simp) _).drew⟩)
theorem right_any (x:Val)(hb:x.b.length≤9223372036854775807)(w:World):Calls Tryz.prog 99 #[x.v] w fun e w'=>e=.returned (.bool x.right)∧Below w.heap.size w w':=by
 by_cases h:x.t=2→x.n=0
 ·exact right_most x hb h w
 ·obtain ⟨t,n,b⟩:=x
  obtain ⟨rfl,hn⟩:t=2∧n≠0:=by simpa using h
  exact right_rest n b hb hn w
theorem hidV {p:Prop}(h:p):Hid p:=h
def Vs (w:World)(a:Option Addr)(L:List Val):Prop:=L=[]∨∃ b off,a=some ⟨b,off,none⟩∧∀ j (h:j<L.length),w.cell? ⟨b,off+j*3,none⟩=some (.int .i64 L[j].t)∧w.cell? ⟨b,off+j*3+1,none⟩=some (.int .i64 L[j].n)∧w.cell? ⟨b,off+j*3+2,none⟩=some (.string ⟨L[j].b.toArray⟩)
theorem cell_below {w w':World}{a:Addr}{v:Value}(h:w.cell? a=some v)(hb:Below w.heap.size w w'):w'.cell? a=some v:=(hb.cell (World.block_lt_of_cell? _ _ h)).trans h
theorem Vs.keep {w w':World}{a:Option Addr}{L:List Val}(h:Vs w a L)(hb:Below w.heap.size w w'):Vs w' a L:=by
 rcases h with h | ⟨b,off,e,hc⟩
 ·exact .inl h
 ·exact .inr ⟨b,off,e,fun j hj=>⟨cell_below (hc j hj).1 hb,cell_below (hc j hj).2.1 hb,cell_below (hc j hj).2.2 hb⟩⟩
def Fair (L:List Val):Prop:=∀ x ∈ L,x.b.length≤9223372036854775807
end Go.Proofs.YtpmlnkjamhelnaaGreat
