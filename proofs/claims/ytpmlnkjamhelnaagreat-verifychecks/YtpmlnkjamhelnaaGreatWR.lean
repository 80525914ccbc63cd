/- What the document's own functions of layer 1 come to: Number, Sum and Frame; and the law's helpers Lent and Stays. -/
import Derived.Test.YtpmlnkjamhelnaaGreatPlain
import Derived.Test.YtpmlnkjamhelnaaGreatCrc
import Derived.Test.YtpmlnkjamhelnaaGreatOff
namespace Go.Proofs.YtpmlnkjamhelnaaGreat
open Go.RowKit
set_option maxHeartbeats 400000 in
theorem lent_any (ao:Option Addr)(len cap:Nat)(bs:List UInt8)(w:World)(hl:bs.length=len)(hm:len≤140737488351232)(hb:Bs w ao bs) :
  Calls Tryz.prog 5 #[.slice ao len cap] w fun e w'=>∃ g c,e=.returned (.slice (some ⟨g,0,none⟩) len c)∧OwnB w' w.heap.size (.slice (some ⟨g,0,none⟩) (len+2) c) (bs++[77,78])∧Below w.heap.size w w':=by
 have hb1:Below w.heap.size w (w.alloc (.cells #[] 5)):=(Below.refl _ _).alloc (Nat.le_refl _) _
 have hO1:OwnB (w.alloc (.cells #[] 5)) w.heap.size (.slice (some ⟨w.heap.size,0,none⟩) 0 0) []:=World.ownsRow_lit w #[] 0 (Nat.le_refl _) (Nat.zero_le _) rfl
 have hS:=src_bs (P:=Tryz.prog) _ Tryz.underlying22 (hb.keep (below_keep hb1)) cap
 rw [hl] at hS
 go_enter Tryz.func5,Tryz.ntmps5
 go_wp2_with (at_builtin;go_loud (refine wpList_app _ rfl (.tmp 4) (.tmp 5) _ _ rfl elem_u8 w.heap.size _ _ rfl hO1 _ rfl (bs.map bv) hS (by simp only [List.length_map,hl];unfold maxLen;simp;omega) (by simp only [List.length_map,hl];simp;omega) (by simp) ?_))
 intro v2 w2 ho2 hs2
 have hO2:OwnB w2 w.heap.size v2 bs:=by simpa [OwnB] using ho2
 have hb2:Below w.heap.size w w2:=hb1.trans (hs2.below (by simp) (fun k h=>(hO1.lt k h).1))
 clear ho2 hs2 hO1 hb1 hS
 go_wp2_with (at_builtin;go_loud (refine wpList_app _ rfl (.tmp 7) (.tmp 8) _ _ rfl elem_u8 w.heap.size _ _ rfl (Own.alloc hO2 _) _ rfl [bv 77,bv 78] (Src.ofSlice _ Tryz.underlying22 ⟨w2.heap.size,0,none⟩ 2 2 _ rfl (World.news_of_block (heap_alloc_new w2 _)) (by intro u hu;simp at hu;rcases hu with rfl | rfl <;> rfl)) (by simp only [List.length_map,hl];unfold maxLen;simp;omega) (by simp only [List.length_map,hl];simp;omega) (by have:=hb2.size;simp;omega) ?_))
 intro v3 w3 ho3 hs3
 have hO3:OwnB w3 w.heap.size v3 (bs++[77,78]):=by unfold OwnB;rw [List.map_append];exact ho3
 have hb3:Below w.heap.size w w3:=(hb2.alloc hb2.size _).trans (hs3.below (by have:=hb2.size;simp;omega) (fun k h=>(hO2.lt k h).1))
 obtain ⟨g,c,rfl,_,_⟩:=World.ownsRow.form hO3 (by simp)
 have e:((bs++[77,78]).map bv).length=len+2:=by simp [hl]
 have hcap:len+2≤c:=by
  rcases hO3.2 with ⟨h,_⟩ | ⟨g',cap',cur,h,_,_,hle,_⟩
  ·cases h
  ·cases h;omega
 rw [e] at hO3 ⊢
 clear ho3 hs3 hO2 hb2
 go_wp2
 go_ret
 exact ⟨g,c,rfl,hO3,hb3⟩
end Go.Proofs.YtpmlnkjamhelnaaGreat
