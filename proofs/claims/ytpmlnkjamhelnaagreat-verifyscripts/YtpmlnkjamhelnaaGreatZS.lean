/- Layer 10: Fits of any script and any values, the program's and the document's. -/
import Derived.Test.YtpmlnkjamhelnaaGreatZG
import Derived.Test.YtpmlnkjamhelnaaGreatCTg
import Derived.Test.YtpmlnkjamhelnaaGreatPA
namespace Go.Proofs.YtpmlnkjamhelnaaGreat
open Go.RowKit
def fit10 (s:Scr)(L:List Val):Bool:=s.right && fitsB L (match s.funcs with | f :: _=>f.p | []=>[])
set_option maxRecDepth 100000 in
set_option maxHeartbeats 1000000 in
theorem fits10_any (s:Scr)(V0 V1:Value)(a:Option Addr)(n c:Nat)(L:List Val)(hn:L.length=n)(w:World)(hs:ScIs w.cell? s V0 V1)(hsf:s.fits)(hV:Vs w a L)(hF:Fair L)(hl:n≤140737488351232):Calls Tryz.prog 16 #[.agg #[V0,V1],.slice a n c] w fun e w'=>e=.returned (.bool (fit10 s L))∧Below w.heap.size w w':=by
 obtain ⟨⟨a0,c0,rfl,n0⟩,⟨a1,c1,rfl,n1⟩⟩:=hs
 have hs:ScIs w.cell? s (.slice a0 s.consts.length c0) (.slice a1 s.funcs.length c1):=⟨⟨a0,c0,rfl,n0⟩,⟨a1,c1,rfl,n1⟩⟩
 have b1:=(Below.refl _ w).alloc (Nat.le_refl _) (.cells #[.slice a0 s.consts.length c0,.slice a1 s.funcs.length c1] 27)
 have e0:=heap_alloc_new w (.cells #[.slice a0 s.consts.length c0,.slice a1 s.funcs.length c1] 27)
 have HR0:Hid (Calls Tryz.prog 30 #[.agg #[.slice a0 s.consts.length c0,.slice a1 s.funcs.length c1]] (w.alloc (.cells #[.slice a0 s.consts.length c0,.slice a1 s.funcs.length c1] 27)) fun e W1=>e=.returned (.bool s.right)∧W1.cell? ⟨w.heap.size,1,none⟩=some (.slice a1 s.funcs.length c1)∧Hid (Below w.heap.size w W1)):=hid9 ((right4_any s _ _ _ (hs.keep (below_keep b1)) hsf).mono fun e W1 ⟨h1,h2⟩=>⟨h1,Lib.cell_of_heap ((h2.block _ (heap_lt e0)).trans e0) 1,hid9 (b1.trans (h2.mono b1.size))⟩)
 by_cases hr:s.right=true
 ·obtain ⟨r1,r2,_⟩:=right_calls hr
  obtain ⟨f0,fs,hfs⟩:∃ f0 fs,s.funcs=f0 :: fs:=by
   cases h:s.funcs with
   | nil=>rw [h] at r2;simp at r2
   | cons f fs=>exact ⟨f,fs,rfl⟩
  have HP:Hid (fit10 s L=fitsB L f0.p):=hid9 (by rw [fit10,hr,hfs];rfl)
  obtain ⟨fb,fo,pa,pc,rfl,p0,pn⟩:∃ fb fo pa pc,a1=some ⟨fb,fo,none⟩∧w.cell? ⟨fb,fo,none⟩=some (.slice pa f0.p.length pc)∧NsAt w.cell? pa f0.p:=by
   rcases n1 with h | ⟨fb,fo,e,h⟩
   ·rw [hfs] at h;cases h
   ·obtain ⟨v0,v1,v2,v3,q0,_,_,_,⟨pa,pc,q4,q5⟩,_⟩:=h 0 (by omega)
    have e2:s.funcs[0]'(by omega)=f0:=by simp [hfs]
    rw [e2] at q4 q5
    subst q4
    exact ⟨fb,fo,pa,pc,e,by simpa using q0,q5⟩
  rw [hr] at HR0
  have HR:Hid (Calls Tryz.prog 30 #[.agg #[.slice a0 s.consts.length c0,.slice (some ⟨fb,fo,none⟩) s.funcs.length c1]] (w.alloc (.cells #[.slice a0 s.consts.length c0,.slice (some ⟨fb,fo,none⟩) s.funcs.length c1] 27)) fun e W1=>e=.returned (.bool true)∧W1.cell? ⟨w.heap.size,1,none⟩=some (.slice (some ⟨fb,fo,none⟩) s.funcs.length c1)∧W1.cell? ⟨fb,fo,none⟩=some (.slice pa f0.p.length pc)∧Hid (Calls Tryz.prog 31 #[.slice a n c,.slice pa f0.p.length pc] W1 fun e W2=>e=.returned (.bool (fitsB L f0.p))∧Hid (Below w.heap.size w W2))):=hid9 (HR0.out.mono fun e W1 ⟨h1,h2,h3⟩=>by
   have hk:=below_keep h3.out
   exact ⟨h1,h2,hk _ _ p0,hid9 ((fits_any a n c L hn pa f0.p.length pc f0.p rfl W1 (hV.keep h3.out) (pn.keep hk) hF hl).mono fun e W2 ⟨h4,h5⟩=>⟨h4,hid9 (h3.out.trans (h5.mono h3.out.size))⟩)⟩)
  have hfl:(0:Int)<s.funcs.length:=by omega
  rw [HP.out]
  generalize fitsB L f0.p=R at *
  generalize f0.p.length=pl at *
  generalize s.consts.length=cl at *
  generalize s.funcs.length=fl at *
  clear hs n0 n1 b1 e0 HR0 hV hF pn hfs r1 r2 hsf HP p0
  go_enter Tryz.func16,Tryz.ntmps16
  go_wp2_with (first
   | (go_at_call 30;refine HR.out.mono ?_;clear HR;rintro e W1 ⟨rfl,x1,p0,HB⟩)
   | (go_at_call 31;refine HB.out.mono ?_;clear HB;rintro e W2 ⟨rfl,HB⟩)
   | fail)
  all_goals first | (go_ret;exact ⟨rfl,HB.out⟩)
 ·have hr':s.right=false:=by simpa using hr
  have HP:Hid (fit10 s L=false):=hid9 (by rw [fit10,hr'];rfl)
  rw [hr'] at HR0
  rw [HP.out]
  generalize s.consts.length=cl at *
  generalize s.funcs.length=fl at *
  clear hs n0 n1 b1 e0 hV hF HP hr hr' hsf
  go_enter Tryz.func16,Tryz.ntmps16
  go_wp2_with (first
   | (go_at_call 30;refine HR0.out.mono ?_;clear HR0;rintro e W1 ⟨rfl,x1,HB⟩)
   | fail)
  all_goals first | (go_ret;exact ⟨rfl,HB.out⟩)
set_option maxRecDepth 100000 in
set_option maxHeartbeats 1000000 in
theorem rfits10_any (s:Scr)(V0 V1:Value)(a:Option Addr)(n c:Nat)(L:List Val)(hn:L.length=n)(w:World)(hs:ScIs w.cell? s V0 V1)(hsf:s.fits)(hI64:∀ f ∈ s.funcs,∀ x ∈ f.code,-9223372036854775808≤x.2∧x.2≤9223372036854775807)(hV:Vs w a L)(hF:Fair L)(hl:n≤140737488351232):Calls Tryz.prog 17 #[.agg #[V0,V1],.slice a n c] w fun e w'=>e=.returned (.bool (fit10 s L))∧Below w.heap.size w w':=by
 obtain ⟨⟨a0,c0,rfl,n0⟩,⟨a1,c1,rfl,n1⟩⟩:=hs
 have hs:ScIs w.cell? s (.slice a0 s.consts.length c0) (.slice a1 s.funcs.length c1):=⟨⟨a0,c0,rfl,n0⟩,⟨a1,c1,rfl,n1⟩⟩
 have b1:=(Below.refl _ w).alloc (Nat.le_refl _) (.cells #[.slice a0 s.consts.length c0,.slice a1 s.funcs.length c1] 27)
 have e0:=heap_alloc_new w (.cells #[.slice a0 s.consts.length c0,.slice a1 s.funcs.length c1] 27)
 have HR0:Hid (Calls Tryz.prog 24 #[.agg #[.slice a0 s.consts.length c0,.slice a1 s.funcs.length c1]] (w.alloc (.cells #[.slice a0 s.consts.length c0,.slice a1 s.funcs.length c1] 27)) fun e W1=>e=.returned (.bool s.right)∧W1.cell? ⟨w.heap.size,1,none⟩=some (.slice a1 s.funcs.length c1)∧Hid (Below w.heap.size w W1)):=hid9 ((rright4_any s _ _ _ (hs.keep (below_keep b1)) hsf hI64).mono fun e W1 ⟨h1,h2⟩=>⟨h1,Lib.cell_of_heap ((h2.block _ (heap_lt e0)).trans e0) 1,hid9 (b1.trans (h2.mono b1.size))⟩)
 by_cases hr:s.right=true
 ·obtain ⟨r1,r2,_⟩:=right_calls hr
  obtain ⟨f0,fs,hfs⟩:∃ f0 fs,s.funcs=f0 :: fs:=by
   cases h:s.funcs with
   | nil=>rw [h] at r2;simp at r2
   | cons f fs=>exact ⟨f,fs,rfl⟩
  have HP:Hid (fit10 s L=fitsB L f0.p):=hid9 (by rw [fit10,hr,hfs];rfl)
  obtain ⟨fb,fo,pa,pc,rfl,p0,pn⟩:∃ fb fo pa pc,a1=some ⟨fb,fo,none⟩∧w.cell? ⟨fb,fo,none⟩=some (.slice pa f0.p.length pc)∧NsAt w.cell? pa f0.p:=by
   rcases n1 with h | ⟨fb,fo,e,h⟩
   ·rw [hfs] at h;cases h
   ·obtain ⟨v0,v1,v2,v3,q0,_,_,_,⟨pa,pc,q4,q5⟩,_⟩:=h 0 (by omega)
    have e2:s.funcs[0]'(by omega)=f0:=by simp [hfs]
    rw [e2] at q4 q5
    subst q4
    exact ⟨fb,fo,pa,pc,e,by simpa using q0,q5⟩
  rw [hr] at HR0
  have HR:Hid (Calls Tryz.prog 24 #[.agg #[.slice a0 s.consts.length c0,.slice (some ⟨fb,fo,none⟩) s.funcs.length c1]] (w.alloc (.cells #[.slice a0 s.consts.length c0,.slice (some ⟨fb,fo,none⟩) s.funcs.length c1] 27)) fun e W1=>e=.returned (.bool true)∧W1.cell? ⟨w.heap.size,1,none⟩=some (.slice (some ⟨fb,fo,none⟩) s.funcs.length c1)∧W1.cell? ⟨fb,fo,none⟩=some (.slice pa f0.p.length pc)∧Hid (Calls Tryz.prog 32 #[.slice a n c,.slice pa f0.p.length pc] W1 fun e W2=>e=.returned (.bool (fitsB L f0.p))∧Hid (Below w.heap.size w W2))):=hid9 (HR0.out.mono fun e W1 ⟨h1,h2,h3⟩=>by
   have hk:=below_keep h3.out
   exact ⟨h1,h2,hk _ _ p0,hid9 ((rfits_any a n c L hn pa f0.p.length pc f0.p rfl W1 (hV.keep h3.out) (pn.keep hk) hF hl).mono fun e W2 ⟨h4,h5⟩=>⟨h4,hid9 (h3.out.trans (h5.mono h3.out.size))⟩)⟩)
  have hfl:(0:Int)<s.funcs.length:=by omega
  rw [HP.out]
  generalize fitsB L f0.p=R at *
  generalize f0.p.length=pl at *
  generalize s.consts.length=cl at *
  generalize s.funcs.length=fl at *
  clear hs n0 n1 b1 e0 HR0 hV hF pn hfs r1 r2 hsf HP p0
  go_enter Tryz.func17,Tryz.ntmps17
  go_wp2_with (first
   | (go_at_call 24;refine HR.out.mono ?_;clear HR;rintro e W1 ⟨rfl,x1,p0,HB⟩)
   | (go_at_call 32;refine HB.out.mono ?_;clear HB;rintro e W2 ⟨rfl,HB⟩)
   | fail)
  all_goals first | (go_ret;exact ⟨rfl,HB.out⟩)
 ·have hr':s.right=false:=by simpa using hr
  have HP:Hid (fit10 s L=false):=hid9 (by rw [fit10,hr'];rfl)
  rw [hr'] at HR0
  rw [HP.out]
  generalize s.consts.length=cl at *
  generalize s.funcs.length=fl at *
  clear hs n0 n1 b1 e0 hV hF HP hr hr' hsf
  go_enter Tryz.func17,Tryz.ntmps17
  go_wp2_with (first
   | (go_at_call 24;refine HR0.out.mono ?_;clear HR0;rintro e W1 ⟨rfl,x1,HB⟩)
   | fail)
  all_goals first | (go_ret;exact ⟨rfl,HB.out⟩)
end Go.Proofs.YtpmlnkjamhelnaaGreat
