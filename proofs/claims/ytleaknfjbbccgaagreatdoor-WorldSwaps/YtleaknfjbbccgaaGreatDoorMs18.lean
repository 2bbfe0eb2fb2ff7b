/- Laid together. -/
import Derived.Deep.LoopGhost
import Derived.Deep.Cut
import Derived.Laws.Rows
import Derived.Laws.ResultCell
import Derived.Deep.RegionHeld3
import Derived.Test.YtleaknfjbbccgaaGreatDoorMs00
import Derived.Test.YtleaknfjbbccgaaGreatDoorMs03
import Derived.Test.YtleaknfjbbccgaaGreatDoorMs09
import Derived.Test.YtleaknfjbbccgaaGreatDoorMs16
import Derived.Test.YtleaknfjbbccgaaGreatDoorMs17
namespace Go.Proofs.YtleaknfjbbccgaaGreatDoor
open Plain
set_option maxHeartbeats 16000000
set_option maxRecDepth 100000
open Go.RowKit
namespace Plain
theorem yB9 (a n:Int) (hn:0<n):-n<a.tmod n/\a.tmod n<n:=by
 have h1:=Int.tmod_lt_of_pos a hn;have h2:=Int.tmod_lt_of_pos (-a) hn;rw [Int.neg_tmod] at h2;omega
theorem xL2 (a n:Int) (hn:0<n) (h:a.tmod n<0):a.tmod n+n=a%n:=by
 have e:=Int.tmod_add_mul_tdiv a n;have hb:=yB9 a n hn;have e2:a=(a.tmod n+n)+n*(a.tdiv n-1):=by rw [Int.mul_sub,Int.mul_one];omega
 have h3:a%n=(a.tmod n+n)%n:=by
  conv=>lhs;rw [e2]
  exact Int.add_mul_emod_self_left _ _ _
 rw [h3,Int.emod_eq_of_lt (by omega) (by omega)]
theorem xL3 (a n:Int) (hn:0<n) (h:¬ a.tmod n<0):a.tmod n=a%n:=by
 have e:=Int.tmod_add_mul_tdiv a n;have hb:=yB9 a n hn;have h3:a%n=(a.tmod n)%n:=by
  conv=>lhs;rw [<- e]
  exact Int.add_mul_emod_self_left _ _ _
 rw [h3,Int.emod_eq_of_lt (by omega) (by omega)]
end Plain
theorem xD (a n:Int) (_h1:-9223372036854775808<=a) (_h2:a<=9223372036854775807) (hn:0<n) (hn2:n<=1152921504606846976) (w:World) :
  Calls Tryz.prog 9 #[.int .i64 a,.int .i64 n] w fun e w'=>e=.returned (.int .i64 (a%n))/\w'=w:=by
 have hb:=yB9 a n hn;by_cases h:a.tmod n<0
 ·have H:=hid (xL2 a n hn h)
  go_enter Tryz.func9,Tryz.ntmps9
  go_wp2;go_ret
  exact ⟨by rw [<- H.out];rfl,rfl⟩
 ·have H:=hid (xL3 a n hn h)
  go_enter Tryz.func9,Tryz.ntmps9
  go_wp2;go_ret
  exact ⟨by rw [<- H.out];rfl,rfl⟩
open Go.Shelf
namespace Plain
def zC8 (l:List Int):List Int:=(List.range 3).map fun i=>if i<l.length then (l.getD i 0)%16 else [15,6,9].getD i 0
theorem kX (l:List Int):(zC8 l).length=3:=by simp [zC8]
theorem xL4 (l:List Int) {i:Nat} (h:i<3):(zC8 l).getD i 0=if i<l.length then (l.getD i 0)%16 else [15,6,9].getD i 0:=by
 simp [zC8,List.getD_eq_getElem?_getD,h]
theorem yG9 (l:List Int):∀ x,x∈zC8 l->0<=x/\x<16:=by
 intro x hx;obtain ⟨i,hi,rfl⟩:=zZ.1 hx;have hi3:=zY.1 hi;split
 ·omega
 ·have:i=0\/i=1\/i=2:=by omega
  rcases this with rfl|rfl|rfl<;>decide
def labK (l:List Int) (k:Nat) (i:Nat):Int:=if i<k/\i<l.length then (l.getD i 0)%16 else [15,6,9].getD i 0
end Plain
def yC0 (w:World) (p:Option Addr) (l:List Int):Prop :=
 0<l.length->∃ b off,p=some ⟨b,off,none⟩/\b<w.heap.size/\∀ j,j<l.length->w.cell? ⟨b,off+j,none⟩=some (.int .i64 (l.getD j 0))
theorem xA1 (l:List Int) {k:Nat} (h:k<l.length):l.getD k 0∈l:=by
 rw [zA,zB h];exact zH _
def rowV (f:Nat->Int) (j:Nat):Value:=.int .i64 (f j)
theorem xL5 (p:Option Addr) (n cap:Nat) (l:List Int) (_hbig:n<=9223372036854775807) (hn:l.length=n) (hwf:∀ x,x∈l->-9223372036854775808<=x/\x<=9223372036854775807) (w:World) (hp:yC0 w p l) :
  Calls Tryz.prog 24 #[.slice p n cap] w fun e w'=>e=.returned (.slice (some ⟨w.heap.size,0,none⟩) 3 3)/\w'.rowIs w.heap.size 3 3 (rowV (jM (zC8 l)))/\Below w.heap.size w w':=by
 have HP:=hid hp;have HN:=hid hn;have HW:=hid hwf;have R0:=hid (show (w.alloc (.cells #[.int .i64 15,.int .i64 6,.int .i64 9] 3)).rowIs w.heap.size 3 3 (rowV (labK l 0)) by
  refine yK _ _ 3 _ fun i hi=>?_;have hi4:i<3:=hi;have:i=0\/i=1\/i=2:=by omega
  rcases this with rfl|rfl|rfl<;>simp [rowV,labK])
 have B0:=hid (show Below w.heap.size w (w.alloc (.cells #[.int .i64 15,.int .i64 6,.int .i64 9] 3)) from yO.alloc yN _);have HF:=hid (fun (wx:World) (k:Nat) (hk:3<=k\/n<=k) (h:wx.rowIs w.heap.size 3 3 (rowV (labK l k)))=>show wx.rowIs w.heap.size 3 3 (rowV (jM (zC8 l))) from h.congr fun j hj=>by
  unfold rowV labK jM;rw [xL4 l hj];by_cases hjl:j<l.length
  ·rw [if_pos ⟨by omega,hjl⟩,if_pos hjl]
  ·rw [if_neg (fun x=>hjl x.2),if_neg hjl])
 clear hp hn hwf;go_enter Tryz.func24,Tryz.ntmps24
 go_wp2;obtain ⟨W1,hW1⟩:∃ W1,W1=w.alloc (.cells #[.int .i64 15,.int .i64 6,.int .i64 9] 3):=⟨_,rfl⟩;rw [<- hW1] at R0 B0 ⊢;clear hW1;obtain ⟨B,hB⟩:∃ B,B=w.heap.size:=⟨_,rfl⟩;rw [<- hB] at R0 B0 HF ⊢;have HBB:=hid hB;clear hB
 go_loopg [4] 3 (fun gg s4 wx=>∃ k:Nat,k<=3/\k<=n/\3-k<=gg/\s4=.int .i64 k/\Aside (wx.rowIs B 3 3 (rowV (labK l k)))/\Aside (Below B w wx))
 case atStart=>exact ⟨0,zG _,zG _,by omega,rfl,(show Aside _ from R0.out),(show Aside _ from B0.out)⟩
 case round =>
  obtain ⟨k,hk,hkn,hg,rfl,RK,BK⟩:=hrel;clear R0 B0;by_cases hlt:k<3
  ·have hltz:(k:Int)<3:=by omega
   by_cases hltn:k<n
   ·have hltnz:(k:Int)<(n:Int):=by omega
    have hkl:k<l.length:=by rw [HN.out];exact hltn
    obtain ⟨b,off,rfl,hb,hc⟩:=HP.out (by omega);rw [<- HBB.out] at hb;have c0:=(BK.out.cell (p:=⟨b,off+k,none⟩) hb).trans (hc k hkl);have hin:=HW.out _ (xA1 l hkl);have y0:=RK.out.cell hlt;have z0:=RK.out.frozen k;unfold rowV at y0;have R2:=hid (RK.out.set k (.int .i64 (l.getD k 0%16)));have HK:=hid (show ∀ j,j<3->(if j=k then Value.int .i64 (l.getD k 0%16) else rowV (labK l k) j)=rowV (labK l (k+1)) j from fun j hj=>by
     by_cases e:j=k
     ·subst e
      rw [if_pos rfl];unfold rowV labK;rw [if_pos ⟨by omega,hkl⟩]
     ·rw [if_neg e]
      unfold rowV labK;by_cases h1:j<k/\j<l.length
      ·rw [if_pos h1,if_pos ⟨by omega,h1.2⟩]
      ·rw [if_neg h1,if_neg (fun x=>h1 ⟨by omega,x.2⟩)])
    generalize l.getD k 0=x at c0 hin R2 HK;have K0:=fun W=>xD x 16 hin.1 hin.2 (by omega) (by omega) W;clear hin hc;generalize x%16=xm at *;have hne:¬ b=B:=by omega
    go_wp2_with fail
    refine (K0 _).mono ?_;rintro e wx ⟨rfl,hx⟩;have hy:=hx.symm;clear hx K0;subst hy;go_wp2
    go_roundg (3-(k+1))
    case measure=>omega
    case rel=>exact ⟨k+1,by omega,by omega,by omega,by go_num,(show Aside _ from R2.out.congr HK.out),(show Aside _ from BK.out.setCell (p:=⟨B,k,none⟩) (Nat.le_refl B) _)⟩
   ·have hltnz:¬ (k:Int)<(n:Int):=by omega
    have F:=hid (HF.out wr k (.inr (by omega)) RK.out);have FB:=hid BK.out;clear RK BK;go_wp2;go_ret
    exact ⟨by rw [<- HBB.out];rfl,by rw [<- HBB.out];exact F.out,by rw [<- HBB.out];exact FB.out⟩
  ·have hltz:¬ (k:Int)<3:=by omega
   have F:=hid (HF.out wr k (.inl (by omega)) RK.out);have FB:=hid BK.out;clear RK BK;go_wp2;go_ret
   exact ⟨by rw [<- HBB.out];rfl,by rw [<- HBB.out];exact F.out,by rw [<- HBB.out];exact FB.out⟩
def putC (W:World) (G:Nat) (a:Int) (x:Value) (b:Int) (y:Value) (c:Int):World :=
 ((((W.setCell ⟨G,0,none⟩ (.int .i64 a)).setCell ⟨G,1,none⟩ x).setCell ⟨G,2,none⟩ (.int .i64 b)).setCell ⟨G,3,none⟩ y).setCell ⟨G,4,none⟩ (.int .i64 c)
theorem xY3 {W:World} {G:Nat} {c0 c1 c2 c3 c4:Value} (h:W.heap[G]?=some (.cells #[c0,c1,c2,c3,c4] 25 (0,0))) (a:Int) (x:Value) (b:Int) (y:Value) (c:Int) :
  (putC W G a x b y c).heap[G]?=some (.cells #[.int .i64 a,x,.int .i64 b,y,.int .i64 c] 25 (0,0)):=by
 have h1:=heap_setCell_same W G 0 _ 25 (.int .i64 a) h;have h2:=heap_setCell_same _ G 1 _ 25 x h1;have h3:=heap_setCell_same _ G 2 _ 25 (.int .i64 b) h2;have h4:=heap_setCell_same _ G 3 _ 25 y h3;exact heap_setCell_same _ G 4 _ 25 (.int .i64 c) h4
theorem zQ3 (W:World) (G:Nat) (a:Int) (x:Value) (b:Int) (y:Value) (c:Int) {k:Nat} (hk:k≠G):(putC W G a x b y c).heap[k]?=W.heap[k]?:=by
 unfold putC;rw [RowKit.Below.heap_setCell _ _ _ _ hk,RowKit.Below.heap_setCell _ _ _ _ hk,RowKit.Below.heap_setCell _ _ _ _ hk,RowKit.Below.heap_setCell _ _ _ _ hk,RowKit.Below.heap_setCell _ _ _ _ hk]
theorem yL7 {w W:World} {G:Nat} (h:Below w.heap.size w W) (hG:w.heap.size<=G) (a:Int) (x:Value) (b:Int) (y:Value) (c:Int):Below w.heap.size w (putC W G a x b y c) :=
 ((((h.setCell (p:=⟨G,0,none⟩) hG _).setCell (p:=⟨G,1,none⟩) hG _).setCell (p:=⟨G,2,none⟩) hG _).setCell (p:=⟨G,3,none⟩) hG _).setCell (p:=⟨G,4,none⟩) hG _
theorem zI2 (W:World) (G:Nat) (a:Int) (x:Value) (b:Int) (y:Value) (c:Int):(putC W G a x b y c).heap.size=W.heap.size:=by simp [putC,World.setCell]
theorem yL8 {fn:Func} {p:Tmp} {Q:Ending->World->Prop} {a:Act} {w:World} (h:fn.results=#[.cell p 25]) (G:Nat) (c:Cf) (lv mv:Value) (hp:a.tmps.getD p undef=.pointer (some ⟨G,0,none⟩))
  (hg:w.heap[G]?=some (.cells #[.int .i64 c.n,lv,.int .i64 c.t,mv,.int .i64 c.cap] 25 (0,0))) (hd:a.defers=[]) (hR:Q (.returned (cfV c lv mv)) w):bodyPost Tryz.prog fn Q .ret a w :=
 bodyPost_ret (results_cell_row (P:=Tryz.prog) h _ _ G 25 _ (0,0) _ hp hg Tryz.underlying25 rfl (by kernel_rfl)) hd hR
def Plain.cfG (l:List Int) (t mi mo:Int):Cf:=⟨4,zC8 l,1+t%4,[mi%60,(mi.tdiv 60)%60],mo%20⟩
theorem Plain.cfG_may (l:List Int) (t mi mo:Int):mayC (cfG l t mi mo)=true:=by
 unfold mayC zZ9 cfG;dsimp only;rw [kX];have h:(zC8 l).all (labB 4)=true:=by
  rw [zT];intro x hx;have:=yG9 l x hx;unfold labB;simp only [Bool.and_eq_true,decide_eq_true_eq];exact ⟨this.1,this.2⟩
 rw [h];have a1:inR (1+t%4) 1 8=true:=(kS _ _ _).2 (by omega);have a2:inR (mo%20) 0 1048576=true:=(kS _ _ _).2 (by omega);have a3:([mi%60,(mi.tdiv 60)%60].all cntB)=true:=by
  simp only [List.all_cons,List.all_nil,Bool.and_true,Bool.and_eq_true];exact ⟨(kS _ _ _).2 (by omega),(kS _ _ _).2 (by omega)⟩
 rw [a1,a2,a3];rfl
theorem xL6 (t mi mo:Int) (ht:-9223372036854775808<=t/\t<=9223372036854775807) (hmi:-9223372036854775808<=mi/\mi<=9223372036854775807) (hmo:-9223372036854775808<=mo/\mo<=9223372036854775807) (p:Option Addr) (n cap:Nat) (l:List Int) (hbig:n<=9223372036854775807) (hn:l.length=n) (hwf:∀ x,x∈l->-9223372036854775808<=x/\x<=9223372036854775807) (w:World) (hp:yC0 w p l) :
  Calls Tryz.prog 8 #[.slice p n cap,.int .i64 t,.int .i64 mi,.int .i64 mo] w fun e w'=>∃ lp lc mp mc,e=.returned (cfV (cfG l t mi mo) (.slice lp 3 lc) (.slice mp 2 mc))/\CfI w' (cfG l t mi mo) (.slice lp 3 lc) (.slice mp 2 mc)/\Below w.heap.size w w'/\∃ T M,lp=some ⟨T,0,none⟩/\mp=some ⟨M,0,none⟩/\lc=3/\w.heap.size<=T/\T<M/\M<w'.heap.size/\w'.rowIs T 3 3 (rowV (jM (zC8 l))):=by
 have P1:=hid (fun W=>xD t 4 ht.1 ht.2 (by decide) (by decide) W);have P2:=hid (fun W=>xD mi 60 hmi.1 hmi.2 (by decide) (by decide) W);have hq:-9223372036854775808<=mi.tdiv 60/\mi.tdiv 60<=9223372036854775807:=by
  have h60:Int.sign 60=1:=rfl;rw [Int.tdiv_eq_ediv];split<;>omega
 have P3:=hid (fun W=>xD (mi.tdiv 60) 60 hq.1 hq.2 (by decide) (by decide) W);have P4:=hid (fun W=>xD mo 20 hmo.1 hmo.2 (by decide) (by decide) W);obtain ⟨x1,hx1⟩:∃ x1,x1=mi%60:=⟨_,rfl⟩;obtain ⟨x2,hx2⟩:∃ x2,x2=(mi.tdiv 60)%60:=⟨_,rfl⟩;obtain ⟨x3,hx3⟩:∃ x3,x3=mo%20:=⟨_,rfl⟩;obtain ⟨x0,hx0⟩:∃ x0,x0=t%4:=⟨_,rfl⟩;have hx4:0<=x0/\x0<4:=by omega
 rw [<- hx0] at P1;rw [<- hx1] at P2;rw [<- hx2] at P3;rw [<- hx3] at P4;have HX:=hid (And.intro hx0 (And.intro hx1 (And.intro hx2 hx3)));clear hx0 hx1 hx2 hx3;obtain ⟨Z,hZ⟩:∃ Z,Z=w.alloc (.cells #[.int .i64 0,.slice none 0 0,.int .i64 0,.slice none 0 0,.int .i64 0] 25):=⟨_,rfl⟩;have bZ:Below w.heap.size w Z:=by rw [hZ];exact yO.alloc yN _
 have hG:Z.heap[w.heap.size]?=some (.cells #[.int .i64 0,.slice none 0 0,.int .i64 0,.slice none 0 0,.int .i64 0] 25 (0,0)):=by rw [hZ];exact yF _ _
 have KL:=xL5 p n cap l hbig hn hwf Z (fun h0=>by
  obtain ⟨b,off,rfl,hb,hc⟩:=hp h0;exact ⟨b,off,rfl,zF hb bZ.size,fun j hj=>(bZ.cell (p:=⟨b,off+j,none⟩) hb).trans (hc j hj)⟩)
 have BZ:=hid bZ;have HG:=hid hG;have HZL:=hid (show w.heap.size<Z.heap.size by rw [hZ];simp);have HZ:=hid hZ;clear hp hwf bZ hG hZ;go_enter Tryz.func8,Tryz.ntmps8
 go_upto_region 1 with fail
 rw [<- HZ.out];clear HZ
 go_wp2_with fail
 refine KL.mono ?_;rintro e W1 ⟨rfl,r1,b1⟩;have R1:=hid r1;have B1:=hid (BZ.out.trans (b1.mono BZ.out.size));have G1:=hid ((b1.block w.heap.size HZL.out).trans HG.out);have HS1:=hid (show Z.heap.size<W1.heap.size from r1.lt);clear KL r1 b1 HG
 go_wp2_with fail
 refine (P1.out _).mono ?_;rintro e w9 ⟨rfl,hx⟩;have hy:=hx.symm;clear hx P1;subst hy
 go_wp2_with fail
 refine (P2.out _).mono ?_;rintro e w9 ⟨rfl,hx⟩;have hy:=hx.symm;clear hx P2;subst hy
 go_wp2_with fail
 refine (P3.out _).mono ?_;rintro e w9 ⟨rfl,hx⟩;have hy:=hx.symm;clear hx P3;subst hy
 go_wp2_with fail
 obtain ⟨W2,hW2⟩:∃ W2,W2=W1.alloc (.cells #[.int .i64 x1,.int .i64 x2] 3):=⟨_,rfl⟩;have bb:Below W1.heap.size W1 W2:=by rw [hW2];exact yO.alloc yN _
 have m0:W2.cell? ⟨W1.heap.size,0,none⟩=some (.int .i64 x1):=by rw [hW2,zM _ _ _ _ rfl];rfl
 have m1:W2.cell? ⟨W1.heap.size,1,none⟩=some (.int .i64 x2):=by rw [hW2,zM _ _ _ _ rfl];rfl
 have M2:=hid (And.intro m0 m1);have HM2:=hid (show W1.heap.size<W2.heap.size by rw [hW2];simp);rw [<- hW2];have R2:=hid (R1.out.of_block (bb.block _ R1.out.lt));have B2:=hid (B1.out.trans (bb.mono B1.out.size));have G2:=hid ((bb.block w.heap.size (zJ.1 G1.out).1).trans G1.out);clear hW2 bb m0 m1 R1 B1 G1;refine (P4.out _).mono ?_;rintro e w9 ⟨rfl,hx⟩;have hy:=hx.symm;clear hx P4;subst hy;have hcl:∀ j u,(#[Value.int .i64 0,.slice none 0 0,.int .i64 0,.slice none 0 0,.int .i64 0]:Array Value)[j]?=some u->W2.cell? ⟨w.heap.size,j,none⟩=some u:=fun j u hj=>by
  rw [cell_of_row W2 w.heap.size j _ 25 (0,0) G2.out];exact hj
 have k0:=hcl 0 _ rfl;have k1:=hcl 1 _ rfl;have k2:=hcl 2 _ rfl;have k3:=hcl 3 _ rfl;have k4:=hcl 4 _ rfl;have f0:=frozen_of_row W2 w.heap.size 0 _ 25 G2.out;have f1:=frozen_of_row W2 w.heap.size 1 _ 25 G2.out;have f2:=frozen_of_row W2 w.heap.size 2 _ 25 G2.out;have f3:=frozen_of_row W2 w.heap.size 3 _ 25 G2.out;have f4:=frozen_of_row W2 w.heap.size 4 _ 25 G2.out;have hlt:=(zJ.1 G2.out).1;clear hcl;obtain ⟨G,hG⟩:∃ G,G=w.heap.size:=⟨_,rfl⟩;obtain ⟨T,hT⟩:∃ T,T=Z.heap.size:=⟨_,rfl⟩;obtain ⟨M,hM⟩:∃ M,M=W1.heap.size:=⟨_,rfl⟩;rw [<- hG] at k0 k1 k2 k3 k4 f0 f1 f2 f3 f4 hlt G2 ⊢;rw [<- hT] at R2 HS1 ⊢;rw [<- hM] at M2 HM2 ⊢;have HGE:=hid (show w.heap.size<=G/\G<T/\T<M by have h1:=HZL.out;have h2:=HS1.out;omega);clear hG hT hM;go_wp2
 (try simp only [Exit.inBlock,Exit.then])
 change bodyPost Tryz.prog _ _ Exit.ret _ (putC W2 G 4 (.slice (some ⟨T,0,none⟩) 3 3) (1+x0) (.slice (some ⟨M,0,none⟩) 2 2) x3);have hTG:T≠G:=by have:=HGE.out;omega
 have hMG:M≠G:=by have:=HGE.out;omega
 have hTl:T<W2.heap.size:=R2.out.lt;obtain ⟨rfl,rfl,rfl,rfl⟩:=HX.out;refine yL8 rfl G (cfG l t mi mo) (.slice (some ⟨T,0,none⟩) 3 3) (.slice (some ⟨M,0,none⟩) 2 2) rfl (xY3 G2.out _ _ _ _ _) rfl ⟨_,_,_,_,rfl,⟨?_,?_,?_,?_,?_,?_,?_⟩,yL7 B2.out HGE.out.1 _ _ _ _ _,T,M,rfl,rfl,rfl,by have:=HGE.out;omega,HGE.out.2.2,by rw [zI2];exact HM2.out,R2.out.of_block (zQ3 W2 G _ _ _ _ _ hTG)⟩
 ·refine .inr ⟨T,0,3,by show _=Value.slice _ (zC8 l).length _;rw [kX],fun j hj=>?_⟩
  have hj3:j<3:=by have:(zC8 l).length=3:=kX l;show j<3;rw [<- this];exact hj
  rw [Nat.zero_add,World.cell?_of_block (w:=W2) (a:=⟨T,j,none⟩) (zQ3 W2 G _ _ _ _ _ hTG),R2.out.cell hj3];rfl
 ·exact qF (by rw [zI2];exact hTl)
 ·refine .inr ⟨M,0,2,rfl,fun j hj=>?_⟩
  have hj2:j=0\/j=1:=by have:j<2:=hj;omega
  rw [Nat.zero_add,World.cell?_of_block (w:=W2) (a:=⟨M,j,none⟩) (zQ3 W2 G _ _ _ _ _ hMG)];rcases hj2 with rfl|rfl
  ·exact M2.out.1
  ·exact M2.out.2
 ·exact qF (by rw [zI2];exact HM2.out)
 ·intro x hx
  have:=yG9 l x hx;omega
 ·show (zC8 l).length<=_
  rw [kX];decide
 ·show 2<=_
  decide
theorem xL7 (t mi mo:Int) (ht:-9223372036854775808<=t/\t<=9223372036854775807) (hmi:-9223372036854775808<=mi/\mi<=9223372036854775807) (hmo:-9223372036854775808<=mo/\mo<=9223372036854775807) (p:Option Addr) (n cap:Nat) (l:List Int) (hbig:n<=9223372036854775807) (hn:l.length=n) (hwf:∀ x,x∈l->-9223372036854775808<=x/\x<=9223372036854775807) (w:World) (hp:yC0 w p l) :
  Calls Tryz.prog 8 #[.slice p n cap,.int .i64 t,.int .i64 mi,.int .i64 mo] w fun e w'=>∃ lp lc mp mc,e=.returned (cfV (cfG l t mi mo) (.slice lp 3 lc) (.slice mp 2 mc))/\CfI w' (cfG l t mi mo) (.slice lp 3 lc) (.slice mp 2 mc)/\Below w.heap.size w w':=by
 refine (xL6 t mi mo ht hmi hmo p n cap l hbig hn hwf w hp).mono ?_;rintro e w' ⟨lp,lc,mp,mc,h1,h2,h3,_⟩;exact ⟨lp,lc,mp,mc,h1,h2,h3⟩
open Go.Sort
def putX (W:World) (g:Nat) (v:Nat->Value):World:=((((((((W.setCell ⟨g,0,none⟩ (v 0)).setCell ⟨g,1,none⟩ (v 1)).setCell ⟨g,2,none⟩ (v 2)).setCell ⟨g,3,none⟩ (v 3)).setCell ⟨g,4,none⟩ (v 4)).setCell ⟨g,5,none⟩ (v 5)).setCell ⟨g,6,none⟩ (v 6)).setCell ⟨g,7,none⟩ (v 7))
theorem jQ {W:World} {g:Nat} {f:Nat->Value} (h:W.rowIs g 32 8 f) (v:Nat->Value):(putX W g v).rowIs g 32 8 v:=by
 unfold putX;refine ((((((((h.set 0 (v 0)).set 1 (v 1)).set 2 (v 2)).set 3 (v 3)).set 4 (v 4)).set 5 (v 5)).set 6 (v 6)).set 7 (v 7)).congr fun j hj=>?_;have:j=0\/j=1\/j=2\/j=3\/j=4\/j=5\/j=6\/j=7:=by omega
 rcases this with rfl|rfl|rfl|rfl|rfl|rfl|rfl|rfl<;>simp
theorem qJ {B:Nat} {w W:World} (h:Below B w W) {g:Nat} (hg:B<=g) (v:Nat->Value):Below B w (putX W g v):=by
 unfold putX;exact ((((((((h.setCell (p:=⟨g,0,none⟩) hg _).setCell (p:=⟨g,1,none⟩) hg _).setCell (p:=⟨g,2,none⟩) hg _).setCell (p:=⟨g,3,none⟩) hg _).setCell (p:=⟨g,4,none⟩) hg _).setCell (p:=⟨g,5,none⟩) hg _).setCell (p:=⟨g,6,none⟩) hg _).setCell (p:=⟨g,7,none⟩) hg _)
theorem row8X {c:Array Value} {v:Nat->Value} (hs:c.size=8) (h:∀ i,i<8->c[i]?=some (v i)):c=#[v 0,v 1,v 2,v 3,v 4,v 5,v 6,v 7]:=by
 apply Array.ext_getElem?;intro i
 match i with
 | 0=>simpa using h 0 (by omega)
 | 1=>simpa using h 1 (by omega)
 | 2=>simpa using h 2 (by omega)
 | 3=>simpa using h 3 (by omega)
 | 4=>simpa using h 4 (by omega)
 | 5=>simpa using h 5 (by omega)
 | 6=>simpa using h 6 (by omega)
 | 7=>simpa using h 7 (by omega)
 | i+8=>rw [yI (by omega),yI (by simp)]
theorem qK {fn:Func} {p:Tmp} {Q:Ending->World->Prop} {a:Act} {w:World} (h:fn.results=#[.cell p 32]) (G:Nat) (s:Sp) (hp:a.tmps.getD p undef=.pointer (some ⟨G,0,none⟩))
  (hg:w.rowIs G 32 8 (spF s)) (hd:a.defers=[]) (hR:Q (.returned (aggX s)) w):bodyPost Tryz.prog fn Q .ret a w:=by
 obtain ⟨c,hb,hs,hc⟩:=hg;have e:=row8X hs hc;subst e;exact bodyPost_ret (results_cell_row (P:=Tryz.prog) h _ _ G 32 _ (0,0) _ hp hb Tryz.underlying32 rfl (by kernel_rfl)) hd hR
abbrev In64 (x:Int):Prop:=-9223372036854775808<=x/\x<=9223372036854775807
structure InX (d:Sp):Prop where
 kind:In64 d.kind
 who:In64 d.who
 item:In64 d.item
 count:In64 d.count
 life:In64 d.life
 id:In64 d.id
 label:In64 d.label
 key:In64 d.key
abbrev boxD (d:Sp):Obj:=.cells #[.int .i64 d.kind,.int .i64 d.who,.int .i64 d.item,.int .i64 d.count,.int .i64 d.life,.int .i64 d.id,.int .i64 d.label,.int .i64 d.key] 70
structure StoI (w wx:World) (d:Sp) (f:Nat->Value):Prop where
 x:wx.rowIs w.heap.size 70 8 (spF d)
 r:wx.rowIs (w.heap.size+1) 32 8 (fun _=>.int .i64 0)
 t:wx.rowIs (w.heap.size+2) 32 8 f
 be:Below w.heap.size w wx
theorem StoI.set {w wx:World} {d:Sp} {f:Nat->Value} (h:StoI w wx d f) (i:Nat) (v:Value):StoI w (wx.setCell ⟨w.heap.size+2,i,none⟩ v) d (fun j=>if j=i then v else f j) :=
 ⟨h.x.of_block (zE wx ⟨w.heap.size+2,i,none⟩ v _ (fun e=>by have e':w.heap.size=w.heap.size+2:=e;omega)),h.r.of_block (zE wx ⟨w.heap.size+2,i,none⟩ v _ (fun e=>by have e':w.heap.size+1=w.heap.size+2:=e;omega)),h.t.set i v,h.be.setCell (p:=⟨w.heap.size+2,i,none⟩) (by show w.heap.size<=w.heap.size+2;omega) v⟩
theorem StoI.congr {w wx:World} {d:Sp} {f g:Nat->Value} (h:StoI w wx d f) (e:∀ j,j<8->f j=g j):StoI w wx d g:=⟨h.x,h.r,h.t.congr e,h.be⟩
theorem rowD8 (w:World) (d:Sp):(w.alloc (boxD d)).rowIs w.heap.size 70 8 (spF d):=by
 refine yK w _ 70 _ fun j hi=>?_;have hi5:j<8:=hi;have:j=0\/j=1\/j=2\/j=3\/j=4\/j=5\/j=6\/j=7:=by omega
 rcases this with rfl|rfl|rfl|rfl|rfl|rfl|rfl|rfl<;>rfl
theorem qH8 (w:World) (f:Nat->Value):(w.alloc (.cells #[f 0,f 1,f 2,f 3,f 4,f 5,f 6,f 7] 32)).rowIs w.heap.size 32 8 f:=by
 refine yK w _ 32 _ fun j hi=>?_;have hi5:j<8:=hi;have:j=0\/j=1\/j=2\/j=3\/j=4\/j=5\/j=6\/j=7:=by omega
 rcases this with rfl|rfl|rfl|rfl|rfl|rfl|rfl|rfl<;>rfl
theorem StoI.made (w:World) (d:Sp) (f:Nat->Value) (q:Nat):StoI w ((((w.alloc (boxD d)).alloc (.cells #[.int .i64 0,.int .i64 0,.int .i64 0,.int .i64 0,.int .i64 0,.int .i64 0,.int .i64 0,.int .i64 0] 32)).alloc (.cells #[f 0,f 1,f 2,f 3,f 4,f 5,f 6,f 7] 32)).drewN q) d f:=by
 obtain ⟨w1,hw1⟩:∃ w1,w1=w.alloc (boxD d):=⟨_,rfl⟩;obtain ⟨w2,hw2⟩:∃ w2,w2=w1.alloc (.cells #[.int .i64 0,.int .i64 0,.int .i64 0,.int .i64 0,.int .i64 0,.int .i64 0,.int .i64 0,.int .i64 0] 32):=⟨_,rfl⟩;obtain ⟨w3,hw3⟩:∃ w3,w3=w2.alloc (.cells #[f 0,f 1,f 2,f 3,f 4,f 5,f 6,f 7] 32):=⟨_,rfl⟩;rw [<- hw1,<- hw2,<- hw3];have s1:w1.heap.size=w.heap.size+1:=by rw [hw1];simp
 have s2:w2.heap.size=w.heap.size+2:=by rw [hw2];simp [s1]
 have b1:Below w.heap.size w w1:=by rw [hw1];exact yO.alloc yN _
 have b2:Below w1.heap.size w1 w2:=by rw [hw2];exact yO.alloc yN _
 have b3:Below w2.heap.size w2 w3:=by rw [hw3];exact yO.alloc yN _
 have r1:w1.rowIs w.heap.size 70 8 (spF d):=by rw [hw1];exact rowD8 w d
 have r2:w2.rowIs (w.heap.size+1) 32 8 (fun _=>.int .i64 0):=by rw [hw2,<- s1];exact qH8 w1 (fun _=>.int .i64 0)
 have r3:w3.rowIs (w.heap.size+2) 32 8 f:=by rw [hw3,<- s2];exact qH8 w2 f
 have x2:=r1.of_block (b2.block _ r1.lt);exact ⟨(x2.of_block (b3.block _ x2.lt)).of_block rfl,(r2.of_block (b3.block _ r2.lt)).of_block rfl,r3.of_block rfl,below_drewN ((b1.trans (b2.mono b1.size)).trans (b3.mono (by omega))) q⟩
def Plain.SOk (s:Sp):Prop:=(0<=s.id/\s.id<=100000)/\(0<=s.who/\s.who<4)/\(0<=s.label/\s.label<3)/\(1<=s.kind/\s.kind<=11)
theorem xL8 (d:Sp) (ah:Int) (hd:InX d) (hah:0<=ah/\ah<=100000) (w:World) :
  Calls Tryz.prog 25 #[aggX d,.int .i64 ah] w fun e w'=>∃ s,e=.returned (aggX s)/\SOk s/\Below w.heap.size w w':=by
 obtain ⟨kd,wo,it,cn,li,id',la,ke⟩:=d;have K0:=fun W=>xD wo 4 (hd.who).1 (hd.who).2 (by omega) (by omega) W;have K1:=fun W=>xD it 2 (hd.item).1 (hd.item).2 (by omega) (by omega) W;have K2:=fun W=>xD cn 9 (hd.count).1 (hd.count).2 (by omega) (by omega) W;have K3:=fun W=>xD li 5 (hd.life).1 (hd.life).2 (by omega) (by omega) W;have K4:=fun W=>xD id' 5 (hd.id).1 (hd.id).2 (by omega) (by omega) W;have K5:=fun W=>xD la 3 (hd.label).1 (hd.label).2 (by omega) (by omega) W;have K6:=fun W=>xD ke 4 (hd.key).1 (hd.key).2 (by omega) (by omega) W;have KK:=fun W=>xD kd 24 (hd.kind).1 (hd.kind).2 (by omega) (by omega) W;have KY:=hid (fun W=>xD id' (ah+1) (hd.id).1 (hd.id).2 (by omega) (by omega) W);have bk:0<=kd%24/\kd%24<24:=by omega
 have by':0<=id' % (ah+1)/\id' % (ah+1)<=100000:=⟨Int.emod_nonneg _ (by omega),by have:=Int.emod_lt_of_pos id' (show 0<ah+1 by omega);omega⟩;generalize kd%24=kk at KK bk;generalize id' % (ah+1)=yy at KY by';have b0:0<=wo%4/\wo%4<4:=by omega
 generalize wo%4=xw at K0 b0;have b1:0<=it%2/\it%2<2:=by omega
 generalize it%2=xi at K1 b1;have b2:0<=cn%9/\cn%9<9:=by omega
 generalize cn%9=xc at K2 b2;have b3:0<=li%5/\li%5<5:=by omega
 generalize li%5=xl at K3 b3;have b4:0<=id' % 5/\id' % 5<5:=by omega
 generalize id' % 5=xd at K4 b4;have b5:0<=la%3/\la%3<3:=by omega
 generalize la%3=xa at K5 b5;have b6:0<=ke%4/\ke%4<4:=by omega
 generalize ke%4=xk at K6 b6;obtain ⟨yc,hyc⟩:∃ x,x=1+xc:=⟨_,rfl⟩;obtain ⟨yl,hyl⟩:∃ x,x=1+xl:=⟨_,rfl⟩;obtain ⟨yd,hyd⟩:∃ x,x=1+xd:=⟨_,rfl⟩;have w2:IntKind.i64.wrap (1+xc)=yc:=by rw [hyc,IntKind.wrap_i64];omega
 have w3:IntKind.i64.wrap (1+xl)=yl:=by rw [hyl,IntKind.wrap_i64];omega
 have w4:IntKind.i64.wrap (1+xd)=yd:=by rw [hyd,IntKind.wrap_i64];omega
 have hyd5:0<=yd/\yd<=5:=by omega
 have HB05:=hid (And.intro b0 b5);clear hyc hyl hyd b0 b1 b2 b3 b4 b5 b6 hd;go_enter Tryz.func25,Tryz.ntmps25
 go_wp2
 go_cut [5] (fun sa wx=>sa=.pointer (some ⟨w.heap.size+2,0,none⟩)/\Aside (StoI w wx ⟨kd,wo,it,cn,li,id',la,ke⟩ (spF ⟨1,xw,xi,yc,yl,yd,xa,xk⟩)))
 case first =>
  go_region_held3 (fun w'=>w'.cell? ⟨w.heap.size,1,none⟩=some (.int .i64 wo)/\w'.cell? ⟨w.heap.size,2,none⟩=some (.int .i64 it)/\w'.cell? ⟨w.heap.size,3,none⟩=some (.int .i64 cn)/\w'.cell? ⟨w.heap.size,4,none⟩=some (.int .i64 li)/\w'.cell? ⟨w.heap.size,5,none⟩=some (.int .i64 id')/\w'.cell? ⟨w.heap.size,6,none⟩=some (.int .i64 la)/\w'.cell? ⟨w.heap.size,7,none⟩=some (.int .i64 ke)) (go_keep)
   (first|(go_at_call_of 9 (Value.int .i64 wo);refine (K0 _).mono ?_;rintro e w' ⟨rfl,rfl⟩)|(go_at_call_of 9 (Value.int .i64 it);refine (K1 _).mono ?_;rintro e w' ⟨rfl,rfl⟩)|(go_at_call_of 9 (Value.int .i64 cn);refine (K2 _).mono ?_;rintro e w' ⟨rfl,rfl⟩)|(go_at_call_of 9 (Value.int .i64 li);refine (K3 _).mono ?_;rintro e w' ⟨rfl,rfl⟩)|(go_at_call_of 9 (Value.int .i64 id');refine (K4 _).mono ?_;rintro e w' ⟨rfl,rfl⟩)|(go_at_call_of 9 (Value.int .i64 la);refine (K5 _).mono ?_;rintro e w' ⟨rfl,rfl⟩)|(go_at_call_of 9 (Value.int .i64 ke);refine (K6 _).mono ?_;rintro e w' ⟨rfl,rfl⟩))
  all_goals (try go_wp2_with fail)
  all_goals go_meet
  all_goals exact ⟨rfl,(show Aside _ from StoI.made w ⟨kd,wo,it,cn,li,id',la,ke⟩ (spF ⟨1,xw,xi,yc,yl,yd,xa,xk⟩) 1)⟩
 case rest =>
  obtain ⟨rfl,HC⟩:=hcut;have c0:wc.cell? ⟨w.heap.size,0,none⟩=some (.int .i64 kd):=HC.out.x.cell (i:=0) (by decide);clear K0 K1 K2 K3 K4 K5 K6
  go_wp2_with fail
  refine (KK _).mono ?_;rintro e w9 ⟨rfl,hx⟩;have hy:=hx.symm;clear hx;subst hy;clear KK c0;rcases (show kk<2\/¬ (kk<2) from Classical.em _) with hq|hn0
  ·skip
   have d1:kk<2:=hq;obtain ⟨WT,hWT⟩:∃ WT,WT=wc:=⟨_,rfl⟩
   go_upto_region 17 with fail
   rw [<- hWT] at HC ⊢;have HT:=HC;clear hWT HC;have t0:WT.cell? ⟨w.heap.size+2,0,none⟩=some (.int .i64 1):=HT.out.t.cell (i:=0) (by decide);have t1:WT.cell? ⟨w.heap.size+2,1,none⟩=some (.int .i64 xw):=HT.out.t.cell (i:=1) (by decide);have t2:WT.cell? ⟨w.heap.size+2,2,none⟩=some (.int .i64 xi):=HT.out.t.cell (i:=2) (by decide);have t3:WT.cell? ⟨w.heap.size+2,3,none⟩=some (.int .i64 yc):=HT.out.t.cell (i:=3) (by decide);have t4:WT.cell? ⟨w.heap.size+2,4,none⟩=some (.int .i64 yl):=HT.out.t.cell (i:=4) (by decide);have t5:WT.cell? ⟨w.heap.size+2,5,none⟩=some (.int .i64 yd):=HT.out.t.cell (i:=5) (by decide);have t6:WT.cell? ⟨w.heap.size+2,6,none⟩=some (.int .i64 xa):=HT.out.t.cell (i:=6) (by decide);have t7:WT.cell? ⟨w.heap.size+2,7,none⟩=some (.int .i64 xk):=HT.out.t.cell (i:=7) (by decide);have y0:=HT.out.r.cell (i:=0) (by decide);have z0:=HT.out.r.frozen 0;have y1:=HT.out.r.cell (i:=1) (by decide);have z1:=HT.out.r.frozen 1;have y2:=HT.out.r.cell (i:=2) (by decide);have z2:=HT.out.r.frozen 2;have y3:=HT.out.r.cell (i:=3) (by decide);have z3:=HT.out.r.frozen 3;have y4:=HT.out.r.cell (i:=4) (by decide);have z4:=HT.out.r.frozen 4;have y5:=HT.out.r.cell (i:=5) (by decide);have z5:=HT.out.r.frozen 5;have y6:=HT.out.r.cell (i:=6) (by decide);have z6:=HT.out.r.frozen 6;have y7:=HT.out.r.cell (i:=7) (by decide);have z7:=HT.out.r.frozen 7;obtain ⟨W6,hW6⟩:∃ W6,W6=((((((((WT.setCell ⟨w.heap.size+1,0,none⟩ (.int .i64 1)).setCell ⟨w.heap.size+1,1,none⟩ (.int .i64 xw)).setCell ⟨w.heap.size+1,2,none⟩ (.int .i64 xi)).setCell ⟨w.heap.size+1,3,none⟩ (.int .i64 yc)).setCell ⟨w.heap.size+1,4,none⟩ (.int .i64 yl)).setCell ⟨w.heap.size+1,5,none⟩ (.int .i64 yd)).setCell ⟨w.heap.size+1,6,none⟩ (.int .i64 xa)).setCell ⟨w.heap.size+1,7,none⟩ (.int .i64 xk)):=⟨_,rfl⟩;go_wp2;rw [<- hW6];have h6:W6=putX WT (w.heap.size+1) (spF ⟨1,xw,xi,yc,yl,yd,xa,xk⟩):=hW6;clear hW6;have F6:W6.rowIs (w.heap.size+1) 32 8 (spF ⟨1,xw,xi,yc,yl,yd,xa,xk⟩):=by rw [h6];exact jQ HT.out.r _
   have B6:Below w.heap.size w W6:=by rw [h6];exact qJ HT.out.be (by omega) _
   exact qK rfl (w.heap.size+1) ⟨1,xw,xi,yc,yl,yd,xa,xk⟩ rfl F6 rfl ⟨_,rfl,by have h05:=HB05.out;unfold SOk;dsimp only;omega,B6⟩
  rcases (show kk=2\/¬ (kk=2) from Classical.em _) with hq|hn1
  ·skip
   subst hq;have r0:=HC.out.t.cell (i:=0) (by decide);have f0:=HC.out.t.frozen 0;obtain ⟨WT,hWT⟩:∃ WT,WT=((wc.setCell ⟨w.heap.size+2,0,none⟩ (.int .i64 1)).setCell ⟨w.heap.size+2,0,none⟩ (.int .i64 2)):=⟨_,rfl⟩
   go_upto_region 17 with fail
   rw [<- hWT];have HT:=hid (show StoI w WT ⟨kd,wo,it,cn,li,id',la,ke⟩ (spF ⟨2,xw,xi,yc,yl,yd,xa,xk⟩) by
    rw [hWT];exact ((HC.out.set 0 (.int .i64 1)).set 0 (.int .i64 2)).congr fun j hj=>by
     have:j=0\/j=1\/j=2\/j=3\/j=4\/j=5\/j=6\/j=7:=by omega
     rcases this with rfl|rfl|rfl|rfl|rfl|rfl|rfl|rfl<;>rfl)
   clear hWT HC;clear r0 f0;have t0:WT.cell? ⟨w.heap.size+2,0,none⟩=some (.int .i64 2):=HT.out.t.cell (i:=0) (by decide);have t1:WT.cell? ⟨w.heap.size+2,1,none⟩=some (.int .i64 xw):=HT.out.t.cell (i:=1) (by decide);have t2:WT.cell? ⟨w.heap.size+2,2,none⟩=some (.int .i64 xi):=HT.out.t.cell (i:=2) (by decide);have t3:WT.cell? ⟨w.heap.size+2,3,none⟩=some (.int .i64 yc):=HT.out.t.cell (i:=3) (by decide);have t4:WT.cell? ⟨w.heap.size+2,4,none⟩=some (.int .i64 yl):=HT.out.t.cell (i:=4) (by decide);have t5:WT.cell? ⟨w.heap.size+2,5,none⟩=some (.int .i64 yd):=HT.out.t.cell (i:=5) (by decide);have t6:WT.cell? ⟨w.heap.size+2,6,none⟩=some (.int .i64 xa):=HT.out.t.cell (i:=6) (by decide);have t7:WT.cell? ⟨w.heap.size+2,7,none⟩=some (.int .i64 xk):=HT.out.t.cell (i:=7) (by decide);have y0:=HT.out.r.cell (i:=0) (by decide);have z0:=HT.out.r.frozen 0;have y1:=HT.out.r.cell (i:=1) (by decide);have z1:=HT.out.r.frozen 1;have y2:=HT.out.r.cell (i:=2) (by decide);have z2:=HT.out.r.frozen 2;have y3:=HT.out.r.cell (i:=3) (by decide);have z3:=HT.out.r.frozen 3;have y4:=HT.out.r.cell (i:=4) (by decide);have z4:=HT.out.r.frozen 4;have y5:=HT.out.r.cell (i:=5) (by decide);have z5:=HT.out.r.frozen 5;have y6:=HT.out.r.cell (i:=6) (by decide);have z6:=HT.out.r.frozen 6;have y7:=HT.out.r.cell (i:=7) (by decide);have z7:=HT.out.r.frozen 7;obtain ⟨W6,hW6⟩:∃ W6,W6=((((((((WT.setCell ⟨w.heap.size+1,0,none⟩ (.int .i64 2)).setCell ⟨w.heap.size+1,1,none⟩ (.int .i64 xw)).setCell ⟨w.heap.size+1,2,none⟩ (.int .i64 xi)).setCell ⟨w.heap.size+1,3,none⟩ (.int .i64 yc)).setCell ⟨w.heap.size+1,4,none⟩ (.int .i64 yl)).setCell ⟨w.heap.size+1,5,none⟩ (.int .i64 yd)).setCell ⟨w.heap.size+1,6,none⟩ (.int .i64 xa)).setCell ⟨w.heap.size+1,7,none⟩ (.int .i64 xk)):=⟨_,rfl⟩;go_wp2;rw [<- hW6];have h6:W6=putX WT (w.heap.size+1) (spF ⟨2,xw,xi,yc,yl,yd,xa,xk⟩):=hW6;clear hW6;have F6:W6.rowIs (w.heap.size+1) 32 8 (spF ⟨2,xw,xi,yc,yl,yd,xa,xk⟩):=by rw [h6];exact jQ HT.out.r _
   have B6:Below w.heap.size w W6:=by rw [h6];exact qJ HT.out.be (by omega) _
   exact qK rfl (w.heap.size+1) ⟨2,xw,xi,yc,yl,yd,xa,xk⟩ rfl F6 rfl ⟨_,rfl,by have h05:=HB05.out;unfold SOk;dsimp only;omega,B6⟩
  rcases (show kk<8\/¬ (kk<8) from Classical.em _) with hq|hn2
  ·skip
   have d1:¬ kk<2:=by omega
   have d3:(kk==2)=false:=by rw [beq_eq_false_iff_ne];omega
   have r0:=HC.out.t.cell (i:=0) (by decide);have f0:=HC.out.t.frozen 0;obtain ⟨WT,hWT⟩:∃ WT,WT=(wc.setCell ⟨w.heap.size+2,0,none⟩ (.int .i64 (2+kk-3))):=⟨_,rfl⟩
   go_upto_region 17 with fail
   rw [<- hWT];have HT:=hid (show StoI w WT ⟨kd,wo,it,cn,li,id',la,ke⟩ (spF ⟨(2+kk-3),xw,xi,yc,yl,yd,xa,xk⟩) by
    rw [hWT];exact (HC.out.set 0 (.int .i64 (2+kk-3))).congr fun j hj=>by
     have:j=0\/j=1\/j=2\/j=3\/j=4\/j=5\/j=6\/j=7:=by omega
     rcases this with rfl|rfl|rfl|rfl|rfl|rfl|rfl|rfl<;>rfl)
   clear hWT HC;clear r0 f0;have t0:WT.cell? ⟨w.heap.size+2,0,none⟩=some (.int .i64 (2+kk-3)):=HT.out.t.cell (i:=0) (by decide);have t1:WT.cell? ⟨w.heap.size+2,1,none⟩=some (.int .i64 xw):=HT.out.t.cell (i:=1) (by decide);have t2:WT.cell? ⟨w.heap.size+2,2,none⟩=some (.int .i64 xi):=HT.out.t.cell (i:=2) (by decide);have t3:WT.cell? ⟨w.heap.size+2,3,none⟩=some (.int .i64 yc):=HT.out.t.cell (i:=3) (by decide);have t4:WT.cell? ⟨w.heap.size+2,4,none⟩=some (.int .i64 yl):=HT.out.t.cell (i:=4) (by decide);have t5:WT.cell? ⟨w.heap.size+2,5,none⟩=some (.int .i64 yd):=HT.out.t.cell (i:=5) (by decide);have t6:WT.cell? ⟨w.heap.size+2,6,none⟩=some (.int .i64 xa):=HT.out.t.cell (i:=6) (by decide);have t7:WT.cell? ⟨w.heap.size+2,7,none⟩=some (.int .i64 xk):=HT.out.t.cell (i:=7) (by decide);have y0:=HT.out.r.cell (i:=0) (by decide);have z0:=HT.out.r.frozen 0;have y1:=HT.out.r.cell (i:=1) (by decide);have z1:=HT.out.r.frozen 1;have y2:=HT.out.r.cell (i:=2) (by decide);have z2:=HT.out.r.frozen 2;have y3:=HT.out.r.cell (i:=3) (by decide);have z3:=HT.out.r.frozen 3;have y4:=HT.out.r.cell (i:=4) (by decide);have z4:=HT.out.r.frozen 4;have y5:=HT.out.r.cell (i:=5) (by decide);have z5:=HT.out.r.frozen 5;have y6:=HT.out.r.cell (i:=6) (by decide);have z6:=HT.out.r.frozen 6;have y7:=HT.out.r.cell (i:=7) (by decide);have z7:=HT.out.r.frozen 7;obtain ⟨W6,hW6⟩:∃ W6,W6=((((((((WT.setCell ⟨w.heap.size+1,0,none⟩ (.int .i64 (2+kk-3))).setCell ⟨w.heap.size+1,1,none⟩ (.int .i64 xw)).setCell ⟨w.heap.size+1,2,none⟩ (.int .i64 xi)).setCell ⟨w.heap.size+1,3,none⟩ (.int .i64 yc)).setCell ⟨w.heap.size+1,4,none⟩ (.int .i64 yl)).setCell ⟨w.heap.size+1,5,none⟩ (.int .i64 yd)).setCell ⟨w.heap.size+1,6,none⟩ (.int .i64 xa)).setCell ⟨w.heap.size+1,7,none⟩ (.int .i64 xk)):=⟨_,rfl⟩;go_wp2;rw [<- hW6];have h6:W6=putX WT (w.heap.size+1) (spF ⟨(2+kk-3),xw,xi,yc,yl,yd,xa,xk⟩):=hW6;clear hW6;have F6:W6.rowIs (w.heap.size+1) 32 8 (spF ⟨(2+kk-3),xw,xi,yc,yl,yd,xa,xk⟩):=by rw [h6];exact jQ HT.out.r _
   have B6:Below w.heap.size w W6:=by rw [h6];exact qJ HT.out.be (by omega) _
   exact qK rfl (w.heap.size+1) ⟨(2+kk-3),xw,xi,yc,yl,yd,xa,xk⟩ rfl F6 rfl ⟨_,rfl,by have h05:=HB05.out;unfold SOk;dsimp only;omega,B6⟩
  rcases (show kk<10\/¬ (kk<10) from Classical.em _) with hq|hn3
  ·skip
   have d1:¬ kk<2:=by omega
   have d2:¬ kk<8:=by omega
   have r0:=HC.out.t.cell (i:=0) (by decide);have f0:=HC.out.t.frozen 0;obtain ⟨WT,hWT⟩:∃ WT,WT=(wc.setCell ⟨w.heap.size+2,0,none⟩ (.int .i64 7)):=⟨_,rfl⟩
   go_upto_region 17 with fail
   rw [<- hWT];have HT:=hid (show StoI w WT ⟨kd,wo,it,cn,li,id',la,ke⟩ (spF ⟨7,xw,xi,yc,yl,yd,xa,xk⟩) by
    rw [hWT];exact (HC.out.set 0 (.int .i64 7)).congr fun j hj=>by
     have:j=0\/j=1\/j=2\/j=3\/j=4\/j=5\/j=6\/j=7:=by omega
     rcases this with rfl|rfl|rfl|rfl|rfl|rfl|rfl|rfl<;>rfl)
   clear hWT HC;clear r0 f0;have t0:WT.cell? ⟨w.heap.size+2,0,none⟩=some (.int .i64 7):=HT.out.t.cell (i:=0) (by decide);have t1:WT.cell? ⟨w.heap.size+2,1,none⟩=some (.int .i64 xw):=HT.out.t.cell (i:=1) (by decide);have t2:WT.cell? ⟨w.heap.size+2,2,none⟩=some (.int .i64 xi):=HT.out.t.cell (i:=2) (by decide);have t3:WT.cell? ⟨w.heap.size+2,3,none⟩=some (.int .i64 yc):=HT.out.t.cell (i:=3) (by decide);have t4:WT.cell? ⟨w.heap.size+2,4,none⟩=some (.int .i64 yl):=HT.out.t.cell (i:=4) (by decide);have t5:WT.cell? ⟨w.heap.size+2,5,none⟩=some (.int .i64 yd):=HT.out.t.cell (i:=5) (by decide);have t6:WT.cell? ⟨w.heap.size+2,6,none⟩=some (.int .i64 xa):=HT.out.t.cell (i:=6) (by decide);have t7:WT.cell? ⟨w.heap.size+2,7,none⟩=some (.int .i64 xk):=HT.out.t.cell (i:=7) (by decide);have y0:=HT.out.r.cell (i:=0) (by decide);have z0:=HT.out.r.frozen 0;have y1:=HT.out.r.cell (i:=1) (by decide);have z1:=HT.out.r.frozen 1;have y2:=HT.out.r.cell (i:=2) (by decide);have z2:=HT.out.r.frozen 2;have y3:=HT.out.r.cell (i:=3) (by decide);have z3:=HT.out.r.frozen 3;have y4:=HT.out.r.cell (i:=4) (by decide);have z4:=HT.out.r.frozen 4;have y5:=HT.out.r.cell (i:=5) (by decide);have z5:=HT.out.r.frozen 5;have y6:=HT.out.r.cell (i:=6) (by decide);have z6:=HT.out.r.frozen 6;have y7:=HT.out.r.cell (i:=7) (by decide);have z7:=HT.out.r.frozen 7;obtain ⟨W6,hW6⟩:∃ W6,W6=((((((((WT.setCell ⟨w.heap.size+1,0,none⟩ (.int .i64 7)).setCell ⟨w.heap.size+1,1,none⟩ (.int .i64 xw)).setCell ⟨w.heap.size+1,2,none⟩ (.int .i64 xi)).setCell ⟨w.heap.size+1,3,none⟩ (.int .i64 yc)).setCell ⟨w.heap.size+1,4,none⟩ (.int .i64 yl)).setCell ⟨w.heap.size+1,5,none⟩ (.int .i64 yd)).setCell ⟨w.heap.size+1,6,none⟩ (.int .i64 xa)).setCell ⟨w.heap.size+1,7,none⟩ (.int .i64 xk)):=⟨_,rfl⟩;go_wp2;rw [<- hW6];have h6:W6=putX WT (w.heap.size+1) (spF ⟨7,xw,xi,yc,yl,yd,xa,xk⟩):=hW6;clear hW6;have F6:W6.rowIs (w.heap.size+1) 32 8 (spF ⟨7,xw,xi,yc,yl,yd,xa,xk⟩):=by rw [h6];exact jQ HT.out.r _
   have B6:Below w.heap.size w W6:=by rw [h6];exact qJ HT.out.be (by omega) _
   exact qK rfl (w.heap.size+1) ⟨7,xw,xi,yc,yl,yd,xa,xk⟩ rfl F6 rfl ⟨_,rfl,by have h05:=HB05.out;unfold SOk;dsimp only;omega,B6⟩
  rcases (show kk=10\/¬ (kk=10) from Classical.em _) with hq|hn4
  ·skip
   subst hq;have r0:=HC.out.t.cell (i:=0) (by decide);have f0:=HC.out.t.frozen 0;obtain ⟨WT,hWT⟩:∃ WT,WT=(wc.setCell ⟨w.heap.size+2,0,none⟩ (.int .i64 8)):=⟨_,rfl⟩
   go_upto_region 17 with fail
   rw [<- hWT];have HT:=hid (show StoI w WT ⟨kd,wo,it,cn,li,id',la,ke⟩ (spF ⟨8,xw,xi,yc,yl,yd,xa,xk⟩) by
    rw [hWT];exact (HC.out.set 0 (.int .i64 8)).congr fun j hj=>by
     have:j=0\/j=1\/j=2\/j=3\/j=4\/j=5\/j=6\/j=7:=by omega
     rcases this with rfl|rfl|rfl|rfl|rfl|rfl|rfl|rfl<;>rfl)
   clear hWT HC;clear r0 f0;have t0:WT.cell? ⟨w.heap.size+2,0,none⟩=some (.int .i64 8):=HT.out.t.cell (i:=0) (by decide);have t1:WT.cell? ⟨w.heap.size+2,1,none⟩=some (.int .i64 xw):=HT.out.t.cell (i:=1) (by decide);have t2:WT.cell? ⟨w.heap.size+2,2,none⟩=some (.int .i64 xi):=HT.out.t.cell (i:=2) (by decide);have t3:WT.cell? ⟨w.heap.size+2,3,none⟩=some (.int .i64 yc):=HT.out.t.cell (i:=3) (by decide);have t4:WT.cell? ⟨w.heap.size+2,4,none⟩=some (.int .i64 yl):=HT.out.t.cell (i:=4) (by decide);have t5:WT.cell? ⟨w.heap.size+2,5,none⟩=some (.int .i64 yd):=HT.out.t.cell (i:=5) (by decide);have t6:WT.cell? ⟨w.heap.size+2,6,none⟩=some (.int .i64 xa):=HT.out.t.cell (i:=6) (by decide);have t7:WT.cell? ⟨w.heap.size+2,7,none⟩=some (.int .i64 xk):=HT.out.t.cell (i:=7) (by decide);have y0:=HT.out.r.cell (i:=0) (by decide);have z0:=HT.out.r.frozen 0;have y1:=HT.out.r.cell (i:=1) (by decide);have z1:=HT.out.r.frozen 1;have y2:=HT.out.r.cell (i:=2) (by decide);have z2:=HT.out.r.frozen 2;have y3:=HT.out.r.cell (i:=3) (by decide);have z3:=HT.out.r.frozen 3;have y4:=HT.out.r.cell (i:=4) (by decide);have z4:=HT.out.r.frozen 4;have y5:=HT.out.r.cell (i:=5) (by decide);have z5:=HT.out.r.frozen 5;have y6:=HT.out.r.cell (i:=6) (by decide);have z6:=HT.out.r.frozen 6;have y7:=HT.out.r.cell (i:=7) (by decide);have z7:=HT.out.r.frozen 7;obtain ⟨W6,hW6⟩:∃ W6,W6=((((((((WT.setCell ⟨w.heap.size+1,0,none⟩ (.int .i64 8)).setCell ⟨w.heap.size+1,1,none⟩ (.int .i64 xw)).setCell ⟨w.heap.size+1,2,none⟩ (.int .i64 xi)).setCell ⟨w.heap.size+1,3,none⟩ (.int .i64 yc)).setCell ⟨w.heap.size+1,4,none⟩ (.int .i64 yl)).setCell ⟨w.heap.size+1,5,none⟩ (.int .i64 yd)).setCell ⟨w.heap.size+1,6,none⟩ (.int .i64 xa)).setCell ⟨w.heap.size+1,7,none⟩ (.int .i64 xk)):=⟨_,rfl⟩;go_wp2;rw [<- hW6];have h6:W6=putX WT (w.heap.size+1) (spF ⟨8,xw,xi,yc,yl,yd,xa,xk⟩):=hW6;clear hW6;have F6:W6.rowIs (w.heap.size+1) 32 8 (spF ⟨8,xw,xi,yc,yl,yd,xa,xk⟩):=by rw [h6];exact jQ HT.out.r _
   have B6:Below w.heap.size w W6:=by rw [h6];exact qJ HT.out.be (by omega) _
   exact qK rfl (w.heap.size+1) ⟨8,xw,xi,yc,yl,yd,xa,xk⟩ rfl F6 rfl ⟨_,rfl,by have h05:=HB05.out;unfold SOk;dsimp only;omega,B6⟩
  rcases (show kk<13\/¬ (kk<13) from Classical.em _) with hq|hn5
  ·skip
   have d1:¬ kk<2:=by omega
   have d2:¬ kk<8:=by omega
   have d4:¬ kk<10:=by omega
   have d5:(kk==10)=false:=by rw [beq_eq_false_iff_ne];omega
   have r0:=HC.out.t.cell (i:=0) (by decide);have f0:=HC.out.t.frozen 0;have r1:=HC.out.t.cell (i:=1) (by decide);have f1:=HC.out.t.frozen 1;have r2:=HC.out.t.cell (i:=2) (by decide);have f2:=HC.out.t.frozen 2;have r3:=HC.out.t.cell (i:=3) (by decide);have f3:=HC.out.t.frozen 3;have r4:=HC.out.t.cell (i:=4) (by decide);have f4:=HC.out.t.frozen 4;have r5:=HC.out.t.cell (i:=5) (by decide);have f5:=HC.out.t.frozen 5;have r6:=HC.out.t.cell (i:=6) (by decide);have f6:=HC.out.t.frozen 6;have r7:=HC.out.t.cell (i:=7) (by decide);have f7:=HC.out.t.frozen 7;obtain ⟨WT,hWT⟩:∃ WT,WT=((((((((wc.setCell ⟨w.heap.size+2,0,none⟩ (.int .i64 9)).setCell ⟨w.heap.size+2,1,none⟩ (.int .i64 0)).setCell ⟨w.heap.size+2,2,none⟩ (.int .i64 0)).setCell ⟨w.heap.size+2,3,none⟩ (.int .i64 0)).setCell ⟨w.heap.size+2,4,none⟩ (.int .i64 0)).setCell ⟨w.heap.size+2,5,none⟩ (.int .i64 0)).setCell ⟨w.heap.size+2,6,none⟩ (.int .i64 0)).setCell ⟨w.heap.size+2,7,none⟩ (.int .i64 0)):=⟨_,rfl⟩
   go_upto_region 17 with fail
   rw [<- hWT];have HT:=hid (show StoI w WT ⟨kd,wo,it,cn,li,id',la,ke⟩ (spF ⟨9,0,0,0,0,0,0,0⟩) by
    rw [hWT];exact ((((((((HC.out.set 0 (.int .i64 9)).set 1 (.int .i64 0)).set 2 (.int .i64 0)).set 3 (.int .i64 0)).set 4 (.int .i64 0)).set 5 (.int .i64 0)).set 6 (.int .i64 0)).set 7 (.int .i64 0)).congr fun j hj=>by
     have:j=0\/j=1\/j=2\/j=3\/j=4\/j=5\/j=6\/j=7:=by omega
     rcases this with rfl|rfl|rfl|rfl|rfl|rfl|rfl|rfl<;>rfl)
   clear hWT HC;clear r0 f0 r1 f1 r2 f2 r3 f3 r4 f4 r5 f5 r6 f6 r7 f7;have t0:WT.cell? ⟨w.heap.size+2,0,none⟩=some (.int .i64 9):=HT.out.t.cell (i:=0) (by decide);have t1:WT.cell? ⟨w.heap.size+2,1,none⟩=some (.int .i64 0):=HT.out.t.cell (i:=1) (by decide);have t2:WT.cell? ⟨w.heap.size+2,2,none⟩=some (.int .i64 0):=HT.out.t.cell (i:=2) (by decide);have t3:WT.cell? ⟨w.heap.size+2,3,none⟩=some (.int .i64 0):=HT.out.t.cell (i:=3) (by decide);have t4:WT.cell? ⟨w.heap.size+2,4,none⟩=some (.int .i64 0):=HT.out.t.cell (i:=4) (by decide);have t5:WT.cell? ⟨w.heap.size+2,5,none⟩=some (.int .i64 0):=HT.out.t.cell (i:=5) (by decide);have t6:WT.cell? ⟨w.heap.size+2,6,none⟩=some (.int .i64 0):=HT.out.t.cell (i:=6) (by decide);have t7:WT.cell? ⟨w.heap.size+2,7,none⟩=some (.int .i64 0):=HT.out.t.cell (i:=7) (by decide);have y0:=HT.out.r.cell (i:=0) (by decide);have z0:=HT.out.r.frozen 0;have y1:=HT.out.r.cell (i:=1) (by decide);have z1:=HT.out.r.frozen 1;have y2:=HT.out.r.cell (i:=2) (by decide);have z2:=HT.out.r.frozen 2;have y3:=HT.out.r.cell (i:=3) (by decide);have z3:=HT.out.r.frozen 3;have y4:=HT.out.r.cell (i:=4) (by decide);have z4:=HT.out.r.frozen 4;have y5:=HT.out.r.cell (i:=5) (by decide);have z5:=HT.out.r.frozen 5;have y6:=HT.out.r.cell (i:=6) (by decide);have z6:=HT.out.r.frozen 6;have y7:=HT.out.r.cell (i:=7) (by decide);have z7:=HT.out.r.frozen 7;obtain ⟨W6,hW6⟩:∃ W6,W6=((((((((WT.setCell ⟨w.heap.size+1,0,none⟩ (.int .i64 9)).setCell ⟨w.heap.size+1,1,none⟩ (.int .i64 0)).setCell ⟨w.heap.size+1,2,none⟩ (.int .i64 0)).setCell ⟨w.heap.size+1,3,none⟩ (.int .i64 0)).setCell ⟨w.heap.size+1,4,none⟩ (.int .i64 0)).setCell ⟨w.heap.size+1,5,none⟩ (.int .i64 0)).setCell ⟨w.heap.size+1,6,none⟩ (.int .i64 0)).setCell ⟨w.heap.size+1,7,none⟩ (.int .i64 0)):=⟨_,rfl⟩;go_wp2;rw [<- hW6];have h6:W6=putX WT (w.heap.size+1) (spF ⟨9,0,0,0,0,0,0,0⟩):=hW6;clear hW6;have F6:W6.rowIs (w.heap.size+1) 32 8 (spF ⟨9,0,0,0,0,0,0,0⟩):=by rw [h6];exact jQ HT.out.r _
   have B6:Below w.heap.size w W6:=by rw [h6];exact qJ HT.out.be (by omega) _
   exact qK rfl (w.heap.size+1) ⟨9,0,0,0,0,0,0,0⟩ rfl F6 rfl ⟨_,rfl,by have h05:=HB05.out;unfold SOk;dsimp only;omega,B6⟩
  rcases (show kk<14\/¬ (kk<14) from Classical.em _) with hq|hn6
  ·skip
   have d1:¬ kk<2:=by omega
   have d2:¬ kk<8:=by omega
   have d4:¬ kk<10:=by omega
   have d5:(kk==10)=false:=by rw [beq_eq_false_iff_ne];omega
   have d6:¬ kk<13:=by omega
   have KY2:=fun W=>KY.out W;have q5:wc.cell? ⟨w.heap.size,5,none⟩=some (.int .i64 id'):=HC.out.x.cell (i:=5) (by decide);have r0:=HC.out.t.cell (i:=0) (by decide);have f0:=HC.out.t.frozen 0;have r1:=HC.out.t.cell (i:=1) (by decide);have f1:=HC.out.t.frozen 1;have r2:=HC.out.t.cell (i:=2) (by decide);have f2:=HC.out.t.frozen 2;have r3:=HC.out.t.cell (i:=3) (by decide);have f3:=HC.out.t.frozen 3;have r4:=HC.out.t.cell (i:=4) (by decide);have f4:=HC.out.t.frozen 4;have r5:=HC.out.t.cell (i:=5) (by decide);have f5:=HC.out.t.frozen 5;have r6:=HC.out.t.cell (i:=6) (by decide);have f6:=HC.out.t.frozen 6;have r7:=HC.out.t.cell (i:=7) (by decide);have f7:=HC.out.t.frozen 7;obtain ⟨WT,hWT⟩:∃ WT,WT=((((((((wc.setCell ⟨w.heap.size+2,0,none⟩ (.int .i64 11)).setCell ⟨w.heap.size+2,1,none⟩ (.int .i64 0)).setCell ⟨w.heap.size+2,2,none⟩ (.int .i64 0)).setCell ⟨w.heap.size+2,3,none⟩ (.int .i64 0)).setCell ⟨w.heap.size+2,4,none⟩ (.int .i64 0)).setCell ⟨w.heap.size+2,5,none⟩ (.int .i64 yy)).setCell ⟨w.heap.size+2,6,none⟩ (.int .i64 0)).setCell ⟨w.heap.size+2,7,none⟩ (.int .i64 0)):=⟨_,rfl⟩
   go_upto_region 17 with ((go_at_call_of 9 (Value.int .i64 id');refine (KY2 _).mono ?_;rintro e w9 ⟨rfl,hx⟩;have hy:=hx.symm;clear hx;subst hy))
   rw [<- hWT];have HT:=hid (show StoI w WT ⟨kd,wo,it,cn,li,id',la,ke⟩ (spF ⟨11,0,0,0,0,yy,0,0⟩) by
    rw [hWT];exact ((((((((HC.out.set 0 (.int .i64 11)).set 1 (.int .i64 0)).set 2 (.int .i64 0)).set 3 (.int .i64 0)).set 4 (.int .i64 0)).set 5 (.int .i64 yy)).set 6 (.int .i64 0)).set 7 (.int .i64 0)).congr fun j hj=>by
     have:j=0\/j=1\/j=2\/j=3\/j=4\/j=5\/j=6\/j=7:=by omega
     rcases this with rfl|rfl|rfl|rfl|rfl|rfl|rfl|rfl<;>rfl)
   clear hWT HC;clear r0 f0 r1 f1 r2 f2 r3 f3 r4 f4 r5 f5 r6 f6 r7 f7;have t0:WT.cell? ⟨w.heap.size+2,0,none⟩=some (.int .i64 11):=HT.out.t.cell (i:=0) (by decide);have t1:WT.cell? ⟨w.heap.size+2,1,none⟩=some (.int .i64 0):=HT.out.t.cell (i:=1) (by decide);have t2:WT.cell? ⟨w.heap.size+2,2,none⟩=some (.int .i64 0):=HT.out.t.cell (i:=2) (by decide);have t3:WT.cell? ⟨w.heap.size+2,3,none⟩=some (.int .i64 0):=HT.out.t.cell (i:=3) (by decide);have t4:WT.cell? ⟨w.heap.size+2,4,none⟩=some (.int .i64 0):=HT.out.t.cell (i:=4) (by decide);have t5:WT.cell? ⟨w.heap.size+2,5,none⟩=some (.int .i64 yy):=HT.out.t.cell (i:=5) (by decide);have t6:WT.cell? ⟨w.heap.size+2,6,none⟩=some (.int .i64 0):=HT.out.t.cell (i:=6) (by decide);have t7:WT.cell? ⟨w.heap.size+2,7,none⟩=some (.int .i64 0):=HT.out.t.cell (i:=7) (by decide);have y0:=HT.out.r.cell (i:=0) (by decide);have z0:=HT.out.r.frozen 0;have y1:=HT.out.r.cell (i:=1) (by decide);have z1:=HT.out.r.frozen 1;have y2:=HT.out.r.cell (i:=2) (by decide);have z2:=HT.out.r.frozen 2;have y3:=HT.out.r.cell (i:=3) (by decide);have z3:=HT.out.r.frozen 3;have y4:=HT.out.r.cell (i:=4) (by decide);have z4:=HT.out.r.frozen 4;have y5:=HT.out.r.cell (i:=5) (by decide);have z5:=HT.out.r.frozen 5;have y6:=HT.out.r.cell (i:=6) (by decide);have z6:=HT.out.r.frozen 6;have y7:=HT.out.r.cell (i:=7) (by decide);have z7:=HT.out.r.frozen 7;obtain ⟨W6,hW6⟩:∃ W6,W6=((((((((WT.setCell ⟨w.heap.size+1,0,none⟩ (.int .i64 11)).setCell ⟨w.heap.size+1,1,none⟩ (.int .i64 0)).setCell ⟨w.heap.size+1,2,none⟩ (.int .i64 0)).setCell ⟨w.heap.size+1,3,none⟩ (.int .i64 0)).setCell ⟨w.heap.size+1,4,none⟩ (.int .i64 0)).setCell ⟨w.heap.size+1,5,none⟩ (.int .i64 yy)).setCell ⟨w.heap.size+1,6,none⟩ (.int .i64 0)).setCell ⟨w.heap.size+1,7,none⟩ (.int .i64 0)):=⟨_,rfl⟩;go_wp2;rw [<- hW6];have h6:W6=putX WT (w.heap.size+1) (spF ⟨11,0,0,0,0,yy,0,0⟩):=hW6;clear hW6;have F6:W6.rowIs (w.heap.size+1) 32 8 (spF ⟨11,0,0,0,0,yy,0,0⟩):=by rw [h6];exact jQ HT.out.r _
   have B6:Below w.heap.size w W6:=by rw [h6];exact qJ HT.out.be (by omega) _
   exact qK rfl (w.heap.size+1) ⟨11,0,0,0,0,yy,0,0⟩ rfl F6 rfl ⟨_,rfl,by have h05:=HB05.out;unfold SOk;dsimp only;omega,B6⟩
  ·skip
   have d1:¬ kk<2:=by omega
   have d2:¬ kk<8:=by omega
   have d4:¬ kk<10:=by omega
   have d5:(kk==10)=false:=by rw [beq_eq_false_iff_ne];omega
   have d6:¬ kk<13:=by omega
   have d7:¬ kk<14:=by omega
   have KY2:=fun W=>KY.out W;have q5:wc.cell? ⟨w.heap.size,5,none⟩=some (.int .i64 id'):=HC.out.x.cell (i:=5) (by decide);have r0:=HC.out.t.cell (i:=0) (by decide);have f0:=HC.out.t.frozen 0;have r1:=HC.out.t.cell (i:=1) (by decide);have f1:=HC.out.t.frozen 1;have r2:=HC.out.t.cell (i:=2) (by decide);have f2:=HC.out.t.frozen 2;have r3:=HC.out.t.cell (i:=3) (by decide);have f3:=HC.out.t.frozen 3;have r4:=HC.out.t.cell (i:=4) (by decide);have f4:=HC.out.t.frozen 4;have r5:=HC.out.t.cell (i:=5) (by decide);have f5:=HC.out.t.frozen 5;have r6:=HC.out.t.cell (i:=6) (by decide);have f6:=HC.out.t.frozen 6;have r7:=HC.out.t.cell (i:=7) (by decide);have f7:=HC.out.t.frozen 7;obtain ⟨WT,hWT⟩:∃ WT,WT=((((((((wc.setCell ⟨w.heap.size+2,0,none⟩ (.int .i64 10)).setCell ⟨w.heap.size+2,1,none⟩ (.int .i64 0)).setCell ⟨w.heap.size+2,2,none⟩ (.int .i64 0)).setCell ⟨w.heap.size+2,3,none⟩ (.int .i64 0)).setCell ⟨w.heap.size+2,4,none⟩ (.int .i64 0)).setCell ⟨w.heap.size+2,5,none⟩ (.int .i64 yy)).setCell ⟨w.heap.size+2,6,none⟩ (.int .i64 0)).setCell ⟨w.heap.size+2,7,none⟩ (.int .i64 0)):=⟨_,rfl⟩
   go_upto_region 17 with ((go_at_call_of 9 (Value.int .i64 id');refine (KY2 _).mono ?_;rintro e w9 ⟨rfl,hx⟩;have hy:=hx.symm;clear hx;subst hy))
   rw [<- hWT];have HT:=hid (show StoI w WT ⟨kd,wo,it,cn,li,id',la,ke⟩ (spF ⟨10,0,0,0,0,yy,0,0⟩) by
    rw [hWT];exact ((((((((HC.out.set 0 (.int .i64 10)).set 1 (.int .i64 0)).set 2 (.int .i64 0)).set 3 (.int .i64 0)).set 4 (.int .i64 0)).set 5 (.int .i64 yy)).set 6 (.int .i64 0)).set 7 (.int .i64 0)).congr fun j hj=>by
     have:j=0\/j=1\/j=2\/j=3\/j=4\/j=5\/j=6\/j=7:=by omega
     rcases this with rfl|rfl|rfl|rfl|rfl|rfl|rfl|rfl<;>rfl)
   clear hWT HC;clear r0 f0 r1 f1 r2 f2 r3 f3 r4 f4 r5 f5 r6 f6 r7 f7;have t0:WT.cell? ⟨w.heap.size+2,0,none⟩=some (.int .i64 10):=HT.out.t.cell (i:=0) (by decide);have t1:WT.cell? ⟨w.heap.size+2,1,none⟩=some (.int .i64 0):=HT.out.t.cell (i:=1) (by decide);have t2:WT.cell? ⟨w.heap.size+2,2,none⟩=some (.int .i64 0):=HT.out.t.cell (i:=2) (by decide);have t3:WT.cell? ⟨w.heap.size+2,3,none⟩=some (.int .i64 0):=HT.out.t.cell (i:=3) (by decide);have t4:WT.cell? ⟨w.heap.size+2,4,none⟩=some (.int .i64 0):=HT.out.t.cell (i:=4) (by decide);have t5:WT.cell? ⟨w.heap.size+2,5,none⟩=some (.int .i64 yy):=HT.out.t.cell (i:=5) (by decide);have t6:WT.cell? ⟨w.heap.size+2,6,none⟩=some (.int .i64 0):=HT.out.t.cell (i:=6) (by decide);have t7:WT.cell? ⟨w.heap.size+2,7,none⟩=some (.int .i64 0):=HT.out.t.cell (i:=7) (by decide);have y0:=HT.out.r.cell (i:=0) (by decide);have z0:=HT.out.r.frozen 0;have y1:=HT.out.r.cell (i:=1) (by decide);have z1:=HT.out.r.frozen 1;have y2:=HT.out.r.cell (i:=2) (by decide);have z2:=HT.out.r.frozen 2;have y3:=HT.out.r.cell (i:=3) (by decide);have z3:=HT.out.r.frozen 3;have y4:=HT.out.r.cell (i:=4) (by decide);have z4:=HT.out.r.frozen 4;have y5:=HT.out.r.cell (i:=5) (by decide);have z5:=HT.out.r.frozen 5;have y6:=HT.out.r.cell (i:=6) (by decide);have z6:=HT.out.r.frozen 6;have y7:=HT.out.r.cell (i:=7) (by decide);have z7:=HT.out.r.frozen 7;obtain ⟨W6,hW6⟩:∃ W6,W6=((((((((WT.setCell ⟨w.heap.size+1,0,none⟩ (.int .i64 10)).setCell ⟨w.heap.size+1,1,none⟩ (.int .i64 0)).setCell ⟨w.heap.size+1,2,none⟩ (.int .i64 0)).setCell ⟨w.heap.size+1,3,none⟩ (.int .i64 0)).setCell ⟨w.heap.size+1,4,none⟩ (.int .i64 0)).setCell ⟨w.heap.size+1,5,none⟩ (.int .i64 yy)).setCell ⟨w.heap.size+1,6,none⟩ (.int .i64 0)).setCell ⟨w.heap.size+1,7,none⟩ (.int .i64 0)):=⟨_,rfl⟩;go_wp2;rw [<- hW6];have h6:W6=putX WT (w.heap.size+1) (spF ⟨10,0,0,0,0,yy,0,0⟩):=hW6;clear hW6;have F6:W6.rowIs (w.heap.size+1) 32 8 (spF ⟨10,0,0,0,0,yy,0,0⟩):=by rw [h6];exact jQ HT.out.r _
   have B6:Below w.heap.size w W6:=by rw [h6];exact qJ HT.out.be (by omega) _
   exact qK rfl (w.heap.size+1) ⟨10,0,0,0,0,yy,0,0⟩ rfl F6 rfl ⟨_,rfl,by have h05:=HB05.out;unfold SOk;dsimp only;omega,B6⟩
theorem qH9:(Tryz.prog.info? 32).map (fun i=>(i.zero,i.size,i.bytes))=some (some (.agg #[.int .i64 0,.int .i64 0,.int .i64 0,.int .i64 0,.int .i64 0,.int .i64 0,.int .i64 0,.int .i64 0]),8,64):=by kernel_rfl
structure SpR (w0 w:World) (v:Value) (L:List Sp):Prop where
 ow:w.ownsRow w0.heap.size 32 8 v L.length (qA.vals L)
 be:Below w0.heap.size w0 w
theorem SpR.nil (w:World):SpR w w (.slice none 0 0) []:=⟨World.ownsRow_nil _ _ _ _,yO⟩
theorem SpR.grow {w0 w w':World} {v:Value} {L:List Sp} (h:SpR w0 w v L) (b:Below w.heap.size w w'):SpR w0 w' v L:=⟨Hd.zB8 h.ow fun x hx=>b.block x (qP h.ow hx),h.be.trans (b.mono h.be.size)⟩
theorem SpR.form {w0 w:World} {v:Value} {L:List Sp} (h:SpR w0 w v L):∃ p c,v=.slice p L.length c/\qA.Holds w p L/\(p=none->c=0):=by
 obtain ⟨p,c,rfl,hh,hn,_⟩:=qA.owns h.ow rfl;exact ⟨p,c,rfl,hh,hn⟩
theorem SpR.app {w0 w:World} {v:Value} {L:List Sp} (h:SpR w0 w v L) (hl:L.length<=10000) {p:Option Addr} {c:Nat} {q:List Sp} (hq:qA.Holds w p q) (hp:p=none->c=0) (hl2:q.length<=10000) :
  ∃ v' w',(Builtin.append_ #[28,28] 28 #[v,.slice p q.length c]).run Tryz.prog w=.ok v' w'/\SpR w0 w' v' (L++q)/\w.grownBy w' v.ownBlock:=by
 obtain ⟨i0,hi,hz0,hz1,hz2⟩:=info_parts qH9;obtain ⟨v',w',h1,h2,h3⟩:=qA.app (w:=w) (B:=w0.heap.size) (c:=c) (m:=q.length) (q:=q) Tryz.underlying28 hi hz0 hz1 hz2 rfl h.ow hq rfl hp (by omega) (by omega) h.be.size;refine ⟨v',w',h1,⟨by rw [zD];exact h2,?_⟩,h3⟩;exact h.be.grown h3 h.be.size (fun j hj=>(h.ow.lt j hj).1)
theorem SpR.snoc {w0 w:World} {v:Value} {L:List Sp} (h:SpR w0 w v L) (hl:L.length<=10000) (s:Sp) :
  ∃ p c w',(Builtin.append_ #[28,28] 28 #[v,.slice (some ⟨w.heap.size,0,none⟩) 1 1]).run Tryz.prog (w.alloc (boxX s))=.ok (.slice p (L.length+1) c) w'/\SpR w0 w' (.slice p (L.length+1) c) (L++[s]):=by
 have bA:Below w.heap.size w (w.alloc (boxX s)):=yO.alloc yN _;obtain ⟨v',w',h1,h2,_⟩:=(h.grow bA).app hl (q:=[s]) (c:=1) (qA.one_holds w s 32) (fun e=>by cases e) (by simp);obtain ⟨p,c,rfl,_⟩:=h2.form;rw [zD] at h1 h2;exact ⟨p,c,w',h1,h2⟩
theorem xA2 (p:Option Addr) (n cap lim:Nat) (ds:List Sp) (hn:ds.length=n) (hbig:n<=9223372036854775807) (hlim:lim<=1000) (hd:∀ d,d∈ds->InX d) (w:World) (hp:qA.Holds w p ds) :
  Calls Tryz.prog 11 #[.slice p n cap,.int .i64 (lim:Int)] w fun e w'=>∃ q c L,e=.returned (.slice q L.length c)/\SpR w w' (.slice q L.length c) L/\L.length<=lim/\∀ s,s∈L->SOk s:=by
 have HP:=hid hp;have HD:=hid hd;have HN:=hid hn;have S0:=hid (SpR.nil w);clear hp hd hn;go_enter Tryz.func11,Tryz.ntmps11
 go_wp2
 go_loopg [5,6,7,8] lim (fun gg s5 s6 s7 _ wx=>∃ (k:Nat) (ah:Int) (q:Option Addr) (c:Nat),k<=n/\k<=lim/\lim-k<=gg/\s7=.int .i64 k/\s6=.int .i64 ah/\(0<=ah/\ah<=20*k)/\s5=.slice q k c/\Aside (∃ L,L.length=k/\SpR w wx (.slice q k c) L/\∀ s,s∈L->SOk s))
 case atStart=>exact ⟨0,0,none,0,zG _,zG _,by omega,rfl,rfl,by omega,rfl,(show Aside _ from ⟨[],rfl,S0.out,fun s hs=>(nomatch hs)⟩)⟩
 case round =>
  obtain ⟨k,ah,q,c,hk1,hk2,hg,rfl,rfl,hah,rfl,A⟩:=hrel;clear S0;obtain ⟨L,hL,sp,hid5⟩:=A.out;have SP:=hid sp;have HI5:=hid hid5;have HL:=hid hL;clear sp hid5 hL A;by_cases hlt:k<n
  ·have hltz:(k:Int)<(n:Int):=by omega
   by_cases hl2:k<lim
   ·have hl2z:(k:Int)<(lim:Int):=by omega
    have hkl:k<ds.length:=by have:=HN.out;omega
    obtain ⟨b,off,rfl,hb,hcc⟩:=yB7 (HP.out.grow (show Below w.heap.size w wr from SP.out.be)) (by omega);obtain ⟨c0,c1,c2,c3,c4,c5,c6,c7⟩:=hcc k hkl;have hdk:=HD.out (ds.getD k default) (by rw [zA,zB hkl];exact zH _);generalize ds.getD k default=d at c0 c1 c2 c3 c4 c5 c6 c7 hdk;have K:=xL8 d ah hdk (by omega) wr;clear hdk hcc hb;obtain ⟨kd,who,it,cnt,life,id',la,ke⟩:=d;dsimp only at c0 c1 c2 c3 c4 c5 c6 c7 K
    go_wp2_with fail
    refine K.mono ?_;rintro e w3 ⟨s,rfl,hs5,b3⟩;have S3:=hid (SP.out.grow b3);have HS5:=hid hs5;clear K b3 hs5 c0 c1 c2 c3 c4 c5 c6 c7;obtain ⟨kd2,who2,it2,cnt2,life2,id2,la2,ke2⟩:=s;obtain ⟨W4,hW4⟩:∃ W4,W4=w3.alloc (boxX ⟨kd2,who2,it2,cnt2,life2,id2,la2,ke2⟩):=⟨_,rfl⟩;have B4:=hid (show Below w3.heap.size w3 W4 by rw [hW4];exact yO.alloc yN _);have R4:=hid (show W4.rowIs w3.heap.size 32 8 (spF ⟨kd2,who2,it2,cnt2,life2,id2,la2,ke2⟩) by rw [hW4];exact rowX w3 _);obtain ⟨pu,cu,U,hrun,su⟩:=(S3.out.grow B4.out).snoc (by have:=HL.out;omega) ⟨kd2,who2,it2,cnt2,life2,id2,la2,ke2⟩;rw [HL.out] at hrun su;have RUN:=hid hrun;have SU:=hid su;clear hrun su;have r0:W4.cell? ⟨w3.heap.size,0,none⟩=some (.int .i64 kd2):=R4.out.cell (i:=0) (by decide);have r1:W4.cell? ⟨w3.heap.size,1,none⟩=some (.int .i64 who2):=R4.out.cell (i:=1) (by decide);have r2:W4.cell? ⟨w3.heap.size,2,none⟩=some (.int .i64 it2):=R4.out.cell (i:=2) (by decide);have r3:W4.cell? ⟨w3.heap.size,3,none⟩=some (.int .i64 cnt2):=R4.out.cell (i:=3) (by decide);have r4:W4.cell? ⟨w3.heap.size,4,none⟩=some (.int .i64 life2):=R4.out.cell (i:=4) (by decide);have r5:W4.cell? ⟨w3.heap.size,5,none⟩=some (.int .i64 id2):=R4.out.cell (i:=5) (by decide);have r6:W4.cell? ⟨w3.heap.size,6,none⟩=some (.int .i64 la2):=R4.out.cell (i:=6) (by decide);have r7:W4.cell? ⟨w3.heap.size,7,none⟩=some (.int .i64 ke2):=R4.out.cell (i:=7) (by decide)
    go_upto_region 7 with fail
    rw [<- hW4];clear hW4;by_cases h9:kd2=9
    ·subst h9
     go_wp2_with (first|(at_builtin;refine xE _ _ 28 RUN.out (by rfl) (by rfl) (by rfl) (by rfl) (by rfl) ?_)|fail)
     go_roundg (lim-(k+1))
     case measure=>omega
     case rel=>exact ⟨k+1,ah+20,pu,cu,by omega,by omega,by omega,by go_num,by go_num,by omega,rfl,(show Aside _ from ⟨L++[⟨9,who2,it2,cnt2,life2,id2,la2,ke2⟩],by rw [zD,HL.out];rfl,SU.out,fun s hs=>by
      rcases yL.1 hs with y|y
      ·exact HI5.out s y
      ·have e:s=⟨9,who2,it2,cnt2,life2,id2,la2,ke2⟩:=by simpa using y
       rw [e];exact HS5.out⟩)⟩
    ·have h9b:(kd2==9)=false:=by rw [beq_eq_false_iff_ne];exact h9
     go_wp2_with (first|(at_builtin;refine xE _ _ 28 RUN.out (by rfl) (by rfl) (by rfl) (by rfl) (by rfl) ?_)|fail)
     go_roundg (lim-(k+1))
     case measure=>omega
     case rel=>exact ⟨k+1,ah,pu,cu,by omega,by omega,by omega,by go_num,by go_num,by omega,rfl,(show Aside _ from ⟨L++[⟨kd2,who2,it2,cnt2,life2,id2,la2,ke2⟩],by rw [zD,HL.out];rfl,SU.out,fun s hs=>by
      rcases yL.1 hs with y|y
      ·exact HI5.out s y
      ·have e:s=⟨kd2,who2,it2,cnt2,life2,id2,la2,ke2⟩:=by simpa using y
       rw [e];exact HS5.out⟩)⟩
   ·have hl2z:¬ (k:Int)<(lim:Int):=by omega
    have F:=hid (show ∃ q' c' L,Ending.returned (.slice q k c)=.returned (.slice q' L.length c')/\SpR w wr (.slice q' L.length c') L/\L.length<=lim/\∀ s,s∈L->SOk s from ⟨q,c,L,by rw [HL.out],by rw [HL.out];exact SP.out,by have:=HL.out;omega,HI5.out⟩);go_wp2;go_ret
    exact F.out
  ·have hltz:¬ (k:Int)<(n:Int):=by omega
   have F:=hid (show ∃ q' c' L,Ending.returned (.slice q k c)=.returned (.slice q' L.length c')/\SpR w wr (.slice q' L.length c') L/\L.length<=lim/\∀ s,s∈L->SOk s from ⟨q,c,L,by rw [HL.out],by rw [HL.out];exact SP.out,by have:=HL.out;omega,HI5.out⟩);go_wp2;go_ret
   exact F.out
theorem zW8 (p:Option Addr) (n cap lim:Nat) (ds:List Sp) (hn:ds.length=n) (hbig:n<=9223372036854775807) (hlim:lim<=1000) (hd:∀ d,d∈ds->InX d) (w:World) (hp:qA.Holds w p ds) :
  Calls Tryz.prog 11 #[.slice p n cap,.int .i64 (lim:Int)] w fun e w'=>∃ q c L,e=.returned (.slice q L.length c)/\SpR w w' (.slice q L.length c) L/\L.length<=lim/\∀ s,s∈L->0<=s.id/\s.id<=100000:=by
 refine (xA2 p n cap lim ds hn hbig hlim hd w hp).mono ?_;rintro e w' ⟨q,c,L,h1,h2,h3,h4⟩;exact ⟨q,c,L,h1,h2,h3,fun s hs=>(h4 s hs).1⟩
def c0:Cf:=⟨1,[],1,[5],3⟩
def l0:List Sp:=[⟨1,0,0,2,0,0,0,0⟩,⟨9,0,0,0,0,0,0,0⟩,⟨10,0,0,0,0,0,0,0⟩,⟨9,0,0,0,0,0,0,0⟩,⟨10,0,0,0,0,3,0,0⟩,⟨2,0,0,1,0,0,0,0⟩]
def f0 (t:Tl):Nat × Int × Int × Int × Nat × List Int:=(t.code,t.who,t.sk.free,t.sk.used,t.sent.length,t.report)
theorem sure0:(tlsF c0 (Wo.start c0) l0).map f0=[(0,0,0,0,0,[]),(0,0,0,0,2,[5]),(0,1,0,0,0,[]),(0,0,0,0,2,[5]),(0,0,0,0,0,[]),(0,0,1,1,0,[])]:=by kernel_rfl
theorem list_holds {α:Type} (E:Enc α) (w:World) (l:List α) (e:TypeId):E.Holds (w.alloc (.cells (E.vals l).toArray e)) (some ⟨w.heap.size,0,none⟩) l:=fun _=>by
 refine ⟨w.heap.size,0,rfl,by simp,fun j u hu=>?_⟩;rw [zM _ _ _ _ (by rfl),Nat.zero_add];simpa using hu
theorem xY4 (i:Nat) (hi:i<6):∃ t,(tlsF c0 (Wo.start c0) l0)[i]?=some t/\some (f0 t)=[((0,0,0,0,0,[]):Nat × Int × Int × Int × Nat × List Int),(0,0,0,0,2,[5]),(0,1,0,0,0,[]),(0,0,0,0,2,[5]),(0,0,0,0,0,[]),(0,0,1,1,0,[])][i]?:=by
 have hl:(tlsF c0 (Wo.start c0) l0).length=6:=by rw [zO8];rfl
 refine ⟨_,zB (by omega),?_⟩;rw [<- sure0,zV,zB (by omega)];rfl
structure SuI (w:World) (TB:Nat) (ps:Option Addr) (cs:Nat) (pr:Option Addr) (cr:Nat):Prop where
 q19:w.cell? ⟨TB,19,none⟩=some (.slice ps 2 cs)
 q21:w.cell? ⟨TB,21,none⟩=some (.slice pr 1 cr)
 q45:w.cell? ⟨TB,45,none⟩=some (.int .i64 0)
 q55:w.cell? ⟨TB,55,none⟩=some (.int .i64 0)
 q59:w.cell? ⟨TB,59,none⟩=some (.int .i64 1)
 q61:w.cell? ⟨TB,61,none⟩=some (.int .i64 1)
 hr:Vi.encI.Holds w pr [5]
theorem xL9 {w:World} {TB:Nat} {R:List Vi.RT} (hR:R.length=6) (hx:R.map (·.x)=(tlsF c0 (Wo.start c0) l0).map toTd) (ho:Vi.OutT w (some ⟨TB,0,none⟩) R):∃ ps cs pr cr,SuI w TB ps cs pr cr:=by
 obtain ⟨b,off,e,hb,hc⟩:=Vi.holdsT ho.hd (by omega);have e1:=Option.some.inj e;have eb:TB=b:=congrArg Addr.block e1;have eo:0=off:=congrArg Addr.off e1;subst eb;subst eo;have hat:∀ i,i<6->∃ t,(R.getD i default).x=toTd t/\some (f0 t)=[((0,0,0,0,0,[]):Nat × Int × Int × Int × Nat × List Int),(0,0,0,0,2,[5]),(0,1,0,0,0,[]),(0,0,0,0,2,[5]),(0,0,0,0,0,[]),(0,0,1,1,0,[])][i]?:=fun i hi=>by
  obtain ⟨t,h1,h2⟩:=xY4 i hi;refine ⟨t,?_,h2⟩;have:=congrArg (fun l:List Vi.Td=>l[i]?) hx;simp only [List.getElem?_map] at this;rw [h1,zB (by omega)] at this;rw [zA,zB (by omega)];exact Option.some.inj this
 obtain ⟨t1,x1,y1⟩:=hat 1 (by omega);obtain ⟨t4,x4,y4⟩:=hat 4 (by omega);obtain ⟨t5,x5,y5⟩:=hat 5 (by omega);have z1:f0 t1=(0,0,0,0,2,[5]):=Option.some.inj y1;have z4:f0 t4=(0,0,0,0,0,[]):=Option.some.inj y4;have z5:f0 t5=(0,0,1,1,0,[]):=Option.some.inj y5;simp only [f0,Prod.mk.injEq] at z1 z4 z5;have k:∀ j i,j<6->i<11->w.cell? ⟨TB,j*11+i,none⟩=some ((R.getD j default).cell i):=fun j i hj hi=>by
  have:=hc j (by omega) i hi;rw [Nat.zero_add] at this;exact this
 refine ⟨(R.getD 1 default).ps,(R.getD 1 default).cs,(R.getD 1 default).pr,(R.getD 1 default).cr,⟨?_,?_,?_,?_,?_,?_,?_⟩⟩
 ·rw [k 1 8 (by omega) (by omega)]
  show some (Value.slice _ (R.getD 1 default).x.sent.length _)=_;rw [x1,show (toTd t1).sent.length=2 by show (t1.sent.map toEv).length=2;rw [zL];exact z1.2.2.2.2.1]
 ·rw [k 1 10 (by omega) (by omega)]
  show some (Value.slice _ (R.getD 1 default).x.report.length _)=_;rw [x1,show (toTd t1).report=[5] from z1.2.2.2.2.2];rfl
 ·rw [k 4 1 (by omega) (by omega)]
  show some (Value.int _ (R.getD 4 default).x.who)=_;rw [x4,show (toTd t4).who=0 from z4.2.1]
 ·rw [k 5 0 (by omega) (by omega)]
  show some (Value.int _ (R.getD 5 default).x.code)=_;rw [x5,show (toTd t5).code=0 by show ((t5.code:Nat):Int)=0;rw [z5.1];rfl]
 ·rw [k 5 4 (by omega) (by omega)]
  show some (Value.int _ (R.getD 5 default).x.k.free)=_;rw [x5,show (toTd t5).k.free=1 from z5.2.2.1]
 ·rw [k 5 6 (by omega) (by omega)]
  show some (Value.int _ (R.getD 5 default).x.k.used)=_;rw [x5,show (toTd t5).k.used=1 from z5.2.2.2.1]
 ·have:=(ho.td (R.getD 1 default) (by rw [zA,zB (by omega)];exact zH _)).r.holds
  rw [x1,show (toTd t1).report=[5] from z1.2.2.2.2.2] at this;exact this
theorem qI0 (w:World) (htb:∀ k,2<=k->k<=6->w.cell? ⟨0,k,none⟩=some (.int .i64 (k:Nat))) :
  Calls Tryz.prog 14 #[] w fun e w'=>e=.returned (.bool true)/\Below w.heap.size w w':=by
 have hb0:0<w.heap.size:=zC (w:=w) (h:=htb 2 (by omega) (by omega));obtain ⟨W1,hW1⟩:∃ W1,W1=(w.alloc (.cells #[.int .i64 5] 3)):=⟨_,rfl⟩;obtain ⟨W2,hW2⟩:∃ W2,W2=W1.alloc (.cells #[.int .i64 1,.slice none 0 0,.int .i64 1,.slice (some ⟨w.heap.size,0,none⟩) 1 1,.int .i64 3] 25):=⟨_,rfl⟩;obtain ⟨W3,hW3⟩:∃ W3,W3=W2.alloc (.cells #[.int .i64 1,.int .i64 0,.int .i64 0,.int .i64 2,.int .i64 0,.int .i64 0,.int .i64 0,.int .i64 0,.int .i64 9,.int .i64 0,.int .i64 0,.int .i64 0,.int .i64 0,.int .i64 0,.int .i64 0,.int .i64 0,.int .i64 10,.int .i64 0,.int .i64 0,.int .i64 0,.int .i64 0,.int .i64 0,.int .i64 0,.int .i64 0,.int .i64 9,.int .i64 0,.int .i64 0,.int .i64 0,.int .i64 0,.int .i64 0,.int .i64 0,.int .i64 0,.int .i64 10,.int .i64 0,.int .i64 0,.int .i64 0,.int .i64 0,.int .i64 3,.int .i64 0,.int .i64 0,.int .i64 2,.int .i64 0,.int .i64 0,.int .i64 1,.int .i64 0,.int .i64 0,.int .i64 0,.int .i64 0] 32):=⟨_,rfl⟩;have s1:W1.heap.size=w.heap.size+1:=by rw [hW1];simp
 have s2:W2.heap.size=w.heap.size+1+1:=by rw [hW2];simp [s1]
 have b1:Below w.heap.size w W1:=by rw [hW1];exact yO.alloc yN _
 have b2:Below W1.heap.size W1 W2:=by rw [hW2];exact yO.alloc yN _
 have b3:Below W2.heap.size W2 W3:=by rw [hW3];exact yO.alloc yN _
 have b13:Below W1.heap.size W1 W3:=b2.trans (b3.mono b2.size);have B3:=hid (show Below w.heap.size w W3 from b1.trans (b13.mono b1.size));have m1:W1.cell? ⟨w.heap.size,0,none⟩=some (.int .i64 5):=by rw [hW1,zM _ _ _ _ rfl];rfl
 have hcf:CfI W3 c0 (.slice none 0 0) (.slice (some ⟨w.heap.size,0,none⟩) 1 1):=by
  refine ⟨.inl ⟨rfl,none,0,rfl⟩,yT _ _ _,.inr ⟨w.heap.size,0,1,rfl,fun j hj=>?_⟩,?_,fun x hx=>(nomatch hx),by decide,by decide⟩
  ·have hj0:j=0:=by have:j<1:=hj;omega
   subst hj0;exact (b13.cell (p:=⟨w.heap.size,0,none⟩) (by show w.heap.size<W1.heap.size;omega)).trans m1
  ·have:=b13.size
   exact qF (by omega)
 have hsp:qA.Holds W3 (some ⟨w.heap.size+1+1,0,none⟩) l0:=by
  rw [hW3,<- s2];exact list_holds qA W2 l0 32
 have K:=kW c0 none (some ⟨w.heap.size,0,none⟩) 0 1 1 1 (some ⟨w.heap.size+1+1,0,none⟩) 6 6 l0 rfl (by decide) (by decide) rfl rfl (fun h=>by omega) (by decide) W3 hcf (fun k h2 h6=>(B3.out.cell (p:=⟨0,k,none⟩) hb0).trans (htb k h2 h6)) hsp;have K':Calls Tryz.prog 12 #[.agg #[.int .i64 1,.slice none 0 0,.int .i64 1,.slice (some ⟨w.heap.size,0,none⟩) 1 1,.int .i64 3],.slice (some ⟨w.heap.size+1+1,0,none⟩) 6 6] W3 (PlyY c0 l0 6 W3):=K;have r2:W2.rowIs (w.heap.size+1) 25 5 (cfF c0 (.slice none 0 0) (.slice (some ⟨w.heap.size,0,none⟩) 1 1)):=by
  rw [hW2,<- s1];refine yK W1 _ 25 _ fun j hi=>?_;have hi5:j<5:=hi;have:j=0\/j=1\/j=2\/j=3\/j=4:=by omega
  rcases this with rfl|rfl|rfl|rfl|rfl<;>rfl
 have r3:=r2.of_block (b3.block _ r2.lt);have k0:W3.cell? ⟨w.heap.size+1,0,none⟩=some (.int .i64 1):=r3.cell (i:=0) (by decide);have k1:W3.cell? ⟨w.heap.size+1,1,none⟩=some (.slice none 0 0):=r3.cell (i:=1) (by decide);have k2:W3.cell? ⟨w.heap.size+1,2,none⟩=some (.int .i64 1):=r3.cell (i:=2) (by decide);have k3:W3.cell? ⟨w.heap.size+1,3,none⟩=some (.slice (some ⟨w.heap.size,0,none⟩) 1 1):=r3.cell (i:=3) (by decide);have k4:W3.cell? ⟨w.heap.size+1,4,none⟩=some (.int .i64 3):=r3.cell (i:=4) (by decide);clear K hcf hsp m1 b1 b2 b3 b13 htb hb0 s1 s2 r2 r3;go_enter Tryz.func14,Tryz.ntmps14
 go_upto_region 3 with fail
 rw [hW1] at hW2;rw [hW2] at hW3;rw [<- hW3];clear hW1 hW2 hW3
 go_wp2_with fail
 refine K'.mono ?_;rintro e w4 ⟨TB,R,rfl,hR,hx,ho,_,b4⟩;obtain ⟨ps,cs,pr,cr,su⟩:=xL9 hR hx ho;have B4:=hid (B3.out.trans (b4.mono B3.out.size));have SU:=hid su;clear K' hR hx ho b4 k0 k1 k2 k3 k4 su;have q19:=SU.out.q19;have q21:=SU.out.q21;obtain ⟨W5,hW5⟩:∃ W5,W5=w4.alloc (.cells #[.int .i64 5] 3):=⟨_,rfl⟩;have b5:Below w4.heap.size w4 W5:=by rw [hW5];exact yO.alloc yN _
 have h5:Vi.encI.Holds W5 (some ⟨w4.heap.size,0,none⟩) [5]:=by rw [hW5];exact list_holds Vi.encI w4 [5] 3
 have KS:=Vi.qH6 (n:=1) (c1:=cr) (c2:=1) (l:=[5]) W5 rfl (by decide) (SU.out.hr.grow b5) h5;have B5:=hid (B4.out.trans (b5.mono B4.out.size));have HQ:=hid (And.intro ((b5.cell (p:=⟨TB,45,none⟩) (zC (w:=w4) (h:=SU.out.q45))).trans SU.out.q45) (And.intro ((b5.cell (p:=⟨TB,55,none⟩) (zC (w:=w4) (h:=SU.out.q55))).trans SU.out.q55) (And.intro ((b5.cell (p:=⟨TB,59,none⟩) (zC (w:=w4) (h:=SU.out.q59))).trans SU.out.q59) ((b5.cell (p:=⟨TB,61,none⟩) (zC (w:=w4) (h:=SU.out.q61))).trans SU.out.q61))));clear b5 h5 SU
 go_wp2_with fail
 rw [<- hW5];refine KS.mono ?_;rintro e w6 ⟨rfl,q,rfl⟩;have q45:(W5.drewN q).cell? ⟨TB,45,none⟩=some (.int .i64 0):=by simpa using HQ.out.1
 have q55:(W5.drewN q).cell? ⟨TB,55,none⟩=some (.int .i64 0):=by simpa using HQ.out.2.1
 have q59:(W5.drewN q).cell? ⟨TB,59,none⟩=some (.int .i64 1):=by simpa using HQ.out.2.2.1
 have q61:(W5.drewN q).cell? ⟨TB,61,none⟩=some (.int .i64 1):=by simpa using HQ.out.2.2.2
 have B6:=hid (below_drewN B5.out q);clear KS hW5 HQ B5 q19 q21;go_wp2;go_ret
 exact ⟨rfl,B6.out⟩
theorem cfg_c (t mi mo:Int) (ht:In64 t) (hmi:In64 mi) (hmo:In64 mo) (p:Option Addr) (n cap:Nat) (l:List Int) (hbig:n<=9223372036854775807) (hn:l.length=n) (hwf:∀ x,x∈l->In64 x) (w:World) (hp:yC0 w p l) :
  Calls Tryz.prog 8 #[.slice p n cap,.int .i64 t,.int .i64 mi,.int .i64 mo] w fun e w'=>∃ c lp lc mp mc,mayC c=true/\c.n=4/\c.ls.length=3/\c.ms.length=2/\c=cfG l t mi mo/\e=.returned (cfV c (.slice lp c.ls.length lc) (.slice mp c.ms.length mc))/\CfI w' c (.slice lp c.ls.length lc) (.slice mp c.ms.length mc)/\Below w.heap.size w w':=by
 refine (xL7 t mi mo ht hmi hmo p n cap l hbig hn hwf w hp).mono ?_;rintro e w' ⟨lp,lc,mp,mc,rfl,hI,b⟩;have h3:(cfG l t mi mo).ls.length=3:=kX l;have h2:(cfG l t mi mo).ms.length=2:=rfl;exact ⟨cfG l t mi mo,lp,lc,mp,mc,cfG_may l t mi mo,rfl,h3,h2,rfl,by rw [h3,h2],by rw [h3,h2];exact hI,b⟩
theorem jR {x:Int} (h:0<=x/\x<=100000):(Lit.int .i64 x).wf=true:=by
 have h1:IntKind.i64.min<=x:=by show (-9223372036854775808:Int)<=x;omega
 have h2:x<=IntKind.i64.max:=by show x<=9223372036854775807;omega
 show (decide (IntKind.i64.min<=x)&&decide (x<=IntKind.i64.max))=true;rw [decide_eq_true h1,decide_eq_true h2];rfl
end Go.Proofs.YtleaknfjbbccgaaGreatDoor
