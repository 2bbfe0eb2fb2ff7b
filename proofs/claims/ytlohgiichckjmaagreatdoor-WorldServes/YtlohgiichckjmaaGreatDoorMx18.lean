/-
 Laid together: what the law asks of these.
-/
import Derived.Deep.LoopGhost
import Derived.Deep.Cut
import Derived.Laws.Rows
import Derived.Laws.ResultCell
import Derived.Deep.RegionHeld3
import Derived.Deep.QuietTactic
import Derived.BigQuiet
import Derived.Shelf.SlSortCmp.QuietGrown
import Derived.Test.YtlohgiichckjmaaGreatDoorMx00
import Derived.Test.YtlohgiichckjmaaGreatDoorMx03
import Derived.Test.YtlohgiichckjmaaGreatDoorMx08
import Derived.Test.YtlohgiichckjmaaGreatDoorMx09
import Derived.Test.YtlohgiichckjmaaGreatDoorMx16
import Derived.Test.YtlohgiichckjmaaGreatDoorMx17
namespace Go.Proofs.YtlohgiichckjmaaGreatDoor
set_option maxHeartbeats 16000000
set_option maxRecDepth 100000
open Go.RowKit
namespace Plain
theorem tmod_bd (a n:Int) (hn:0<n):-n<a.tmod n/\a.tmod n<n:=by
 have h1:=Int.tmod_lt_of_pos a hn
 have h2:=Int.tmod_lt_of_pos (-a) hn
 rw [Int.neg_tmod] at h2
 omega
theorem pick_neg (a n:Int) (hn:0<n) (h:a.tmod n<0):a.tmod n+n=a%n:=by
 have e:=Int.tmod_add_mul_tdiv a n
 have hb:=tmod_bd a n hn
 have e2:a=(a.tmod n+n)+n*(a.tdiv n-1):=by rw [Int.mul_sub,Int.mul_one];omega
 have h3:a%n=(a.tmod n+n)%n:=by
  conv=>lhs;rw [e2]
  exact Int.add_mul_emod_self_left _ _ _
 rw [h3,Int.emod_eq_of_lt (by omega) (by omega)]
theorem pick_pos (a n:Int) (hn:0<n) (h:¬ a.tmod n<0):a.tmod n=a%n:=by
 have e:=Int.tmod_add_mul_tdiv a n
 have hb:=tmod_bd a n hn
 have h3:a%n=(a.tmod n)%n:=by
  conv=>lhs;rw [<- e]
  exact Int.add_mul_emod_self_left _ _ _
 rw [h3,Int.emod_eq_of_lt (by omega) (by omega)]
end Plain
theorem picked_any (a n:Int) (_h1:-9223372036854775808<=a) (_h2:a<=9223372036854775807) (hn:0<n) (hn2:n<=1152921504606846976) (w:World) :
  Calls Tryz.prog 12 #[.int .i64 a,.int .i64 n] w fun e w'=>e=.returned (.int .i64 (a%n))/\w'=w:=by
 have hb:=Plain.tmod_bd a n hn
 by_cases h:a.tmod n<0
 ·have H:=hid (Plain.pick_neg a n hn h)
  go_enter Tryz.func12,Tryz.ntmps12
  go_wp2
  go_ret
  exact ⟨by rw [<- H.out];rfl,rfl⟩
 ·have H:=hid (Plain.pick_pos a n hn h)
  go_enter Tryz.func12,Tryz.ntmps12
  go_wp2
  go_ret
  exact ⟨by rw [<- H.out];rfl,rfl⟩
end Go.Proofs.YtlohgiichckjmaaGreatDoor
namespace Go.Proofs.YtlohgiichckjmaaGreatDoor
set_option maxHeartbeats 16000000
set_option maxRecDepth 100000
open Go.RowKit Go.Shelf
namespace Plain
def labsF (l:List Int):List Int:=(List.range 3).map fun i=>if i<l.length then (l.getD i 0)%16 else [15,6,9].getD i 0
theorem labsF_len (l:List Int):(labsF l).length=3:=by simp [labsF]
theorem labsF_at (l:List Int) {i:Nat} (h:i<3):(labsF l).getD i 0=if i<l.length then (l.getD i 0)%16 else [15,6,9].getD i 0:=by
 simp [labsF,List.getD_eq_getElem?_getD,h]
theorem labsF_in (l:List Int):∀ x,x∈labsF l->0<=x/\x<16:=by
 intro x hx
 obtain ⟨i,hi,rfl⟩:=List.mem_map.1 hx
 have hi3:=List.mem_range.1 hi
 split
 ·omega
 ·have:i=0\/i=1\/i=2:=by omega
  rcases this with rfl|rfl|rfl<;>decide
def labK (l:List Int) (k:Nat) (i:Nat):Int:=if i<k/\i<l.length then (l.getD i 0)%16 else [15,6,9].getD i 0
end Plain
def NumsQ (w:World) (p:Option Addr) (l:List Int):Prop :=
 0<l.length->∃ b off,p=some ⟨b,off,none⟩/\b<w.heap.size/\∀ j,j<l.length->w.cell? ⟨b,off+j,none⟩=some (.int .i64 (l.getD j 0))
theorem getD_memQ (l:List Int) {k:Nat} (h:k<l.length):l.getD k 0∈l:=by
 rw [List.getD_eq_getElem?_getD,List.getElem?_eq_getElem h];exact List.getElem_mem _
def rowV (f:Nat->Int) (j:Nat):Value:=.int .i64 (f j)
theorem labels_c (p:Option Addr) (n cap:Nat) (l:List Int) (_hbig:n<=9223372036854775807) (hn:l.length=n) (hwf:∀ x,x∈l->-9223372036854775808<=x/\x<=9223372036854775807) (w:World) (hp:NumsQ w p l) :
  Calls Tryz.prog 21 #[.slice p n cap] w fun e w'=>e=.returned (.slice (some ⟨w.heap.size,0,none⟩) 3 3)/\w'.rowIs w.heap.size 3 3 (rowV (Plain.labAt (Plain.labsF l)))/\Below w.heap.size w w':=by
 have HP:=hid hp
 have HN:=hid hn
 have HW:=hid hwf
 have R0:=hid (show (w.alloc (.cells #[.int .i64 15,.int .i64 6,.int .i64 9] 3)).rowIs w.heap.size 3 3 (rowV (Plain.labK l 0)) by
  refine World.rowIs_alloc _ _ 3 _ fun i hi=>?_
  have hi4:i<3:=hi
  have:i=0\/i=1\/i=2:=by omega
  rcases this with rfl|rfl|rfl<;>simp [rowV,Plain.labK])
 have B0:=hid (show Below w.heap.size w (w.alloc (.cells #[.int .i64 15,.int .i64 6,.int .i64 9] 3)) from (Below.refl _ _).alloc (Nat.le_refl _) _)
 have HF:=hid (fun (wx:World) (k:Nat) (hk:3<=k\/n<=k) (h:wx.rowIs w.heap.size 3 3 (rowV (Plain.labK l k)))=>show wx.rowIs w.heap.size 3 3 (rowV (Plain.labAt (Plain.labsF l))) from h.congr fun j hj=>by
  unfold rowV Plain.labK Plain.labAt
  rw [Plain.labsF_at l hj]
  by_cases hjl:j<l.length
  ·rw [if_pos ⟨by omega,hjl⟩,if_pos hjl]
  ·rw [if_neg (fun x=>hjl x.2),if_neg hjl])
 clear hp hn hwf
 go_enter Tryz.func21,Tryz.ntmps21
 go_wp2
 obtain ⟨W1,hW1⟩:∃ W1,W1=w.alloc (.cells #[.int .i64 15,.int .i64 6,.int .i64 9] 3):=⟨_,rfl⟩
 rw [<- hW1] at R0 B0 ⊢
 clear hW1
 obtain ⟨B,hB⟩:∃ B,B=w.heap.size:=⟨_,rfl⟩
 rw [<- hB] at R0 B0 HF ⊢
 have HBB:=hid hB
 clear hB
 go_loopg [4] 3 (fun gg s4 wx=>∃ k:Nat,k<=3/\k<=n/\3-k<=gg/\s4=.int .i64 k/\Aside (wx.rowIs B 3 3 (rowV (Plain.labK l k)))/\Aside (Below B w wx))
 case atStart=>exact ⟨0,Nat.zero_le _,Nat.zero_le _,by omega,rfl,(show Aside _ from R0.out),(show Aside _ from B0.out)⟩
 case round =>
  obtain ⟨k,hk,hkn,hg,rfl,RK,BK⟩:=hrel
  clear R0 B0
  by_cases hlt:k<3
  ·have hltz:(k:Int)<3:=by omega
   by_cases hltn:k<n
   ·have hltnz:(k:Int)<(n:Int):=by omega
    have hkl:k<l.length:=by rw [HN.out];exact hltn
    obtain ⟨b,off,rfl,hb,hc⟩:=HP.out (by omega)
    rw [<- HBB.out] at hb
    have c0:=(BK.out.cell (p:=⟨b,off+k,none⟩) hb).trans (hc k hkl)
    have hin:=HW.out _ (getD_memQ l hkl)
    have y0:=RK.out.cell hlt
    have z0:=RK.out.frozen k
    unfold rowV at y0
    have R2:=hid (RK.out.set k (.int .i64 (l.getD k 0%16)))
    have HK:=hid (show ∀ j,j<3->(if j=k then Value.int .i64 (l.getD k 0%16) else rowV (Plain.labK l k) j)=rowV (Plain.labK l (k+1)) j from fun j hj=>by
     by_cases e:j=k
     ·subst e
      rw [if_pos rfl]
      unfold rowV Plain.labK
      rw [if_pos ⟨by omega,hkl⟩]
     ·rw [if_neg e]
      unfold rowV Plain.labK
      by_cases h1:j<k/\j<l.length
      ·rw [if_pos h1,if_pos ⟨by omega,h1.2⟩]
      ·rw [if_neg h1,if_neg (fun x=>h1 ⟨by omega,x.2⟩)])
    generalize l.getD k 0=x at c0 hin R2 HK
    have K0:=fun W=>picked_any x 16 hin.1 hin.2 (by omega) (by omega) W
    clear hin hc
    generalize x%16=xm at *
    have hne:¬ b=B:=by omega
    go_wp2_with fail
    refine (K0 _).mono ?_
    rintro e wx ⟨rfl,hx⟩
    have hy:=hx.symm
    clear hx K0
    subst hy
    go_wp2
    go_roundg (3-(k+1))
    case measure=>omega
    case rel=>exact ⟨k+1,by omega,by omega,by omega,by go_num,(show Aside _ from R2.out.congr HK.out),(show Aside _ from BK.out.setCell (p:=⟨B,k,none⟩) (Nat.le_refl B) _)⟩
   ·have hltnz:¬ (k:Int)<(n:Int):=by omega
    have F:=hid (HF.out wr k (.inr (by omega)) RK.out)
    have FB:=hid BK.out
    clear RK BK
    go_wp2
    go_ret
    exact ⟨by rw [<- HBB.out];rfl,by rw [<- HBB.out];exact F.out,by rw [<- HBB.out];exact FB.out⟩
  ·have hltz:¬ (k:Int)<3:=by omega
   have F:=hid (HF.out wr k (.inl (by omega)) RK.out)
   have FB:=hid BK.out
   clear RK BK
   go_wp2
   go_ret
   exact ⟨by rw [<- HBB.out];rfl,by rw [<- HBB.out];exact F.out,by rw [<- HBB.out];exact FB.out⟩
def putC (W:World) (G:Nat) (a:Int) (x:Value) (b:Int) (y:Value) (c:Int):World :=
 ((((W.setCell ⟨G,0,none⟩ (.int .i64 a)).setCell ⟨G,1,none⟩ x).setCell ⟨G,2,none⟩ (.int .i64 b)).setCell ⟨G,3,none⟩ y).setCell ⟨G,4,none⟩ (.int .i64 c)
theorem putC_at {W:World} {G:Nat} {c0 c1 c2 c3 c4:Value} (h:W.heap[G]?=some (.cells #[c0,c1,c2,c3,c4] 25 (0,0))) (a:Int) (x:Value) (b:Int) (y:Value) (c:Int) :
  (putC W G a x b y c).heap[G]?=some (.cells #[.int .i64 a,x,.int .i64 b,y,.int .i64 c] 25 (0,0)):=by
 have h1:=heap_setCell_same W G 0 _ 25 (.int .i64 a) h
 have h2:=heap_setCell_same _ G 1 _ 25 x h1
 have h3:=heap_setCell_same _ G 2 _ 25 (.int .i64 b) h2
 have h4:=heap_setCell_same _ G 3 _ 25 y h3
 exact heap_setCell_same _ G 4 _ 25 (.int .i64 c) h4
theorem putC_far (W:World) (G:Nat) (a:Int) (x:Value) (b:Int) (y:Value) (c:Int) {k:Nat} (hk:k≠G):(putC W G a x b y c).heap[k]?=W.heap[k]?:=by
 unfold putC
 rw [RowKit.Below.heap_setCell _ _ _ _ hk,RowKit.Below.heap_setCell _ _ _ _ hk,RowKit.Below.heap_setCell _ _ _ _ hk,RowKit.Below.heap_setCell _ _ _ _ hk,RowKit.Below.heap_setCell _ _ _ _ hk]
theorem putC_below {w W:World} {G:Nat} (h:Below w.heap.size w W) (hG:w.heap.size<=G) (a:Int) (x:Value) (b:Int) (y:Value) (c:Int):Below w.heap.size w (putC W G a x b y c) :=
 ((((h.setCell (p:=⟨G,0,none⟩) hG _).setCell (p:=⟨G,1,none⟩) hG _).setCell (p:=⟨G,2,none⟩) hG _).setCell (p:=⟨G,3,none⟩) hG _).setCell (p:=⟨G,4,none⟩) hG _
theorem putC_size (W:World) (G:Nat) (a:Int) (x:Value) (b:Int) (y:Value) (c:Int):(putC W G a x b y c).heap.size=W.heap.size:=by simp [putC,World.setCell]
theorem bodyPost_C {fn:Func} {p:Tmp} {Q:Ending->World->Prop} {a:Act} {w:World} (h:fn.results=#[.cell p 25]) (G:Nat) (c:Plain.Cf) (lv mv:Value) (hp:a.tmps.getD p undef=.pointer (some ⟨G,0,none⟩))
  (hg:w.heap[G]?=some (.cells #[.int .i64 c.n,lv,.int .i64 c.t,mv,.int .i64 c.cap] 25 (0,0))) (hd:a.defers=[]) (hR:Q (.returned (cfV c lv mv)) w):bodyPost Tryz.prog fn Q .ret a w :=
 bodyPost_ret (results_cell_row (P:=Tryz.prog) h _ _ G 25 _ (0,0) _ hp hg Tryz.underlying25 rfl (by kernel_rfl)) hd hR
def Plain.cfG (l:List Int) (t mi mo:Int):Plain.Cf:=⟨4,Plain.labsF l,1+t%4,[mi%60,(mi.tdiv 60)%60],mo%20⟩
theorem Plain.cfG_may (l:List Int) (t mi mo:Int):Plain.mayC (Plain.cfG l t mi mo)=true:=by
 unfold Plain.mayC Plain.labsB Plain.cfG
 dsimp only
 rw [Plain.labsF_len]
 have h:(Plain.labsF l).all (Plain.labB 4)=true:=by
  rw [List.all_eq_true]
  intro x hx
  have:=Plain.labsF_in l x hx
  unfold Plain.labB
  simp only [Bool.and_eq_true,decide_eq_true_eq]
  exact ⟨this.1,this.2⟩
 rw [h]
 have a1:Plain.inR (1+t%4) 1 8=true:=(Plain.inR_iff _ _ _).2 (by omega)
 have a2:Plain.inR (mo%20) 0 1048576=true:=(Plain.inR_iff _ _ _).2 (by omega)
 have a3:([mi%60,(mi.tdiv 60)%60].all Plain.cntB)=true:=by
  simp only [List.all_cons,List.all_nil,Bool.and_true,Bool.and_eq_true]
  exact ⟨(Plain.inR_iff _ _ _).2 (by omega),(Plain.inR_iff _ _ _).2 (by omega)⟩
 rw [a1,a2,a3]
 rfl
theorem config_g (t mi mo:Int) (ht:-9223372036854775808<=t/\t<=9223372036854775807) (hmi:-9223372036854775808<=mi/\mi<=9223372036854775807) (hmo:-9223372036854775808<=mo/\mo<=9223372036854775807) (p:Option Addr) (n cap:Nat) (l:List Int) (hbig:n<=9223372036854775807) (hn:l.length=n) (hwf:∀ x,x∈l->-9223372036854775808<=x/\x<=9223372036854775807) (w:World) (hp:NumsQ w p l) :
  Calls Tryz.prog 9 #[.slice p n cap,.int .i64 t,.int .i64 mi,.int .i64 mo] w fun e w'=>∃ lp lc mp mc,e=.returned (cfV (Plain.cfG l t mi mo) (.slice lp 3 lc) (.slice mp 2 mc))/\CfI w' (Plain.cfG l t mi mo) (.slice lp 3 lc) (.slice mp 2 mc)/\Below w.heap.size w w':=by
 have P1:=hid (fun W=>picked_any t 4 ht.1 ht.2 (by decide) (by decide) W)
 have P2:=hid (fun W=>picked_any mi 60 hmi.1 hmi.2 (by decide) (by decide) W)
 have hq:-9223372036854775808<=mi.tdiv 60/\mi.tdiv 60<=9223372036854775807:=by
  have h60:Int.sign 60=1:=rfl
  rw [Int.tdiv_eq_ediv]
  split<;>omega
 have P3:=hid (fun W=>picked_any (mi.tdiv 60) 60 hq.1 hq.2 (by decide) (by decide) W)
 have P4:=hid (fun W=>picked_any mo 20 hmo.1 hmo.2 (by decide) (by decide) W)
 obtain ⟨x1,hx1⟩:∃ x1,x1=mi%60:=⟨_,rfl⟩
 obtain ⟨x2,hx2⟩:∃ x2,x2=(mi.tdiv 60)%60:=⟨_,rfl⟩
 obtain ⟨x3,hx3⟩:∃ x3,x3=mo%20:=⟨_,rfl⟩
 obtain ⟨x0,hx0⟩:∃ x0,x0=t%4:=⟨_,rfl⟩
 have hx4:0<=x0/\x0<4:=by omega
 rw [<- hx0] at P1
 rw [<- hx1] at P2
 rw [<- hx2] at P3
 rw [<- hx3] at P4
 have HX:=hid (And.intro hx0 (And.intro hx1 (And.intro hx2 hx3)))
 clear hx0 hx1 hx2 hx3
 obtain ⟨Z,hZ⟩:∃ Z,Z=w.alloc (.cells #[.int .i64 0,.slice none 0 0,.int .i64 0,.slice none 0 0,.int .i64 0] 25):=⟨_,rfl⟩
 have bZ:Below w.heap.size w Z:=by rw [hZ];exact (Below.refl _ _).alloc (Nat.le_refl _) _
 have hG:Z.heap[w.heap.size]?=some (.cells #[.int .i64 0,.slice none 0 0,.int .i64 0,.slice none 0 0,.int .i64 0] 25 (0,0)):=by rw [hZ];exact Deep.blk_alloc_new _ _
 have KL:=labels_c p n cap l hbig hn hwf Z (fun h0=>by
  obtain ⟨b,off,rfl,hb,hc⟩:=hp h0
  exact ⟨b,off,rfl,Nat.lt_of_lt_of_le hb bZ.size,fun j hj=>(bZ.cell (p:=⟨b,off+j,none⟩) hb).trans (hc j hj)⟩)
 have BZ:=hid bZ
 have HG:=hid hG
 have HZL:=hid (show w.heap.size<Z.heap.size by rw [hZ];simp)
 have HZ:=hid hZ
 clear hp hwf bZ hG hZ
 go_enter Tryz.func9,Tryz.ntmps9
 go_upto_region 1 with fail
 rw [<- HZ.out]
 clear HZ
 go_wp2_with fail
 refine KL.mono ?_
 rintro e W1 ⟨rfl,r1,b1⟩
 have R1:=hid r1
 have B1:=hid (BZ.out.trans (b1.mono BZ.out.size))
 have G1:=hid ((b1.block w.heap.size HZL.out).trans HG.out)
 have HS1:=hid (show Z.heap.size<W1.heap.size from r1.lt)
 clear KL r1 b1 HG
 go_wp2_with fail
 refine (P1.out _).mono ?_
 rintro e w9 ⟨rfl,hx⟩
 have hy:=hx.symm
 clear hx P1
 subst hy
 go_wp2_with fail
 refine (P2.out _).mono ?_
 rintro e w9 ⟨rfl,hx⟩
 have hy:=hx.symm
 clear hx P2
 subst hy
 go_wp2_with fail
 refine (P3.out _).mono ?_
 rintro e w9 ⟨rfl,hx⟩
 have hy:=hx.symm
 clear hx P3
 subst hy
 go_wp2_with fail
 obtain ⟨W2,hW2⟩:∃ W2,W2=W1.alloc (.cells #[.int .i64 x1,.int .i64 x2] 3):=⟨_,rfl⟩
 have bb:Below W1.heap.size W1 W2:=by rw [hW2];exact (Below.refl _ _).alloc (Nat.le_refl _) _
 have m0:W2.cell? ⟨W1.heap.size,0,none⟩=some (.int .i64 x1):=by rw [hW2,World.cell?_alloc_at _ _ _ _ rfl];rfl
 have m1:W2.cell? ⟨W1.heap.size,1,none⟩=some (.int .i64 x2):=by rw [hW2,World.cell?_alloc_at _ _ _ _ rfl];rfl
 have M2:=hid (And.intro m0 m1)
 have HM2:=hid (show W1.heap.size<W2.heap.size by rw [hW2];simp)
 rw [<- hW2]
 have R2:=hid (R1.out.of_block (bb.block _ R1.out.lt))
 have B2:=hid (B1.out.trans (bb.mono B1.out.size))
 have G2:=hid ((bb.block w.heap.size (Array.getElem?_eq_some_iff.1 G1.out).1).trans G1.out)
 clear hW2 bb m0 m1 R1 B1 G1
 refine (P4.out _).mono ?_
 rintro e w9 ⟨rfl,hx⟩
 have hy:=hx.symm
 clear hx P4
 subst hy
 have hcl:∀ j u,(#[Value.int .i64 0,.slice none 0 0,.int .i64 0,.slice none 0 0,.int .i64 0]:Array Value)[j]?=some u->W2.cell? ⟨w.heap.size,j,none⟩=some u:=fun j u hj=>by
  rw [cell_of_row W2 w.heap.size j _ 25 (0,0) G2.out]
  exact hj
 have k0:=hcl 0 _ rfl
 have k1:=hcl 1 _ rfl
 have k2:=hcl 2 _ rfl
 have k3:=hcl 3 _ rfl
 have k4:=hcl 4 _ rfl
 have f0:=frozen_of_row W2 w.heap.size 0 _ 25 G2.out
 have f1:=frozen_of_row W2 w.heap.size 1 _ 25 G2.out
 have f2:=frozen_of_row W2 w.heap.size 2 _ 25 G2.out
 have f3:=frozen_of_row W2 w.heap.size 3 _ 25 G2.out
 have f4:=frozen_of_row W2 w.heap.size 4 _ 25 G2.out
 have hlt:=(Array.getElem?_eq_some_iff.1 G2.out).1
 clear hcl
 obtain ⟨G,hG⟩:∃ G,G=w.heap.size:=⟨_,rfl⟩
 obtain ⟨T,hT⟩:∃ T,T=Z.heap.size:=⟨_,rfl⟩
 obtain ⟨M,hM⟩:∃ M,M=W1.heap.size:=⟨_,rfl⟩
 rw [<- hG] at k0 k1 k2 k3 k4 f0 f1 f2 f3 f4 hlt G2 ⊢
 rw [<- hT] at R2 HS1 ⊢
 rw [<- hM] at M2 HM2 ⊢
 have HGE:=hid (show w.heap.size<=G/\G<T/\T<M by have h1:=HZL.out;have h2:=HS1.out;omega)
 clear hG hT hM
 go_wp2
 (try simp only [Exit.inBlock,Exit.then])
 change bodyPost Tryz.prog _ _ Exit.ret _ (putC W2 G 4 (.slice (some ⟨T,0,none⟩) 3 3) (1+x0) (.slice (some ⟨M,0,none⟩) 2 2) x3)
 have hTG:T≠G:=by have:=HGE.out;omega
 have hMG:M≠G:=by have:=HGE.out;omega
 have hTl:T<W2.heap.size:=R2.out.lt
 obtain ⟨rfl,rfl,rfl,rfl⟩:=HX.out
 refine bodyPost_C rfl G (Plain.cfG l t mi mo) (.slice (some ⟨T,0,none⟩) 3 3) (.slice (some ⟨M,0,none⟩) 2 2) rfl (putC_at G2.out _ _ _ _ _) rfl ⟨_,_,_,_,rfl,⟨?_,?_,?_,?_,?_,?_,?_⟩,putC_below B2.out HGE.out.1 _ _ _ _ _⟩
 ·refine .inr ⟨T,0,3,by show _=Value.slice _ (Plain.labsF l).length _;rw [Plain.labsF_len],fun j hj=>?_⟩
  have hj3:j<3:=by have:(Plain.labsF l).length=3:=Plain.labsF_len l;show j<3;rw [<- this];exact hj
  rw [Nat.zero_add,World.cell?_of_block (w:=W2) (a:=⟨T,j,none⟩) (putC_far W2 G _ _ _ _ _ hTG),R2.out.cell hj3]
  rfl
 ·exact lies_at (by rw [putC_size];exact hTl)
 ·refine .inr ⟨M,0,2,rfl,fun j hj=>?_⟩
  have hj2:j=0\/j=1:=by have:j<2:=hj;omega
  rw [Nat.zero_add,World.cell?_of_block (w:=W2) (a:=⟨M,j,none⟩) (putC_far W2 G _ _ _ _ _ hMG)]
  rcases hj2 with rfl|rfl
  ·exact M2.out.1
  ·exact M2.out.2
 ·exact lies_at (by rw [putC_size];exact HM2.out)
 ·intro x hx
  have:=Plain.labsF_in l x hx
  omega
 ·show (Plain.labsF l).length<=_
  rw [Plain.labsF_len];decide
 ·show 2<=_
  decide
end Go.Proofs.YtlohgiichckjmaaGreatDoor
namespace Go.Proofs.YtlohgiichckjmaaGreatDoor
set_option maxHeartbeats 16000000
set_option maxRecDepth 100000
open Go.RowKit Go.Shelf Go.Sort
abbrev In64 (x:Int):Prop:=-9223372036854775808<=x/\x<=9223372036854775807
end Go.Proofs.YtlohgiichckjmaaGreatDoor
namespace Go.Proofs.YtlohgiichckjmaaGreatDoor
set_option maxHeartbeats 16000000
set_option maxRecDepth 100000
open Go.RowKit Go.Shelf Go.Sort
theorem infoSp:(Tryz.prog.info? 30).map (fun i=>(i.zero,i.size,i.bytes))=some (some (.agg #[.int .i64 0,.int .i64 0,.int .i64 0,.int .i64 0,.int .i64 0,.int .i64 0,.int .i64 0,.int .i64 0]),8,64):=by kernel_rfl
structure SpR (w0 w:World) (v:Value) (L:List Plain.Sp):Prop where
 ow:w.ownsRow w0.heap.size 30 8 v L.length (encSp.vals L)
 be:Below w0.heap.size w0 w
theorem SpR.nil (w:World):SpR w w (.slice none 0 0) []:=⟨World.ownsRow_nil _ _ _ _,Below.refl _ _⟩
theorem SpR.grow {w0 w w':World} {v:Value} {L:List Plain.Sp} (h:SpR w0 w v L) (b:Below w.heap.size w w'):SpR w0 w' v L:=⟨Hd.owns_block h.ow fun x hx=>b.block x (own_ltB h.ow hx),h.be.trans (b.mono h.be.size)⟩
theorem SpR.form {w0 w:World} {v:Value} {L:List Plain.Sp} (h:SpR w0 w v L):∃ p c,v=.slice p L.length c/\encSp.Holds w p L/\(p=none->c=0):=by
 obtain ⟨p,c,rfl,hh,hn,_⟩:=encSp.owns h.ow rfl
 exact ⟨p,c,rfl,hh,hn⟩
theorem SpR.app {w0 w:World} {v:Value} {L:List Plain.Sp} (h:SpR w0 w v L) (hl:L.length<=10000) {p:Option Addr} {c:Nat} {q:List Plain.Sp} (hq:encSp.Holds w p q) (hp:p=none->c=0) (hl2:q.length<=10000) :
  ∃ v' w',(Builtin.append_ #[27,27] 27 #[v,.slice p q.length c]).run Tryz.prog w=.ok v' w'/\SpR w0 w' v' (L++q)/\w.grownBy w' v.ownBlock:=by
 obtain ⟨i0,hi,hz0,hz1,hz2⟩:=info_parts infoSp
 obtain ⟨v',w',h1,h2,h3⟩:=encSp.app (w:=w) (B:=w0.heap.size) (c:=c) (m:=q.length) (q:=q) Tryz.underlying27 hi hz0 hz1 hz2 rfl h.ow hq rfl hp (by omega) (by omega) h.be.size
 refine ⟨v',w',h1,⟨by rw [List.length_append];exact h2,?_⟩,h3⟩
 exact h.be.grown h3 h.be.size (fun j hj=>(h.ow.lt j hj).1)
theorem SpR.snoc {w0 w:World} {v:Value} {L:List Plain.Sp} (h:SpR w0 w v L) (hl:L.length<=10000) (s:Plain.Sp) :
  ∃ p c w',(Builtin.append_ #[27,27] 27 #[v,.slice (some ⟨w.heap.size,0,none⟩) 1 1]).run Tryz.prog (w.alloc (boxX s))=.ok (.slice p (L.length+1) c) w'/\SpR w0 w' (.slice p (L.length+1) c) (L++[s]):=by
 have bA:Below w.heap.size w (w.alloc (boxX s)):=(Below.refl _ _).alloc (Nat.le_refl _) _
 obtain ⟨v',w',h1,h2,_⟩:=(h.grow bA).app hl (q:=[s]) (c:=1) (encSp.one_holds w s 30) (fun e=>by cases e) (by simp)
 obtain ⟨p,c,rfl,_⟩:=h2.form
 rw [List.length_append] at h1 h2
 exact ⟨p,c,w',h1,h2⟩
end Go.Proofs.YtlohgiichckjmaaGreatDoor
namespace Go.Proofs.YtlohgiichckjmaaGreatDoor
set_option maxHeartbeats 16000000
set_option maxRecDepth 100000
open Go.RowKit Go.Shelf Go.Sort
theorem list_holds {α:Type} (E:Enc α) (w:World) (l:List α) (e:TypeId):E.Holds (w.alloc (.cells (E.vals l).toArray e)) (some ⟨w.heap.size,0,none⟩) l:=fun _=>by
 refine ⟨w.heap.size,0,rfl,by simp,fun j u hu=>?_⟩
 rw [World.cell?_alloc_at _ _ _ _ (by rfl),Nat.zero_add]
 simpa using hu
end Go.Proofs.YtlohgiichckjmaaGreatDoor
namespace Go.Proofs.YtlohgiichckjmaaGreatDoor
set_option maxHeartbeats 16000000
set_option maxRecDepth 100000
open Go.RowKit Go.Shelf Go.Sort
theorem cfg_c (t mi mo:Int) (ht:In64 t) (hmi:In64 mi) (hmo:In64 mo) (p:Option Addr) (n cap:Nat) (l:List Int) (hbig:n<=9223372036854775807) (hn:l.length=n) (hwf:∀ x,x∈l->In64 x) (w:World) (hp:NumsQ w p l) :
  Calls Tryz.prog 9 #[.slice p n cap,.int .i64 t,.int .i64 mi,.int .i64 mo] w fun e w'=>∃ c lp lc mp mc,Plain.mayC c=true/\c.n=4/\c.ls.length=3/\c.ms.length=2/\c=Plain.cfG l t mi mo/\e=.returned (cfV c (.slice lp c.ls.length lc) (.slice mp c.ms.length mc))/\CfI w' c (.slice lp c.ls.length lc) (.slice mp c.ms.length mc)/\Below w.heap.size w w':=by
 refine (config_g t mi mo ht hmi hmo p n cap l hbig hn hwf w hp).mono ?_
 rintro e w' ⟨lp,lc,mp,mc,rfl,hI,b⟩
 have h3:(Plain.cfG l t mi mo).ls.length=3:=Plain.labsF_len l
 have h2:(Plain.cfG l t mi mo).ms.length=2:=rfl
 exact ⟨Plain.cfG l t mi mo,lp,lc,mp,mc,Plain.cfG_may l t mi mo,rfl,h3,h2,rfl,by rw [h3,h2],by rw [h3,h2];exact hI,b⟩
theorem wf_small {x:Int} (h:0<=x/\x<=100000):(Lit.int .i64 x).wf=true:=by
 have h1:IntKind.i64.min<=x:=by show (-9223372036854775808:Int)<=x;omega
 have h2:x<=IntKind.i64.max:=by show x<=9223372036854775807;omega
 show (decide (IntKind.i64.min<=x)&&decide (x<=IntKind.i64.max))=true
 rw [decide_eq_true h1,decide_eq_true h2];rfl
end Go.Proofs.YtlohgiichckjmaaGreatDoor
