/-
 Laid together: what the law asks of these.
-/
import Derived.Deep.QuietTactic
import Derived.BigQuiet
import Derived.Deep.LoopGhost
import Derived.Test.YtlohgiichckjmaaGreatDoorMt19
namespace Go.Proofs.YtlohgiichckjmaaGreatDoor
set_option maxHeartbeats 16000000
set_option maxRecDepth 100000
open Go.RowKit Go.Shelf Go.Sort
def Plain.totW (W:Plain.Wo) (k i:Nat):Int:=(W.rk i k).free+(W.rk i k).held+(W.rk i k).used
theorem Plain.sums_all {c:Plain.Cf} (hc:Plain.mayC c=true) (hn:c.n=4) (hm:c.ms.length=2) (l:List Plain.Sp) (hl:l.length+21<=300):∀ k,k<2 ->
  0<=((Plain.runW c (Plain.Wo.start c) l).bk k).reserve/\((Plain.runW c (Plain.Wo.start c) l).bk k).reserve<=c.ms.getD k 0/\0<=((Plain.runW c (Plain.Wo.start c) (Plain.fullF l)).bk k).reserve /\
  Plain.totW (Plain.runW c (Plain.Wo.start c) l) k 0+Plain.totW (Plain.runW c (Plain.Wo.start c) l) k 1+Plain.totW (Plain.runW c (Plain.Wo.start c) l) k 2+Plain.totW (Plain.runW c (Plain.Wo.start c) l) k 3+((Plain.runW c (Plain.Wo.start c) l).bk k).reserve<=c.ms.getD k 0 /\
  Plain.totW (Plain.runW c (Plain.Wo.start c) (Plain.fullF l)) k 0+Plain.totW (Plain.runW c (Plain.Wo.start c) (Plain.fullF l)) k 1+Plain.totW (Plain.runW c (Plain.Wo.start c) (Plain.fullF l)) k 2+Plain.totW (Plain.runW c (Plain.Wo.start c) (Plain.fullF l)) k 3+((Plain.runW c (Plain.Wo.start c) (Plain.fullF l)).bk k).reserve=c.ms.getD k 0:=fun k hk=>by
 have ok:=Plain.wok_all hc (n:=4) hn hm l (by omega)
 have hs:=Plain.wss_all hc (n:=4) hn hm l.length l rfl (by omega)
 have g4:=Plain.given_four hs ok.2 ok.1.bn hk
 have hf:=Plain.fullF_len l
 have ok2:=Plain.wok_all hc (n:=4) hn hm (Plain.fullF l) (by omega)
 have hs2:=Plain.wss_all hc (n:=4) hn hm (Plain.fullF l).length (Plain.fullF l) rfl (by omega)
 have g42:=Plain.given_four hs2 ok2.2 ok2.1.bn hk
 have n0:=g4.2.2 0 (by omega)
 have n1:=g4.2.2 1 (by omega)
 have n2:=g4.2.2 2 (by omega)
 have n3:=g4.2.2 3 (by omega)
 have t0:=(hs.tot 0 k).sm
 have t1:=(hs.tot 1 k).sm
 have t2:=(hs.tot 2 k).sm
 have t3:=(hs.tot 3 k).sm
 have l0:=hs.le 0 k
 have l1:=hs.le 1 k
 have l2:=hs.le 2 k
 have l3:=hs.le 3 k
 have u0:=(hs2.tot 0 k).sm
 have u1:=(hs2.tot 1 k).sm
 have u2:=(hs2.tot 2 k).sm
 have u3:=(hs2.tot 3 k).sm
 have f0:=Plain.full_all hc hn hm hl (i:=0) (k:=k) (by omega) hk
 have f1:=Plain.full_all hc hn hm hl (i:=1) (k:=k) (by omega) hk
 have f2:=Plain.full_all hc hn hm hl (i:=2) (k:=k) (by omega) hk
 have f3:=Plain.full_all hc hn hm hl (i:=3) (k:=k) (by omega) hk
 unfold Plain.totW
 refine ⟨g4.2.1,by omega,g42.2.1,by omega,by omega⟩
theorem sumT_le {f:Nat->Int} (hf:∀ i,i<4->0<=f i) {r x:Int} (h0:0<=r) (h4:f 0+f 1+f 2+f 3+r<=x):∀ j,j<=4->0<=sumU f j/\sumU f j<=x:=sumU_le hf (by omega)
theorem NumR.cells {w0 w:World} {p:Option Addr} {c n:Nat} {l:List Int} (h:NumR w0 w (.slice p n c) l) (hl:l.length=n) (hn:0<n):∃ b off,p=some ⟨b,off,none⟩/\∀ j,j<n->w.cell? ⟨b,off+j,none⟩=some (.int .i64 (l.getD j 0)):=by
 subst hl
 obtain ⟨s,_,p',c',e⟩:=h.seg
 exact seg_at s hn
theorem mapN_two (f:Nat->Int) {k:Nat} (hk:k<2):(Bo.Plain.mapN 2 f).getD k 0=f k:=Bo.Plain.mapN_at hk
theorem worldSums_c (p:Option Addr) (n cap:Nat) (ls:List Int) (hbig:n<=9223372036854775807) (hn:ls.length=n) (hwf:∀ x,x∈ls->In64 x) (ti mi mo:Int) (hti:In64 ti) (hmi:In64 mi) (hmo:In64 mo) (p2:Option Addr) (n2 cap2:Nat) (ds:List Plain.Sp) (hn2:ds.length=n2) (hbig2:n2<=9223372036854775807) (hd:∀ d,d∈ds->InX d)
  (w:World) (htb:∀ k,2<=k->k<=6->w.cell? ⟨0,k,none⟩=some (.int .i64 (k:Nat))) (hp:NumsQ w p ls) (hp2:encSp.Holds w p2 ds) :
  Calls Tryz.prog 5 #[.slice p n cap,.int .i64 ti,.int .i64 mi,.int .i64 mo,.slice p2 n2 cap2] w fun e w'=>e=.returned (.bool true)/\Below w.heap.size w w':=by
 have hb0:0<w.heap.size:=World.block_lt_of_cell? (w:=w) (h:=htb 2 (by omega) (by omega))
 have HTB:=hid (fun X (bx:Below w.heap.size w X) k (h2:2<=k) (h6:k<=6)=>(bx.cell (p:=⟨0,k,none⟩) hb0).trans (htb k h2 h6))
 have KC:=cfg_c ti mi mo hti hmi hmo p n cap ls hbig hn hwf w hp
 have KS:=hid (fun X (bx:Below w.heap.size w X)=>stepsOf_c p2 n2 cap2 120 ds hn2 hbig2 (by omega) hd X (hp2.grow bx))
 clear hp hp2 hwf hd htb hb0 hti hmi hmo
 go_enter Tryz.func5,Tryz.ntmps5
 go_wp2_with fail
 refine KC.mono ?_
 rintro e w1 ⟨c,lp,lc,mp,mc,hm,hc4,hc3,hc2,hcc,rfl,hI,b1⟩
 have HMS:=hid (show ∀ k,k<2->0<=c.ms.getD k 0/\c.ms.getD k 0<=59 from fun k hk=>by
  rw [hcc]
  have:k=0\/k=1:=by omega
  rcases this with rfl|rfl
  ·show 0<=mi%60/\mi%60<=59
   omega
  ·show 0<=(mi.tdiv 60)%60/\(mi.tdiv 60)%60<=59
   omega)
 clear hcc
 have HC:=hid (And.intro hm (And.intro hc4 (And.intro hc3 hc2)))
 obtain ⟨W2,hW2⟩:∃ W2,W2=w1.alloc (boxC c (.slice lp c.ls.length lc) (.slice mp c.ms.length mc)):=⟨_,rfl⟩
 have b2:Below w1.heap.size w1 W2:=by rw [hW2];exact (Below.refl _ _).alloc (Nat.le_refl _) _
 have B2:=hid (show Below w.heap.size w W2 from b1.trans (b2.mono b1.size))
 have C2:=hid (show CellC W2 w1.heap.size c (.slice lp c.ls.length lc) (.slice mp c.ms.length mc) by rw [hW2];exact CellC.start w1 c (.slice lp c.ls.length lc) (.slice mp c.ms.length mc))
 have I2:=hid (hI.grow b2)
 clear KC hm hc4 hc3 hc2 hI b1 b2
 go_upto_region 2 with fail
 rw [<- hW2]
 obtain ⟨CB,hCB⟩:∃ CB,CB=w1.heap.size:=⟨_,rfl⟩
 rw [<- hCB] at C2 ⊢
 clear hW2 hCB
 have CW:=hid (fun X (bx:Below W2.heap.size W2 X)=>(C2.out.below bx C2.out.lt:CellC X CB c (.slice lp c.ls.length lc) (.slice mp c.ms.length mc)))
 have IW:=hid (fun X (bx:Below W2.heap.size W2 X)=>I2.out.grow bx)
 have BW:=hid (fun X (bx:Below W2.heap.size W2 X)=>B2.out.trans (bx.mono B2.out.size))
 clear C2 I2
 have K3:=KS.out W2 (BW.out _ (Below.refl _ _))
 go_wp2_with fail
 refine K3.mono ?_
 rintro e w3 ⟨q,kc,L,rfl,sp,hL,hid5⟩
 have B3:=hid (show Below W2.heap.size W2 w3 from sp.be)
 have HO3:=hid sp.hold
 have HP3:=hid (show q=none->kc=0 by
  obtain ⟨p',c',e',_,hn'⟩:=sp.form
  injection e' with e1 _ e3
  rw [e1,e3];exact hn')
 have HL:=hid hL
 have HWF:=hid (show ∀ s,s∈L->(Lit.int .i64 s.id).wf=true from fun s hs=>wf_small (hid5 s hs))
 have HWF2:=hid (show ∀ s,s∈Plain.fullF L->(Lit.int .i64 s.id).wf=true from fun s hs=>by
  unfold Plain.fullF Plain.comeL at hs
  rcases List.mem_append.1 hs with y|y
  ·exact wf_small (hid5 s y)
  ·rcases List.mem_cons.1 y with rfl|y
   ·rfl
   ·obtain ⟨i,hi,rfl⟩:=List.mem_map.1 y
    have h1:=List.mem_range.1 hi
    have h2:=Plain.ticksN_le L
    exact wf_small ⟨Int.natCast_nonneg _,by show ((20*Plain.ticksN L+i:Nat):Int)<=100000;omega⟩)
 clear K3 KS sp hid5 hL
 obtain ⟨k0,k1,k2,k3,k4⟩:=CW.out _ B3.out
 have K4:=ended_c c lp mp lc mc q L.length kc L rfl (by have:=HL.out;omega) HC.out.1 HC.out.2.1 HC.out.2.2.1 HC.out.2.2.2 HWF.out HP3.out w3 (IW.out _ B3.out) (HTB.out _ (BW.out _ B3.out)) HO3.out
 obtain ⟨N,hN⟩:∃ N,N=L.length:=⟨_,rfl⟩
 rw [<- hN] at K4 ⊢
 have HN:=hid hN
 clear hN
 go_wp2_with fail
 refine K4.mono ?_
 rintro e w4 ⟨rp,rc,pp,pc,spp,sc,w0,P,G,rfl,b4,en⟩
 have B4:=hid (show Below W2.heap.size W2 w4 from B3.out.trans (b4.mono B3.out.size))
 have EN:=hid en
 have HO4:=hid (HO3.out.grow b4)
 clear K4 b4 en k0 k1 k2 k3 k4 HO3 B3
 obtain ⟨k0,k1,k2,k3,k4⟩:=CW.out _ B4.out
 have bD:=hid (show Below w4.heap.size w4 w4.drew from (Below.refl _ _).drew)
 go_upto_region 4 with fail
 go_region_held3 (fun w'=>w'.cell? ⟨CB,0,none⟩=some (.int .i64 c.n)/\w'.cell? ⟨CB,1,none⟩=some (.slice lp c.ls.length lc)/\w'.cell? ⟨CB,2,none⟩=some (.int .i64 c.t)/\w'.cell? ⟨CB,3,none⟩=some (.slice mp c.ms.length mc)/\w'.cell? ⟨CB,4,none⟩=some (.int .i64 c.cap)) (go_keep)
  ((
   first
   | (go_at_call 17;refine (full_c q N kc L HN.out.symm (by have:=HL.out;have:=HN.out;omega) HP3.out w4.drew (HO4.out.grow bD.out)).mono ?_;rintro e w5 ⟨q5,kc5,rfl,sp5⟩;have G5:=hid (show Below w4.heap.size w4 w5 from bD.out.trans (sp5.be.mono bD.out.size));have B5:=hid (show Below W2.heap.size W2 w5 from B4.out.trans (G5.out.mono B4.out.size));have SP5:=hid sp5;obtain ⟨d0,d1,d2,d3,d4⟩:=CW.out _ B5.out;clear sp5)
   | (go_at_call 14;refine (ended_c c lp mp lc mc q5 (N+21) kc5 (Plain.fullF L) (by rw [Plain.fullF_len,HN.out]) (by have:=HL.out;have:=HN.out;omega) HC.out.1 HC.out.2.1 HC.out.2.2.1 HC.out.2.2.2 HWF2.out (by
     have h:=SP5.out.form
     obtain ⟨p',c',e',_,hn'⟩:=h
     injection e' with e1 _ e3
     rw [e1,e3];exact hn') w5 (IW.out _ B5.out) (HTB.out _ (BW.out _ B5.out)) (by
     have h:=SP5.out.form
     obtain ⟨p',c',e',hh,_⟩:=h
     injection e' with e1 _ e3
     rw [e1];exact hh)).mono ?_;rintro e w6 ⟨rp6,rc6,pp6,pc6,spp6,sc6,w06,P6,G6,rfl,b6,en6⟩;have B6:=hid (show Below W2.heap.size W2 w6 from B5.out.trans (b6.mono B5.out.size));have EN6:=hid en6;have EN4:=hid (EN.out.grow (G5.out.trans (b6.mono G5.out.size)));obtain ⟨e0,e1,e2,e3,e4⟩:=CW.out _ B6.out;clear en6 b6)))
 rename_i hlast
 clear hlast
 have HS:=hid (Plain.sums_all HC.out.1 HC.out.2.1 HC.out.2.2.2 L (by have:=HL.out;omega))
 have HS1:=hid (Plain.sold_all HC.out.1 HC.out.2.1 HC.out.2.2.2 L (by have:=HL.out;omega))
 have HS2:=hid (Plain.sold_all HC.out.1 HC.out.2.1 HC.out.2.2.2 (Plain.fullF L) (by have:=HL.out;rw [Plain.fullF_len];omega))
 generalize Plain.runW c (Plain.Wo.start c) (Plain.fullF L)=V at EN6 HS HS2
 generalize Plain.runW c (Plain.Wo.start c) L=W at EN EN4 HS HS1
 clear HL HWF HWF2 HP3 HO4 SP5 B5 G5 B4 EN d0 d1 d2 d3 d4 k0 k1 k2 k3 k4 bD e0 e1 e2 e3 e4
 have K7:=sure_c w6 (HTB.out _ (BW.out _ B6.out))
 go_wp2_with fail
 refine K7.mono ?_
 rintro e w7 ⟨rfl,b7⟩
 have B7:=hid (show Below W2.heap.size W2 w7 from B6.out.trans (b7.mono B6.out.size))
 have E7:=hid (EN4.out.grow b7)
 have F7:=hid (EN6.out.grow b7)
 clear K7 b7 EN4 EN6 B6
 obtain ⟨pb,po,epp,pcl⟩:=E7.out.purse (by omega)
 obtain ⟨ob,oo,eop,ocl⟩:=F7.out.purse (by omega)
 obtain ⟨rb,ro,erp,rcl⟩:=E7.out.re.cells rfl (by omega)
 obtain ⟨qb,qo,eqp,qcl⟩:=F7.out.re.cells rfl (by omega)
 subst epp
 subst eop
 subst erp
 subst eqp
 clear pcl ocl rcl qcl
 go_wp2
 go_loopg [21,22,23,24,25,26] 2 (fun gg s21 _ _ _ _ _ wx=>∃ k:Nat,k<=2/\2-k<=gg/\s21=.int .i64 k/\Aside (Below w7.heap.size w7 wx))
 case atStart=>exact ⟨0,Nat.zero_le _,by omega,rfl,(show Aside _ from Below.refl _ _)⟩
 case round =>
  obtain ⟨k,hk,hg,rfl,A⟩:=hrel
  by_cases hlt:k<2
  ·have hltz:(k:Int)<2:=by omega
   have hkn:¬ (k:Int)<0:=by omega
   have hSk:=HS.out k hlt
   have h1k:=HS1.out k hlt
   have h2k:=HS2.out k hlt
   have hmk:=HMS.out k hlt
   have HSU:=hid (sumT_le (f:=Plain.totW W k) (fun i hi=>by have:=h1k.1 i hi;unfold Plain.totW;omega) hSk.1 hSk.2.2.2.1)
   have HSV:=hid (sumT_le (f:=Plain.totW V k) (fun i hi=>by have:=h2k.1 i hi;unfold Plain.totW;omega) hSk.2.2.1 (Int.le_of_eq hSk.2.2.2.2))
   clear hSk h1k h2k
   go_wp2
   go_loopg [22,23,24,25,26] 4 (fun gg s22 s23 s24 _ _ wx=>∃ j:Nat,j<=4/\4-j<=gg/\s24=.int .i64 j/\s22=.int .i64 (sumU (Plain.totW W k) j)/\s23=.int .i64 (sumU (Plain.totW V k) j)/\Aside (Below wr.heap.size wr wx))
   case atStart=>exact ⟨0,Nat.zero_le _,by omega,rfl,rfl,rfl,(show Aside _ from Below.refl _ _)⟩
   case round =>
    obtain ⟨j,hj,hgj,rfl,rfl,rfl,A2⟩:=hrel
    have hsu:=HSU.out j hj
    have hsv:=HSV.out j hj
    by_cases hlj:j<4
    ·have hljz:(j:Int)<4:=by omega
     have hjn:¬ (j:Int)<0:=by omega
     have gA:=hid (A.out.trans (A2.out.mono A.out.size))
     have E9:=E7.out.grow gA.out
     have F9:=F7.out.grow gA.out
     obtain ⟨pb',po',e9,pcl⟩:=E9.purse (by omega)
     have ep:=Option.some.inj e9
     have ep1:pb=pb':=congrArg Addr.block ep
     have ep2:po=po':=congrArg Addr.off ep
     subst ep1
     subst ep2
     have cj:=pcl j hlj
     obtain ⟨_,x1,x2,x3,x4,x5⟩:=E9.pcells (i:=j) (k:=k) hlj hlt
     obtain ⟨h1,h2,h3,h4,_⟩:=(HS1.out k hlt).1 j hlj
     obtain ⟨v1,v2,v3,v4,_⟩:=(HS2.out k hlt).1 j hlj
     have SU:=hid (show sumU (Plain.totW W k) (j+1)=sumU (Plain.totW W k) j+((W.rk j k).free+(W.rk j k).held+(W.rk j k).used) from rfl)
     have SV:=hid (show sumU (Plain.totW V k) (j+1)=sumU (Plain.totW V k) j+((V.rk j k).free+(V.rk j k).held+(V.rk j k).used) from rfl)
     generalize sumU (Plain.totW W k) j=u at hsu SU ⊢
     generalize sumU (Plain.totW V k) j=v at hsv SV ⊢
     generalize (W.rk j k).free=fr at x3 h1 h4 SU
     generalize (W.rk j k).held=he at x4 h2 h4 SU
     generalize (W.rk j k).used=us at x5 h3 h4 SU
     obtain ⟨W5,hW5⟩:∃ W5,W5=wr.alloc (.cells #[.int .i64 0,.int .i64 0,.int .i64 fr,.int .i64 he,.int .i64 us] 36):=⟨_,rfl⟩
     have B5:=hid (show Below wr.heap.size wr W5 by rw [hW5];exact (Below.refl _ _).alloc (Nat.le_refl _) _)
     have R5:=hid (show W5.rowIs wr.heap.size 36 5 (fun i=>if i=2 then .int .i64 fr else if i=3 then .int .i64 he else if i=4 then .int .i64 us else .int .i64 0) by
      rw [hW5]
      refine World.rowIs_alloc wr _ 36 _ fun i hi=>?_
      have hi6:i<5:=hi
      have:i=0\/i=1\/i=2\/i=3\/i=4:=by omega
      rcases this with rfl|rfl|rfl|rfl|rfl<;>rfl)
     have F5:=F9.grow B5.out
     obtain ⟨ob',oo',f9,ocl⟩:=F5.purse (by omega)
     have fp:=Option.some.inj f9
     have fp1:ob=ob':=congrArg Addr.block fp
     have fp2:oo=oo':=congrArg Addr.off fp
     subst fp1
     subst fp2
     have dj:=ocl j hlj
     obtain ⟨_,y1,y2,y3,y4,y5⟩:=F5.pcells (i:=j) (k:=k) hlj hlt
     generalize (V.rk j k).free=fv at y3 v1 v4 SV
     generalize (V.rk j k).held=hv at y4 v2 v4 SV
     generalize (V.rk j k).used=uv at y5 v3 v4 SV
     obtain ⟨W6,hW6⟩:∃ W6,W6=W5.alloc (.cells #[.int .i64 0,.int .i64 0,.int .i64 fv,.int .i64 hv,.int .i64 uv] 36):=⟨_,rfl⟩
     have B6:=hid (show Below W5.heap.size W5 W6 by rw [hW6];exact (Below.refl _ _).alloc (Nat.le_refl _) _)
     have R6:=hid (show W6.rowIs W5.heap.size 36 5 (fun i=>if i=2 then .int .i64 fv else if i=3 then .int .i64 hv else if i=4 then .int .i64 uv else .int .i64 0) by
      rw [hW6]
      refine World.rowIs_alloc W5 _ 36 _ fun i hi=>?_
      have hi6:i<5:=hi
      have:i=0\/i=1\/i=2\/i=3\/i=4:=by omega
      rcases this with rfl|rfl|rfl|rfl|rfl<;>rfl)
     have R7:=hid (R5.out.of_block (B6.out.block _ R5.out.lt))
     have r2:W6.cell? ⟨wr.heap.size,2,none⟩=some (.int .i64 fr):=R7.out.cell (i:=2) (by decide)
     have r3:W6.cell? ⟨wr.heap.size,3,none⟩=some (.int .i64 he):=R7.out.cell (i:=3) (by decide)
     have r4:W6.cell? ⟨wr.heap.size,4,none⟩=some (.int .i64 us):=R7.out.cell (i:=4) (by decide)
     have q2:W6.cell? ⟨W5.heap.size,2,none⟩=some (.int .i64 fv):=R6.out.cell (i:=2) (by decide)
     have q3:W6.cell? ⟨W5.heap.size,3,none⟩=some (.int .i64 hv):=R6.out.cell (i:=3) (by decide)
     have q4:W6.cell? ⟨W5.heap.size,4,none⟩=some (.int .i64 uv):=R6.out.cell (i:=4) (by decide)
     have NX:=hid (show Below _ _ W6 from A2.out.trans ((B5.out.trans (B6.out.mono B5.out.size)).mono A2.out.size))
     have a1:¬ us<0:=by omega
     have a2:¬ (100:Int)<us:=by omega
     have a3:¬ fr<0:=by omega
     have a4:¬ (100:Int)<fr:=by omega
     have a5:¬ he<0:=by omega
     have a6:¬ (100:Int)<he:=by omega
     have c1:¬ uv<0:=by omega
     have c2:¬ (100:Int)<uv:=by omega
     have c3:¬ fv<0:=by omega
     have c4:¬ (100:Int)<fv:=by omega
     have c5:¬ hv<0:=by omega
     have c6:¬ (100:Int)<hv:=by omega
     clear e9 ep pcl E9 F9 f9 fp ocl F5 R5 R6 R7 B5 B6 gA A A2
     go_upto_region 16 with fail
     rw [<- hW5]
     clear hW5 x1 x2 x3 x4 x5 cj
     go_upto_region 17 with fail
     rw [<- hW6]
     clear hW6 y1 y2 y3 y4 y5 dj
     go_wp2
     go_roundg (4-(j+1))
     case measure=>omega
     case rel=>exact ⟨j+1,by omega,by omega,by go_num,by rw [SU.out],by rw [SV.out],(show Aside _ from NX.out)⟩
    ·have hljz:¬ (j:Int)<4:=by omega
     have ej:4=j:=by omega
     subst ej
     have gA:=hid (A.out.trans (A2.out.mono A.out.size))
     have Bx:=hid (show Below W2.heap.size W2 wr from B7.out.trans (gA.out.mono B7.out.size))
     obtain ⟨_,_,_,k3,_⟩:=CW.out _ Bx.out
     obtain ⟨mb,mf,em,mcl⟩:=seg_at (IW.out _ Bx.out).sm (by rw [HC.out.2.2.2];omega)
     have mk:=mcl k (by rw [HC.out.2.2.2];exact hlt)
     have hkl:(k:Int)<(c.ms.length:Int):=by rw [HC.out.2.2.2];omega
     rw [em] at k3
     obtain ⟨rb',ro',e9,rcl⟩:=(E7.out.grow gA.out).re.cells rfl (by omega)
     have ep:=Option.some.inj e9
     have ep1:rb=rb':=congrArg Addr.block ep
     have ep2:ro=ro':=congrArg Addr.off ep
     subst ep1
     subst ep2
     have rk:=rcl k hlt
     rw [mapN_two _ hlt] at rk
     obtain ⟨qb',qo',f9,qcl⟩:=(F7.out.grow gA.out).re.cells rfl (by omega)
     have fp:=Option.some.inj f9
     have fp1:qb=qb':=congrArg Addr.block fp
     have fp2:qo=qo':=congrArg Addr.off fp
     subst fp1
     subst fp2
     have qk:=qcl k hlt
     rw [mapN_two _ hlt] at qk
     have hSk:=HS.out k hlt
     have hu4:sumU (Plain.totW W k) 4=Plain.totW W k 0+Plain.totW W k 1+Plain.totW W k 2+Plain.totW W k 3:=by simp only [sumU];omega
     have hv4:sumU (Plain.totW V k) 4=Plain.totW V k 0+Plain.totW V k 1+Plain.totW V k 2+Plain.totW V k 3:=by simp only [sumU];omega
     rw [<- hu4,<- hv4] at hSk
     generalize sumU (Plain.totW W k) 4=u at hsu hSk ⊢
     generalize sumU (Plain.totW V k) 4=v at hsv hSk ⊢
     generalize c.ms.getD k 0=z at mk hsu hsv hmk hSk
     generalize (W.bk k).reserve=x at rk hSk
     generalize (V.bk k).reserve=y at qk hSk
     obtain ⟨g1,g2,g3,g4,g5⟩:=hSk
     have a1:decide (x<0)=false:=decide_eq_false (by omega)
     have a2:decide (z<x)=false:=decide_eq_false (by omega)
     have a3:decide (y<0)=false:=decide_eq_false (by omega)
     obtain ⟨s1,hs1⟩:∃ s1,s1=u+x:=⟨_,rfl⟩
     have e1:IntKind.i64.wrap (u+x)=s1:=by rw [hs1,IntKind.wrap_i64];omega
     have a4:decide (z<s1)=false:=decide_eq_false (by omega)
     obtain ⟨s2,hs2⟩:∃ s2,s2=v+y:=⟨_,rfl⟩
     have e2:IntKind.i64.wrap (v+y)=s2:=by rw [hs2,IntKind.wrap_i64];omega
     have a5:(s2 != z)=false:=by simp;omega
     have NX:=hid gA.out
     clear mcl em A A2 gA e9 ep rcl f9 fp qcl hu4 hv4 g1 g2 g3 g4 g5 hs1 hs2
     go_wp2
     go_quiet (fail)
     go_wp2
     go_roundg (2-(k+1))
     case measure=>omega
     case rel=>exact ⟨k+1,by omega,by omega,by go_num,(show Aside _ from ⟨NX.out.os,NX.out.tape,NX.out.output,NX.out.size,NX.out.block⟩)⟩
  ·have hltz:¬ (k:Int)<2:=by omega
   go_wp2
   go_ret
   exact ⟨rfl,BW.out _ (B7.out.trans (A.out.mono B7.out.size))⟩
end Go.Proofs.YtlohgiichckjmaaGreatDoor
