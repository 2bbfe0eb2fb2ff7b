/-
 Laid together: what the law asks of these.
-/
import Derived.Deep.RegionHeld3
import Derived.Deep.LoopGhost
import Derived.Test.YtgjmhojmbgfkhaaGreatDoorM22
namespace Go.Proofs.YtgjmhojmbgfkhaaGreatDoor
set_option maxHeartbeats 16000000
set_option maxRecDepth 100000
open Go.RowKit Go.Shelf Go.Sort
theorem viewAll_c (p:Option Addr) (n cap:Nat) (ls:List Int) (hbig:n<=9223372036854775807) (hn:ls.length=n) (hwf:∀ x,x∈ls->In64 x) (p2:Option Addr) (n2 cap2:Nat) (ds:List Plain.Sp) (hn2:ds.length=n2) (hbig2:n2<=9223372036854775807) (hd:∀ d,d∈ds->InX d) (a:Int) (ha:In64 a)
  (w:World) (htb:∀ k,2<=k->k<=6->w.cell? ⟨0,k,none⟩=some (.int .i64 (k:Nat))) (hp:NumsQ w p ls) (hp2:encSp.Holds w p2 ds) :
  Calls Tryz.prog 4 #[.slice p n cap,.slice p2 n2 cap2,.int .i64 a] w fun e w'=>e=.returned (.bool true)/\Below w.heap.size w w':=by
 have hb0:0<w.heap.size:=World.block_lt_of_cell? (w:=w) (h:=htb 2 (by omega) (by omega))
 have HTB:=hid (fun X (bx:Below w.heap.size w X) k (h2:2<=k) (h6:k<=6)=>(bx.cell (p:=⟨0,k,none⟩) hb0).trans (htb k h2 h6))
 have KC:=cfg_c 1 99 5 (by decide) (by decide) (by decide) p n cap ls hbig hn hwf w hp
 have KS:=hid (fun X (bx:Below w.heap.size w X)=>stepsOf_c p2 n2 cap2 60 ds hn2 hbig2 (by omega) hd X (hp2.grow bx))
 have KA:=fun X=>picked_any a 16 ha.1 ha.2 (by omega) (by omega) X
 have hxr:0<=a%16/\a%16<16:=by omega
 generalize a%16=x at KA hxr
 clear hp hp2 hwf hd htb hb0 ha
 go_enter Tryz.func4,Tryz.ntmps4
 go_wp2_with fail
 refine KC.mono ?_
 rintro e w1 ⟨c,lp,lc,mp,mc,hm,hc4,hc3,hc2,hcc,rfl,hI,b1⟩
 clear hcc
 have HC:=hid (And.intro hm (And.intro hc4 (And.intro hc3 hc2)))
 obtain ⟨W2,hW2⟩:∃ W2,W2=w1.alloc (boxC c (.slice lp c.ls.length lc) (.slice mp c.ms.length mc)):=⟨_,rfl⟩
 have b2:Below w1.heap.size w1 W2:=by rw [hW2];exact (Below.refl _ _).alloc (Nat.le_refl _) _
 have B2:=hid (show Below w.heap.size w W2 from b1.trans (b2.mono b1.size))
 have C2:=hid (show CellC W2 w1.heap.size c (.slice lp c.ls.length lc) (.slice mp c.ms.length mc) by rw [hW2];exact CellC.start w1 c (.slice lp c.ls.length lc) (.slice mp c.ms.length mc))
 have I2:=hid (hI.grow b2)
 clear KC hm hc4 hc3 hc2 hI b1 b2
 go_upto_region 2 with fail
 rw [<- hW2]
 obtain ⟨CB,hCB⟩:∃ CB,CB=w1.heap.size:=⟨_,rfl⟩
 rw [<- hCB] at C2 ⊢
 clear hW2 hCB
 have CW:=hid (fun X (bx:Below W2.heap.size W2 X)=>(C2.out.below bx C2.out.lt:CellC X CB c (.slice lp c.ls.length lc) (.slice mp c.ms.length mc)))
 have IW:=hid (fun X (bx:Below W2.heap.size W2 X)=>I2.out.grow bx)
 have BW:=hid (fun X (bx:Below W2.heap.size W2 X)=>B2.out.trans (bx.mono B2.out.size))
 clear C2 I2
 obtain ⟨k0,k1,k2,k3,k4⟩:=CW.out W2 (Below.refl _ _)
 have bD:=hid (show Below W2.heap.size W2 W2.drew from (Below.refl _ _).drew)
 go_region_held3 (fun w'=>w'.cell? ⟨CB,0,none⟩=some (.int .i64 c.n)/\w'.cell? ⟨CB,1,none⟩=some (.slice lp c.ls.length lc)/\w'.cell? ⟨CB,2,none⟩=some (.int .i64 c.t)/\w'.cell? ⟨CB,3,none⟩=some (.slice mp c.ms.length mc)/\w'.cell? ⟨CB,4,none⟩=some (.int .i64 c.cap)) (go_keep)
  ((
   first
   | (go_at_call 8;refine (KS.out _ (BW.out _ bD.out)).mono ?_;rintro e w3 ⟨q,kc,L,rfl,sp,hL,hid5⟩;have B3:=hid (show Below W2.heap.size W2 w3 from bD.out.trans sp.be);have HSP:=hid sp;have HL:=hid hL;have HI5:=hid hid5;obtain ⟨d0,d1,d2,d3,d4⟩:=CW.out _ B3.out;clear sp hL hid5)
   | (go_at_call 7;refine (wplay_yes c lp mp lc mc 4 2 q L.length kc L rfl (by have:=HL.out;omega) HC.out.1 HC.out.2.1 HC.out.2.2.2 (fun _=>by rw [HC.out.2.2.1];omega) (fun s hs=>by have:=HI5.out s hs;exact wf_small this) w3 (IW.out _ B3.out) (HTB.out _ (BW.out _ B3.out)) HSP.out.hold).mono ?_;rintro e w4 ⟨TB,R,rfl,hR,hx,ho,_,b4⟩;have B4:=hid (show Below W2.heap.size W2 w4 from B3.out.trans (b4.mono B3.out.size));have HR:=hid hR;have HX:=hid hx;have HO:=hid ho;obtain ⟨e0,e1,e2,e3,e4⟩:=CW.out _ B4.out;clear hR hx ho b4)))
 rename_i hlast
 clear hlast
 have HTD:=hid (show ∀ t,t∈R.map (·.x)->TdB t from fun t ht=>by
  rw [HX.out] at ht
  obtain ⟨u,hu,rfl⟩:=List.mem_map.1 ht
  exact TdB.of (Plain.tls_bd (n:=4) (m:=2) HC.out.1 HC.out.2.1 HC.out.2.2.2 L 0 (Plain.Wo.start c) (Plain.Wok.start HC.out.2.1) (by have:=HL.out;omega) u hu))
 have HWH:=hid (show ∀ t,t∈R.map (·.x)->0<=t.who from fun t ht=>by
  rw [HX.out] at ht
  obtain ⟨u,hu,rfl⟩:=List.mem_map.1 ht
  exact Plain.tls_who (n:=4) (m:=2) HC.out.1 HC.out.2.1 HC.out.2.2.2 L 0 (Plain.Wo.start c) (Plain.Wok.start HC.out.2.1) (by have:=HL.out;omega) u hu)
 obtain ⟨N,hN⟩:∃ N,N=L.length:=⟨_,rfl⟩
 have hN6:N<=60:=by rw [hN];exact HL.out
 rw [<- hN] at HR ⊢
 clear hN HX HL HI5 HSP B3 d0 d1 d2 d3 d4 k0 k1 k2 k3 k4 bD KS
 have K5:=of_16 c HC.out.2.1 HC.out.1 (.slice lp c.ls.length lc) (.slice mp c.ms.length mc) (some ⟨TB,0,none⟩) N N R HR.out 15 (by omega) HTD.out (by omega) w4 (IW.out _ B4.out) HO.out
 go_wp2_with fail
 refine K5.mono ?_
 rintro e w5 ⟨q5,c5,D5,rfl,hl5,hx5,ho5,b5⟩
 have B5:=hid (show Below W2.heap.size W2 w5 from B4.out.trans (b5.mono B4.out.size))
 have L5:=hid hl5
 have X5:=hid hx5
 have T5:=hid (show ∀ t,t∈D5.map (·.x)->TdB t from fun t ht=>by rw [hx5] at ht;exact TdB.view HTD.out 15 t ht)
 have O5:=hid ho5
 have G5:=hid (show Below w4.heap.size w4 w5 from b5)
 clear K5 hl5 hx5 ho5 b5 e0 e1 e2 e3 e4
 obtain ⟨g50,g51,g52,g53,g54⟩:=CW.out _ B5.out
 go_wp2_with fail
 refine (KA _).mono ?_
 rintro e w9 ⟨rfl,hx9⟩
 have hy9:=hx9.symm
 clear hx9 KA
 subst hy9
 have K6:=of_16 c HC.out.2.1 HC.out.1 (.slice lp c.ls.length lc) (.slice mp c.ms.length mc) (some ⟨TB,0,none⟩) N N R HR.out x hxr HTD.out (by omega) w5 (IW.out _ B5.out) (HO.out.grow G5.out)
 go_wp2_with fail
 refine K6.mono ?_
 rintro e w6 ⟨q6,c6,D6,rfl,hl6,hx6,ho6,b6⟩
 have B6:=hid (show Below W2.heap.size W2 w6 from B5.out.trans (b6.mono B5.out.size))
 have L6:=hid hl6
 have X6:=hid hx6
 have T6:=hid (show ∀ t,t∈D6.map (·.x)->TdB t from fun t ht=>by rw [hx6] at ht;exact TdB.view HTD.out x t ht)
 have O6:=hid ho6
 have G6:=hid (show Below w5.heap.size w5 w6 from b6)
 clear K6 hl6 hx6 ho6 b6 g50 g51 g52 g53 g54
 obtain ⟨g60,g61,g62,g63,g64⟩:=CW.out _ B6.out
 have K7:=sure_c w6 (HTB.out _ (BW.out _ B6.out))
 have hNN:((N:Int) != (N:Int))=false:=by simp
 go_wp2_with fail
 refine K7.mono ?_
 rintro e w7 ⟨rfl,b7⟩
 have B7:=hid (show Below W2.heap.size W2 w7 from B6.out.trans (b7.mono B6.out.size))
 have OR:=hid (HO.out.grow (G5.out.trans ((G6.out.mono G5.out.size).trans (b7.mono (Nat.le_trans G5.out.size G6.out.size)))))
 have OD:=hid (O5.out.grow (G6.out.trans (b7.mono G6.out.size)))
 have OE:=hid (O6.out.grow b7)
 clear K7 b7 g60 g61 g62 g63 g64 B5 B6 O5 O6 HO G5 G6
 go_wp2
 go_loopg [15] N (fun gg s15 wx=>∃ k:Nat,k<=N/\N-k<=gg/\s15=.int .i64 k/\Aside (Below w7.heap.size w7 wx))
 case atStart=>exact ⟨0,Nat.zero_le _,by omega,rfl,(show Aside _ from Below.refl _ _)⟩
 case round =>
  obtain ⟨k,hk,hg,rfl,A⟩:=hrel
  by_cases hlt:k<N
  ·have hltz:(k:Int)<(N:Int):=by omega
   have kR:k<R.length:=by have:=HR.out;omega
   have kD:k<D5.length:=by have:=L5.out;omega
   have kE:k<D6.length:=by have:=L6.out;omega
   have OT:=OR.out.grow A.out
   obtain ⟨bT,oT,eT,lT,gT⟩:=Vi.holdsT OT.hd (by omega)
   have eT1:=Option.some.inj eT
   have ebT:TB=bT:=congrArg Addr.block eT1
   have eoT:0=oT:=congrArg Addr.off eT1
   subst ebT
   subst eoT
   obtain ⟨b1,o1,rfl,l1,g1⟩:=Vi.holdsT (OD.out.grow A.out).hd (by omega)
   obtain ⟨b2,o2,rfl,l2,g2⟩:=Vi.holdsT (OE.out.grow A.out).hd (by omega)
   have e1:=view_at X5.out kR
   have e2:=view_at X6.out kR
   have mR:R.getD k default∈R:=by rw [List.getD_eq_getElem?_getD,List.getElem?_eq_getElem kR];exact List.getElem_mem _
   have wh:=HWH.out (R.getD k default).x (List.mem_map.2 ⟨_,mR,rfl⟩)
   have tdb:=HTD.out (R.getD k default).x (List.mem_map.2 ⟨_,mR,rfl⟩)
   have td0:=OT.td _ mR
   have td1:=(OD.out.grow A.out).td _ (show D5.getD k default∈D5 by rw [List.getD_eq_getElem?_getD,List.getElem?_eq_getElem kD];exact List.getElem_mem _)
   have gT:=fun i hi=>gT k kR i hi
   have g1:=fun i hi=>g1 k kD i hi
   have g9:=g2 k kE 9 (by decide)
   have gT1:=gT 1 (by decide)
   change wr.cell? ⟨TB,0+(k*11+1),none⟩=some (.int .i64 (R.getD k default).x.who) at gT1
   rw [Nat.zero_add] at gT1
   change wr.cell? ⟨b2,o2+(k*11+9),none⟩=some (.slice (D6.getD k default).pf (D6.getD k default).x.frame.length (D6.getD k default).cf) at g9
   rw [show o2+(k*11+9)=o2+k*11+9 by omega] at g9
   generalize R.getD k default=r0 at *
   generalize D5.getD k default=r1 at *
   generalize D6.getD k default=r2 at *
   obtain ⟨t,ps,cs,pf,cf,pr,cr⟩:=r0
   dsimp only at e1 e2 wh tdb gT1
   clear kR kD kE g2 eT eT1 mR OT
   by_cases h4:t.who<4
   ·obtain ⟨wn,hwn⟩:∃ wn:Nat,t.who=(wn:Int):=⟨t.who.toNat,by omega⟩
    have hw4:wn<4:=by omega
    have hw4z:(wn:Int)<4:=by omega
    have hw3z:¬ (3:Int)<(wn:Int):=by omega
    have hwnn:¬ (wn:Int)<0:=by omega
    have h15:Plain.rdB 15 (wn:Int)=true:=by
     have hq:wn=0\/wn=1\/wn=2\/wn=3:=by omega
     rcases hq with rfl|rfl|rfl|rfl<;>rfl
    rw [hwn] at gT1 e1 e2
    rw [h15] at e1
    have hbit:=bit_rd hxr wn hw4
    obtain ⟨x1,ps1,cs1,pf1,cf1,pr1,cr1⟩:=r1
    have e1':x1=t:=e1
    subst e1'
    obtain ⟨code,who,⟨kc,ki,kf,kh,ku⟩,val,sent,frame,report⟩:=x1
    have hwn':who=(wn:Int):=hwn
    subst hwn'
    have tb1:=tdb.s
    have tb2:=tdb.f
    have tb3:=tdb.r
    dsimp only at tb1 tb2 tb3
    have KS:=fun q os=>Vi.sameTold_c code (wn:Int) kc ki kf kh ku val sent frame report ps1 cs1 pf1 cf1 pr1 cr1 ps cs pf cf pr cr (grow (wr.drewN q) os) (td1.keep (Vi.Kt.of_below (Vi.below_growV (Below.refl _ _) (Nat.le_refl _) q os))) (td0.keep (Vi.Kt.of_below (Vi.below_growV (Below.refl _ _) (Nat.le_refl _) q os))) (by omega) (by omega) (by omega)
    have u0:∀ q os,(grow (wr.drewN q) os).cell? ⟨b1,o1+k*11,none⟩=some (.int .i64 code):=fun q os=>by have:=cell_grown l1 (g1 0 (by decide)) q os;rwa [show o1+(k*11+0)=o1+k*11 by omega] at this
    have u1:∀ q os,(grow (wr.drewN q) os).cell? ⟨b1,o1+k*11+1,none⟩=some (.int .i64 (wn:Int)):=fun q os=>by have:=cell_grown l1 (g1 1 (by decide)) q os;rwa [show o1+(k*11+1)=o1+k*11+1 by omega] at this
    have u2:∀ q os,(grow (wr.drewN q) os).cell? ⟨b1,o1+k*11+2,none⟩=some (.int .i64 kc):=fun q os=>by have:=cell_grown l1 (g1 2 (by decide)) q os;rwa [show o1+(k*11+2)=o1+k*11+2 by omega] at this
    have u3:∀ q os,(grow (wr.drewN q) os).cell? ⟨b1,o1+k*11+3,none⟩=some (.int .i64 ki):=fun q os=>by have:=cell_grown l1 (g1 3 (by decide)) q os;rwa [show o1+(k*11+3)=o1+k*11+3 by omega] at this
    have u4:∀ q os,(grow (wr.drewN q) os).cell? ⟨b1,o1+k*11+4,none⟩=some (.int .i64 kf):=fun q os=>by have:=cell_grown l1 (g1 4 (by decide)) q os;rwa [show o1+(k*11+4)=o1+k*11+4 by omega] at this
    have u5:∀ q os,(grow (wr.drewN q) os).cell? ⟨b1,o1+k*11+5,none⟩=some (.int .i64 kh):=fun q os=>by have:=cell_grown l1 (g1 5 (by decide)) q os;rwa [show o1+(k*11+5)=o1+k*11+5 by omega] at this
    have u6:∀ q os,(grow (wr.drewN q) os).cell? ⟨b1,o1+k*11+6,none⟩=some (.int .i64 ku):=fun q os=>by have:=cell_grown l1 (g1 6 (by decide)) q os;rwa [show o1+(k*11+6)=o1+k*11+6 by omega] at this
    have u7:∀ q os,(grow (wr.drewN q) os).cell? ⟨b1,o1+k*11+7,none⟩=some (.int .i64 val):=fun q os=>by have:=cell_grown l1 (g1 7 (by decide)) q os;rwa [show o1+(k*11+7)=o1+k*11+7 by omega] at this
    have u8:∀ q os,(grow (wr.drewN q) os).cell? ⟨b1,o1+k*11+8,none⟩=some (.slice ps1 sent.length cs1):=fun q os=>by have:=cell_grown l1 (g1 8 (by decide)) q os;rwa [show o1+(k*11+8)=o1+k*11+8 by omega] at this
    have u9:∀ q os,(grow (wr.drewN q) os).cell? ⟨b1,o1+k*11+9,none⟩=some (.slice pf1 frame.length cf1):=fun q os=>by have:=cell_grown l1 (g1 9 (by decide)) q os;rwa [show o1+(k*11+9)=o1+k*11+9 by omega] at this
    have u10:∀ q os,(grow (wr.drewN q) os).cell? ⟨b1,o1+k*11+10,none⟩=some (.slice pr1 report.length cr1):=fun q os=>by have:=cell_grown l1 (g1 10 (by decide)) q os;rwa [show o1+(k*11+10)=o1+k*11+10 by omega] at this
    have v0:∀ q os,(grow (wr.drewN q) os).cell? ⟨TB,k*11,none⟩=some (.int .i64 code):=fun q os=>by have:=cell_grown lT (gT 0 (by decide)) q os;rwa [show 0+(k*11+0)=k*11 by omega] at this
    have v1:∀ q os,(grow (wr.drewN q) os).cell? ⟨TB,k*11+1,none⟩=some (.int .i64 (wn:Int)):=fun q os=>by have:=cell_grown lT (gT 1 (by decide)) q os;rwa [show 0+(k*11+1)=k*11+1 by omega] at this
    have v2:∀ q os,(grow (wr.drewN q) os).cell? ⟨TB,k*11+2,none⟩=some (.int .i64 kc):=fun q os=>by have:=cell_grown lT (gT 2 (by decide)) q os;rwa [show 0+(k*11+2)=k*11+2 by omega] at this
    have v3:∀ q os,(grow (wr.drewN q) os).cell? ⟨TB,k*11+3,none⟩=some (.int .i64 ki):=fun q os=>by have:=cell_grown lT (gT 3 (by decide)) q os;rwa [show 0+(k*11+3)=k*11+3 by omega] at this
    have v4:∀ q os,(grow (wr.drewN q) os).cell? ⟨TB,k*11+4,none⟩=some (.int .i64 kf):=fun q os=>by have:=cell_grown lT (gT 4 (by decide)) q os;rwa [show 0+(k*11+4)=k*11+4 by omega] at this
    have v5:∀ q os,(grow (wr.drewN q) os).cell? ⟨TB,k*11+5,none⟩=some (.int .i64 kh):=fun q os=>by have:=cell_grown lT (gT 5 (by decide)) q os;rwa [show 0+(k*11+5)=k*11+5 by omega] at this
    have v6:∀ q os,(grow (wr.drewN q) os).cell? ⟨TB,k*11+6,none⟩=some (.int .i64 ku):=fun q os=>by have:=cell_grown lT (gT 6 (by decide)) q os;rwa [show 0+(k*11+6)=k*11+6 by omega] at this
    have v7:∀ q os,(grow (wr.drewN q) os).cell? ⟨TB,k*11+7,none⟩=some (.int .i64 val):=fun q os=>by have:=cell_grown lT (gT 7 (by decide)) q os;rwa [show 0+(k*11+7)=k*11+7 by omega] at this
    have v8:∀ q os,(grow (wr.drewN q) os).cell? ⟨TB,k*11+8,none⟩=some (.slice ps sent.length cs):=fun q os=>by have:=cell_grown lT (gT 8 (by decide)) q os;rwa [show 0+(k*11+8)=k*11+8 by omega] at this
    have v9:∀ q os,(grow (wr.drewN q) os).cell? ⟨TB,k*11+9,none⟩=some (.slice pf frame.length cf):=fun q os=>by have:=cell_grown lT (gT 9 (by decide)) q os;rwa [show 0+(k*11+9)=k*11+9 by omega] at this
    have v10:∀ q os,(grow (wr.drewN q) os).cell? ⟨TB,k*11+10,none⟩=some (.slice pr report.length cr):=fun q os=>by have:=cell_grown lT (gT 10 (by decide)) q os;rwa [show 0+(k*11+10)=k*11+10 by omega] at this
    have H9:=hid (fun q os=>(cell_grown l2 g9 q os))
    have HT1:=hid (fun q os=>(cell_grown lT gT1 q os))
    have mixed:Tryz.prog.follows .mixedOrders=true:=by kernel_rfl
    clear g1 gT td0 td1 tdb gT1 g9 e1 hwn wh h15
    go_wp2
    go_quiet_grown (first|(go_at_call 13;exact Calls.grown_of (KS _ _))|fail)
    obtain ⟨w8,hw8⟩:∃ w8,w8=grow (wr.drewN nq) osq:=⟨_,rfl⟩
    have f9:=H9.out nq osq
    have fT:=HT1.out nq osq
    rw [<- hw8] at f9 fT ⊢
    have BN:=hid (show Below w7.heap.size w7 w8 by rw [hw8];exact Vi.below_growV A.out A.out.size nq osq)
    clear hw8 KS H9 HT1 u0 v0 u1 v1 u2 v2 u3 v3 u4 v4 u5 v5 u6 v6 u7 v7 u8 v8 u9 v9 u10 v10
    cases hrd:Plain.rdB x (wn:Int) with
    | false =>
     rw [hrd,if_neg (by decide)] at hbit
     rw [hrd] at e2
     have hf0:r2.x.frame.length=0:=by rw [e2];rfl
     rw [hf0] at f9
     clear e2 hrd hf0
     go_wp2
     go_roundg (N-(k+1))
     case measure=>omega
     case rel=>exact ⟨k+1,by omega,by omega,by go_num,(show Aside _ from BN.out)⟩
    | true =>
     rw [hrd,if_pos rfl] at hbit
     clear e2 hrd f9
     go_wp2
     go_roundg (N-(k+1))
     case measure=>omega
     case rel=>exact ⟨k+1,by omega,by omega,by go_num,(show Aside _ from BN.out)⟩
   ·have hrd:Plain.rdB x t.who=false:=by
     obtain ⟨xa,rfl⟩:=Int.eq_ofNat_of_zero_le hxr.1
     rw [rdB_nat]
     have h16:xa/2^t.who.toNat=0:=by
      have:2^4<=2^t.who.toNat:=Nat.pow_le_pow_right (by decide) (by omega)
      exact Nat.div_eq_of_lt (by omega)
     rw [h16];simp
    rw [hrd] at e2
    have hf0:r2.x.frame.length=0:=by rw [e2];rfl
    rw [hf0] at g9
    clear g1 gT td0 td1 tdb e1 e2 hrd hf0 wh
    generalize t.who=who at h4 gT1
    have h4c:decide (who<(4:Int))=false:=decide_eq_false h4
    have h3:(3:Int)<who:=by omega
    go_wp2
    go_quiet (fail)
    have f9:(wr.drewN nq).cell? ⟨b2,o2+k*11+9,none⟩=some (.slice r2.pf 0 r2.cf):=by simpa using g9
    have fT:(wr.drewN nq).cell? ⟨TB,k*11+1,none⟩=some (.int .i64 who):=by simpa using gT1
    have BN:=hid (show Below w7.heap.size w7 (wr.drewN nq) from below_drewN A.out nq)
    clear g9 gT1
    go_wp2
    go_roundg (N-(k+1))
    case measure=>omega
    case rel=>exact ⟨k+1,by omega,by omega,by go_num,(show Aside _ from BN.out)⟩
  ·have hltz:¬ (k:Int)<(N:Int):=by omega
   have BF:=hid (show Below w.heap.size w wr from (BW.out _ B7.out).trans (A.out.mono (BW.out _ B7.out).size))
   go_wp2
   go_ret
   exact ⟨rfl,BF.out⟩
end Go.Proofs.YtgjmhojmbgfkhaaGreatDoor
