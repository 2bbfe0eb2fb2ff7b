/-
 Laid together: what the law asks of these.
-/
import Derived.Shelf.SlSortCmp.QuietGrown
import Derived.Deep.LoopGhost
import Derived.Deep.RegionHeld3
import Derived.Test.YtleaknfjbbccgaaGreatDoorMb17
import Derived.Test.YtleaknfjbbccgaaGreatDoorMb20
namespace Go.Proofs.YtleaknfjbbccgaaGreatDoor
open Plain
set_option maxHeartbeats 16000000
set_option maxRecDepth 100000
open Go.RowKit Go.Shelf Go.Sort
theorem zL4 (c:Cf) (lp mp:Option Addr) (lc mc:Nat) (p:Option Addr) (N cap:Nat) (l:List Sp) (hN:l.length=N) (h300:N<=300) (hc:mayC c=true) (hL:c.ls.length=3) (hs:∀ s,s∈l->SOk s) (hp0:p=none->cap=0) (x:Nat) (hx:x<16) (p2:Option Addr) (n2 cap2:Nat) (ds:List Sp) (hn2:ds.length=n2) (hbig2:n2<=9223372036854775807) (hd:∀ d,d∈ds->InX d)
  (w:World) (hI:CfI w c (.slice lp c.ls.length lc) (.slice mp c.ms.length mc)) (hp:encSp.Holds w p l) (hp2:encSp.Holds w p2 ds) :
  Calls Tryz.prog 19 #[cfV c (.slice lp c.ls.length lc) (.slice mp c.ms.length mc),.slice p N cap,.int .i64 (x:Int),.slice p2 n2 cap2] w fun e w'=>∃ q k,e=.returned (.slice q N k)/\(q=none->k=0)/\encSp.Holds w' q (otL c x l ds N)/\Below w.heap.size w w':=by
 obtain ⟨W2,hW2⟩:∃ W2,W2=w.alloc (boxC c (.slice lp c.ls.length lc) (.slice mp c.ms.length mc)):=⟨_,rfl⟩;have b2:Below w.heap.size w W2:=by rw [hW2];exact yN.alloc yM _
 have C2:=hid (show CellC W2 w.heap.size c (.slice lp c.ls.length lc) (.slice mp c.ms.length mc) by rw [hW2];exact CellC.start w c (.slice lp c.ls.length lc) (.slice mp c.ms.length mc));have BW:=hid (fun X (bx:Below W2.heap.size W2 X)=>b2.trans (bx.mono b2.size));have IW:=hid (fun X (bx:Below W2.heap.size W2 X)=>hI.grow (BW.out X bx));have OW:=hid (fun X (bx:Below W2.heap.size W2 X)=>hp2.grow (BW.out X bx));have OL:=hid (show 0<n2->∃ b o,p2=some ⟨b,o,none⟩/\b<W2.heap.size from fun h0=>by
  obtain ⟨b,o,e,h,_⟩:=holdsSp hp2 (by omega);exact ⟨b,o,e,zF h b2.size⟩)
 obtain ⟨v4,W4,hrun4,sp4,_⟩:=(SpR.nil W2).app (zG _) (p:=p) (c:=cap) (hp.grow b2) hp0 (by omega);obtain ⟨pb,cb,rfl,_,hcb⟩:=sp4.form;rw [List.nil_append] at hrun4 sp4;rw [hN] at hrun4 sp4;have RUN4:=hid hrun4;have B34:=hid sp4.be;have BS0:=hid (sp4.bs hN.symm);have HPB:=hid hcb;have HC:=hid (And.intro hc hL);have HS:=hid hs;have HD:=hid hd;have HN:=hid hN;have HN2:=hid hn2;clear hrun4 sp4 hcb hI hp hp2 hc hL hs hp0 hn2 hd hN b2;have mixed:Tryz.prog.follows .mixedOrders=true:=by kernel_rfl
 go_enter Tryz.func19,Tryz.ntmps19
 go_upto_region 1 with fail
 rw [<- hW2];obtain ⟨CB,hCB⟩:∃ CB,CB=w.heap.size:=⟨_,rfl⟩;rw [<- hCB] at C2 ⊢;clear hW2;have HCB:=hid (show CB<W2.heap.size from C2.out.lt);have CW:=hid (fun X (bx:Below W2.heap.size W2 X)=>(C2.out.below bx C2.out.lt:CellC X CB c (.slice lp c.ls.length lc) (.slice mp c.ms.length mc)));clear C2 hCB
 go_wp2_with (first|(at_builtin;refine yV _ _ 28 RUN4.out (by rfl) (by rfl) (by rfl) (by rfl) (by rfl) ?_)|fail)
 clear RUN4
 go_loopg [10,11] N (fun gg s10 _ wx=>∃ k:Nat,k<=N/\k<=n2/\N-k<=gg/\s10=.int .i64 k/\Aside (BS W2.heap.size wx pb N (otL c x l ds k))/\Aside (Below W2.heap.size W2 wx))
 case atStart=>exact ⟨0,zG _,zG _,by omega,rfl,(show Aside _ from fun h0=>by
   obtain ⟨g,M,f,h1,h2,h3,h4,h5⟩:=BS0.out h0;exact ⟨g,M,f,h1,h2,h3,h4,fun j q hj hq=>by rw [h5 j q hj hq,zP1 c x l ds 0 (by rw [HN.out];exact hj),if_neg (by omega)]⟩),(show Aside _ from B34.out)⟩
 case round =>
  obtain ⟨k,hkN,hkO,hg,rfl,AB,AW⟩:=hrel;clear BS0 B34;by_cases hlt:k<N
  ·have hltz:(k:Int)<(N:Int):=by omega
   have hkn:¬ (k:Int)<0:=by omega
   by_cases hltO:k<n2
   ·have hltOz:(k:Int)<(n2:Int):=by omega
    have hkt:k<l.length:=by rw [HN.out];exact hlt
    have hko:k<ds.length:=by rw [HN2.out];exact hltO
    obtain ⟨g,M,f,hpb,hgB,hrow,hM,hf⟩:=AB.out (by omega);subst hpb;obtain ⟨b3,o3,ep3,hb3b⟩:=OL.out (by omega);subst ep3;have hne3:¬ b3=g:=by omega
    have hOK:=HS.out (l.getD k default) (by rw [zA,zB hkt];exact zH _);have hIn:=HD.out (ds.getD k default) (by rw [zA,zB hko];exact zH _);have HBL:=hid (fun j (hj:j<N)=>zP1 c x l ds (k+1) (i:=j) (by rw [HN.out];exact hj));have HBK:=hid (fun j (hj:j<N)=>zP1 c x l ds k (i:=j) (by rw [HN.out];exact hj));have cell:∀ q,q<8->wr.cell? ⟨g,k*8+q,none⟩=some (spF (l.getD k default) q):=fun q hq=>by
     rw [hrow.cell (i:=k*8+q) (by omega),hf k q hlt hq,HBK.out k hlt,if_neg (by omega)]
    have HROW:=hid hrow;have HF:=hid hf;have AWH:=hid AW.out;have hgl:g<wr.heap.size:=hrow.lt
    -- what comes of it,if the row turns in the cells of k
    have FIN:=hid (fun (V:World) (y:Sp) (F:Nat->Value) (hV:V.rowIs g 32 M F) (hO:∀ j,j<M->(j<k*8\/k*8+8<=j)->F j=f j) (hy:∀ q,q<8->F (k*8+q)=spF y q) (hyy:y=otP c x (l.getD k default) (ds.getD k default))=>show BS W2.heap.size V (some ⟨g,0,none⟩) N (otL c x l ds (k+1)) from fun _ =>
     ⟨g,M,F,rfl,hgB,hV,hM,fun j q hj hq=>by
      by_cases e:j=k
      ·subst e
       rw [hy q hq,HBL.out j hj,if_pos ⟨by omega,by rw [HN2.out];omega⟩,hyy]
      ·rw [hO (j*8+q) (by omega) (by omega),HF.out j q hj hq,HBK.out j hj,HBL.out j hj]
       by_cases h1:j<k/\j<ds.length
       ·rw [if_pos h1,if_pos ⟨by omega,h1.2⟩]
       ·rw [if_neg h1,if_neg (fun x=>h1 ⟨by omega,x.2⟩)]⟩)
    have HEQ:=hid (show otP c x (l.getD k default) (ds.getD k default)=if privB c x (l.getD k default) then otS (l.getD k default) (ds.getD k default) else l.getD k default from rfl);have HFK:=hid (fun q (hq:q<8)=>show f (k*8+q)=spF (l.getD k default) q by rw [HF.out k q hlt hq,HBK.out k hlt,if_neg (by omega)]);have KP:=fun q os=>xD8 c lp mp lc mc (l.getD k default) x hx hOK HC.out.1 HC.out.2 (grow (wr.drewN q) os) (IW.out _ (Vi.qA1 AWH.out AWH.out.size q os));have OC:=hid (fun X (bx:Below W2.heap.size W2 X)=>show X.cell? ⟨b3,o3+k*8,none⟩=some (.int .i64 (ds.getD k default).kind)/\X.cell? ⟨b3,o3+k*8+1,none⟩=some (.int .i64 (ds.getD k default).who)/\X.cell? ⟨b3,o3+k*8+2,none⟩=some (.int .i64 (ds.getD k default).item)/\X.cell? ⟨b3,o3+k*8+3,none⟩=some (.int .i64 (ds.getD k default).count)/\X.cell? ⟨b3,o3+k*8+4,none⟩=some (.int .i64 (ds.getD k default).life)/\X.cell? ⟨b3,o3+k*8+5,none⟩=some (.int .i64 (ds.getD k default).id)/\X.cell? ⟨b3,o3+k*8+6,none⟩=some (.int .i64 (ds.getD k default).label)/\X.cell? ⟨b3,o3+k*8+7,none⟩=some (.int .i64 (ds.getD k default).key) by
     obtain ⟨b',o',e',_,hc'⟩:=holdsSp (OW.out X bx) (by omega);have e1:=Option.some.inj e';have e2:b3=b':=congrArg Addr.block e1;have e3:o3=o':=congrArg Addr.off e1;subst e2;subst e3;exact hc' k hko)
    generalize otP c x (l.getD k default) (ds.getD k default)=yy at FIN HEQ;generalize hpv:privB c x (l.getD k default)=pv at KP HEQ;clear hpv;generalize l.getD k default=t at *;generalize ds.getD k default=o at *;obtain ⟨kd,wh,it,cn,li,idn,la,ke⟩:=t;obtain ⟨ok,ow,oi,on,ol,od,oa,oy⟩:=o;dsimp only at OC hIn;obtain ⟨k0,k1,k2,k3,k4⟩:=CW.out _ AWH.out;have hcb:CB<wr.heap.size:=zF HCB.out AWH.out.size;have m0:∀ q os,(grow (wr.drewN q) os).cell? ⟨CB,0,none⟩=some (.int .i64 c.n):=fun q os=>cell_grown hcb k0 q os;have m1:∀ q os,(grow (wr.drewN q) os).cell? ⟨CB,1,none⟩=some (.slice lp c.ls.length lc):=fun q os=>cell_grown hcb k1 q os;have m2:∀ q os,(grow (wr.drewN q) os).cell? ⟨CB,2,none⟩=some (.int .i64 c.t):=fun q os=>cell_grown hcb k2 q os;have m3:∀ q os,(grow (wr.drewN q) os).cell? ⟨CB,3,none⟩=some (.slice mp c.ms.length mc):=fun q os=>cell_grown hcb k3 q os;have m4:∀ q os,(grow (wr.drewN q) os).cell? ⟨CB,4,none⟩=some (.int .i64 c.cap):=fun q os=>cell_grown hcb k4 q os;have u0:∀ q os,(grow (wr.drewN q) os).cell? ⟨g,k*8,none⟩=some (.int .i64 kd):=fun q os=>cell_grown hgl (cell 0 (by decide)) q os;have u1:∀ q os,(grow (wr.drewN q) os).cell? ⟨g,k*8+1,none⟩=some (.int .i64 wh):=fun q os=>cell_grown hgl (cell 1 (by decide)) q os;have u2:∀ q os,(grow (wr.drewN q) os).cell? ⟨g,k*8+2,none⟩=some (.int .i64 it):=fun q os=>cell_grown hgl (cell 2 (by decide)) q os;have u3:∀ q os,(grow (wr.drewN q) os).cell? ⟨g,k*8+3,none⟩=some (.int .i64 cn):=fun q os=>cell_grown hgl (cell 3 (by decide)) q os;have u4:∀ q os,(grow (wr.drewN q) os).cell? ⟨g,k*8+4,none⟩=some (.int .i64 li):=fun q os=>cell_grown hgl (cell 4 (by decide)) q os;have u5:∀ q os,(grow (wr.drewN q) os).cell? ⟨g,k*8+5,none⟩=some (.int .i64 idn):=fun q os=>cell_grown hgl (cell 5 (by decide)) q os;have u6:∀ q os,(grow (wr.drewN q) os).cell? ⟨g,k*8+6,none⟩=some (.int .i64 la):=fun q os=>cell_grown hgl (cell 6 (by decide)) q os;have u7:∀ q os,(grow (wr.drewN q) os).cell? ⟨g,k*8+7,none⟩=some (.int .i64 ke):=fun q os=>cell_grown hgl (cell 7 (by decide)) q os;clear cell hrow hf AB AW k0 k1 k2 k3 k4;go_wp2
    go_quiet_grown (first|(go_at_call 27;exact Calls.grown_of (KP _ _))|fail)
    obtain ⟨w5,hw5⟩:∃ w5,w5=grow (wr.drewN nq) osq:=⟨_,rfl⟩;rw [<- hw5];have B5r:=hid (show Below wr.heap.size wr w5 by rw [hw5];exact Vi.qA1 yN yM nq osq);have B5:=hid (show Below W2.heap.size W2 w5 from AWH.out.trans (B5r.out.mono AWH.out.size));have ROW5:=hid (HROW.out.of_block (B5r.out.block g hgl));clear hw5 KP m0 m1 m2 m3 m4 u0 u1 u2 u3 u4 u5 u6 u7;cases pv with
    | false =>
     have NX:=hid (FIN.out w5 ⟨kd,wh,it,cn,li,idn,la,ke⟩ f ROW5.out (fun _ _ _=>rfl) (fun q hq=>HFK.out q hq) (by rw [HEQ.out];rfl));clear FIN HEQ OC;go_wp2
     go_roundg (N-(k+1))
     case measure=>omega
     case rel=>exact ⟨k+1,by omega,by omega,by omega,by go_num,(show Aside _ from NX.out),(show Aside _ from B5.out)⟩
    | true =>
     have hE2:yy=otS ⟨kd,wh,it,cn,li,idn,la,ke⟩ ⟨ok,ow,oi,on,ol,od,oa,oy⟩:=by rw [HEQ.out];rfl
     have HE2:=hid hE2;clear HEQ hE2;obtain ⟨v0,v1,v2,v3,v4,v5,v6,v7⟩:=OC.out _ B5.out;obtain ⟨W6,hW6⟩:∃ W6,W6=w5.alloc (boxD ⟨ok,ow,oi,on,ol,od,oa,oy⟩):=⟨_,rfl⟩;have B6r:=hid (show Below w5.heap.size w5 W6 by rw [hW6];exact yN.alloc yM _);have B6:=hid (show Below W2.heap.size W2 W6 from B5.out.trans (B6r.out.mono B5.out.size));have RD6:=hid (show W6.rowIs w5.heap.size 70 8 (spF ⟨ok,ow,oi,on,ol,od,oa,oy⟩) by rw [hW6];exact rowD8 w5 _);have ROW6:=hid (ROW5.out.of_block (B6r.out.block g ROW5.out.lt));have hgD:g<w5.heap.size:=ROW5.out.lt
     go_upto_region 7 with fail
     rw [<- hW6];obtain ⟨DB,hDB⟩:∃ DB,DB=w5.heap.size:=⟨_,rfl⟩;rw [<- hDB] at RD6 hgD ⊢;clear hW6 hDB v0 v1 v2 v3 v4 v5 v6 v7 B6r;have hn1:¬ DB=g:=by omega
     have hn2':¬ g=DB:=by omega
     have d0:W6.cell? ⟨DB,0,none⟩=some (.int .i64 ok):=RD6.out.cell (i:=0) (by decide);have d1:W6.cell? ⟨DB,1,none⟩=some (.int .i64 ow):=RD6.out.cell (i:=1) (by decide);have d2:W6.cell? ⟨DB,2,none⟩=some (.int .i64 oi):=RD6.out.cell (i:=2) (by decide);have d3:W6.cell? ⟨DB,3,none⟩=some (.int .i64 on):=RD6.out.cell (i:=3) (by decide);have d4:W6.cell? ⟨DB,4,none⟩=some (.int .i64 ol):=RD6.out.cell (i:=4) (by decide);have d5:W6.cell? ⟨DB,5,none⟩=some (.int .i64 od):=RD6.out.cell (i:=5) (by decide);have d6:W6.cell? ⟨DB,6,none⟩=some (.int .i64 oa):=RD6.out.cell (i:=6) (by decide);have d7:W6.cell? ⟨DB,7,none⟩=some (.int .i64 oy):=RD6.out.cell (i:=7) (by decide);have r0:W6.cell? ⟨g,k*8,none⟩=some (.int .i64 kd):=by rw [ROW6.out.cell (i:=k*8) (by omega)];exact congrArg some (HFK.out 0 (by decide))
     have z0:=ROW6.out.frozen (k*8);have r1:W6.cell? ⟨g,k*8+1,none⟩=some (.int .i64 wh):=by rw [ROW6.out.cell (i:=k*8+1) (by omega)];exact congrArg some (HFK.out 1 (by decide))
     have z1:=ROW6.out.frozen (k*8+1);have r2:W6.cell? ⟨g,k*8+2,none⟩=some (.int .i64 it):=by rw [ROW6.out.cell (i:=k*8+2) (by omega)];exact congrArg some (HFK.out 2 (by decide))
     have z2:=ROW6.out.frozen (k*8+2);have r3:W6.cell? ⟨g,k*8+3,none⟩=some (.int .i64 cn):=by rw [ROW6.out.cell (i:=k*8+3) (by omega)];exact congrArg some (HFK.out 3 (by decide))
     have z3:=ROW6.out.frozen (k*8+3);have r4:W6.cell? ⟨g,k*8+4,none⟩=some (.int .i64 li):=by rw [ROW6.out.cell (i:=k*8+4) (by omega)];exact congrArg some (HFK.out 4 (by decide))
     have z4:=ROW6.out.frozen (k*8+4);have r5:W6.cell? ⟨g,k*8+5,none⟩=some (.int .i64 idn):=by rw [ROW6.out.cell (i:=k*8+5) (by omega)];exact congrArg some (HFK.out 5 (by decide))
     have z5:=ROW6.out.frozen (k*8+5);have r6:W6.cell? ⟨g,k*8+6,none⟩=some (.int .i64 la):=by rw [ROW6.out.cell (i:=k*8+6) (by omega)];exact congrArg some (HFK.out 6 (by decide))
     have z6:=ROW6.out.frozen (k*8+6);have r7:W6.cell? ⟨g,k*8+7,none⟩=some (.int .i64 ke):=by rw [ROW6.out.cell (i:=k*8+7) (by omega)];exact congrArg some (HFK.out 7 (by decide))
     have z7:=ROW6.out.frozen (k*8+7);have P2:=fun X=>yT ok 2 hIn.kind.1 hIn.kind.2 (by omega) (by omega) X;have P6:=fun X=>yT ok 6 hIn.kind.1 hIn.kind.2 (by omega) (by omega) X;have P3:=fun X=>yT oi 3 hIn.item.1 hIn.item.2 (by omega) (by omega) X;have e2:0<=ok%2/\ok%2<2:=by omega
     have e6:0<=ok%6/\ok%6<6:=by omega
     clear hIn;have HS2:=hid (show otS ⟨kd,wh,it,cn,li,idn,la,ke⟩ ⟨ok,ow,oi,on,ol,od,oa,oy⟩=if kd=7\/kd=8 then ⟨7+ok%2,wh,it,on,li,idn,la,oy⟩ else ⟨1+ok%6,wh,oi%3,on,ol,od,la,ke⟩ from rfl);generalize ok%2=x2 at P2 e2 HS2;generalize ok%6=x6 at P6 e6 HS2;generalize oi%3=x3 at P3 HS2;clear hOK OC;by_cases h78:kd=7\/kd=8
     ·have HY:=hid (show yy=⟨7+x2,wh,it,on,li,idn,la,oy⟩ by rw [HE2.out,HS2.out,if_pos h78])
      obtain ⟨W7,hW7⟩:∃ W7,W7=((W6.setCell ⟨g,k*8,none⟩ (.int .i64 (7+x2))).setCell ⟨g,k*8+7,none⟩ (.int .i64 oy)).setCell ⟨g,k*8+3,none⟩ (.int .i64 on):=⟨_,rfl⟩;have R7:=hid (show W7.rowIs g 32 M _ by rw [hW7];exact ((ROW6.out.set (k*8) (.int .i64 (7+x2))).set (k*8+7) (.int .i64 oy)).set (k*8+3) (.int .i64 on));have B7:=hid (show Below W2.heap.size W2 W7 by rw [hW7];exact ((B6.out.setCell (p:=⟨g,k*8,none⟩) hgB _).setCell (p:=⟨g,k*8+7,none⟩) hgB _).setCell (p:=⟨g,k*8+3,none⟩) hgB _);have NX:=hid (FIN.out W7 ⟨7+x2,wh,it,on,li,idn,la,oy⟩ _ R7.out (fun j hj hq=>by (try dsimp only);rw [if_neg (by omega),if_neg (by omega),if_neg (by omega)]) (fun q hq=>by
       have:q=0\/q=1\/q=2\/q=3\/q=4\/q=5\/q=6\/q=7:=by omega
       rcases this with rfl|rfl|rfl|rfl|rfl|rfl|rfl|rfl
       ·(try dsimp only);rw [if_neg (by omega),if_neg (by omega),if_pos (by omega)];rfl
       ·(try dsimp only);rw [if_neg (by omega),if_neg (by omega),if_neg (by omega)];exact HFK.out 1 (by decide)
       ·(try dsimp only);rw [if_neg (by omega),if_neg (by omega),if_neg (by omega)];exact HFK.out 2 (by decide)
       ·(try dsimp only);rw [if_pos (by omega)];rfl
       ·(try dsimp only);rw [if_neg (by omega),if_neg (by omega),if_neg (by omega)];exact HFK.out 4 (by decide)
       ·(try dsimp only);rw [if_neg (by omega),if_neg (by omega),if_neg (by omega)];exact HFK.out 5 (by decide)
       ·(try dsimp only);rw [if_neg (by omega),if_neg (by omega),if_neg (by omega)];exact HFK.out 6 (by decide)
       ·(try dsimp only);rw [if_neg (by omega),if_pos (by omega)];rfl) HY.out.symm)
      clear FIN HE2 HS2 HY P6 P3 e6;rcases h78 with rfl|rfl
      ·go_wp2_with fail
       refine (P2 _).mono ?_;rintro e w9 ⟨rfl,hx9⟩;have hy9:=hx9.symm;clear hx9 P2;subst hy9;go_wp2;rw [<- hW7]
       go_roundg (N-(k+1))
       case measure=>omega
       case rel=>exact ⟨k+1,by omega,by omega,by omega,by go_num,(show Aside _ from NX.out),(show Aside _ from B7.out)⟩
      ·go_wp2_with fail
       refine (P2 _).mono ?_;rintro e w9 ⟨rfl,hx9⟩;have hy9:=hx9.symm;clear hx9 P2;subst hy9;go_wp2;rw [<- hW7]
       go_roundg (N-(k+1))
       case measure=>omega
       case rel=>exact ⟨k+1,by omega,by omega,by omega,by go_num,(show Aside _ from NX.out),(show Aside _ from B7.out)⟩
     ·have HY:=hid (show yy=⟨1+x6,wh,x3,on,ol,od,la,ke⟩ by rw [HE2.out,HS2.out,if_neg h78])
      obtain ⟨W7,hW7⟩:∃ W7,W7=((((W6.setCell ⟨g,k*8,none⟩ (.int .i64 (1+x6))).setCell ⟨g,k*8+2,none⟩ (.int .i64 x3)).setCell ⟨g,k*8+3,none⟩ (.int .i64 on)).setCell ⟨g,k*8+4,none⟩ (.int .i64 ol)).setCell ⟨g,k*8+5,none⟩ (.int .i64 od):=⟨_,rfl⟩;have R7:=hid (show W7.rowIs g 32 M _ by rw [hW7];exact ((((ROW6.out.set (k*8) (.int .i64 (1+x6))).set (k*8+2) (.int .i64 x3)).set (k*8+3) (.int .i64 on)).set (k*8+4) (.int .i64 ol)).set (k*8+5) (.int .i64 od));have B7:=hid (show Below W2.heap.size W2 W7 by rw [hW7];exact ((((B6.out.setCell (p:=⟨g,k*8,none⟩) hgB _).setCell (p:=⟨g,k*8+2,none⟩) hgB _).setCell (p:=⟨g,k*8+3,none⟩) hgB _).setCell (p:=⟨g,k*8+4,none⟩) hgB _).setCell (p:=⟨g,k*8+5,none⟩) hgB _);have NX:=hid (FIN.out W7 ⟨1+x6,wh,x3,on,ol,od,la,ke⟩ _ R7.out (fun j hj hq=>by (try dsimp only);rw [if_neg (by omega),if_neg (by omega),if_neg (by omega),if_neg (by omega),if_neg (by omega)]) (fun q hq=>by
       have:q=0\/q=1\/q=2\/q=3\/q=4\/q=5\/q=6\/q=7:=by omega
       rcases this with rfl|rfl|rfl|rfl|rfl|rfl|rfl|rfl
       ·(try dsimp only);rw [if_neg (by omega),if_neg (by omega),if_neg (by omega),if_neg (by omega),if_pos (by omega)];rfl
       ·(try dsimp only);rw [if_neg (by omega),if_neg (by omega),if_neg (by omega),if_neg (by omega),if_neg (by omega)];exact HFK.out 1 (by decide)
       ·(try dsimp only);rw [if_neg (by omega),if_neg (by omega),if_neg (by omega),if_pos (by omega)];rfl
       ·(try dsimp only);rw [if_neg (by omega),if_neg (by omega),if_pos (by omega)];rfl
       ·(try dsimp only);rw [if_neg (by omega),if_pos (by omega)];rfl
       ·(try dsimp only);rw [if_pos (by omega)];rfl
       ·(try dsimp only);rw [if_neg (by omega),if_neg (by omega),if_neg (by omega),if_neg (by omega),if_neg (by omega)];exact HFK.out 6 (by decide)
       ·(try dsimp only);rw [if_neg (by omega),if_neg (by omega),if_neg (by omega),if_neg (by omega),if_neg (by omega)];exact HFK.out 7 (by decide)) HY.out.symm)
      have g7:(kd==7)=false:=by rw [beq_eq_false_iff_ne];omega
      have g8:(kd==8)=false:=by rw [beq_eq_false_iff_ne];omega
      clear FIN HE2 HS2 HY P2 e2 h78
      go_wp2_with fail
      refine (P6 _).mono ?_;rintro e w9 ⟨rfl,hx9⟩;have hy9:=hx9.symm;clear hx9 P6;subst hy9
      go_wp2_with fail
      refine (P3 _).mono ?_;rintro e w9 ⟨rfl,hx9⟩;have hy9:=hx9.symm;clear hx9 P3;subst hy9;go_wp2;rw [<- hW7]
      go_roundg (N-(k+1))
      case measure=>omega
      case rel=>exact ⟨k+1,by omega,by omega,by omega,by go_num,(show Aside _ from NX.out),(show Aside _ from B7.out)⟩
   ·have hltOz:¬ (k:Int)<(n2:Int):=by omega
    have F:=hid (show encSp.Holds wr pb (otL c x l ds N) from AB.out.holds (by rw [zL3,HN.out]) (fun i hi=>by rw [<- HN.out];exact xD4 (.inr (by rw [HN2.out];omega)) i (by rw [HN.out];exact hi)));have FB:=hid AW.out;clear AB AW;go_wp2;go_ret
    exact ⟨pb,cb,rfl,HPB.out,F.out,BW.out _ FB.out⟩
  ·have hltz:¬ (k:Int)<(N:Int):=by omega
   have F:=hid (show encSp.Holds wr pb (otL c x l ds N) from AB.out.holds (by rw [zL3,HN.out]) (fun i hi=>by rw [<- HN.out];exact xD4 (.inl (by rw [HN.out];omega)) i (by rw [HN.out];exact hi)));have FB:=hid AW.out;clear AB AW;go_wp2;go_ret
   exact ⟨pb,cb,rfl,HPB.out,F.out,BW.out _ FB.out⟩
theorem xD9 {c:Cf} {l:List Sp} {R:List Vi.RT} (h:R.map (·.x)=(tlsF c (Wo.start c) l).map toTd):R.map (·.x.report)=(tlsF c (Wo.start c) l).map (·.report):=by
 have e:=congrArg (List.map Vi.Td.report) h;rw [List.map_map,List.map_map] at e;exact e
theorem zL5 {c:Cf} {x:Int} {l u:List Sp} {R S:List Vi.RT} (hc:mayC c=true) (hn:c.n=4) (hm:c.ms.length=2) (hx:0<=x/\x<16) (hp:Pairs c x l u) (hl:l.length<=300) (hR:R.map (·.x)=(tlsF c (Wo.start c) l).map toTd) (hS:S.map (·.x)=(tlsF c (Wo.start c) u).map toTd) (hr:(tlsF c (Wo.start c) l).map (·.report)=(tlsF c (Wo.start c) u).map (·.report)):Vi.viewL x (R.map (·.x))=Vi.viewL x (S.map (·.x)):=by
 rw [hR,hS];exact yO7 (xD3 hc hn hm hx hp 0 _ _ (by omega) (Wok.start hn) (Wok.start hn) (Wob.start hc) (Wob.start hc) (fun j hj=>absurd hj (by show ¬ j<0;omega)) (Blr.rfl c x _) hr).1
theorem qK1 {x:Int} (h:In64 x):(Lit.int .i64 x).wf=true:=by
 have h1:IntKind.i64.min<=x:=by show (-9223372036854775808:Int)<=x;exact h.1
 have h2:x<=IntKind.i64.max:=by show x<=9223372036854775807;exact h.2
 show (decide (IntKind.i64.min<=x)&&decide (x<=IntKind.i64.max))=true;rw [decide_eq_true h1,decide_eq_true h2];rfl
theorem xE0 {D R:List Vi.RT} {s:Int} (h:D.map (·.x)=Vi.viewL s (R.map (·.x))) (hb:∀ t,t∈R.map (·.x)->TdB t):∀ r,r∈D->Vi.Len r:=qJ7 fun t ht=>by rw [h] at ht;exact TdB.view hb s t ht
namespace Plain
abbrev loseS:Sp:=⟨11,0,0,0,0,0,0,0⟩
def cutS (l:List Sp) (i:Nat):Sp:=if (l.getD i default).kind=9/\4<ticksN (l.take (i+1)) then loseS else l.getD i default
def cutL (l:List Sp) (k:Nat):List Sp:=(List.range l.length).map fun i=>if i<k then cutS l i else l.getD i default
theorem zT6 (l:List Sp) (k:Nat):(cutL l k).length=l.length:=by simp [cutL]
theorem zT7 (l:List Sp) (k:Nat) {i:Nat} (h:i<l.length):(cutL l k).getD i default=if i<k then cutS l i else l.getD i default:=by
 unfold cutL;rw [zA,zU,yG h];rfl
theorem qB3 {l:List Sp} (h:∀ s,s∈l->SOk s) (k:Nat):∀ s,s∈cutL l k->SOk s:=by
 intro s hs;obtain ⟨i,hi,rfl⟩:=zY.1 hs;have hi:=zX.1 hi;have h1:=h (l.getD i default) (by rw [zA,zB hi];exact zH _);split
 ·unfold cutS
  split
  ·exact ⟨⟨by decide,by decide⟩,⟨by decide,by decide⟩,⟨by decide,by decide⟩,⟨by decide,by decide⟩⟩
  ·exact h1
 ·exact h1
theorem getD_some {l:List Sp} {k:Nat} (h:k<l.length):l[k]?=some (l.getD k default):=by rw [zA,zB h];rfl
theorem xE1 (l:List Sp):∀ k,k<=l.length->ticksN ((cutL l l.length).take k)<=4/\ticksN ((cutL l l.length).take k)<=ticksN (l.take k):=by
 intro k;induction k with
 | zero=>exact fun _=>⟨by simp [ticksN],by simp⟩
 | succ k ih =>
  intro hk;obtain ⟨h1,h2⟩:=ih (by omega);have hkl:k<l.length:=by omega
  have e1:=zD2 l k (l.getD k default) (getD_some hkl);have e2:=zD2 (cutL l l.length) k ((cutL l l.length).getD k default) (getD_some (by rw [zT6];exact hkl));rw [zT7 l l.length hkl,if_pos hkl] at e2;have e3:cutS l k=if (l.getD k default).kind=9/\4<ticksN (l.take (k+1)) then loseS else l.getD k default:=rfl;by_cases h9:(l.getD k default).kind=9
  ·rw [if_pos h9] at e1
   by_cases h4:4<ticksN (l.take (k+1))
   ·rw [if_pos ⟨h9,h4⟩] at e3
    rw [e3,if_neg (by decide)] at e2;omega
   ·rw [if_neg (fun z=>h4 z.2)] at e3
    rw [e3,if_pos h9] at e2;omega
  ·rw [if_neg h9] at e1
   rw [if_neg (fun z=>h9 z.1)] at e3;rw [e3,if_neg h9] at e2;omega
theorem xP7 (l:List Sp):ticksN (cutL l l.length)<=4:=by
 have:=(xE1 l l.length yM).1;rwa [yA (by rw [zT6];exact yM)] at this
end Plain
theorem yP0 (p:Option Addr) (n cap:Nat) (ls:List Int) (hbig:n<=9223372036854775807) (hn:ls.length=n) (hwf:∀ x,x∈ls->In64 x) (mi mo:Int) (hmi:In64 mi) (hmo:In64 mo) (p2:Option Addr) (n2 cap2:Nat) (ds:List Sp) (hn2:ds.length=n2) (hbig2:n2<=9223372036854775807) (hd:∀ d,d∈ds->InX d) (a:Int) (ha:In64 a) (p3:Option Addr) (n3 cap3:Nat) (os:List Sp) (hn3:os.length=n3) (hbig3:n3<=9223372036854775807) (ho:∀ d,d∈os->InX d)
  (w:World) (htb:∀ k,2<=k->k<=6->w.cell? ⟨0,k,none⟩=some (.int .i64 (k:Nat))) (hp:NumsQ w p ls) (hp2:encSp.Holds w p2 ds) (hp3:encSp.Holds w p3 os) :
  Calls Tryz.prog 7 #[.slice p n cap,.int .i64 mi,.int .i64 mo,.slice p2 n2 cap2,.int .i64 a,.slice p3 n3 cap3] w fun e w'=>e=.returned (.bool true)/\Below w.heap.size w w':=by
 have hb0:0<w.heap.size:=zC (w:=w) (h:=htb 2 (by omega) (by omega));have HTB:=hid (fun X (bx:Below w.heap.size w X) k (h2:2<=k) (h6:k<=6)=>(bx.cell (p:=⟨0,k,none⟩) hb0).trans (htb k h2 h6));have KC:=qJ8 3 mi mo (by decide) hmi hmo p n cap ls hbig hn hwf w hp;have KS:=hid (fun X (bx:Below w.heap.size w X)=>zZ4 p2 n2 cap2 150 ds hn2 hbig2 (by omega) hd X (hp2.grow bx));have KA:=fun X=>yT a 16 ha.1 ha.2 (by omega) (by omega) X;obtain ⟨x,hxa,hx⟩:∃ x:Nat,a%16=(x:Int)/\x<16:=⟨(a%16).toNat,by omega,by omega⟩;rw [hxa] at KA;have hxz:0<=(x:Int)/\(x:Int)<16:=by omega
 have HXZ:=hid hxz;have HX0:=hid hx;have HO3:=hid (fun X (bx:Below w.heap.size w X)=>hp3.grow bx);have HN3:=hid (And.intro hn3 (And.intro hbig3 ho));clear hp hp2 hp3 hwf hd htb hb0 ha hmi hmo hxa hxz hx hn3 ho;go_enter Tryz.func7,Tryz.ntmps7
 go_wp2_with fail
 refine KC.mono ?_;rintro e w1 ⟨c,lp,lc,mp,mc,hm,hc4,hc3,hc2,hcc,rfl,hI,b1⟩;have HCT:=hid (show c.t=4 by rw [hcc];rfl);clear hcc;have HC:=hid (And.intro hm (And.intro hc4 (And.intro hc3 hc2)));obtain ⟨W2,hW2⟩:∃ W2,W2=w1.alloc (boxC c (.slice lp c.ls.length lc) (.slice mp c.ms.length mc)):=⟨_,rfl⟩;have b2:Below w1.heap.size w1 W2:=by rw [hW2];exact yN.alloc yM _
 have B2:=hid (show Below w.heap.size w W2 from b1.trans (b2.mono b1.size));have C2:=hid (show CellC W2 w1.heap.size c (.slice lp c.ls.length lc) (.slice mp c.ms.length mc) by rw [hW2];exact CellC.start w1 c (.slice lp c.ls.length lc) (.slice mp c.ms.length mc));have I2:=hid (hI.grow b2);clear KC hm hc4 hc3 hc2 hI b1 b2
 go_upto_region 2 with fail
 rw [<- hW2];obtain ⟨CB,hCB⟩:∃ CB,CB=w1.heap.size:=⟨_,rfl⟩;rw [<- hCB] at C2 ⊢;clear hW2 hCB;have CW:=hid (fun X (bx:Below W2.heap.size W2 X)=>(C2.out.below bx C2.out.lt:CellC X CB c (.slice lp c.ls.length lc) (.slice mp c.ms.length mc)));have IW:=hid (fun X (bx:Below W2.heap.size W2 X)=>I2.out.grow bx);have BW:=hid (fun X (bx:Below W2.heap.size W2 X)=>B2.out.trans (bx.mono B2.out.size));clear C2 I2
 go_wp2_with fail
 refine (KA _).mono ?_;rintro e w9 ⟨rfl,hx9⟩;have hy9:=hx9.symm;clear hx9 KA;subst hy9;have K3:=KS.out W2 (BW.out _ yN)
 go_wp2_with fail
 refine K3.mono ?_;rintro e w3 ⟨q,kc,L,rfl,sp,hL,hok⟩;obtain ⟨N,hN⟩:∃ N,N=L.length:=⟨_,rfl⟩;have hN1:N<=150:=by omega
 rw [<- hN] at sp ⊢;have HN0:=hid hN.symm;have HOK0:=hid hok;have B3:=hid (show Below W2.heap.size W2 w3 from sp.be);have BS0:=hid (sp.bs hN);have HNN:=hid sp.both.2;have HCB:=hid (show CB<W2.heap.size from (CW.out _ yN).lt);clear K3 KS sp hok hL hN;go_wp2
 go_loopg [16,17] N (fun gg s16 s17 wx=>∃ k:Nat,k<=N/\N-k<=gg/\s17=.int .i64 k/\s16=.int .i64 ((ticksN (L.take k):Nat):Int)/\Aside (BS W2.heap.size wx q N (cutL L k))/\Aside (Below W2.heap.size W2 wx))
 case atStart=>exact ⟨0,zG _,by omega,rfl,rfl,(show Aside _ from fun h0=>by
   obtain ⟨g,M,f,h1,h2,h3,h4,h5⟩:=BS0.out h0;exact ⟨g,M,f,h1,h2,h3,h4,fun j q hj hq=>by rw [h5 j q hj hq,zT7 L 0 (by rw [HN0.out];exact hj),if_neg (by omega)]⟩),(show Aside _ from B3.out)⟩
 case round =>
  obtain ⟨k,hkN,hg,rfl,rfl,AB,AW⟩:=hrel;clear BS0 B3;have AWK:=hid AW.out;by_cases hlt:k<N
  ·have hltz:(k:Int)<(N:Int):=by omega
   have hkn:¬ (k:Int)<0:=by omega
   have hkt:k<L.length:=by rw [HN0.out];exact hlt
   obtain ⟨g,M,f,hpb,hgB,hrow,hM,hf⟩:=AB.out (by omega);subst hpb;have HBL:=hid (fun j (hj:j<N)=>zT7 L (k+1) (i:=j) (by rw [HN0.out];exact hj));have HBK:=hid (fun j (hj:j<N)=>zT7 L k (i:=j) (by rw [HN0.out];exact hj));have ROWK:=hid hrow;have HF:=hid hf;have FIN:=hid (fun (V:World) (y:Sp) (F:Nat->Value) (hV:V.rowIs g 32 M F) (hO:∀ j,j<M->(j<k*8\/k*8+8<=j)->F j=f j) (hy:∀ q,q<8->F (k*8+q)=spF y q) (hyy:y=cutS L k)=>show BS W2.heap.size V (some ⟨g,0,none⟩) N (cutL L (k+1)) from fun _ =>
    ⟨g,M,F,rfl,hgB,hV,hM,fun j q hj hq=>by
     by_cases e:j=k
     ·subst e
      rw [hy q hq,HBL.out j hj,if_pos (by omega),hyy]
     ·rw [hO (j*8+q) (by omega) (by omega),HF.out j q hj hq,HBK.out j hj,HBL.out j hj]
      by_cases h1:j<k
      ·rw [if_pos h1,if_pos (by omega)]
      ·rw [if_neg h1,if_neg (by omega)]⟩)
   have HCS:=hid (show cutS L k=if (L.getD k default).kind=9/\4<ticksN (L.take (k+1)) then loseS else L.getD k default from rfl);have HFK:=hid (fun q (hq:q<8)=>show f (k*8+q)=spF (L.getD k default) q by rw [HF.out k q hlt hq,HBK.out k hlt,if_neg (by omega)]);have HTK:=hid (zD2 L k (L.getD k default) (Plain.getD_some hkt));have hT0:ticksN (L.take k)<=150:=by have:=xC8 (L.take k);rw [zT] at this;omega
   obtain ⟨_,_,k2,_,_⟩:=CW.out _ AWK.out;rw [HCT.out] at k2;have hcg:¬ CB=g:=by have:=HCB.out;omega
   have hgc:¬ g=CB:=by have:=HCB.out;omega
   generalize cutS L k=yy at FIN HCS;generalize L.getD k default=t at HCS HFK HTK;obtain ⟨kd,wh,it,cn,li,idn,la,ke⟩:=t;dsimp only at HCS HTK;generalize ticksN (L.take k)=T at hT0 HTK ⊢;clear hrow hf AB AW;by_cases h9:kd=9
   ·subst h9
    have HT1:=hid (show ticksN (L.take (k+1))=T+1 by have:=HTK.out;rwa [if_pos rfl] at this);by_cases h4:4<T+1
    ·have h4z:(4:Int)<(T:Int)+1:=by omega
     have HY:=hid (show yy=loseS by rw [HCS.out,if_pos ⟨rfl,by rw [HT1.out];exact h4⟩]);obtain ⟨W7,hW7⟩:∃ W7,W7=((((((((wr.setCell ⟨g,k*8,none⟩ (.int .i64 11)).setCell ⟨g,k*8+1,none⟩ (.int .i64 0)).setCell ⟨g,k*8+2,none⟩ (.int .i64 0)).setCell ⟨g,k*8+3,none⟩ (.int .i64 0)).setCell ⟨g,k*8+4,none⟩ (.int .i64 0)).setCell ⟨g,k*8+5,none⟩ (.int .i64 0)).setCell ⟨g,k*8+6,none⟩ (.int .i64 0)).setCell ⟨g,k*8+7,none⟩ (.int .i64 0)):=⟨_,rfl⟩;have R7:=hid (show W7.rowIs g 32 M _ by rw [hW7];exact ((((((((ROWK.out.set (k*8) (.int .i64 11)).set (k*8+1) (.int .i64 0)).set (k*8+2) (.int .i64 0)).set (k*8+3) (.int .i64 0)).set (k*8+4) (.int .i64 0)).set (k*8+5) (.int .i64 0)).set (k*8+6) (.int .i64 0)).set (k*8+7) (.int .i64 0)));have B7:=hid (show Below W2.heap.size W2 W7 by rw [hW7];exact ((((((((AWK.out.setCell (p:=⟨g,k*8,none⟩) hgB _).setCell (p:=⟨g,k*8+1,none⟩) hgB _).setCell (p:=⟨g,k*8+2,none⟩) hgB _).setCell (p:=⟨g,k*8+3,none⟩) hgB _).setCell (p:=⟨g,k*8+4,none⟩) hgB _).setCell (p:=⟨g,k*8+5,none⟩) hgB _).setCell (p:=⟨g,k*8+6,none⟩) hgB _).setCell (p:=⟨g,k*8+7,none⟩) hgB _));have NX:=hid (FIN.out W7 loseS _ R7.out (fun j hj hq=>by (try dsimp only);rw [if_neg (by omega),if_neg (by omega),if_neg (by omega),if_neg (by omega),if_neg (by omega),if_neg (by omega),if_neg (by omega),if_neg (by omega)]) (fun q hq=>by
       have:q=0\/q=1\/q=2\/q=3\/q=4\/q=5\/q=6\/q=7:=by omega
       rcases this with rfl|rfl|rfl|rfl|rfl|rfl|rfl|rfl
       ·(try dsimp only);rw [if_neg (by omega),if_neg (by omega),if_neg (by omega),if_neg (by omega),if_neg (by omega),if_neg (by omega),if_neg (by omega),if_pos (by omega)];rfl
       ·(try dsimp only);rw [if_neg (by omega),if_neg (by omega),if_neg (by omega),if_neg (by omega),if_neg (by omega),if_neg (by omega),if_pos (by omega)];rfl
       ·(try dsimp only);rw [if_neg (by omega),if_neg (by omega),if_neg (by omega),if_neg (by omega),if_neg (by omega),if_pos (by omega)];rfl
       ·(try dsimp only);rw [if_neg (by omega),if_neg (by omega),if_neg (by omega),if_neg (by omega),if_pos (by omega)];rfl
       ·(try dsimp only);rw [if_neg (by omega),if_neg (by omega),if_neg (by omega),if_pos (by omega)];rfl
       ·(try dsimp only);rw [if_neg (by omega),if_neg (by omega),if_pos (by omega)];rfl
       ·(try dsimp only);rw [if_neg (by omega),if_pos (by omega)];rfl
       ·(try dsimp only);rw [if_pos (by omega)];rfl) HY.out.symm)
     have r0:wr.cell? ⟨g,k*8,none⟩=some (.int .i64 9):=by rw [ROWK.out.cell (i:=k*8) (by omega)];exact congrArg some (HFK.out 0 (by decide))
     have z0:=ROWK.out.frozen (k*8);have r1:wr.cell? ⟨g,k*8+1,none⟩=some (.int .i64 wh):=by rw [ROWK.out.cell (i:=k*8+1) (by omega)];exact congrArg some (HFK.out 1 (by decide))
     have z1:=ROWK.out.frozen (k*8+1);have r2:wr.cell? ⟨g,k*8+2,none⟩=some (.int .i64 it):=by rw [ROWK.out.cell (i:=k*8+2) (by omega)];exact congrArg some (HFK.out 2 (by decide))
     have z2:=ROWK.out.frozen (k*8+2);have r3:wr.cell? ⟨g,k*8+3,none⟩=some (.int .i64 cn):=by rw [ROWK.out.cell (i:=k*8+3) (by omega)];exact congrArg some (HFK.out 3 (by decide))
     have z3:=ROWK.out.frozen (k*8+3);have r4:wr.cell? ⟨g,k*8+4,none⟩=some (.int .i64 li):=by rw [ROWK.out.cell (i:=k*8+4) (by omega)];exact congrArg some (HFK.out 4 (by decide))
     have z4:=ROWK.out.frozen (k*8+4);have r5:wr.cell? ⟨g,k*8+5,none⟩=some (.int .i64 idn):=by rw [ROWK.out.cell (i:=k*8+5) (by omega)];exact congrArg some (HFK.out 5 (by decide))
     have z5:=ROWK.out.frozen (k*8+5);have r6:wr.cell? ⟨g,k*8+6,none⟩=some (.int .i64 la):=by rw [ROWK.out.cell (i:=k*8+6) (by omega)];exact congrArg some (HFK.out 6 (by decide))
     have z6:=ROWK.out.frozen (k*8+6);have r7:wr.cell? ⟨g,k*8+7,none⟩=some (.int .i64 ke):=by rw [ROWK.out.cell (i:=k*8+7) (by omega)];exact congrArg some (HFK.out 7 (by decide))
     have z7:=ROWK.out.frozen (k*8+7);clear FIN HCS HY HTK;go_wp2;rw [<- hW7]
     go_roundg (N-(k+1))
     case measure=>omega
     case rel=>exact ⟨k+1,by omega,by omega,by go_num,by rw [HT1.out];go_num,(show Aside _ from NX.out),(show Aside _ from B7.out)⟩
    ·have h4z:¬ (4:Int)<(T:Int)+1:=by omega
     have NX:=hid (FIN.out wr ⟨9,wh,it,cn,li,idn,la,ke⟩ f ROWK.out (fun _ _ _=>rfl) (fun q hq=>HFK.out q hq) (by rw [HCS.out,if_neg (fun z=>h4 (by rw [<- HT1.out];exact z.2))]));have r0:wr.cell? ⟨g,k*8,none⟩=some (.int .i64 9):=by rw [ROWK.out.cell (i:=k*8) (by omega)];exact congrArg some (HFK.out 0 (by decide))
     clear FIN HCS HTK;go_wp2
     go_roundg (N-(k+1))
     case measure=>omega
     case rel=>exact ⟨k+1,by omega,by omega,by go_num,by rw [HT1.out];go_num,(show Aside _ from NX.out),(show Aside _ from AWK.out)⟩
   ·have h9b:(kd==9)=false:=by rw [beq_eq_false_iff_ne];exact h9
    have HT1:=hid (show ticksN (L.take (k+1))=T by have:=HTK.out;rwa [if_neg h9] at this);have NX:=hid (FIN.out wr ⟨kd,wh,it,cn,li,idn,la,ke⟩ f ROWK.out (fun _ _ _=>rfl) (fun q hq=>HFK.out q hq) (by rw [HCS.out,if_neg (fun z=>h9 z.1)]));have r0:wr.cell? ⟨g,k*8,none⟩=some (.int .i64 kd):=by rw [ROWK.out.cell (i:=k*8) (by omega)];exact congrArg some (HFK.out 0 (by decide))
    clear FIN HCS HTK;go_wp2
    go_roundg (N-(k+1))
    case measure=>omega
    case rel=>exact ⟨k+1,by omega,by omega,by go_num,by rw [HT1.out],(show Aside _ from NX.out),(show Aside _ from AWK.out)⟩
  ·have hltz:¬ (k:Int)<(N:Int):=by omega
   have ek:N=k:=by omega
   subst ek;obtain ⟨L1,hL1⟩:∃ L1,L1=cutL L N:=⟨_,rfl⟩;have HN:=hid (show L1.length=N by rw [hL1,zT6,HN0.out]);have hok:∀ s,s∈L1->SOk s:=by rw [hL1];exact qB3 HOK0.out N
   have HT4:=hid (show ticksN L1<=4 by rw [hL1,<- HN0.out];exact xP7 L);have SB:=hid (show encSp.Holds wr q L1/\(q=none->kc=0) from ⟨AB.out.holds HN.out (fun i hi=>by rw [hL1]),HNN.out⟩);have B3:=AWK;clear AB AW hL1 HOK0 HN0 AWK hkN;generalize ticksN (L.take N)=TT;have HOK:=hid hok;have HI5:=hid (show ∀ s,s∈L1->(Lit.int .i64 s.id).wf=true from fun s hs=>yJ3 (hok s hs).1);have HPR:=hid (show Pairs c x L1 (otL c x L1 os N) from yA1 hok N);have HOW:=hid (show ∀ s,s∈otL c x L1 os N->(Lit.int .i64 s.id).wf=true from fun s hs=>qK1 (xR7 (fun s hs=>by have:=(hok s hs).1;exact ⟨by omega,by omega⟩) (fun s hs=>(HN3.out.2.2 s hs).id) s hs));clear hok;obtain ⟨k0,k1,k2,k3,k4⟩:=CW.out _ B3.out;have K4:=zC6 c lp mp lc mc q N kc L1 HN.out (by omega) HC.out.1 HC.out.2.1 HC.out.2.2.1 HC.out.2.2.2 HI5.out SB.out.2 x HXZ.out wr (IW.out _ B3.out) (HTB.out _ (BW.out _ B3.out)) SB.out.1
   go_wp2_with fail
   refine K4.mono ?_;rintro e w4 ⟨q4,c4,D,TB,R,rfl,hD,hR,hRx,hDx,hTd,oD,oR,b4⟩;have B4:=hid (show Below W2.heap.size W2 w4 from B3.out.trans (b4.mono B3.out.size));have G4:=hid b4;have HDN:=hid hD;have HRN:=hid hR;have HRX:=hid hRx;have HDX:=hid hDx;have HTD:=hid hTd;have OD:=hid oD;have OR:=hid oR;clear K4 hD hR hRx hDx hTd oD oR b4 k0 k1 k2 k3 k4
   go_upto_region 13 with fail
   have D4:=hid (show Below w4.heap.size w4 w4.drew from yN.drew);have BD:=hid (show Below W2.heap.size W2 w4.drew from B4.out.trans (D4.out.mono B4.out.size));have H34:=hid (show encSp.Holds w4.drew q L1 from (SB.out.1.grow G4.out).grow D4.out);obtain ⟨k0,k1,k2,k3,k4⟩:=CW.out _ B4.out;have KO:=zL4 c lp mp lc mc q N kc L1 HN.out (by omega) HC.out.1 HC.out.2.2.1 HOK.out SB.out.2 x HX0.out p3 n3 cap3 os HN3.out.1 HN3.out.2.1 HN3.out.2.2 w4.drew (IW.out _ BD.out) H34.out (HO3.out _ (BW.out _ BD.out))
   go_region_held3 (fun w'=>w'.cell? ⟨CB,0,none⟩=some (.int .i64 c.n)/\w'.cell? ⟨CB,1,none⟩=some (.slice lp c.ls.length lc)/\w'.cell? ⟨CB,2,none⟩=some (.int .i64 c.t)/\w'.cell? ⟨CB,3,none⟩=some (.slice mp c.ms.length mc)/\w'.cell? ⟨CB,4,none⟩=some (.int .i64 c.cap)) (go_keep)
    ((
     first
     | (go_at_call 19;refine KO.mono ?_;rintro e w5 ⟨q5,c5,rfl,hq5,ho5,b5⟩;have B5:=hid (show Below W2.heap.size W2 w5 from BD.out.trans (b5.mono BD.out.size));have G5:=hid (show Below w4.heap.size w4 w5 from D4.out.trans (b5.mono D4.out.size));have HQ5:=hid hq5;have HO5:=hid ho5;obtain ⟨d0,d1,d2,d3,d4⟩:=CW.out _ B5.out;clear hq5 ho5 b5)
     | (go_at_call 20;refine (zC6 c lp mp lc mc q5 N c5 (otL c x L1 os N) (by rw [zL3];exact HN.out) (by omega) HC.out.1 HC.out.2.1 HC.out.2.2.1 HC.out.2.2.2 HOW.out HQ5.out x HXZ.out w5 (IW.out _ B5.out) (HTB.out _ (BW.out _ B5.out)) HO5.out).mono ?_;rintro e w6 ⟨q6,c6,E,TB6,S,rfl,hE,hS,hSx,hEx,hTd6,oE,oS,b6⟩;have B6:=hid (show Below W2.heap.size W2 w6 from B5.out.trans (b6.mono B5.out.size));have G6:=hid (show Below w4.heap.size w4 w6 from G5.out.trans (b6.mono G5.out.size));have HEN:=hid hE;have HSN:=hid hS;have HSX:=hid hSx;have HEX:=hid hEx;have OE:=hid oE;have OS:=hid oS;obtain ⟨e0,e1,e2,e3,e4⟩:=CW.out _ B6.out;clear hE hS hSx hEx hTd6 oE oS b6)))
   rename_i hlast;clear hlast KO d0 d1 d2 d3 d4 k0 k1 k2 k3 k4 e0 e1 e2 e3 e4;have K7:=xR6 w6 (HTB.out _ (BW.out _ B6.out))
   go_wp2_with fail
   refine K7.mono ?_;rintro e w7 ⟨rfl,b7⟩;have B7:=hid (show Below W2.heap.size W2 w7 from B6.out.trans (b7.mono B6.out.size));have G7:=hid (show Below w4.heap.size w4 w7 from G6.out.trans (b7.mono G6.out.size));have F7:=hid b7;clear K7 b7;have HE:=hid (show D.map (·.x)=E.map (·.x) by
    rw [HDX.out,HEX.out];exact zL5 HC.out.1 HC.out.2.1 HC.out.2.2.2 HXZ.out HPR.out (by have:=HN.out;omega) HRX.out HSX.out (yO6 HPR.out 0 _ _ Rnd.start Rnd.start (by rw [HCT.out];have:=HT4.out;show 0+ticksN L1<=4;omega)))
   have HL:=hid (xE0 HDX.out HTD.out);have H1:=hid (OD.out.grow G7.out);have H2:=hid (OE.out.grow F7.out);have BF:=hid (fun X (bx:Below w7.heap.size w7 X)=>show Below w.heap.size w X from BW.out _ (B7.out.trans (bx.mono B7.out.size)));have mixed:Tryz.prog.follows .mixedOrders=true:=by kernel_rfl
   go_wp2
   go_loopg [24] N (fun gg s5 wr=>∃ k:Nat,k<=N/\N-k<=gg/\s5=.int .i64 k/\Aside (Below w7.heap.size w7 wr))
   case atStart=>exact ⟨0,zG _,by omega,rfl,(show Aside _ from yN)⟩
   case round =>
    obtain ⟨k,hkk,hg,rfl,A⟩:=hrel;by_cases hlt:k<N
    ·have hltz:(k:Int)<(N:Int):=by omega
     have hkn:¬ (k:Int)<0:=by omega
     have kD:k<D.length:=by rw [HDN.out];exact hlt
     have kE:k<E.length:=by rw [HEN.out];exact hlt
     obtain ⟨b1,o1,eb1,l1,G1⟩:=Vi.holdsT H1.out.hd (by omega);obtain ⟨b2,o2,eb2,l2,G2⟩:=Vi.holdsT H2.out.hd (by omega);subst eb1;subst eb2;have mD:D.getD k default∈D:=by rw [zA,zB kD];exact zH _
     have mE:E.getD k default∈E:=by rw [zA,zB kE];exact zH _
     have ex:(D.getD k default).x=(E.getD k default).x:=by
      have e:=congrArg (fun l=>l[k]?) HE.out;simp only [List.getElem?_map,List.getElem?_eq_getElem kD,List.getElem?_eq_getElem kE,Option.map_some,Option.some.injEq] at e;rw [zA,zB kD,zA,zB kE];exact e
     have t1:=(H1.out.td _ mD).keep (Vi.Kt.of_below A.out);have t2:=(H2.out.td _ mE).keep (Vi.Kt.of_below A.out);have g1:=fun i hi=>(A.out.cell (p:=⟨b1,o1+(k*11+i),none⟩) l1).trans (G1 k kD i hi);have g2:=fun i hi=>(A.out.cell (p:=⟨b2,o2+(k*11+i),none⟩) l2).trans (G2 k kE i hi);have le:=HL.out _ mD;have w1:b1<wr.heap.size:=zF l1 A.out.size;have w2:b2<wr.heap.size:=zF l2 A.out.size;clear G1 G2;generalize D.getD k default=r1 at ex t1 t2 g1 g2 le mD mE;generalize E.getD k default=r2 at ex t1 t2 g1 g2 le mD mE;obtain ⟨⟨code,who,⟨kc,ki,kf,kh,ku⟩,val,sent,frame,report⟩,ps,cs,pf,cf,pr,cr⟩:=r1;obtain ⟨x2,ps2,cs2,pf2,cf2,pr2,cr2⟩:=r2;dsimp only at ex;subst ex;have KS:=fun q os=>Vi.qC0 code who kc ki kf kh ku val sent frame report ps cs pf cf pr cr ps2 cs2 pf2 cf2 pr2 cr2 (grow (wr.drewN q) os) (t1.keep (Vi.Kt.of_below (Vi.qA1 yN yM q os))) (t2.keep (Vi.Kt.of_below (Vi.qA1 yN yM q os))) le.s le.f le.r;have u0:∀ q os,(grow (wr.drewN q) os).cell? ⟨b1,o1+k*11,none⟩=some (.int .i64 code):=fun q os=>by have:=cell_grown w1 (g1 0 (by decide)) q os;rwa [show o1+(k*11+0)=o1+k*11 by omega] at this
     have u1:∀ q os,(grow (wr.drewN q) os).cell? ⟨b1,o1+k*11+1,none⟩=some (.int .i64 who):=fun q os=>by have:=cell_grown w1 (g1 1 (by decide)) q os;rwa [show o1+(k*11+1)=o1+k*11+1 by omega] at this
     have u2:∀ q os,(grow (wr.drewN q) os).cell? ⟨b1,o1+k*11+2,none⟩=some (.int .i64 kc):=fun q os=>by have:=cell_grown w1 (g1 2 (by decide)) q os;rwa [show o1+(k*11+2)=o1+k*11+2 by omega] at this
     have u3:∀ q os,(grow (wr.drewN q) os).cell? ⟨b1,o1+k*11+3,none⟩=some (.int .i64 ki):=fun q os=>by have:=cell_grown w1 (g1 3 (by decide)) q os;rwa [show o1+(k*11+3)=o1+k*11+3 by omega] at this
     have u4:∀ q os,(grow (wr.drewN q) os).cell? ⟨b1,o1+k*11+4,none⟩=some (.int .i64 kf):=fun q os=>by have:=cell_grown w1 (g1 4 (by decide)) q os;rwa [show o1+(k*11+4)=o1+k*11+4 by omega] at this
     have u5:∀ q os,(grow (wr.drewN q) os).cell? ⟨b1,o1+k*11+5,none⟩=some (.int .i64 kh):=fun q os=>by have:=cell_grown w1 (g1 5 (by decide)) q os;rwa [show o1+(k*11+5)=o1+k*11+5 by omega] at this
     have u6:∀ q os,(grow (wr.drewN q) os).cell? ⟨b1,o1+k*11+6,none⟩=some (.int .i64 ku):=fun q os=>by have:=cell_grown w1 (g1 6 (by decide)) q os;rwa [show o1+(k*11+6)=o1+k*11+6 by omega] at this
     have u7:∀ q os,(grow (wr.drewN q) os).cell? ⟨b1,o1+k*11+7,none⟩=some (.int .i64 val):=fun q os=>by have:=cell_grown w1 (g1 7 (by decide)) q os;rwa [show o1+(k*11+7)=o1+k*11+7 by omega] at this
     have u8:∀ q os,(grow (wr.drewN q) os).cell? ⟨b1,o1+k*11+8,none⟩=some (.slice ps sent.length cs):=fun q os=>by have:=cell_grown w1 (g1 8 (by decide)) q os;rwa [show o1+(k*11+8)=o1+k*11+8 by omega] at this
     have u9:∀ q os,(grow (wr.drewN q) os).cell? ⟨b1,o1+k*11+9,none⟩=some (.slice pf frame.length cf):=fun q os=>by have:=cell_grown w1 (g1 9 (by decide)) q os;rwa [show o1+(k*11+9)=o1+k*11+9 by omega] at this
     have u10:∀ q os,(grow (wr.drewN q) os).cell? ⟨b1,o1+k*11+10,none⟩=some (.slice pr report.length cr):=fun q os=>by have:=cell_grown w1 (g1 10 (by decide)) q os;rwa [show o1+(k*11+10)=o1+k*11+10 by omega] at this
     have v0:∀ q os,(grow (wr.drewN q) os).cell? ⟨b2,o2+k*11,none⟩=some (.int .i64 code):=fun q os=>by have:=cell_grown w2 (g2 0 (by decide)) q os;rwa [show o2+(k*11+0)=o2+k*11 by omega] at this
     have v1:∀ q os,(grow (wr.drewN q) os).cell? ⟨b2,o2+k*11+1,none⟩=some (.int .i64 who):=fun q os=>by have:=cell_grown w2 (g2 1 (by decide)) q os;rwa [show o2+(k*11+1)=o2+k*11+1 by omega] at this
     have v2:∀ q os,(grow (wr.drewN q) os).cell? ⟨b2,o2+k*11+2,none⟩=some (.int .i64 kc):=fun q os=>by have:=cell_grown w2 (g2 2 (by decide)) q os;rwa [show o2+(k*11+2)=o2+k*11+2 by omega] at this
     have v3:∀ q os,(grow (wr.drewN q) os).cell? ⟨b2,o2+k*11+3,none⟩=some (.int .i64 ki):=fun q os=>by have:=cell_grown w2 (g2 3 (by decide)) q os;rwa [show o2+(k*11+3)=o2+k*11+3 by omega] at this
     have v4:∀ q os,(grow (wr.drewN q) os).cell? ⟨b2,o2+k*11+4,none⟩=some (.int .i64 kf):=fun q os=>by have:=cell_grown w2 (g2 4 (by decide)) q os;rwa [show o2+(k*11+4)=o2+k*11+4 by omega] at this
     have v5:∀ q os,(grow (wr.drewN q) os).cell? ⟨b2,o2+k*11+5,none⟩=some (.int .i64 kh):=fun q os=>by have:=cell_grown w2 (g2 5 (by decide)) q os;rwa [show o2+(k*11+5)=o2+k*11+5 by omega] at this
     have v6:∀ q os,(grow (wr.drewN q) os).cell? ⟨b2,o2+k*11+6,none⟩=some (.int .i64 ku):=fun q os=>by have:=cell_grown w2 (g2 6 (by decide)) q os;rwa [show o2+(k*11+6)=o2+k*11+6 by omega] at this
     have v7:∀ q os,(grow (wr.drewN q) os).cell? ⟨b2,o2+k*11+7,none⟩=some (.int .i64 val):=fun q os=>by have:=cell_grown w2 (g2 7 (by decide)) q os;rwa [show o2+(k*11+7)=o2+k*11+7 by omega] at this
     have v8:∀ q os,(grow (wr.drewN q) os).cell? ⟨b2,o2+k*11+8,none⟩=some (.slice ps2 sent.length cs2):=fun q os=>by have:=cell_grown w2 (g2 8 (by decide)) q os;rwa [show o2+(k*11+8)=o2+k*11+8 by omega] at this
     have v9:∀ q os,(grow (wr.drewN q) os).cell? ⟨b2,o2+k*11+9,none⟩=some (.slice pf2 frame.length cf2):=fun q os=>by have:=cell_grown w2 (g2 9 (by decide)) q os;rwa [show o2+(k*11+9)=o2+k*11+9 by omega] at this
     have v10:∀ q os,(grow (wr.drewN q) os).cell? ⟨b2,o2+k*11+10,none⟩=some (.slice pr2 report.length cr2):=fun q os=>by have:=cell_grown w2 (g2 10 (by decide)) q os;rwa [show o2+(k*11+10)=o2+k*11+10 by omega] at this
     clear g1 g2 t1 t2 le mD mE kD kE w1 w2 l1 l2;go_wp2
     go_quiet_grown (first|(go_at_call 23;exact Calls.grown_of (KS _ _))|fail)
     obtain ⟨w5,hw5⟩:∃ w5,w5=grow (wr.drewN nq) osq:=⟨_,rfl⟩;rw [<- hw5];have B5:=hid (show Below w7.heap.size w7 w5 by rw [hw5];exact Vi.qA1 A.out A.out.size nq osq);clear hw5 u0 v0 u1 v1 u2 v2 u3 v3 u4 v4 u5 v5 u6 v6 u7 v7 u8 v8 u9 v9 u10 v10 KS;go_wp2
     go_roundg (N-(k+1))
     case measure=>omega
     case rel=>exact ⟨k+1,by omega,by omega,by go_num,(show Aside _ from B5.out)⟩
    ·have hltz:¬ (k:Int)<(N:Int):=by omega
     go_wp2;go_ret
     exact ⟨rfl,BF.out _ A.out⟩
end Go.Proofs.YtleaknfjbbccgaaGreatDoor
