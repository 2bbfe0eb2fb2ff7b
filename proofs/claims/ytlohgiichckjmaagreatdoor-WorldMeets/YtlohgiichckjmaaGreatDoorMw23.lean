/-
 Laid together: what the law asks of these.
-/
import Derived.Deep.QuietTactic
import Derived.BigQuiet
import Derived.Deep.LoopGhost
import Derived.Test.YtlohgiichckjmaaGreatDoorMw20
import Derived.Test.YtlohgiichckjmaaGreatDoorMw22
namespace Go.Proofs.YtlohgiichckjmaaGreatDoor
set_option maxHeartbeats 16000000
set_option maxRecDepth 100000
open Go.RowKit Go.Shelf Go.Sort
theorem bit_numW (z i:Nat) (hz:z<256):bits .and .i64 ((z:Int)/2^i) 1=if Plain.reads (z:Int) i=true then 1 else 0:=by
 have e:((z:Int)/2^i)=((z/2^i:Nat):Int):=by simp
 have h:z/2^i<=z:=Nat.div_le_self _ _
 have e2:bits .and .i64 ((z/2^i:Nat):Int) 1=((z/2^i%2:Nat):Int):=by
  rw [show (1:Int)=((1:Nat):Int) from rfl,LabP.and_nat _ _ (by omega) (by decide),Nat.and_one_is_mod]
 rw [e,e2]
 unfold Plain.reads
 rw [Int.toNat_natCast]
 by_cases hb:z/2^i%2=1
 ·rw [hb];simp
 ·have:z/2^i%2=0:=by omega
  rw [this];simp
theorem Plain.lab_nat {c:Plain.Cf} (hc:Plain.mayC c=true) (k:Nat):∃ z:Nat,c.ls.getD k 0=(z:Int)/\z<256:=by
 by_cases h:k<c.ls.length
 ·have hm:c.ls.getD k 0∈c.ls:=by rw [List.getD_eq_getElem?_getD,List.getElem?_eq_getElem h];exact List.getElem_mem _
  have:=Plain.lab_lt hc _ hm
  exact ⟨(c.ls.getD k 0).toNat,by omega,by omega⟩
 ·exact ⟨0,by rw [List.getD_eq_getElem?_getD,List.getElem?_eq_none (by omega)];rfl,by omega⟩
theorem Plain.full_ids {l:List Plain.Sp} (h:∀ s,s∈l->0<=s.id/\s.id<=100000) (hl:l.length<=1000):∀ s,s∈Plain.fullF l->0<=s.id/\s.id<=100000:=fun s hs=>by
 unfold Plain.fullF Plain.comeL at hs
 rcases List.mem_append.1 hs with y|y
 ·exact h s y
 ·rcases List.mem_cons.1 y with rfl|y
  ·exact ⟨Int.le_refl _,by decide⟩
  ·obtain ⟨i,hi,rfl⟩:=List.mem_map.1 y
   have h1:=List.mem_range.1 hi
   have h2:=Plain.ticksN_le l
   exact ⟨Int.natCast_nonneg _,by show ((20*Plain.ticksN l+i:Nat):Int)<=100000;omega⟩
theorem SpR.both {w0 w:World} {q:Option Addr} {N k:Nat} {L:List Plain.Sp} (h:SpR w0 w (.slice q N k) L):encSp.Holds w q L/\(q=none->k=0):=by
 obtain ⟨p',c',e',hh,hn'⟩:=h.form
 injection e' with e1 _ e3
 rw [e1,e3];exact ⟨hh,hn'⟩
theorem worldMeets_c (p:Option Addr) (n cap:Nat) (ls:List Int) (hbig:n<=9223372036854775807) (hn:ls.length=n) (hwf:∀ x,x∈ls->In64 x) (p2:Option Addr) (n2 cap2:Nat) (ds:List Plain.Sp) (hn2:ds.length=n2) (hbig2:n2<=9223372036854775807) (hd:∀ d,d∈ds->InX d)
  (w:World) (htb:∀ k,2<=k->k<=6->w.cell? ⟨0,k,none⟩=some (.int .i64 (k:Nat))) (hp:NumsQ w p ls) (hp2:encSp.Holds w p2 ds) :
  Calls Tryz.prog 8 #[.slice p n cap,.slice p2 n2 cap2] w fun e w'=>e=.returned (.bool true)/\Below w.heap.size w w':=by
 have hb0:0<w.heap.size:=World.block_lt_of_cell? (w:=w) (h:=htb 2 (by omega) (by omega))
 have HTB:=hid (fun X (bx:Below w.heap.size w X) k (h2:2<=k) (h6:k<=6)=>(bx.cell (p:=⟨0,k,none⟩) hb0).trans (htb k h2 h6))
 have KC:=cfg_c 1 77 5 ⟨by decide,by decide⟩ ⟨by decide,by decide⟩ ⟨by decide,by decide⟩ p n cap ls hbig hn hwf w hp
 have KS:=hid (fun X (bx:Below w.heap.size w X)=>stepsOf_c p2 n2 cap2 120 ds hn2 hbig2 (by omega) hd X (hp2.grow bx))
 clear hp hp2 hwf hd htb hb0
 go_enter Tryz.func8,Tryz.ntmps8
 go_wp2_with fail
 refine KC.mono ?_
 rintro e w1 ⟨c,lp,lc,mp,mc,hm,hc4,hc3,hc2,hcc,rfl,hI,b1⟩
 clear hcc
 have HC:=hid (And.intro hm (And.intro hc4 (And.intro hc3 hc2)))
 obtain ⟨W2,hW2⟩:∃ W2,W2=w1.alloc (boxC c (.slice lp c.ls.length lc) (.slice mp c.ms.length mc)):=⟨_,rfl⟩
 have b2:Below w1.heap.size w1 W2:=by rw [hW2];exact (Below.refl _ _).alloc (Nat.le_refl _) _
 have B2:=hid (show Below w.heap.size w W2 from b1.trans (b2.mono b1.size))
 have C2:=hid (show CellC W2 w1.heap.size c (.slice lp c.ls.length lc) (.slice mp c.ms.length mc) by rw [hW2];exact CellC.start w1 c (.slice lp c.ls.length lc) (.slice mp c.ms.length mc))
 have I2:=hid (hI.grow b2)
 clear KC hm hc4 hc3 hc2 hI b1 b2
 go_upto_region 2 with fail
 rw [<- hW2]
 obtain ⟨CB,hCB⟩:∃ CB,CB=w1.heap.size:=⟨_,rfl⟩
 rw [<- hCB] at C2 ⊢
 clear hW2 hCB
 have CW:=hid (fun X (bx:Below W2.heap.size W2 X)=>(C2.out.below bx C2.out.lt:CellC X CB c (.slice lp c.ls.length lc) (.slice mp c.ms.length mc)))
 have IW:=hid (fun X (bx:Below W2.heap.size W2 X)=>I2.out.grow bx)
 have BW:=hid (fun X (bx:Below W2.heap.size W2 X)=>B2.out.trans (bx.mono B2.out.size))
 clear C2 I2
 have K3:=KS.out W2 (BW.out _ (Below.refl _ _))
 go_wp2_with fail
 refine K3.mono ?_
 rintro e w3 ⟨q,kc,L,rfl,sp,hL,hid5⟩
 obtain ⟨N,hN⟩:∃ N,N=L.length:=⟨_,rfl⟩
 have hN1:N<=120:=by omega
 have HI0:=hid hid5
 have HI1:=hid (Plain.full_ids hid5 (by omega))
 have HI2:=hid (Plain.full_ids HI1.out (by rw [Plain.fullF_len];omega))
 rw [<- hN] at sp ⊢
 have K4:=full_c q N kc L hN.symm (by omega) sp.both.2 w3 sp.both.1
 have B3:=hid (show Below W2.heap.size W2 w3 from sp.be)
 have HN:=hid hN
 clear K3 KS sp hid5 hL hN
 go_wp2_with fail
 refine K4.mono ?_
 rintro e w4 ⟨q4,c4,rfl,sp4⟩
 obtain ⟨M,hM⟩:∃ M,M=N+21:=⟨_,rfl⟩
 have hM1:M<=141:=by omega
 rw [<- hM] at sp4 ⊢
 have HLM:=hid (show (Plain.fullF L).length=M by rw [Plain.fullF_len,hM,HN.out])
 have K5:=full_c q4 M c4 (Plain.fullF L) HLM.out (by omega) sp4.both.2 w4 sp4.both.1
 have B4:=hid (show Below W2.heap.size W2 w4 from B3.out.trans (sp4.be.mono B3.out.size))
 clear K4 sp4 hM B3
 go_wp2_with fail
 refine K5.mono ?_
 rintro e w5 ⟨q5,c5,rfl,sp5⟩
 obtain ⟨Z,hZ⟩:∃ Z,Z=M+21:=⟨_,rfl⟩
 have hZ1:Z<=162:=by omega
 rw [<- hZ] at sp5 ⊢
 have HLZ:=hid (show (Plain.fullF (Plain.fullF L)).length=Z by rw [Plain.fullF_len,HLM.out,hZ])
 have B5:=hid (show Below W2.heap.size W2 w5 from B4.out.trans (sp5.be.mono B4.out.size))
 have H5:=hid sp5.both
 clear K5 sp5 hZ B4
 obtain ⟨k0,k1,k2,k3,k4⟩:=CW.out _ B5.out
 have K6:=ended_c c lp mp lc mc q5 Z c5 (Plain.fullF (Plain.fullF L)) HLZ.out (by omega) HC.out.1 HC.out.2.1 HC.out.2.2.1 HC.out.2.2.2 (fun s hs=>wf_small (HI2.out s hs)) H5.out.2 w5 (IW.out _ B5.out) (HTB.out _ (BW.out _ B5.out)) H5.out.1
 go_upto_region 3 with fail
 go_wp2_with fail
 refine K6.mono ?_
 rintro e w6 ⟨rp,rc,pp,pc,spp,sc,w0,P,G,rfl,b6,en⟩
 have B6:=hid (show Below W2.heap.size W2 w6 from B5.out.trans (b6.mono B5.out.size))
 have EN:=hid en
 clear K6 b6 en k0 k1 k2 k3 k4 B5 H5 HI0 HI1 HI2
 have HME:=hid (fun i k (hi:i<4) (hk:k<3)=>Plain.full_meet (l:=Plain.fullF L) HC.out.1 HC.out.2.1 HC.out.2.2.2 (by rw [HLM.out];omega) (i:=i) (k:=k) hi (by rw [HC.out.2.2.1];exact hk))
 have HOU:=hid (show Plain.Wou c (Plain.runW c (Plain.Wo.start c) (Plain.fullF (Plain.fullF L))) from Plain.Wou.run Plain.Wou.start _)
 have HST:=hid (Plain.wok_all HC.out.1 (n:=4) HC.out.2.1 HC.out.2.2.2 (Plain.fullF (Plain.fullF L)) (by rw [HLZ.out];omega)).1.st
 generalize Plain.runW c (Plain.Wo.start c) (Plain.fullF (Plain.fullF L))=W at EN HME HOU HST
 generalize Plain.totL (Plain.runW c (Plain.Wo.start c) (Plain.fullF L)).st=X at HME
 have K7:=sure_c w6 (HTB.out _ (BW.out _ B6.out))
 go_wp2_with fail
 refine K7.mono ?_
 rintro e w7 ⟨rfl,b7⟩
 have B7:=hid (show Below W2.heap.size W2 w7 from B6.out.trans (b7.mono B6.out.size))
 have E7:=hid (EN.out.grow b7)
 clear K7 b7 EN B6
 obtain ⟨sb,so,esp,scl⟩:=E7.out.stores (by omega)
 subst esp
 clear scl
 obtain ⟨lb,lf,el,_⟩:=seg_at (IW.out _ B7.out).sl (by rw [HC.out.2.2.1];omega)
 subst el
 -- what is read at a place
 have RD:=hid (show ∀ X,Below w7.heap.size w7 X->∀ i k,i<4->k<3->∃ fp fc,X.cell? ⟨sb,so+i,none⟩=some (.slice (some ⟨G i,0,none⟩) 3 3)/\X.cell? ⟨G i,k,none⟩=some (.slice fp (W.st i k).length fc)/\SegN X (.slice fp (W.st i k).length fc) (W.st i k)/\Lies X.heap.size (.slice fp (W.st i k).length fc) from fun X bx i k hi hk=>by
  have E9:=E7.out.grow bx
  obtain ⟨pb',po',e9,pcl⟩:=E9.stores (by omega)
  have ep:=Option.some.inj e9
  have ep1:sb=pb':=congrArg Addr.block ep
  have ep2:so=po':=congrArg Addr.off ep
  subst ep1
  subst ep2
  obtain ⟨f,hf⟩:=E9.gr i hi
  obtain ⟨fp,fc,ef,_⟩:=(hf.sg k hk).1.form
  have h1:=hf.row.cell (i:=k) hk
  have h2:=hf.sg k hk
  rw [ef] at h1 h2
  exact ⟨fp,fc,pcl i hi,h1,h2.1,h2.2⟩)
 have LD:=hid (show ∀ X,Below w7.heap.size w7 X->∀ k,k<3->X.cell? ⟨CB,1,none⟩=some (.slice (some ⟨lb,lf,none⟩) 3 lc)/\X.cell? ⟨lb,lf+k,none⟩=some (.int .i64 (c.ls.getD k 0)) from fun X bx k hk=>by
  have bx2:=B7.out.trans (bx.mono B7.out.size)
  obtain ⟨_,k1,_,_,_⟩:=CW.out _ bx2
  obtain ⟨lb',lf',e',lcl⟩:=seg_at (IW.out _ bx2).sl (by rw [HC.out.2.2.1];omega)
  have ep:=Option.some.inj e'
  have ep1:lb=lb':=congrArg Addr.block ep
  have ep2:lf=lf':=congrArg Addr.off ep
  subst ep1
  subst ep2
  rw [HC.out.2.2.1] at k1
  exact ⟨k1,lcl k (by rw [HC.out.2.2.1];exact hk)⟩)
 have bq:=hid (fun (X:World) (q:Nat)=>(show Below X.heap.size X (X.drewN q) from ⟨rfl,rfl,rfl,Nat.le_refl _,fun _ _=>rfl⟩))
 clear E7
 go_wp2
 go_loopg [11,12,13] 3 (fun gg s11 _ _ wx=>∃ k:Nat,k<=3/\3-k<=gg/\s11=.int .i64 k/\Aside (Below w7.heap.size w7 wx))
 case atStart=>exact ⟨0,Nat.zero_le _,by omega,rfl,(show Aside _ from Below.refl _ _)⟩
 case round =>
  obtain ⟨k,hk,hg,rfl,A⟩:=hrel
  by_cases hlt:k<3
  ·have hltz:(k:Int)<3:=by omega
   have hkn:¬ (k:Int)<0:=by omega
   obtain ⟨z,ez,hz⟩:=Plain.lab_nat HC.out.1 k
   have EZ:=hid ez
   clear ez
   go_wp2
   go_loopg [12,13] 4 (fun gg s12 _ wx=>∃ i:Nat,i<=4/\4-i<=gg/\s12=.int .i64 i/\Aside (Below w7.heap.size w7 wx))
   case atStart=>exact ⟨0,Nat.zero_le _,by omega,rfl,A⟩
   case round =>
    clear A
    obtain ⟨i,hi,hgi,rfl,A2⟩:=hrel
    by_cases hli:i<4
    ·have hliz:(i:Int)<4:=by omega
     have hin:¬ (i:Int)<0:=by omega
     obtain ⟨fp,fc,x0,x1,sg,ly⟩:=RD.out _ A2.out i k hli hlt
     have KM:=may_any _ _ (by have:=(HST.out i).len k;omega) wr sg ly
     rw [(HST.out i).mayL k] at KM
     obtain ⟨F,hF⟩:∃ F,F=(W.st i k).length:=⟨_,rfl⟩
     rw [<- hF] at x1 KM
     have HF:=hid hF
     have HA2:=hid A2.out
     clear sg ly hF A2
     go_wp2_with fail
     refine KM.mono ?_
     rintro e w8 ⟨rfl,b8⟩
     have A8:=hid (show Below w7.heap.size w7 w8 from HA2.out.trans (b8.mono HA2.out.size))
     obtain ⟨fp,fc,x0,x1,_,_⟩:=RD.out _ A8.out i k hli hlt
     obtain ⟨y0,y1⟩:=LD.out _ A8.out k hlt
     rw [EZ.out] at y1
     have hbit:=bit_numW z i hz
     have HNXT:=hid A8.out
     clear KM b8 HA2
     cases hri:Plain.reads (z:Int) i with
     | false =>
      rw [hri,if_neg (by decide)] at hbit
      have hem:=HOU.out i k (.inl (by unfold Plain.labAt;rw [EZ.out];exact hri))
      rw [hem] at x1
      have x1':w8.cell? ⟨G i,k,none⟩=some (.slice fp 0 fc):=x1
      clear x1 hem
      go_wp2
      go_loopg [13] 4 (fun gg s13 wx=>∃ j:Nat,j<=4/\4-j<=gg/\s13=.int .i64 j/\Aside (Below w7.heap.size w7 wx))
      case atStart=>exact ⟨0,Nat.zero_le _,by omega,rfl,(show Aside _ from HNXT.out)⟩
      case round =>
       obtain ⟨j,hj,hgj,rfl,A3⟩:=hrel
       clear x0 x1' y0 y1
       by_cases hlj:j<4
       ·have hljz:(j:Int)<4:=by omega
        obtain ⟨y0,y1⟩:=LD.out _ A3.out k hlt
        rw [EZ.out] at y1
        have NX:=hid A3.out
        clear A3 HNXT
        go_wp2
        go_quiet (fail)
        go_wp2
        go_roundg (4-(j+1))
        case measure=>omega
        case rel=>exact ⟨j+1,by omega,by omega,by go_num,(show Aside _ from ⟨NX.out.os,NX.out.tape,NX.out.output,NX.out.size,NX.out.block⟩)⟩
       ·have hljz:¬ (j:Int)<4:=by omega
        go_wp2
        go_roundg (4-(i+1))
        case measure=>omega
        case rel=>exact ⟨i+1,by omega,by omega,by go_num,A3⟩
     | true =>
      rw [hri,if_pos rfl] at hbit
      rw [<- HF.out] at x1
      go_wp2
      go_loopg [13] 4 (fun gg s13 wx=>∃ j:Nat,j<=4/\4-j<=gg/\s13=.int .i64 j/\Aside (Below w7.heap.size w7 wx))
      case atStart=>exact ⟨0,Nat.zero_le _,by omega,rfl,(show Aside _ from HNXT.out)⟩
      case round =>
       obtain ⟨j,hj,hgj,rfl,A3⟩:=hrel
       clear x0 x1 y0 y1
       by_cases hlj:j<4
       ·have hljz:(j:Int)<4:=by omega
        have hjn:¬ (j:Int)<0:=by omega
        obtain ⟨y0,y1⟩:=LD.out _ A3.out k hlt
        rw [EZ.out] at y1
        have hbj:=bit_numW z j hz
        have NX:=hid A3.out
        cases hrj:Plain.reads (z:Int) j with
        | false =>
         rw [hrj,if_neg (by decide)] at hbj
         clear A3 HNXT hri hrj
         go_wp2
         go_quiet (fail)
         go_wp2
         go_roundg (4-(j+1))
         case measure=>omega
         case rel=>exact ⟨j+1,by omega,by omega,by go_num,(show Aside _ from ⟨NX.out.os,NX.out.tape,NX.out.output,NX.out.size,NX.out.block⟩)⟩
        | true =>
         rw [hrj,if_pos rfl] at hbj
         have h1:=HME.out i k hli hlt (by unfold Plain.labAt;rw [EZ.out];exact hri)
         have h2:=HME.out j k hlj hlt (by unfold Plain.labAt;rw [EZ.out];exact hrj)
         have l8:=(HST.out i).len k
         obtain ⟨fp1,fc1,x0,x1,sg1,ly1⟩:=RD.out _ A3.out i k hli hlt
         obtain ⟨fp2,fc2,u0,u1,sg2,ly2⟩:=RD.out _ A3.out j k hlj hlt
         rw [h1] at x1 sg1 ly1 l8
         rw [h2] at u1 sg2 ly2
         have KS:=hid (fun q=>keep.same_any _ _ (X k) (by omega) (wr.drewN q) (sg1.below (bq.out wr q) ly1) (sg2.below (bq.out wr q) ly2))
         generalize (X k).length=ln at *
         clear A3 HNXT hri hrj sg1 sg2 ly1 ly2 h1 h2 l8
         go_wp2
         go_quiet ((go_at_call 16;exact Calls.quiet_of (KS.out _)))
         go_wp2
         go_roundg (4-(j+1))
         case measure=>omega
         case rel=>exact ⟨j+1,by omega,by omega,by go_num,(show Aside _ from ⟨NX.out.os,NX.out.tape,NX.out.output,NX.out.size,NX.out.block⟩)⟩
       ·have hljz:¬ (j:Int)<4:=by omega
        go_wp2
        go_roundg (4-(i+1))
        case measure=>omega
        case rel=>exact ⟨i+1,by omega,by omega,by go_num,A3⟩
    ·have hliz:¬ (i:Int)<4:=by omega
     go_wp2
     go_roundg (3-(k+1))
     case measure=>omega
     case rel=>exact ⟨k+1,by omega,by omega,by go_num,A2⟩
  ·have hltz:¬ (k:Int)<3:=by omega
   go_wp2
   go_ret
   exact ⟨rfl,BW.out _ (B7.out.trans (A.out.mono B7.out.size))⟩
end Go.Proofs.YtlohgiichckjmaaGreatDoor
