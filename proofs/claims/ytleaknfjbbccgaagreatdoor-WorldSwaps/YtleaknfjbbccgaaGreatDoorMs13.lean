/- Laid together. -/
import Derived.Test.YtleaknfjbbccgaaGreatDoorMs09
import Derived.Test.YtleaknfjbbccgaaGreatDoorMs11
import Derived.Test.YtleaknfjbbccgaaGreatDoorMs12
namespace Go.Proofs.YtleaknfjbbccgaaGreatDoor
open Plain
set_option maxHeartbeats 16000000
set_option maxRecDepth 100000
open Go.RowKit Go.Shelf Go.Sort
theorem RnI.cong {M:Mm} {n m:Nat} {w0 w:World} {GV:Nat} {f:Nat->Value} {L L':Nat->List Int} {rv:Value} {rl:List Int} (h:RnI M n m w0 w GV f L rv rl) (e:∀ a,a<n->L a=L' a):RnI M n m w0 w GV f L' rv rl :=
 ⟨h.gv,h.ge,fun a ha=>by rw [<- e a ha];exact h.rw a ha,h.rr,h.di,h.dr,h.no,h.nr⟩
theorem RnI.start (M:Mm) (n m:Nat) (w:World):RnI M n m w (w.alloc (.cells (madeCells #[.slice none 0 0] n) 22)) w.heap.size (fun _=>.slice none 0 0) (fun _=>[]) (.slice none 0 0) []:=by
 refine ⟨⟨_,yF _ _,size_madeCells _ _,fun i hi=>by simp [madeCells,hi,Nat.mod_one]⟩,yN,fun _ _=>NumR.nil _ _,NumR.nil _ _,fun _ _ _ _ _ e=>?_,fun _ _ _ e=>?_,fun _ _ _ e=>?_,fun _ e=>?_⟩<;>simp [Value.ownBlock] at e
namespace Plain
theorem zI0 (k:Nat) (f:Nat->Int):Bo.Plain.mapN (k+1) f=Bo.Plain.mapN k f++[f k]:=by unfold Bo.Plain.mapN;rw [List.range_succ,List.map_append];rfl
theorem yX9 (W:Wo) (a k:Nat):givL W a (k+1)=givL W a k++[(Bo.Plain.zT7 (W.bk k)).given.getD a 0]:=zI0 k _
theorem yG7 (W:Wo) (a k:Nat):(givL W a k).length=k:=by unfold givL Bo.Plain.mapN;simp
theorem xJ3 (W:Wo) (k:Nat) (h:0<=Bo.Plain.xR8 (W.bk k)):repL W (k+1)=repL W k++[Bo.Plain.xR8 (W.bk k)]:=by
 unfold repL;rw [zI0,List.filter_append];simp [h]
theorem xX0 (W:Wo) (k:Nat) (h:¬ 0<=Bo.Plain.xR8 (W.bk k)):repL W (k+1)=repL W k:=by
 unfold repL;rw [zI0,List.filter_append];simp [h]
theorem xX1 (W:Wo) (k:Nat):(repL W k).length<=k:=by
 unfold repL;have:=List.length_filter_le (fun x=>decide (0<=x)) (Bo.Plain.mapN k fun j=>Bo.Plain.xR8 (W.bk j));unfold Bo.Plain.mapN at *;simpa using this
end Plain
structure RuI (w0 w:World) (g off xb:Nat) (gl:List Int) (rep:Int) (p:Option Addr) (k:Nat):Prop where
 gc:∀ j,j<gl.length->w.cell? ⟨g,off+j,none⟩=some (.int .i64 (gl.getD j 0))
 x1:w.cell? ⟨xb,1,none⟩=some (.slice p gl.length k)
 x2:w.cell? ⟨xb,2,none⟩=some (.int .i64 rep)
 lg:g<w.heap.size
 lx:xb<w.heap.size
theorem RuI.uw {w0 w w':World} {g off xb:Nat} {gl:List Int} {rep:Int} {p:Option Addr} {k:Nat} {Q:Nat->Prop} (h:RuI w0 w g off xb gl rep p k) (u:Uw Q w w') (h1:¬ Q g) (h2:¬ Q xb):RuI w0 w' g off xb gl rep p k :=
 ⟨fun j hj=>(u.cell g _ h.lg h1).trans (h.gc j hj),(u.cell xb _ h.lx h2).trans h.x1,(u.cell xb _ h.lx h2).trans h.x2,zF h.lg u.size,zF h.lx u.size⟩
def RdsP (B:Nat) (M:Mm) (c:Cf) (n m:Nat) (W:Wo) (T S:Nat) (w:World) (e:Ending) (w':World):Prop :=
 ∃ GV f rv M',e=.returned (.tuple #[.slice (some ⟨GV,0,none⟩) n n,rv])/\M'.R=M.R/\RnI M' n m w w' GV f (fun a=>givL W a m) rv (repL W m)/\WI B M' w' c n m (rndW W m) (T+m) S/\Fr M M' n m w w'
theorem xJ4 (B:Nat) (M:Mm) (c:Cf) (n m:Nat) (W:Wo) (T S:Nat) (hn:c.n=n) (hn1:1<=n) (hn8:n<=8) (hm:m<=3) (hT:T+m<=1000) (hbn:∀ k,k<m->(W.bk k).n=n) (w:World) (h:WI B M w c n m W T S) :
  Calls Tryz.prog 75 #[.pointer (some ⟨M.R,0,none⟩)] w (RdsP B M c n m W T S w):=by
 have hmk:∀ X:World,(Instr.makeSlice 147 (.int .i64 (n:Int)) (.int .i64 (n:Int))).run Tryz.prog X=.ok (.slice (some ⟨X.heap.size,0,none⟩) n n) (X.alloc (.cells (madeCells #[.slice none 0 0] n) 22)):=fun X=>by
  have e0:(Tryz.prog.info? 22).map (fun i=>(i.zero,i.size,i.bytes))=some (some (.slice none 0 0),1,24):=by kernel_rfl
  obtain ⟨i0,hi,hz0,hz1,hz2⟩:=info_parts e0;have:=run_make (P:=Tryz.prog) X 147 22 i0 _ Tryz.underlying147 hi hz0 .i64 .i64 (n:Int) (n:Int) (by omega) (Int.le_refl _) (by rw [hz2];omega) (by omega);rw [hz1,show (Value.slice none 0 0).cells=#[.slice none 0 0] from rfl] at this;simpa using this
 have bA:=hid (show Below w.heap.size w (w.alloc (.cells (madeCells #[.slice none 0 0] n) 22)) from yO.alloc yN _);have HI:=hid h;have ST:=hid (RnI.start M n m w);have HBN:=hid hbn;have HB:=hid h.bw;have c0:w.cell? ⟨M.R,0,none⟩=some (.int .i64 (n:Int)):=by rw [<- hn];exact h.cell (j:=0) (by omega)
 have c8:(w.alloc (.cells (madeCells #[.slice none 0 0] n) 22)).cell? ⟨M.R,8,none⟩=some (.slice (some ⟨M.BB,0,none⟩) m M.cb):=(h.grow bA.out).cell (j:=8) (by omega);clear h hbn hn;go_enter Tryz.func75,Tryz.ntmps75
 go_wp2;clear hmk c0 c8
 go_loopg [3,4,5,6,7,19] m (fun gg s3 _ _ _ _ s19 wx=>∃ k:Nat,k<=m/\m-k<=gg/\s19=.int .i64 k/\Aside (∃ M' f,M'.R=M.R/\WI B M' wx c n m (rndW W k) (T+k) S/\Fr M M' n m w wx/\RnI M' n m w wx w.heap.size f (fun a=>givL W a k) s3 (repL W k)))
 case atStart=>exact ⟨0,zG _,by omega,rfl,(show Aside _ from ⟨M,_,rfl,by rw [yX7];exact HI.out.grow bA.out,Fr.of_below bA.out,ST.out⟩)⟩
 case round =>
  obtain ⟨k,hkk,hgg,rfl,A⟩:=hrel;clear ST;by_cases hlt:k<m
  ·have hltz:(k:Int)<(m:Int):=by omega
   obtain ⟨M',f,hR,hw,hf,hr⟩:=A.out;have HW:=hid hw;have HF:=hid hf;have HN:=hid hr;have a8:wr.cell? ⟨M.R,8,none⟩=some (.slice (some ⟨M'.BB,0,none⟩) m M'.cb):=by rw [<- hR];exact hw.cell (j:=8) (by omega)
   have K:=yX3 B M'.BB M'.NB M'.FB M'.A M'.G M'.vl M'.N m (rndW W k).bk (T+k) k hlt (by omega) ⟨3,0,0⟩ wr hw.bk;clear hw hf hr A
   go_wp2_with fail
   refine K.mono ?_;rintro e w2 ⟨r,F',vl',N',rfl,hd,hbk,u2,ns,hv⟩;clear K a8;obtain ⟨i2,ua,oa⟩:=HW.out.setBk hbk u2 hv;have hca:Bo.Plain.caB ((rndW W k).bk k) ⟨3,0,0⟩=Bo.Plain.zT7 ((rndW W k).bk k):=by unfold Bo.Plain.caB Bo.Plain.caE;rfl
   have hct:Bo.Plain.caT ((rndW W k).bk k) ⟨3,0,0⟩=⟨0,(Bo.Plain.zT7 (W.bk k)).given,Bo.Plain.xR8 (W.bk k)⟩:=by rw [xW9];unfold Bo.Plain.caT Bo.Plain.caE;rfl
   rw [hca,yX8] at i2;rw [hct] at hd;have fa:=(⟨ua,oa⟩:Fr M' _ n m wr w2);have FA:=hid (HF.out.trans fa);have NA:=hid (HN.out.fr HW.out fa);have hgo:∀ y,¬ isBk M'.BB M'.A M'.G (up1 M'.vl k vl') m y->wr.heap.size<=y->¬ own { M' with FB:=F',vl:=up1 M'.vl k vl',N:=N' } n m y:=fun y h1 h2 ho=>by
    rcases ho with e|e|e|e|e|e
    ·have:=HW.out.own_lt (.inl e);omega
    ·have:=HW.out.own_lt (.inr (.inl e));omega
    ·have:=HW.out.own_lt (.inr (.inr (.inl e)));omega
    ·exact h1 e
    ·have:=HW.out.own_lt (.inr (.inr (.inr (.inr (.inl e)))));omega
    ·have:=HW.out.own_lt (.inr (.inr (.inr (.inr (.inr e)))));omega
   have hR2:({ M' with FB:=F',vl:=up1 M'.vl k vl',N:=N' }:Mm).R=M.R:=hR;generalize ({ M' with FB:=F',vl:=up1 M'.vl k vl',N:=N' }:Mm)=M2 at i2 FA NA hgo hR2;have HI2:=hid i2;have hs2:wr.heap.size<=w2.heap.size:=ua.size;clear fa i2 ua oa u2 hbk hv hca hct;obtain ⟨gl,hgl⟩:∃ gl,gl=(Bo.Plain.zT7 (W.bk k)).given:=⟨_,rfl⟩;obtain ⟨rep,hrep⟩:∃ rep,rep=Bo.Plain.xR8 (W.bk k):=⟨_,rfl⟩;have hll:gl.length=n:=by
    rw [hgl,<- HBN.out k hlt];unfold Bo.Plain.zT7 Bo.Plain.yJ4 Bo.Plain.mapN;simp only [List.length_map,List.length_range];unfold Bo.Plain.begB;split<;>rfl
   rw [<- hgl,<- hrep] at hd;obtain ⟨d,p,kc⟩:=r;have hd':d=⟨0,gl,rep⟩:=hd;subst hd';dsimp only at ns;obtain ⟨g,off,hpg,hg,hno,hgc⟩:=ns.cl (by show 0<gl.length;omega);have hno1:¬ own M2 n m g:=hgo g (fun x=>hno (.inl x)) (Nat.le_of_not_lt (fun x=>hno (.inr x)));have hgw:wr.heap.size<=g:=Nat.le_of_not_lt (fun x=>hno (.inr x));clear ns hno hd hgo;subst hpg;have HGL:=hid hgl;have HREP:=hid hrep;have HLL:=hid hll;obtain ⟨xb,hxb⟩:∃ xb,xb=w2.heap.size:=⟨_,rfl⟩;obtain ⟨W3,hW3⟩:∃ W3,W3=w2.alloc (.cells #[.int .i64 0,.slice (some ⟨g,off,none⟩) n kc,.int .i64 rep] 124):=⟨_,rfl⟩;have eU:Bo.aggU ⟨⟨0,gl,rep⟩,some ⟨g,off,none⟩,kc⟩=Value.agg #[.int .i64 0,.slice (some ⟨g,off,none⟩) n kc,.int .i64 rep]:=by rw [<- hll];rfl
   rw [eU];have HW3:=hid hW3;have HXB:=hid hxb;clear eU hgl hrep hll hxb hW3
   go_upto_region 6 with fail
   rw [<- HW3.out,<- HXB.out];have hW3:=HW3.out;have hxb:=HXB.out;have hll:=HLL.out;have b3:Below w2.heap.size w2 W3:=by rw [hW3];exact yO.alloc yN _
   have R3:=hid (show RuI w W3 g off xb gl rep (some ⟨g,off,none⟩) kc from ⟨fun j hj=>(b3.cell (p:=⟨g,off+j,none⟩) hg).trans (hgc j hj),by rw [hW3,hxb,zM _ _ _ _ rfl,hll];rfl,by rw [hW3,hxb,zM _ _ _ _ rfl];rfl,zF hg b3.size,by rw [hW3,hxb];simp⟩);have I3:=hid (HI2.out.grow b3);have F3:=hid (FA.out.trans (Fr.of_below b3));have N3:=hid (NA.out.fr HI2.out (Fr.of_below b3));have X3:=hid (fun a (ha:a<n)=>show (f a).ownBlock≠some g/\(f a).ownBlock≠some xb from ⟨fun e=>by have:=((HN.out.rw a ha).lt e).1;omega,fun e=>by have:=((HN.out.rw a ha).lt e).1;omega⟩);have Y3:=hid (show u3.ownBlock≠some g/\u3.ownBlock≠some xb from ⟨fun e=>by have:=(HN.out.rr.lt e).1;omega,fun e=>by have:=(HN.out.rr.lt e).1;omega⟩);have hgv:w.heap.size<wr.heap.size:=HN.out.gv.lt;have nG1:¬ g=w.heap.size:=by omega
   have nG2:¬ xb=w.heap.size:=by omega
   clear hW3 hxb HW3 HXB b3 FA NA HI2 hgc HW HF HN hll hgw hs2 hgv hno1;have x1:W3.cell? ⟨xb,1,none⟩=some (.slice (some ⟨g,off,none⟩) n kc):=by rw [<- HLL.out];exact R3.out.x1
   go_wp2;clear x1
   go_loopg [6,7,33] n (fun gg _ _ s33 wx=>∃ j:Nat,j<=n/\n-j<=gg/\s33=.int .i64 j/\Aside (∃ f,WI B M2 wx c n m (rndW W (k+1)) (T+k+1) S/\Fr M M2 n m w wx/\RnI M2 n m w wx w.heap.size f (fun a=>if a<j then givL W a (k+1) else givL W a k) u3 (repL W k)/\RuI w wx g off xb gl rep (some ⟨g,off,none⟩) kc/\∀ a,a<n->(f a).ownBlock≠some g/\(f a).ownBlock≠some xb))
   case atStart=>exact ⟨0,zG _,by omega,rfl,(show Aside _ from ⟨f,I3.out,F3.out,N3.out.cong (fun a ha=>by rw [if_neg (by omega)]),R3.out,X3.out⟩)⟩
   case round =>
    obtain ⟨j,hj,hgj,rfl,AJ⟩:=hrel;clear I3 F3 N3 X3 R3;by_cases hjn:j<n
    ·have hjz:(j:Int)<(n:Int):=by omega
     obtain ⟨f2,i4,f4,n4,r4,x4⟩:=AJ.out;have q0:wr.cell? ⟨g,off+j,none⟩=some (.int .i64 (gl.getD j 0)):=r4.gc j (by rw [HLL.out];exact hjn);have hL:(if j<j then givL W j (k+1) else givL W j k)=givL W j k:=if_neg (Nat.lt_irrefl _);have hlen:(givL W j k).length=k:=yG7 W j k;obtain ⟨v5,w5,hr5,⟨p5,k5,rfl⟩,gv5,n5,i5,f5,u5',o5⟩:=n4.snoc i4 HB.out f4.u.size hjn (by rw [hL,hlen];omega) (gl.getD j 0);have n5':=n5.cong (L':=fun a=>if a<j+1 then givL W a (k+1) else givL W a k) (fun a ha=>by
      by_cases e:a=j
      ·subst e
       rw [yR,hL,if_pos (by omega),yX9,HGL.out]
      ·rw [yY _ j _ e]
       by_cases c:a<j
       ·rw [if_pos c,if_pos (by omega)]
       ·rw [if_neg c,if_neg (by omega)])
     have r5:=r4.uw u5' (fun x=>x.elim (x4 j hjn).1 nG1) (fun x=>x.elim (x4 j hjn).2 nG2);have x5:∀ a,a<n->(up1 f2 j (.slice p5 ((if j<j then givL W j (k+1) else givL W j k).length+1) k5) a).ownBlock≠some g/\(up1 f2 j (.slice p5 ((if j<j then givL W j (k+1) else givL W j k).length+1) k5) a).ownBlock≠some xb:=fun a ha=>by
      by_cases e:a=j
      ·subst e
       rw [yR];exact ⟨fun z=>(o5 g z).elim (x4 a ha).1 (fun y=>by have:=r4.lg;omega),fun z=>(o5 xb z).elim (x4 a ha).2 (fun y=>by have:=r4.lx;omega)⟩
      ·rw [yY f2 j _ e];exact x4 a ha
     rw [hL,hlen] at hr5 n5' i5 f5 r5 x5;have y0:=n4.gv.cell (i:=j) hjn;have y1:=gv5.cell (i:=j) hjn;have z1:=gv5.frozen j;have RUN:=hid hr5;have N5:=hid n5';have I5:=hid i5;have F5:=hid (f5 M f4);have R5:=hid r5;have X5:=hid x5;have NL:=n4.rw j hjn;rw [hL] at NL;obtain ⟨_,_,pj,cj,efj⟩:=NL.seg;rw [hlen] at efj;clear hr5 gv5 n5 n5' i5 f5 u5' o5 r5 x5 i4 f4 n4 r4 x4 AJ hL hlen NL;generalize hfj:f2 j=fj at *;subst efj;generalize gl.getD j 0=xg at *
     go_wp2_with (first|(at_builtin;refine xE _ _ 22 RUN.out (by rfl) (by rfl) (by rfl) (by rfl) (by rfl) ?_)|fail)
     clear q0 y0 y1 z1
     go_roundg (n-(j+1))
     case measure=>omega
     case rel=>exact ⟨j+1,by omega,by omega,by go_num,(show Aside _ from ⟨_,I5.out,F5.out,N5.out,R5.out,X5.out⟩)⟩
    ·have hjz:¬ (j:Int)<(n:Int):=by omega
     have ej:j=n:=by omega
     subst ej;obtain ⟨f2,i4,f4,n4,r4,x4⟩:=AJ.out;have n4':=n4.cong (L':=fun a=>givL W a (k+1)) (fun a ha=>by rw [if_pos ha]);have q2:=r4.x2;have I4:=hid i4;have F4:=hid f4;have N4:=hid n4';clear AJ n4 n4' i4 f4 r4 x4;by_cases hrp:0<=rep
     ·obtain ⟨v7,w7,hr7,n7,i7,f7,_,p7,k7,rfl⟩:=N4.out.rep I4.out HB.out F4.out.u.size (by have:=xX1 W k;omega) rep
      have hrl:repL W k++[rep]=repL W (k+1):=by rw [HREP.out,xJ3 W k (by rw [<- HREP.out];exact hrp)]
      rw [hrl] at n7;have RUN:=hid hr7;have N7:=hid n7;have I7:=hid i7;have F7:=hid (f7 M F4.out);clear hr7 n7 i7 f7 hrl
      go_wp2_with (first|(at_builtin;refine xE _ _ 22 RUN.out (by rfl) (by rfl) (by rfl) (by rfl) (by rfl) ?_)|fail)
      go_roundg (m-(k+1))
      case measure=>omega
      case rel=>exact ⟨k+1,by omega,by omega,by go_num,(show Aside _ from ⟨M2,f2,hR2,I7.out,F7.out,N7.out⟩)⟩
     ·have hrl:repL W (k+1)=repL W k:=xX0 W k (by rw [<- HREP.out];exact hrp)
      go_wp2
      go_roundg (m-(k+1))
      case measure=>omega
      case rel=>exact ⟨k+1,by omega,by omega,by go_num,(show Aside _ from ⟨M2,f2,hR2,I4.out,F4.out,by rw [hrl];exact N4.out⟩)⟩
  ·have hltz:¬ (k:Int)<(m:Int):=by omega
   have ek:k=m:=by omega
   subst ek;have HA:=hid A.out;clear A;go_wp2;go_ret2
   obtain ⟨M',f,hR,hw,hf,hr⟩:=HA.out;exact ⟨_,f,_,M',rfl,hR,hr,hw,hf⟩
theorem yY0 (B:Nat) (M:Mm) (c:Cf) (n m:Nat) (W:Wo) (T S:Nat) (i k:Nat) (hi:i<n) (hk:k<m) (o:Hd.Plain.Or) (gg:Int) (hv:Hd.Plain.Hv (W.rk i k) gg) (hcs:(W.rk i k).cs.length<=1000) (w:World) (h:WI B M w c n m W T S) :
  Calls Tryz.prog 70 #[.pointer (some ⟨M.D i,k*6+2,none⟩),Hd.aggO o] w fun e w'=>e=.returned (Hd.aggS (Hd.Plain.toldR (W.rk i k) o))/\∃ vo',WI B { M with vo:=vo' } w' c n m { W with rk:=up2 W.rk i k (Hd.Plain.yH6 (W.rk i k) o) } T S/\Fr M { M with vo:=vo' } n m w w':=by
 refine (yW9 M.EB M.NC M.F M.H M.D M.vo M.lp M.lc n m c.ls W i k hi hk o gg hv hcs w h.br).mono ?_;rintro e w' ⟨rfl,⟨vo',br,hx⟩,u⟩;obtain ⟨wi,ua,oa⟩:=h.setBr br rfl rfl rfl (u.mono fun _ _ x=>.inl x) hx;exact ⟨rfl,vo',wi,ua,oa⟩
theorem GoI.cong {w:World} {D:Nat->Nat} {vo:Nat->Nat->Value} {n m:Nat} {a g:Nat->Nat->Int} {r a':Nat->Nat->Hd.Plain.Rk} (h:GoI w D vo n m a g r) (e:∀ i k,i<n->k<m->r i k=a' i k):GoI w D vo n m a g a':=by
 refine ⟨fun i hi=>(h.row i hi).congr fun j hj=>?_,fun i k hi hk=>by rw [<- e i k hi hk];exact h.ow i k hi hk,h.ds,h.dv⟩;unfold gdF;rw [e i (j/6) hi (by omega)]
theorem WI.congK {B:Nat} {M:Mm} {w:World} {c:Cf} {n m:Nat} {W:Wo} {T S:Nat} (h:WI B M w c n m W T S) {r:Nat->Nat->Hd.Plain.Rk} (e:∀ i k,i<n->k<m->W.rk i k=r i k):WI B M w c n m { W with rk:=r } T S :=
 ⟨⟨h.br.st,h.br.go.cong e,h.br.lb⟩,h.bk,h.po,h.lo,h.lt,h.ne,h.cf,h.ll,h.lm,h.tb,h.b0,h.bw⟩
theorem BksI.cong {B:Nat} {w:World} {BB NB:Nat} {F:Nat->Value} {A G:Nat->Nat} {vl:Nat->Value} {N:Nat->Nat} {m:Nat} {b b':Nat->Bo.Plain.Bk} {T:Nat} (h:BksI B w BB NB F A G vl N m b T) (e:∀ k,k<m->b k=b' k):BksI B w BB NB F A G vl N m b' T:=by
 refine ⟨h.row,fun j hj=>?_,h.hN,fun k hk=>by rw [<- e k hk];exact h.bk k hk,h.ap,h.nt⟩;rw [h.hF j hj];unfold bkC;rw [e (j/8) (by omega)]
theorem WI.congB {B:Nat} {M:Mm} {w:World} {c:Cf} {n m:Nat} {W:Wo} {T S:Nat} (h:WI B M w c n m W T S) {b:Nat->Bo.Plain.Bk} (e:∀ k,k<m->W.bk k=b k):WI B M w c n m { W with bk:=b } T S :=
 ⟨⟨h.br.st,h.br.go,h.br.lb⟩,h.bk.cong e,h.po,h.lo,h.lt,h.ne,h.cf,h.ll,h.lm,h.tb,h.b0,h.bw⟩
namespace Plain
def rkT (W:Wo) (a i:Nat):Wo:={ W with rk:=fun x k=>if x<a\/(x=a/\k<i) then Hd.Plain.yH6 (W.rk x k) ⟨7,0,0,0⟩ else W.rk x k }
theorem xJ5 (W:Wo):rkT W 0 0=W:=by
 unfold rkT;have:(fun x k=>if x<0\/(x=0/\k<0) then Hd.Plain.yH6 (W.rk x k) ⟨7,0,0,0⟩ else W.rk x k)=W.rk:=funext fun x=>funext fun k=>by rw [if_neg (by omega)]
 rw [this]
theorem yY1 (W:Wo) (a i:Nat):(rkT W a i).rk a i=W.rk a i:=by unfold rkT;dsimp only;rw [if_neg (by omega)]
theorem xJ6 (W:Wo) (a i:Nat):{ rkT W a i with rk:=up2 (rkT W a i).rk a i (Hd.Plain.yH6 (W.rk a i) ⟨7,0,0,0⟩) }=rkT W a (i+1):=by
 unfold rkT;have:up2 (fun x k=>if x<a\/(x=a/\k<i) then Hd.Plain.yH6 (W.rk x k) ⟨7,0,0,0⟩ else W.rk x k) a i (Hd.Plain.yH6 (W.rk a i) ⟨7,0,0,0⟩)=fun x k=>if x<a\/(x=a/\k<i+1) then Hd.Plain.yH6 (W.rk x k) ⟨7,0,0,0⟩ else W.rk x k:=funext fun x=>funext fun k=>by
  unfold up2;dsimp only;by_cases e:x=a/\k=i
  ·obtain ⟨rfl,rfl⟩:=e
   rw [if_pos ⟨rfl,rfl⟩,if_pos (by omega)]
  ·rw [if_neg e]
   by_cases c:x<a\/(x=a/\k<i)
   ·rw [if_pos c,if_pos (by omega)]
   ·rw [if_neg c,if_neg (by omega)]
 dsimp only;rw [this]
end Plain
theorem WI.rowT {B:Nat} {M:Mm} {w:World} {c:Cf} {n m:Nat} {W:Wo} {T S a:Nat} (h:WI B M w c n m (rkT W a m) T S):WI B M w c n m (rkT W (a+1) 0) T S:=by
 have:=h.congK (r:=(rkT W (a+1) 0).rk) (fun i k hi hk=>by
  unfold rkT;dsimp only;by_cases c:i<a\/(i=a/\k<m)
  ·rw [if_pos c,if_pos (by omega)]
  ·rw [if_neg c,if_neg (by omega)])
 exact this
namespace Plain
def yZ (c:Cf) (W:Wo) (n k:Nat):List Se.Plain.Po:=(List.range k).flatMap fun i=>vL c W i :: rumK c W i n
theorem vU (c:Cf) (W:Wo) (n k:Nat):yZ c W n (k+1)=yZ c W n k++([vL c W k]++rumK c W k n):=by
 unfold yZ;rw [List.range_succ,List.flatMap_append];simp
theorem zL6 (c:Cf) (W:Wo) (n k:Nat):(yZ c W n k).length<=k*(n+1):=by
 induction k with
 | zero=>simp [yZ]
 | succ k ih =>
  rw [vU,zD,zD,Nat.succ_mul];have:=yB0 c W k n;simp only [List.length_singleton];omega
def givK (c:Cf) (W:Wo) (k:Nat):List Se.Plain.Po:=(List.range k).map (givP c W)
theorem zW3 (c:Cf) (W:Wo) (k:Nat):givK c W (k+1)=givK c W k++[givP c W k]:=by unfold givK;rw [List.range_succ,List.map_append];rfl
theorem xJ7 (c:Cf) (W:Wo) (k:Nat):(givK c W k).length=k:=by unfold givK;simp
theorem okPo {c:Cf} {W:Wo} {n:Nat} (hn:c.n=n) (hn8:n<=8) (h4:c.ls.length<=4):(∀ i,i<n->∀ p∈vL c W i :: rumK c W i n,(0<=p.frm/\p.frm<=8)/\(0<=p.«to»/\p.«to»<=8)/\p.data.length<=256)/\∀ i,i<n->(0<=(givP c W i).frm/\(givP c W i).frm<=8)/\(0<=(givP c W i).«to»/\(givP c W i).«to»<=8)/\(givP c W i).data.length<=256:=by
 refine ⟨fun i hi p hp=>?_,fun i hi=>?_⟩
 ·rcases List.mem_cons.1 hp with rfl|hp
  ·refine ⟨⟨?_,?_⟩,⟨?_,?_⟩,?_⟩
   ·show (0:Int)<=(i:Int);omega
   ·show (i:Int)<=8;omega
   ·show (0:Int)<=c.n;omega
   ·show c.n<=8;omega
   ·show (byI _).length<=256;rw [xG];exact kI c _
  ·exact yG6 (by omega) (by omega) h4 p hp
 ·refine ⟨⟨?_,?_⟩,⟨?_,?_⟩,?_⟩
  ·show (0:Int)<=c.n;omega
  ·show c.n<=8;omega
  ·show (0:Int)<=(i:Int);omega
  ·show (i:Int)<=8;omega
  ·show (byI _).length<=256;rw [xG];exact kI c _
theorem zP6 {c:Cf} {W:Wo} {n:Nat} (hn:c.n=n) (hn8:n<=8) (h4:c.ls.length<=4) {k:Nat} (hk:k<=n):∀ p∈yZ c W n k,(0<=p.frm/\p.frm<=8)/\(0<=p.«to»/\p.«to»<=8)/\p.data.length<=256:=fun p hp=>by
 obtain ⟨i,hi,hp⟩:=List.mem_flatMap.1 hp;have:=zY.1 hi;exact (okPo hn hn8 h4).1 i (by omega) p hp
theorem yL6 (W:Wo) (a b:List Se.Plain.Po):xA (xA W a) b=xA W (a++b):=by unfold xA;simp
end Plain
theorem zB6 (M:Mm) (n:Nat) (w:World) (h0:w.cell? ⟨M.R,0,none⟩=some (.int .i64 (n:Int))) :
  Calls Tryz.prog 72 #[.pointer (some ⟨M.R,0,none⟩)] w fun e w'=>e=.returned (.int .i64 (n:Int))/\w'=w:=by
 go_enter Tryz.func72,Tryz.ntmps72
 go_wp2;go_ret
 exact ⟨rfl,rfl⟩
theorem xX2 {w:World} {g m:Nat} {f:Nat->Int} (h:w.rowIs g 3 m (numF f m)):Seg w (.slice (some ⟨g,0,none⟩) m m) (Bo.Plain.mapN m f)/\Lies w.heap.size (.slice (some ⟨g,0,none⟩) m m):=by
 have hl:(Bo.Plain.mapN m f).length=m:=by unfold Bo.Plain.mapN;simp
 refine ⟨.inr ⟨g,0,m,by rw [hl],fun j hj=>?_⟩,qF h.lt⟩;rw [hl] at hj;rw [Nat.zero_add,h.cell hj];unfold numF Bo.Plain.mapN;rw [if_pos hj];simp [hj]
theorem RnI.tagk {M:Mm} {n m:Nat} {w0 w w':World} {GV:Nat} {f:Nat->Value} {L:Nat->List Int} {rv:Value} {rl:List Int} (h:RnI M n m w0 w GV f L rv rl) (e:∀ y,y<w.heap.size->tag w y≠some 98->w'.heap[y]?=w.heap[y]?):RnI M n m w0 w' GV f L rv rl :=
 ⟨h.gv.of_block (e _ h.gv.lt (by rw [yQ h.gv];decide)),h.ge,fun a ha=>(h.rw a ha).keep fun b hb=>e b ((h.rw a ha).lt hb).1 (by rw [(h.rw a ha).tag hb];decide),h.rr.keep fun b hb=>e b (h.rr.lt hb).1 (by rw [h.rr.tag hb];decide),h.di,h.dr,h.no,h.nr⟩
theorem NumR.base {w0 w1 w:World} {v:Value} {l:List Int} (h:NumR w1 w v l) (hb:w0.heap.size<=w1.heap.size):NumR w0 w v l:=by
 refine ⟨h.1,?_⟩;rcases h.2 with x|⟨g,c,cur,e,hg,r⟩
 ·exact .inl x
 ·exact .inr ⟨g,c,cur,e,zI hb hg,r⟩
structure TkB (M:Mm) (n m:Nat) (w0 w:World):Prop where
 row:w.rowIs w0.heap.size 42 11 qH
theorem TkB.fr {B:Nat} {M M':Mm} {w0 w w':World} {c:Cf} {n m:Nat} {W:Wo} {T S:Nat} (h:TkB M n m w0 w) (wi:WI B M w c n m W T S) (f:Fr M M' n m w w'):TkB M' n m w0 w' :=
 ⟨h.row.of_block (f.keep h.row.lt (wi.free (yQ h.row) (by decide) (by decide) (by decide) (by decide) (by decide) (by decide) (by decide) (by decide))).1⟩
def TkP (B:Nat) (M:Mm) (c:Cf) (n m:Nat) (W:Wo) (T S:Nat) (w:World) (e:Ending) (w':World):Prop :=
 ∃ sv rv M',e=.returned (aggL (tlOf (zC5 c W) sv nilS rv))/\M'.R=M.R/\EvR w w' sv (zC5 c W).sent/\NumR w w' rv (zC5 c W).report/\(∀ x,rv.ownBlock=some x->¬ own M' n m x)/\WI B M' w' c n m (zD8 c W) (T+m) (S+100)/\Fr M M' n m w w'
theorem qG4 (B:Nat) (M:Mm) (c:Cf) (n m:Nat) (W:Wo) (T S:Nat) (Tm:Int) (hn:c.n=n) (hn1:1<=n) (hn8:n<=8) (hml:c.ms.length=m) (hm1:1<=m) (hm:m<=3) (h4:c.ls.length<=4) (hT:T+m<=1000) (hbn:∀ k,k<m->(W.bk k).n=n)
  (hv:∀ i k,i<n->k<m->(∃ gg,Hd.Plain.Hv (W.rk i k) gg)/\(W.rk i k).cs.length<=1000) (hS:∀ i,i<n->Sok Tm (W.st i)) (hg:Se.Plain.Good W.off) (hp:W.off.posted.length<=60000) (w:World) (h:WI B M w c n m W T S) :
  Calls Tryz.prog 49 #[.pointer (some ⟨M.R,0,none⟩)] w (TkP B M c n m W T S w):=by
 obtain ⟨WA,hWA⟩:∃ WA,WA=w.alloc boxZ:=⟨_,rfl⟩;have BA:=hid (show Below w.heap.size w WA by rw [hWA];exact yO.alloc yN _);have KA:=hid (show TkB M n m w WA from ⟨by rw [hWA];exact rowZ w⟩);have HA:=hid (h.grow BA.out);have HV:=hid hv;have HS:=hid hS;have HG:=hid hg;have HB:=hid h.bw;have HBN:=hid hbn;have HP:=hid hp;have c7:WA.cell? ⟨M.R,7,none⟩=some (.slice (some ⟨M.EB,0,none⟩) n M.ce):=HA.out.cell (j:=7) (by omega);clear h hv hS hg hbn hp;go_enter Tryz.func49,Tryz.ntmps49
 go_upto_region 1 with fail
 rw [<- hWA];clear hWA;go_wp2;clear c7
 go_loopg [3,4,15] n (fun gg _ _ s15 wx=>∃ a:Nat,a<=n/\n-a<=gg/\s15=.int .i64 a/\Aside (∃ M',M'.R=M.R/\WI B M' wx c n m (rkT W a 0) T S/\Fr M M' n m w wx/\TkB M' n m w wx))
 case atStart=>exact ⟨0,zG _,by omega,rfl,(show Aside _ from ⟨M,rfl,by rw [xJ5];exact HA.out,Fr.of_below BA.out,KA.out⟩)⟩
 case round =>
  obtain ⟨a,haa,hga,rfl,A⟩:=hrel;by_cases hlt:a<n
  ·have hltz:(a:Int)<(n:Int):=by omega
   obtain ⟨M',hR,hw,hf,hk⟩:=A.out;have a7:wr.cell? ⟨M.R,7,none⟩=some (.slice (some ⟨M'.EB,0,none⟩) n M'.ce):=by rw [<- hR];exact hw.cell (j:=7) (by omega)
   have a3:=hw.br.st.goods hlt;have AA:=A;clear hw hf hk;go_wp2;clear a7 a3
   go_loopg [4,27] m (fun gg _ s27 wx=>∃ i:Nat,i<=m/\m-i<=gg/\s27=.int .i64 i/\Aside (∃ M',M'.R=M.R/\WI B M' wx c n m (rkT W a i) T S/\Fr M M' n m w wx/\TkB M' n m w wx))
   case atStart=>exact ⟨0,zG _,by omega,rfl,AA⟩
   case round =>
    obtain ⟨i,hii,hgi,rfl,AI⟩:=hrel;by_cases hlti:i<m
    ·have hltiz:(i:Int)<(m:Int):=by omega
     obtain ⟨M2,hR2,hw,hf,hk⟩:=AI.out;have a7:wr.cell? ⟨M.R,7,none⟩=some (.slice (some ⟨M2.EB,0,none⟩) n M2.ce):=by rw [<- hR2];exact hw.cell (j:=7) (by omega)
     have a3:=hw.br.st.goods hlt;obtain ⟨⟨gg,hvv⟩,hcc⟩:=HV.out a i hlt hlti;have K:=yY0 B M2 c n m (rkT W a i) T S a i hlt hlti ⟨7,0,0,0⟩ gg (by rw [yY1];exact hvv) (by rw [yY1];exact hcc) wr hw;have HF:=hid hf;have HK:=hid hk;have HW:=hid hw;clear hw hf hk AI hvv hcc AA A
     go_wp2_with fail
     refine K.mono ?_;rintro e w3 ⟨rfl,vo',wi3,f3⟩;rw [yY1,xJ6] at wi3;have I3:=hid wi3;have F3:=hid (HF.out.trans f3);have K3:=hid (HK.out.fr HW.out f3);clear K wi3 f3 a7 a3;go_wp2
     go_roundg (m-(i+1))
     case measure=>omega
     case rel=>exact ⟨i+1,by omega,by omega,by go_num,(show Aside _ from ⟨{ M2 with vo:=vo' },hR2,I3.out,F3.out,K3.out⟩)⟩
    ·have hltiz:¬ (i:Int)<(m:Int):=by omega
     have ei:i=m:=by omega
     subst ei;obtain ⟨M2,hR2,hw,hf,hk⟩:=AI.out;have I3:=hid hw.rowT;have F3:=hid hf;have K3:=hid hk;clear hw hf hk AI AA A;go_wp2
     go_roundg (n-(a+1))
     case measure=>omega
     case rel=>exact ⟨a+1,by omega,by omega,by go_num,(show Aside _ from ⟨M2,hR2,I3.out,F3.out,K3.out⟩)⟩
  ·have hltz:¬ (a:Int)<(n:Int):=by omega
   have ea:a=n:=by omega
   rw [ea] at A;have EA:=hid ea;clear HA KA ea;obtain ⟨M1,hR1,hw1,hf1,hk1⟩:=A.out;have I1:=hid hw1;have F1:=hid hf1;have K1:=hid hk1;have c7:wr.cell? ⟨M.R,7,none⟩=some (.slice (some ⟨M1.EB,0,none⟩) n M1.ce):=by rw [<- hR1];exact hw1.cell (j:=7) (by omega)
   clear hw1 hf1 hk1 A;generalize hpl:W.off.posted.length=pl at *;have HPL:=hid hpl;clear hpl;go_wp2;clear c7
   go_loopg [5,6,50] n (fun gg s5 _ s50 wx=>∃ k:Nat,k<=n/\n-k<=gg/\s50=.int .i64 k/\Aside (∃ M',M'.R=M.R/\WI B M' wx c n m (xA (rkT W n 0) (yZ c W n k)) T (S+k*(n+1))/\Fr M M' n m w wx/\TkB M' n m w wx/\EvR w wx s5 (evsF pl (yZ c W n k))))
   case atStart=>exact ⟨0,zG _,by omega,rfl,(show Aside _ from ⟨M1,hR1,by rw [show yZ c W n 0=[] from rfl,zC7];exact I1.out.later yN (by omega),F1.out,K1.out,EvR.nil _ _⟩)⟩
   case round =>
    obtain ⟨k,hkk,hgk,rfl,A⟩:=hrel;by_cases hlt:k<n
    ·have hltz:(k:Int)<(n:Int):=by omega
     obtain ⟨M',hR,hw,hf,hk,he⟩:=A.out;have HW:=hid hw;have HF:=hid hf;have HK:=hid hk;have HE:=hid he;have a0:wr.cell? ⟨M.R,0,none⟩=some (.int .i64 (n:Int)):=by rw [<- hR,<- hn];exact hw.cell (j:=0) (by omega)
     have a7:wr.cell? ⟨M.R,7,none⟩=some (.slice (some ⟨M'.EB,0,none⟩) n M'.ce):=by rw [<- hR];exact hw.cell (j:=7) (by omega)
     have hle:=zL6 c W n k;have hkn:k*(n+1)<=72:=zI (Nat.mul_le_mul (show k<=8 by omega) (show n+1<=9 by omega)) (by decide);have GD:=kB (W:=rkT W n 0) HG.out (zP6 (c:=c) (W:=W) hn hn8 h4 (k:=k) (by omega));have hlen:(xA (rkT W n 0) (yZ c W n k)).off.posted.length=pl+(yZ c W n k).length:=by show (W.off.posted++_).length=_;rw [zD,HPL.out]
     have KB:=fun X (h0:X.cell? ⟨M.R,0,none⟩=some (.int .i64 (n:Int)))=>zB6 M n X h0;have KQ:=fun X (bx:Below wr.heap.size wr X)=>xW2 M'.EB M'.NC M'.F M'.H M'.D M'.vo M'.lp M'.lc n m c.ls W.st W.ask W.gain (rkT W n 0).rk k hlt hm X (hw.br.grow bx).st (hw.br.grow bx).go;have KS:=fun X (hX:WI B M' X c n m (xA (rkT W n 0) (yZ c W n k)) T (S+k*(n+1))) v (hs:Seg X v (Bo.Plain.mapN m (W.ask k))) (hy:Lies X.heap.size v)=>zL5 B M' c n m _ T (S+k*(n+1)) (k:Int) (n:Int) v (Bo.Plain.mapN m (W.ask k)) (by unfold Bo.Plain.mapN;simp;omega) ⟨by omega,by omega⟩ ⟨by omega,by omega⟩ GD (by rw [hlen];have:=HP.out;omega) X hX hs hy;rw [hR] at KS;have bD:=hid (show Below wr.heap.size wr wr.drew from yO.drew);have HLEN:=hid hlen;have HLE:=hid hle;have HKN:=hid hkn;clear hw hf hk he A hlen GD hle hkn
     go_upto_region 14 with fail
     go_region_held3 (fun w'=>w'.cell? ⟨M.R,7,none⟩=some (.slice (some ⟨M'.EB,0,none⟩) n M'.ce)) (go_keep)
      ((
       first
       | (go_at_call 72;first
        | (refine (KB w4 d0).mono ?_;rintro e w4' ⟨rfl,hx⟩;have hy:=hx.symm;clear hx;subst hy)
        | (refine (KB wr.drew a0).mono ?_;rintro e w4' ⟨rfl,hx⟩;have hy:=hx.symm;clear hx;subst hy))
       | (go_at_call 73;refine (KQ _ bD.out).mono ?_;rintro e w4 ⟨rfl,ar,hb⟩;have B4:=hid (bD.out.trans hb);have AR:=hid (xX2 ar);have H4:=hid (HW.out.grow B4.out);have d0:w4.cell? ⟨M.R,0,none⟩=some (.int .i64 (n:Int)):=(by rw [<- hR,<- hn];exact H4.out.cell (j:=0) (by omega));have d7:w4.cell? ⟨M.R,7,none⟩=some (.slice (some ⟨M'.EB,0,none⟩) n M'.ce):=(by rw [<- hR];exact H4.out.cell (j:=7) (by omega));clear ar hb)
       | (go_at_call 71;refine (KS w4 H4.out _ AR.out.1 AR.out.2).mono ?_;rintro e w6 ⟨rfl,M6,h6,f6,hR6⟩;have H6:=hid h6;have F6:=hid ((HF.out.trans (Fr.of_below B4.out)).trans f6);have K6:=hid ((HK.out.fr HW.out (Fr.of_below B4.out)).fr H4.out f6);have E6:=hid ((HE.out.fr HW.out (Fr.of_below B4.out)).fr H4.out f6);have e7:w6.cell? ⟨M.R,7,none⟩=some (.slice (some ⟨M'.EB,0,none⟩) n M'.ce):=(by rw [<- hR,<- hR6.2.1,<- hR6.2.2,<- hR6.1];exact H6.out.cell (j:=7) (by omega));have lt6:=H6.out.po.lt;have ne6:¬ w6.heap.size=M.R:=(by rw [<- hR,<- hR6.1];omega);obtain ⟨v7,w7,hr7,ev7,i7,f7,s7⟩:=E6.out.snoc H6.out (by rw [zB5];have:=HLE.out;have:=HKN.out;omega) F6.out.u.size HB.out ⟨(((xA (rkT W n 0) (yZ c W n k)).off.posted.length:Nat):Int),(k:Int),(n:Int),((byI (xV c (Bo.Plain.mapN m (W.ask k)))).length:Int)⟩;have RUN:=hid hr7;have EV7:=hid ev7;have I7:=hid i7;have F7:=hid (f7 M F6.out);have HR6:=hid hR6;have K7:=hid (show TkB M6 n m w w7 from ⟨K6.out.row.of_block (s7.2 _ K6.out.row.lt (by rw [yQ K6.out.row];decide))⟩);have L7:=hid s7.1;have g7:w7.cell? ⟨M.R,7,none⟩=some (.slice (some ⟨M'.EB,0,none⟩) n M'.ce):=(by rw [<- hR,<- hR6.2.1,<- hR6.2.2,<- hR6.1];exact I7.out.cell (j:=7) (by omega));clear h6 f6 hr7 ev7 i7 f7 s7 hR6)
       | (refine zU6 _ _ 39 rfl 39 rfl u5 (.slice (some ⟨w6.heap.size,0,none⟩) 1 1) (by simp [Act.eval]) (by simp [Act.eval]) RUN.out (by rfl) ?_)))
     rename_i hlast;clear hlast;have GD7:=kB (W:=rkT W n 0) (l:=yZ c W n k++[vL c W k]) HG.out (fun p hp=>by
      rcases yL.1 hp with x|x
      ·exact zP6 hn hn8 h4 (by omega) p x
      ·have e:p=vL c W k:=by simpa using x
       rw [e];exact (okPo hn hn8 h4).1 k hlt _ (yD ..))
     have hap:(⟨(k:Int),(n:Int),byI (xV c (Bo.Plain.mapN m (W.ask k)))⟩:Se.Plain.Po)=vL c W k:=by unfold vL;rw [hn,hml]
     have I8:=I7.out;rw [hap,vT] at I8;have EV8:=EV7.out;have hev:evsF pl (yZ c W n k)++[⟨(((xA (rkT W n 0) (yZ c W n k)).off.posted.length:Nat):Int),(k:Int),(n:Int),((byI (xV c (Bo.Plain.mapN m (W.ask k)))).length:Int)⟩]=evsF pl (yZ c W n k++[vL c W k]):=by
      rw [zE4,HLEN.out,<- hap];rfl
     rw [hev] at EV8;have KR:=zP5 B M6 c n m (xA (rkT W n 0) (yZ c W n k++[vL c W k])) T (S+k*(n+1)+1) k Tm hlt hn8 h4 (HS.out k hlt) GD7 (by show (W.off.posted++_).length<=70000;rw [zD,zD,HPL.out];have:=HP.out;have:=HLE.out;have:=HKN.out;simp only [List.length_singleton];omega) w7 I8;have hRR:M6.R=M.R:=HR6.out.1.trans hR;rw [hRR] at KR;have I9:=hid I8;have EV9:=hid EV8;clear I7 EV7 I8 EV8 hev hap GD7 KB KQ KS a0 a7 d0 d7 e7 g7 lt6 ne6 bD RUN E6 K6 H6 F6 H4 B4 AR
     go_wp2_with fail
     refine KR.mono ?_;rintro e w8 ⟨v8,rfl,ev8,M8,hR8,i8,f8⟩;have hrum:rumK c (xA (rkT W n 0) (yZ c W n k++[vL c W k])) k n=rumK c W k n:=rfl;have hpl8:(xA (rkT W n 0) (yZ c W n k++[vL c W k])).off.posted.length=pl+(yZ c W n k++[vL c W k]).length:=by show (W.off.posted++_).length=_;rw [zD,HPL.out]
     rw [hrum,hpl8] at ev8;rw [hrum,yL6,yG,<- vU] at i8;have F8:=hid (F7.out.trans f8);have K8:=hid (K7.out.fr I9.out f8);have EA8:=EV9.out.fr I9.out f8;have hl8:(evsF pl (yZ c W n k++[vL c W k])).length+(evsF (pl+(yZ c W n k++[vL c W k]).length) (rumK c W k n)).length<=1000:=by
      rw [zB5,zB5,zD];have:=HLE.out;have:=HKN.out;have:=yB0 c W k n;simp only [List.length_singleton];omega
     obtain ⟨va,wa,hra,eva,ia,fa,sa,qa⟩:=EA8.app ev8 i8 hl8 F8.out.u.size HB.out;rw [<- zE4,yG,<- vU] at eva;have RUN:=hid hra;have EVA:=hid eva;have IA:=hid (ia.later (T':=T) (S':=S+(k+1)*(n+1)) yN (by rw [Nat.succ_mul];omega));have FA:=hid (fa M F8.out);have KA:=hid (show TkB M8 n m w wa from ⟨K8.out.row.of_block (qa _ K8.out.row.lt (by rw [yQ K8.out.row];decide))⟩);have HRA:=hid (hR8.trans hRR);clear KR ev8 i8 f8 EA8 hl8 hra eva ia fa sa qa hrum hpl8 F7 K7 I9 EV9 K8 F8
     go_wp2_with (first|(at_builtin;refine xE _ _ 39 RUN.out (by rfl) (by rfl) (by rfl) (by rfl) (by rfl) ?_)|fail)
     go_roundg (n-(k+1))
     case measure=>omega
     case rel=>exact ⟨k+1,by omega,by omega,by go_num,(show Aside _ from ⟨M8,HRA.out,IA.out,FA.out,KA.out,EVA.out⟩)⟩
    ·have hltz:¬ (k:Int)<(n:Int):=by omega
     have ek:k=n:=by omega
     rw [ek] at A;have EK:=hid ek;clear ek I1 F1 K1;obtain ⟨M2,hR2,hw2,hf2,hk2,he2⟩:=A.out;have I2:=hid hw2;have F2:=hid hf2;have K2:=hid hk2;have E2:=hid he2;clear hw2 hf2 hk2 he2 A;obtain ⟨wo,hwo⟩:∃ wo,wo=wr:=⟨_,rfl⟩;subst hwo;have KRD:=xJ4 B M2 c n m (xA (rkT W n 0) (yZ c W n n)) T (S+n*(n+1)) hn hn1 hn8 hm hT HBN.out wo I2.out;rw [hR2] at KRD
     go_wp2_with fail
     refine KRD.mono ?_;rintro e w3 ⟨GV,f,rv,M3,rfl,hR3,rn3,i3,f3⟩;have I3:=hid i3;have F3:=hid (F2.out.trans f3);have K3:=hid (K2.out.fr I2.out f3);have E3:=hid (E2.out.fr I2.out f3);have N3:=hid rn3;have hR3':=hR3.trans hR2;have hww:w.heap.size<=wo.heap.size:=F2.out.u.size;clear KRD i3 f3 rn3 hR3;go_wp2
     go_loopg [5,9,81] n (fun gg s5 _ s81 wx=>∃ j:Nat,j<=n/\n-j<=gg/\s81=.int .i64 j/\Aside (∃ M',M'.R=M.R/\WI B M' wx c n m (xA (rndW (xA (rkT W n 0) (yZ c W n n)) m) (givK c W j)) (T+m) (S+n*(n+1)+j)/\Fr M M' n m w wx/\TkB M' n m w wx/\EvR w wx s5 (evsF pl (yZ c W n n++givK c W j))/\RnI M' n m wo wx GV f (fun a=>givL W a m) rv (repL W m)))
     case atStart=>exact ⟨0,zG _,by omega,rfl,(show Aside _ from ⟨M3,hR3',by rw [show givK c W 0=[] from rfl,zC7];exact I3.out,F3.out,K3.out,by rw [show givK c W 0=[] from rfl,List.append_nil];exact E3.out,N3.out⟩)⟩
     case round =>
      obtain ⟨j,hj,hgj,rfl,AJ⟩:=hrel;clear I3 F3 K3 E3 N3;by_cases hjn:j<n
      ·have hjz:(j:Int)<(n:Int):=by omega
       obtain ⟨M',hR,hw,hf,hk,he,hr⟩:=AJ.out;have HW:=hid hw;have HF:=hid hf;have HK:=hid hk;have HE:=hid he;have HN:=hid hr;have a0:wr.cell? ⟨M.R,0,none⟩=some (.int .i64 (n:Int)):=by rw [<- hR,<- hn];exact hw.cell (j:=0) (by omega)
       obtain ⟨sg,ly,pj,cj,efj⟩:=(hr.rw j hjn).seg;have hgl:(givL W j m).length=m:=yG7 W j m;have EFJ0:=efj;rw [hgl] at EFJ0;have HEFJ:=hid EFJ0;clear EFJ0;have ag:wr.cell? ⟨GV,j,none⟩=some (f j):=hr.gv.cell hjn;rw [hgl] at efj;have hpl4:(xA (rndW (xA (rkT W n 0) (yZ c W n n)) m) (givK c W j)).off.posted.length=pl+(yZ c W n n++givK c W j).length:=by show ((W.off.posted++_)++_).length=_;rw [yG,zD,HPL.out]
       have hle2:(yZ c W n n++givK c W j).length<=80:=by
        rw [zD,xJ7];have:=zL6 c W n n;have:n*(n+1)<=72:=zI (Nat.mul_le_mul (show n<=8 by omega) (show n+1<=9 by omega)) (by decide);omega
       have GD:=kB (W:=rkT W n 0) (l:=yZ c W n n++givK c W j) HG.out (fun p hp=>by
        rcases yL.1 hp with x|x
        ·exact zP6 hn hn8 h4 yN p x
        ·obtain ⟨a,ha,rfl⟩:=zZ.1 x
         exact (okPo hn hn8 h4).2 a (by have:=zY.1 ha;omega))
       have GD2:Se.Plain.Good (xA (rndW (xA (rkT W n 0) (yZ c W n n)) m) (givK c W j)).off:=by
        have e:(xA (rndW (xA (rkT W n 0) (yZ c W n n)) m) (givK c W j)).off=(xA (rkT W n 0) (yZ c W n n++givK c W j)).off:=by
         unfold xA rndW rkT;simp
        rw [e];exact GD
       have KB:=fun X (h0:X.cell? ⟨M.R,0,none⟩=some (.int .i64 (n:Int)))=>zB6 M n X h0;have KS:=fun X (bx:Below wr.heap.size wr X)=>zL5 B M' c n m _ (T+m) (S+n*(n+1)+j) (n:Int) (j:Int) (f j) (givL W j m) (by rw [hgl];omega) ⟨by omega,by omega⟩ ⟨by omega,by omega⟩ GD2 (by rw [hpl4];have:=HP.out;omega) X (hw.grow bx) (sg.below bx ly) (ly.mono bx.size);rw [hR,efj] at KS;rw [efj] at ag;have bD:=hid (show Below wr.heap.size wr wr.drew from yO.drew);have HPL4:=hid hpl4;have HLE2:=hid hle2;clear hw hf hk he hr AJ hpl4 hle2 GD GD2 sg ly hgl efj
       go_upto_region 21 with fail
       go_region_held3 (fun w'=>w'.cell? ⟨GV,j,none⟩=some (.slice pj m cj)) (go_keep)
        ((
         first
         | (go_at_call 72;refine (KB wr.drew a0).mono ?_;rintro e w4' ⟨rfl,hx⟩;have hy:=hx.symm;clear hx;subst hy)
         | (go_at_call 71;refine (KS wr.drew bD.out).mono ?_;rintro e w6 ⟨rfl,M6,h6,f6,hR6⟩;have H6:=hid h6;have fA:=(Fr.of_below bD.out:Fr M' M' n m wr wr.drew);have F6:=hid ((HF.out.trans fA).trans f6);have HWD:=hid (HW.out.grow bD.out);have K6:=hid ((HK.out.fr HW.out fA).fr HWD.out f6);have E6:=hid ((HE.out.fr HW.out fA).fr HWD.out f6);have N6:=hid ((HN.out.fr HW.out fA).fr HWD.out f6);have e7:w6.cell? ⟨GV,j,none⟩=some (.slice pj m cj):=(by rw [<- HEFJ.out];exact N6.out.gv.cell hjn);have lt6:=N6.out.gv.lt;have ne6:¬ w6.heap.size=GV:=(by omega);obtain ⟨v7,w7,hr7,ev7,i7,f7,s7⟩:=E6.out.snoc H6.out (by rw [zB5];have:=HLE2.out;omega) F6.out.u.size HB.out ⟨(((xA (rndW (xA (rkT W n 0) (yZ c W n n)) m) (givK c W j)).off.posted.length:Nat):Int),(n:Int),(j:Int),((byI (xV c (givL W j m))).length:Int)⟩;have RUN:=hid hr7;have EV7:=hid ev7;have I7:=hid i7;have F7:=hid (f7 M F6.out);have HR6:=hid hR6;have K7:=hid (show TkB M6 n m w w7 from ⟨K6.out.row.of_block (s7.2 _ K6.out.row.lt (by rw [yQ K6.out.row];decide))⟩);have N7:=hid (N6.out.tagk s7.2);have g7:w7.cell? ⟨GV,j,none⟩=some (.slice pj m cj):=(by rw [<- HEFJ.out];exact N7.out.gv.cell hjn);clear h6 f6 fA hr7 ev7 i7 f7 s7 hR6)
         | (refine zU6 _ _ 39 rfl 39 rfl u5 (.slice (some ⟨w6.heap.size,0,none⟩) 1 1) (by simp [Act.eval]) (by simp [Act.eval]) RUN.out (by rfl) ?_)))
       rename_i hlast;clear hlast;have hgp:(⟨(n:Int),(j:Int),byI (xV c (givL W j m))⟩:Se.Plain.Po)=givP c W j:=by unfold givP givL;rw [hn,hml]
       have I8:=I7.out;rw [hgp,vT,<- zW3] at I8;have EV8:=EV7.out;have hev:evsF pl (yZ c W n n++givK c W j)++[⟨(((xA (rndW (xA (rkT W n 0) (yZ c W n n)) m) (givK c W j)).off.posted.length:Nat):Int),(n:Int),(j:Int),((byI (xV c (givL W j m))).length:Int)⟩]=evsF pl (yZ c W n n++givK c W (j+1)):=by
        rw [zW3,<- yG,zE4 pl (yZ c W n n++givK c W j),HPL4.out,<- hgp];rfl
       rw [hev] at EV8;have I9:=hid I8;have EV9:=hid EV8;have HRR:=hid (HR6.out.1.trans hR);clear I7 EV7 I8 EV8 hev hgp KB KS a0 ag e7 g7 lt6 ne6 bD RUN E6 K6 H6 F6 N6 HWD;go_wp2
       go_roundg (n-(j+1))
       case measure=>omega
       case rel=>exact ⟨j+1,by omega,by omega,by go_num,(show Aside _ from ⟨M6,HRR.out,I9.out,F7.out,K7.out,EV9.out,N7.out⟩)⟩
      ·have hjz:¬ (j:Int)<(n:Int):=by omega
       have ej:j=n:=by omega
       rw [ej] at AJ;have EJ:=hid ej;clear ej;obtain ⟨M',hR,hw,hf,hk,he,hr⟩:=AJ.out;have hP:yZ c W n n++givK c W n=qS c W:=by
        unfold qS yZ givK sends rumK;rw [hn,zK]
       have hT2:zC5 c W={ tlE 0 with sent:=evsF pl (qS c W),report:=repL W m }:=by
        unfold zC5 xJ0 repL;rw [HPL.out,hml]
       rw [hP] at he;have hwf:WI B M' wr c n m (zD8 c W) (T+m) (S+100):=by
        have e1:=((hw.later (T':=T+m) (S':=S+100) yN (by
         have:n*(n+1)<=72:=zI (Nat.mul_le_mul (show n<=8 by omega) (show n+1<=9 by omega)) (by decide);omega)).congK (r:=(zD8 c W).rk) (fun i k hi hk=>by
          show (rkT W n 0).rk i k=_;unfold rkT zD8 xW3;dsimp only;rw [if_pos (.inl hi)])).congB (b:=(zD8 c W).bk) (fun k hk=>by
          show (if k<m then Bo.Plain.zT7 (W.bk k) else W.bk k)=Bo.Plain.zT7 (W.bk k);rw [if_pos hk])
        have e2:({ ({ xA (rndW (xA (rkT W n 0) (yZ c W n n)) m) (givK c W n) with rk:=(zD8 c W).rk }:Wo) with bk:=(zD8 c W).bk }:Wo)=zD8 c W:=by
         unfold zD8 xW3 xA rndW rkT;rw [<- hP];simp
        rw [e2] at e1;exact e1
       have HWF:=hid hwf;have HF:=hid hf;have HK:=hid hk;have HE:=hid he;have HN:=hid hr;have HT2:=hid hT2;have ES:=zP4.owns he rfl;obtain ⟨sp,sc,hsv,_,_,_⟩:=ES;obtain ⟨_,_,rp,rc,hrv⟩:=hr.rr.seg;clear hw hf hk he hr AJ hwf hP hT2;generalize hsl:(evsF pl (qS c W)).length=sl at *;generalize hrl:(repL W m).length=rl at *;have HSL:=hid hsl;have HRL:=hid hrl;clear hsl hrl;subst hsv;subst hrv;have y0:=HK.out.row.cell (i:=0) (by decide);have z0:=HK.out.row.frozen 0;have y1:=HK.out.row.cell (i:=1) (by decide);have z1:=HK.out.row.frozen 1;have y2:=HK.out.row.cell (i:=2) (by decide);have z2:=HK.out.row.frozen 2;have y3:=HK.out.row.cell (i:=3) (by decide);have z3:=HK.out.row.frozen 3;have y4:=HK.out.row.cell (i:=4) (by decide);have z4:=HK.out.row.frozen 4;have y5:=HK.out.row.cell (i:=5) (by decide);have z5:=HK.out.row.frozen 5;have y6:=HK.out.row.cell (i:=6) (by decide);have z6:=HK.out.row.frozen 6;have y7:=HK.out.row.cell (i:=7) (by decide);have z7:=HK.out.row.frozen 7;have y8:=HK.out.row.cell (i:=8) (by decide);have z8:=HK.out.row.frozen 8;have y9:=HK.out.row.cell (i:=9) (by decide);have z9:=HK.out.row.frozen 9;have y10:=HK.out.row.cell (i:=10) (by decide);have z10:=HK.out.row.frozen 10;obtain ⟨W6,hW6⟩:∃ W6,W6=(((((((((((wr.setCell ⟨w.heap.size,0,none⟩ (.int .i64 0)).setCell ⟨w.heap.size,1,none⟩ (.int .i64 0)).setCell ⟨w.heap.size,2,none⟩ (.int .i64 0)).setCell ⟨w.heap.size,3,none⟩ (.int .i64 0)).setCell ⟨w.heap.size,4,none⟩ (.int .i64 0)).setCell ⟨w.heap.size,5,none⟩ (.int .i64 0)).setCell ⟨w.heap.size,6,none⟩ (.int .i64 0)).setCell ⟨w.heap.size,7,none⟩ (.int .i64 0)).setCell ⟨w.heap.size,8,none⟩ (.slice sp sl sc)).setCell ⟨w.heap.size,9,none⟩ (.slice none 0 0)).setCell ⟨w.heap.size,10,none⟩ (.slice rp rl rc)):=⟨_,rfl⟩;go_wp2;rw [<- hW6];have h6:W6=putL wr w.heap.size (tlOf (zC5 c W) (.slice sp sl sc) nilS (.slice rp rl rc)):=by rw [HT2.out];exact hW6
       clear hW6 y0 z0 y1 z1 y2 z2 y3 z3 y4 z4 y5 z5 y6 z6 y7 z7 y8 z8 y9 z9 y10 z10;have F6:W6.rowIs w.heap.size 42 11 (tlOf (zC5 c W) (.slice sp sl sc) nilS (.slice rp rl rc)):=by rw [h6];exact xL HK.out.row _
       have V6:Uw (fun b=>b=w.heap.size) wr W6:=by rw [h6];exact xK wr _ _
       clear h6;have nk:¬ own M' n m w.heap.size:=HWF.out.free (yQ HK.out.row) (by decide) (by decide) (by decide) (by decide) (by decide) (by decide) (by decide) (by decide);refine yV rfl w.heap.size (tlOf (zC5 c W) (.slice sp sl sc) nilS (.slice rp rl rc)) rfl F6 rfl ⟨_,_,M',rfl,hR,?_,?_,fun x hx=>HN.out.nr x hx,HWF.out.box HK.out.row HB.out nk (by decide) (by decide) V6,HF.out.box yN V6⟩
       ·rw [HT2.out]
        exact Hd.zB8 HE.out fun b hb=>V6.block b (qP HE.out hb) (fun e=>by
         have:=xC HE.out hb;rw [show b=w.heap.size from e,yQ HK.out.row] at this;exact absurd this (by decide))
       ·rw [HT2.out]
        exact (HN.out.rr.base hww).keep fun b hb=>V6.block b (HN.out.rr.lt hb).1 (fun e=>by
         have:=HN.out.rr.tag hb;rw [show b=w.heap.size from e,yQ HK.out.row] at this;exact absurd this (by decide))
theorem yY2 {o:Se.Plain.Off} (hg:Se.Plain.Good o) {i:Int} (e:Se.Plain.seenE o i=0):(0<=(Se.Plain.seenV o i).frm/\(Se.Plain.seenV o i).frm<=8)/\(0<=(Se.Plain.seenV o i).tow/\(Se.Plain.seenV o i).tow<=8)/\decide ((Se.Plain.seenV o i).id<(Se.Plain.zY8 o (Se.Plain.seenV o i).frm (Se.Plain.seenV o i).tow:Nat))=Se.Plain.oldO o i.toNat:=by
 unfold Se.Plain.seenE at e;have hi:¬ (i<0\/(o.posted.length:Int)<=i):=fun x=>by rw [if_pos x] at e;cases e
 have hm:o.at i.toNat∈o.posted:=by
  have hl:i.toNat<o.posted.length:=by omega
  unfold Se.Plain.Off.at
  rw [zA,zB hl];exact zH _
 unfold Se.Plain.seenV;rw [if_neg hi];refine ⟨hg.fr _ hm,hg.to _ hm,?_⟩;rw [Se.Plain.xE2,yM,decide_eq_true_iff,decide_eq_true_iff];show i<((Se.Plain.zY8 o (o.at i.toNat).frm (o.at i.toNat).«to»:Nat):Int) ↔ _;omega
theorem zW4 (B:Nat) (M:Mm) (c:Cf) (n m:Nat) (W:Wo) (T S:Nat) (id:Int) (hwf:(Lit.int .i64 id).wf=true) (hg:Se.Plain.Good W.off) (hp:W.off.posted.length<=90000) (w:World) (h:WI B M w c n m W T S) :
  Calls Tryz.prog 76 #[.pointer (some ⟨M.R,0,none⟩),.int .i64 id] w fun e w'=>e=.returned (.tuple #[Se.aggV (Se.Plain.seenV W.off id),.int .i64 (xN W id:Nat)])/\Below w.heap.size w w':=by
 obtain ⟨WA,hWA⟩:∃ WA,WA=w.alloc (.cells #[.int .i64 0,.int .i64 0,.int .i64 0,.int .i64 0] 98):=⟨_,rfl⟩;have BA:=hid (show Below w.heap.size w WA by rw [hWA];exact yO.alloc yN _);have RA:=hid (show WA.rowIs w.heap.size 98 4 (Se.evF Se.Plain.noEv) by rw [hWA];exact Se.zE1 w Se.Plain.noEv);have HA:=hid (h.grow BA.out);have KS:=Se.zU0 M.R 5 S (wbX c M n m) M.po M.vm M.P W.off (by have:=h.po.len;omega) id WA HA.out.po;have HX:=hid (fun e=>yY2 (i:=id) hg e);have HFE:=hid (show xN W id=if Se.Plain.seenE W.off id≠0 then 6 else if id∈W.lost\/Se.Plain.oldO W.off id.toNat=true then 10 else 0 from rfl);have HSE:=hid (show Se.Plain.seenE W.off id=0\/Se.Plain.seenE W.off id=6 by unfold Se.Plain.seenE;split<;>simp);clear h hg hp;generalize Se.Plain.seenV W.off id=x at KS HX ⊢;generalize Se.Plain.seenE W.off id=E at KS HX HFE HSE;generalize hold:Se.Plain.oldO W.off id.toNat=old at HX HFE;obtain ⟨xi,xf,xt,xs⟩:=x;clear hold;go_enter Tryz.func76,Tryz.ntmps76
 go_upto_region 1 with fail
 rw [<- hWA];clear hWA
 go_wp2_with fail
 refine KS.mono ?_;rintro e w1 ⟨rfl,hb⟩;have B1:=hid (BA.out.trans (hb.mono BA.out.size));have R1:=hid (RA.out.of_block (hb.block _ RA.out.lt));have H1:=hid (HA.out.grow hb);clear KS hb RA HA BA;obtain ⟨W2,hW2⟩:∃ W2,W2=w1.alloc (.cells #[.int .i64 xi,.int .i64 xf,.int .i64 xt,.int .i64 xs] 98):=⟨_,rfl⟩
 go_upto_region 2 with fail
 rw [<- hW2];have b2:Below w1.heap.size w1 W2:=by rw [hW2];exact yO.alloc yN _
 have X2:=hid (show W2.rowIs w1.heap.size 98 4 (Se.evF ⟨xi,xf,xt,xs⟩) by rw [hW2];exact Se.zE1 w1 ⟨xi,xf,xt,xs⟩);have B2:=hid (B1.out.trans (b2.mono B1.out.size));have R2:=hid (R1.out.of_block (b2.block _ R1.out.lt));have H2:=hid (H1.out.grow b2);have hl1:w.heap.size<w1.heap.size:=R1.out.lt;clear hW2 b2 R1 H1 B1;obtain ⟨xb,hxb⟩:∃ xb,xb=w1.heap.size:=⟨_,rfl⟩;rw [<- hxb] at X2 ⊢;have nx:¬ w.heap.size=xb:=by omega
 have nx2:¬ xb=w.heap.size:=by omega
 clear hxb;have e0:W2.cell? ⟨xb,0,none⟩=some (.int .i64 xi):=X2.out.cell (i:=0) (by decide);have e1:W2.cell? ⟨xb,1,none⟩=some (.int .i64 xf):=X2.out.cell (i:=1) (by decide);have e2:W2.cell? ⟨xb,2,none⟩=some (.int .i64 xt):=X2.out.cell (i:=2) (by decide);have e3:W2.cell? ⟨xb,3,none⟩=some (.int .i64 xs):=X2.out.cell (i:=3) (by decide);rcases HSE.out with hE|hE
 ·subst hE
  obtain ⟨hf8,ht8,hdec⟩:=HX.out rfl;have HF:=hid (show xN W id=if id∈W.lost\/old=true then 10 else 0 by rw [HFE.out,if_neg (by simp)]);have look:=H2.out.lo.look hwf;have c9:W2.cell? ⟨M.R,9,none⟩=some (.map (some M.LB)):=H2.out.cell (j:=9) (by omega);generalize hlo:decide (id∈W.lost)=lo at look;have HLO:=hid hlo;clear HX HFE HSE hlo;obtain ⟨W3,hW3⟩:∃ W3,W3=W2.alloc (.cells #[] 159):=⟨_,rfl⟩
  go_upto_region 5 with fail
  rw [<- hW3];have b3:Below W2.heap.size W2 W3:=by rw [hW3];exact yO.alloc yN _
  have X3:=hid (X2.out.of_block (b3.block _ X2.out.lt));have B3:=hid (B2.out.trans (b3.mono B2.out.size));have R3:=hid (R2.out.of_block (b3.block _ R2.out.lt));have H3:=hid (H2.out.grow b3);clear hW3 b3 X2 R2 H2 B2 look c9 e0 e1 e2 e3;have e0:W3.cell? ⟨xb,0,none⟩=some (.int .i64 xi):=X3.out.cell (i:=0) (by decide);have e1:W3.cell? ⟨xb,1,none⟩=some (.int .i64 xf):=X3.out.cell (i:=1) (by decide);have e2:W3.cell? ⟨xb,2,none⟩=some (.int .i64 xt):=X3.out.cell (i:=2) (by decide);have e3:W3.cell? ⟨xb,3,none⟩=some (.int .i64 xs):=X3.out.cell (i:=3) (by decide);cases lo with
  | true =>
   have HF2:=hid (show xN W id=10 by rw [HF.out,if_pos (.inl (of_decide_eq_true HLO.out))])
   go_quiet (fail)
   obtain ⟨W4,hW4⟩:∃ W4,W4=W3.drewN nq:=⟨_,rfl⟩;rw [<- hW4];have b4:Below W3.heap.size W3 W4:=by rw [hW4];exact below_drewN yO nq
   have X4:=hid (X3.out.of_block (b4.block _ X3.out.lt));have B4:=hid (B3.out.trans (b4.mono B3.out.size));have R4:=hid (R3.out.of_block (b4.block _ R3.out.lt));clear hW4 b4 e0 e1 e2 e3 X3 R3 H3 B3;have e0:W4.cell? ⟨xb,0,none⟩=some (.int .i64 xi):=X4.out.cell (i:=0) (by decide);have e1:W4.cell? ⟨xb,1,none⟩=some (.int .i64 xf):=X4.out.cell (i:=1) (by decide);have e2:W4.cell? ⟨xb,2,none⟩=some (.int .i64 xt):=X4.out.cell (i:=2) (by decide);have e3:W4.cell? ⟨xb,3,none⟩=some (.int .i64 xs):=X4.out.cell (i:=3) (by decide);have y0:=R4.out.cell (i:=0) (by decide);have y1:=R4.out.cell (i:=1) (by decide);have y2:=R4.out.cell (i:=2) (by decide);have y3:=R4.out.cell (i:=3) (by decide);have z0:=R4.out.frozen 0;have z1:=R4.out.frozen 1;have z2:=R4.out.frozen 2;have z3:=R4.out.frozen 3;obtain ⟨W6,hW6⟩:∃ W6,W6=((((W4.setCell ⟨w.heap.size,0,none⟩ (.int .i64 xi)).setCell ⟨w.heap.size,1,none⟩ (.int .i64 xf)).setCell ⟨w.heap.size,2,none⟩ (.int .i64 xt)).setCell ⟨w.heap.size,3,none⟩ (.int .i64 xs)):=⟨_,rfl⟩;go_wp2;rw [<- hW6];have h6:W6=Se.putV W4 w.heap.size ⟨xi,xf,xt,xs⟩:=hW6;clear hW6 y0 y1 y2 y3 z0 z1 z2 z3;have F6:W6.rowIs w.heap.size 98 4 (Se.evF ⟨xi,xf,xt,xs⟩):=by rw [h6];exact Se.xE3 R4.out _
   have V6:Uw (fun b=>b=w.heap.size) W4 W6:=by rw [h6];exact kA W4 _ _
   clear h6;refine Se.zC1 rfl w.heap.size ⟨xi,xf,xt,xs⟩ _ rfl rfl F6 rfl ⟨by rw [HF2.out];rfl,?_⟩;exact (B4.out).trans (V6.below (by have:=B4.out.size;omega) (fun k hk e=>by have e':k=w.heap.size:=e;omega))
  | false =>
   have KO:=fun X (bx:Below W3.heap.size W3 X)=>Se.zZ1 M.R 5 S (wbX c M n m) M.po M.vm M.P W.off ⟨xi,xf,xt,xs⟩ hf8 ht8 X ((H3.out.grow bx).po);dsimp only at KO hdec;rw [hdec] at KO;have HF2:=hid (show xN W id=if old=true then 10 else 0 by
    rw [HF.out];have:¬ id∈W.lost:=of_decide_eq_false HLO.out;by_cases c:old=true
    ·rw [if_pos (.inr c),if_pos c]
    ·rw [if_neg (fun x=>x.elim this c),if_neg c])
   have bD:=hid (show Below W3.heap.size W3 W3.drew from yO.drew);clear hdec hf8 ht8
   go_region_held3 (fun w'=>w'.cell? ⟨xb,0,none⟩=some (.int .i64 xi)/\w'.cell? ⟨xb,1,none⟩=some (.int .i64 xf)/\w'.cell? ⟨xb,2,none⟩=some (.int .i64 xt)/\w'.cell? ⟨xb,3,none⟩=some (.int .i64 xs)) (go_keep)
    ((go_at_call 93;refine (KO _ bD.out).mono ?_;rintro e W4 ⟨rfl,hb⟩;have b4:=(bD.out.trans hb);have X4:=hid (X3.out.of_block (b4.block _ X3.out.lt));have B4:=hid (B3.out.trans (b4.mono B3.out.size));have R4:=hid (R3.out.of_block (b4.block _ R3.out.lt));have d0:W4.cell? ⟨xb,0,none⟩=some (.int .i64 xi):=X4.out.cell (i:=0) (by decide);have d1:W4.cell? ⟨xb,1,none⟩=some (.int .i64 xf):=X4.out.cell (i:=1) (by decide);have d2:W4.cell? ⟨xb,2,none⟩=some (.int .i64 xt):=X4.out.cell (i:=2) (by decide);have d3:W4.cell? ⟨xb,3,none⟩=some (.int .i64 xs):=X4.out.cell (i:=3) (by decide);clear hb b4))
   rename_i hlast;clear hlast e0 e1 e2 e3 KO bD;cases old with
   | true =>
    have HF3:=hid (show xN W id=10 by rw [HF2.out];rfl);have y0:=R4.out.cell (i:=0) (by decide);have y1:=R4.out.cell (i:=1) (by decide);have y2:=R4.out.cell (i:=2) (by decide);have y3:=R4.out.cell (i:=3) (by decide);have z0:=R4.out.frozen 0;have z1:=R4.out.frozen 1;have z2:=R4.out.frozen 2;have z3:=R4.out.frozen 3;obtain ⟨W6,hW6⟩:∃ W6,W6=((((W4.setCell ⟨w.heap.size,0,none⟩ (.int .i64 xi)).setCell ⟨w.heap.size,1,none⟩ (.int .i64 xf)).setCell ⟨w.heap.size,2,none⟩ (.int .i64 xt)).setCell ⟨w.heap.size,3,none⟩ (.int .i64 xs)):=⟨_,rfl⟩;go_wp2;rw [<- hW6];have h6:W6=Se.putV W4 w.heap.size ⟨xi,xf,xt,xs⟩:=hW6;clear hW6 y0 y1 y2 y3 z0 z1 z2 z3;have F6:W6.rowIs w.heap.size 98 4 (Se.evF ⟨xi,xf,xt,xs⟩):=by rw [h6];exact Se.xE3 R4.out _
    have V6:Uw (fun b=>b=w.heap.size) W4 W6:=by rw [h6];exact kA W4 _ _
    clear h6;refine Se.zC1 rfl w.heap.size ⟨xi,xf,xt,xs⟩ _ rfl rfl F6 rfl ⟨by rw [HF3.out];rfl,?_⟩;exact (B4.out).trans (V6.below (by have:=B4.out.size;omega) (fun k hk e=>by have e':k=w.heap.size:=e;omega))
   | false =>
    have HF3:=hid (show xN W id=0 by rw [HF2.out];rfl);have y0:=R4.out.cell (i:=0) (by decide);have y1:=R4.out.cell (i:=1) (by decide);have y2:=R4.out.cell (i:=2) (by decide);have y3:=R4.out.cell (i:=3) (by decide);have z0:=R4.out.frozen 0;have z1:=R4.out.frozen 1;have z2:=R4.out.frozen 2;have z3:=R4.out.frozen 3;obtain ⟨W6,hW6⟩:∃ W6,W6=((((W4.setCell ⟨w.heap.size,0,none⟩ (.int .i64 xi)).setCell ⟨w.heap.size,1,none⟩ (.int .i64 xf)).setCell ⟨w.heap.size,2,none⟩ (.int .i64 xt)).setCell ⟨w.heap.size,3,none⟩ (.int .i64 xs)):=⟨_,rfl⟩;go_wp2;rw [<- hW6];have h6:W6=Se.putV W4 w.heap.size ⟨xi,xf,xt,xs⟩:=hW6;clear hW6 y0 y1 y2 y3 z0 z1 z2 z3;have F6:W6.rowIs w.heap.size 98 4 (Se.evF ⟨xi,xf,xt,xs⟩):=by rw [h6];exact Se.xE3 R4.out _
    have V6:Uw (fun b=>b=w.heap.size) W4 W6:=by rw [h6];exact kA W4 _ _
    clear h6;refine Se.zC1 rfl w.heap.size ⟨xi,xf,xt,xs⟩ _ rfl rfl F6 rfl ⟨by rw [HF3.out];rfl,?_⟩;exact (B4.out).trans (V6.below (by have:=B4.out.size;omega) (fun k hk e=>by have e':k=w.heap.size:=e;omega))
 ·subst hE
  have HF:=hid (show xN W id=6 by rw [HFE.out,if_pos (by simp)]);clear HX HFE HSE;have y0:=R2.out.cell (i:=0) (by decide);have y1:=R2.out.cell (i:=1) (by decide);have y2:=R2.out.cell (i:=2) (by decide);have y3:=R2.out.cell (i:=3) (by decide);have z0:=R2.out.frozen 0;have z1:=R2.out.frozen 1;have z2:=R2.out.frozen 2;have z3:=R2.out.frozen 3;obtain ⟨W6,hW6⟩:∃ W6,W6=((((W2.setCell ⟨w.heap.size,0,none⟩ (.int .i64 xi)).setCell ⟨w.heap.size,1,none⟩ (.int .i64 xf)).setCell ⟨w.heap.size,2,none⟩ (.int .i64 xt)).setCell ⟨w.heap.size,3,none⟩ (.int .i64 xs)):=⟨_,rfl⟩;go_wp2;rw [<- hW6];have h6:W6=Se.putV W2 w.heap.size ⟨xi,xf,xt,xs⟩:=hW6;clear hW6 y0 y1 y2 y3 z0 z1 z2 z3;have F6:W6.rowIs w.heap.size 98 4 (Se.evF ⟨xi,xf,xt,xs⟩):=by rw [h6];exact Se.xE3 R2.out _
  have V6:Uw (fun b=>b=w.heap.size) W2 W6:=by rw [h6];exact kA W2 _ _
  clear h6;refine Se.zC1 rfl w.heap.size ⟨xi,xf,xt,xs⟩ _ rfl rfl F6 rfl ⟨by rw [HF.out];rfl,?_⟩;exact (B2.out).trans (V6.below (by have:=B2.out.size;omega) (fun k hk e=>by have e':k=w.heap.size:=e;omega))
def LsP (B:Nat) (M:Mm) (c:Cf) (n m:Nat) (W':Wo) (T S:Nat) (t:Tl) (w:World) (e:Ending) (w':World):Prop :=
 e=.returned (aggL (tlOf t nilS nilS nilS))/\∃ M',M'.R=M.R/\WI B M' w' c n m W' T S/\Fr M M' n m w w'
theorem qG5 (B:Nat) (M:Mm) (c:Cf) (n m:Nat) (W:Wo) (T S:Nat) (id:Int) (hwf:(Lit.int .i64 id).wf=true) (hg:Se.Plain.Good W.off) (hp:W.off.posted.length<=90000) (hS:S<=90000) (w:World) (h:WI B M w c n m W T S) :
  Calls Tryz.prog 51 #[.pointer (some ⟨M.R,0,none⟩),.int .i64 id] w (LsP B M c n m (losW W id) T (S+1) (tlE (xN W id)) w):=by
 obtain ⟨WA,hWA⟩:∃ WA,WA=w.alloc boxZ:=⟨_,rfl⟩;have BA:=hid (show Below w.heap.size w WA by rw [hWA];exact yO.alloc yN _);have KA:=hid (show TkB M n m w WA from ⟨by rw [hWA];exact rowZ w⟩);have HA:=hid (h.grow BA.out);have HB:=hid h.bw;have KF:=zW4 B M c n m W T S id hwf hg hp WA HA.out;have HLW:=hid (show losW W id=if xN W id≠0 then W else { W with lost:=W.lost++[id] } from rfl);clear h hg hp;generalize xN W id=E at KF HLW ⊢;generalize Se.Plain.seenV W.off id=x at KF;obtain ⟨xi,xf,xt,xs⟩:=x;go_enter Tryz.func51,Tryz.ntmps51
 go_upto_region 1 with fail
 rw [<- hWA];clear hWA
 go_wp2_with fail
 refine KF.mono ?_;rintro e w1 ⟨rfl,hb⟩;have H1:=hid (HA.out.grow hb);have F1:=hid (show Fr M M n m w w1 from (Fr.of_below BA.out).trans (Fr.of_below hb));have K1:=hid (KA.out.fr HA.out (Fr.of_below hb));clear KF hb;obtain ⟨W2,hW2⟩:∃ W2,W2=w1.alloc (.cells #[.int .i64 xi,.int .i64 xf,.int .i64 xt,.int .i64 xs] 98):=⟨_,rfl⟩
 go_upto_region 2 with fail
 rw [<- hW2];have b2:Below w1.heap.size w1 W2:=by rw [hW2];exact yO.alloc yN _
 have H2:=hid (H1.out.grow b2);have F2:=hid (F1.out.trans (Fr.of_below b2));have K2:=hid (K1.out.fr H1.out (Fr.of_below b2));clear hW2 b2 H1 F1 K1 HA KA;by_cases hE:E=0
 ·subst hE
  obtain ⟨w3,hrun,hs3,hg3⟩:=H2.out.lo.put (zI hS (by decide)) hwf;have u3:Uw (fun b=>b=M.LB) W2 w3:=⟨hg3.os,hg3.tape,hg3.output,hg3.size,fun k hk hn=>hg3.block k hk (fun e=>hn (Option.some.inj e))⟩;obtain ⟨i3,ua⟩:=H2.out.setLo (S':=S+1) (Nat.le_succ _) hs3 u3;have I3:=hid i3;have fa:Fr M M n m W2 w3:=⟨ua,fun _ x=>.inl x⟩;have F3:=hid (F2.out.trans fa);have K3:=hid (K2.out.fr H2.out fa);have RUN:=hid hrun;have c9:W2.cell? ⟨M.R,9,none⟩=some (.map (some M.LB)):=H2.out.cell (j:=9) (by omega);clear hs3 hg3 u3 i3 ua fa;have y0:=K3.out.row.cell (i:=0) (by decide);have z0:=K3.out.row.frozen 0;have y1:=K3.out.row.cell (i:=1) (by decide);have z1:=K3.out.row.frozen 1;have y2:=K3.out.row.cell (i:=2) (by decide);have z2:=K3.out.row.frozen 2;have y3:=K3.out.row.cell (i:=3) (by decide);have z3:=K3.out.row.frozen 3;have y4:=K3.out.row.cell (i:=4) (by decide);have z4:=K3.out.row.frozen 4;have y5:=K3.out.row.cell (i:=5) (by decide);have z5:=K3.out.row.frozen 5;have y6:=K3.out.row.cell (i:=6) (by decide);have z6:=K3.out.row.frozen 6;have y7:=K3.out.row.cell (i:=7) (by decide);have z7:=K3.out.row.frozen 7;have y8:=K3.out.row.cell (i:=8) (by decide);have z8:=K3.out.row.frozen 8;have y9:=K3.out.row.cell (i:=9) (by decide);have z9:=K3.out.row.frozen 9;have y10:=K3.out.row.cell (i:=10) (by decide);have z10:=K3.out.row.frozen 10;obtain ⟨W6,hW6⟩:∃ W6,W6=(((((((((((w3.setCell ⟨w.heap.size,0,none⟩ (.int .i64 0)).setCell ⟨w.heap.size,1,none⟩ (.int .i64 0)).setCell ⟨w.heap.size,2,none⟩ (.int .i64 0)).setCell ⟨w.heap.size,3,none⟩ (.int .i64 0)).setCell ⟨w.heap.size,4,none⟩ (.int .i64 0)).setCell ⟨w.heap.size,5,none⟩ (.int .i64 0)).setCell ⟨w.heap.size,6,none⟩ (.int .i64 0)).setCell ⟨w.heap.size,7,none⟩ (.int .i64 0)).setCell ⟨w.heap.size,8,none⟩ (.slice none 0 0)).setCell ⟨w.heap.size,9,none⟩ (.slice none 0 0)).setCell ⟨w.heap.size,10,none⟩ (.slice none 0 0)):=⟨_,rfl⟩;go_wp2;rw [<- hW6];have h6:W6=putL w3 w.heap.size (tlOf (tlE 0) nilS nilS nilS):=hW6;clear hW6 y0 z0 y1 z1 y2 z2 y3 z3 y4 z4 y5 z5 y6 z6 y7 z7 y8 z8 y9 z9 y10 z10;have F6:W6.rowIs w.heap.size 42 11 (tlOf (tlE 0) nilS nilS nilS):=by rw [h6];exact xL K3.out.row _
  have V6:Uw (fun b=>b=w.heap.size) w3 W6:=by rw [h6];exact xK w3 _ _
  clear h6;have nk:¬ own M n m w.heap.size:=I3.out.free (yQ K3.out.row) (by decide) (by decide) (by decide) (by decide) (by decide) (by decide) (by decide) (by decide);have HL2:=hid (show losW W id={ W with lost:=W.lost++[id] } by rw [HLW.out,if_neg (by simp)]);refine yV rfl w.heap.size (tlOf (tlE 0) nilS nilS nilS) rfl F6 rfl ⟨rfl,M,rfl,?_,F3.out.box yN V6⟩;rw [HL2.out];exact I3.out.box K3.out.row HB.out nk (by decide) (by decide) V6
 ·have hEz:((E:Int)==0)=false:=by simp;omega
  have HL2:=hid (show losW W id=W by rw [HLW.out,if_pos hE]);have y0:=K2.out.row.cell (i:=0) (by decide);have z0:=K2.out.row.frozen 0;have y1:=K2.out.row.cell (i:=1) (by decide);have z1:=K2.out.row.frozen 1;have y2:=K2.out.row.cell (i:=2) (by decide);have z2:=K2.out.row.frozen 2;have y3:=K2.out.row.cell (i:=3) (by decide);have z3:=K2.out.row.frozen 3;have y4:=K2.out.row.cell (i:=4) (by decide);have z4:=K2.out.row.frozen 4;have y5:=K2.out.row.cell (i:=5) (by decide);have z5:=K2.out.row.frozen 5;have y6:=K2.out.row.cell (i:=6) (by decide);have z6:=K2.out.row.frozen 6;have y7:=K2.out.row.cell (i:=7) (by decide);have z7:=K2.out.row.frozen 7;have y8:=K2.out.row.cell (i:=8) (by decide);have z8:=K2.out.row.frozen 8;have y9:=K2.out.row.cell (i:=9) (by decide);have z9:=K2.out.row.frozen 9;have y10:=K2.out.row.cell (i:=10) (by decide);have z10:=K2.out.row.frozen 10;obtain ⟨W6,hW6⟩:∃ W6,W6=(((((((((((W2.setCell ⟨w.heap.size,0,none⟩ (.int .i64 (E:Nat))).setCell ⟨w.heap.size,1,none⟩ (.int .i64 0)).setCell ⟨w.heap.size,2,none⟩ (.int .i64 0)).setCell ⟨w.heap.size,3,none⟩ (.int .i64 0)).setCell ⟨w.heap.size,4,none⟩ (.int .i64 0)).setCell ⟨w.heap.size,5,none⟩ (.int .i64 0)).setCell ⟨w.heap.size,6,none⟩ (.int .i64 0)).setCell ⟨w.heap.size,7,none⟩ (.int .i64 0)).setCell ⟨w.heap.size,8,none⟩ (.slice none 0 0)).setCell ⟨w.heap.size,9,none⟩ (.slice none 0 0)).setCell ⟨w.heap.size,10,none⟩ (.slice none 0 0)):=⟨_,rfl⟩;go_wp2;rw [<- hW6];have h6:W6=putL W2 w.heap.size (tlOf (tlE E) nilS nilS nilS):=hW6;clear hW6 y0 z0 y1 z1 y2 z2 y3 z3 y4 z4 y5 z5 y6 z6 y7 z7 y8 z8 y9 z9 y10 z10;have F6:W6.rowIs w.heap.size 42 11 (tlOf (tlE E) nilS nilS nilS):=by rw [h6];exact xL K2.out.row _
  have V6:Uw (fun b=>b=w.heap.size) W2 W6:=by rw [h6];exact xK W2 _ _
  clear h6;have nk:¬ own M n m w.heap.size:=H2.out.free (yQ K2.out.row) (by decide) (by decide) (by decide) (by decide) (by decide) (by decide) (by decide) (by decide);refine yV rfl w.heap.size (tlOf (tlE E) nilS nilS nilS) rfl F6 rfl ⟨rfl,M,rfl,?_,F2.out.box yN V6⟩;rw [HL2.out];exact (H2.out.box K2.out.row HB.out nk (by decide) (by decide) V6).later yN (Nat.le_succ _)
def zP7 (A B:Nat) (v:Value):Prop:=Lies B v/\∀ p n c,v=.slice (some p) n c->0<n->A<=p.block
theorem qZ (A:Nat) (p:Option Addr) (c:Nat):∀ q n c',Value.slice p 0 c=.slice (some q) n c'->0<n->A<=q.block:=fun q n c' e hn=>by injection e with _ e2 _;omega
theorem zW5 {A b off k c:Nat} (h:A<=b):∀ q n c',Value.slice (some ⟨b,off,none⟩) k c=.slice (some q) n c'->0<n->A<=q.block:=fun q n c' e _=>by injection e with e1 _ _;injection e1 with e1;subst e1;exact h
theorem zP7.base {A A' B:Nat} {v:Value} (h:zP7 A B v) (hA:A'<=A):zP7 A' B v:=⟨h.1,fun p n c e hn=>zI hA (h.2 p n c e hn)⟩
def AskN (c:Cf) (l:List Nat) (w:World) (e:Ending) (w':World):Prop :=
 ∃ u,e=.returned (.tuple #[u,.int .i64 (askE c l:Nat)])/\Seg w' u (askV c l)/\zP7 w.heap.size w'.heap.size u/\Below w.heap.size w w'
theorem yB1 {c:Cf} {l:List Nat} {w w':World} {E:Nat} (h:askE c l=E/\askV c l=[]) (b:Below w.heap.size w w'):AskN c l w (.returned (.tuple #[.slice none 0 0,.int .i64 (E:Nat)])) w' :=
 ⟨_,by rw [h.1],by rw [h.2];exact Seg.nil _,⟨yT _ _ _,qZ _ _ _⟩,b⟩
theorem zW6 (b off cap bb ob cb:Nat) (ws:List Int) (bl:List Nat) (hbl:∀ x∈bl,x<256) (w:World)
  (h:∀ j,j<ws.length->w.cell? ⟨b,off+j,none⟩=some (.int .i64 (ws.getD j 0))) (hb:0<ws.length->b<w.heap.size)
  (h2:∀ j,j<bl.length->w.cell? ⟨bb,ob+j,none⟩=some (.int .u8 (bl.getD j 0:Nat))) (hb2:0<bl.length->bb<w.heap.size)
  (hz:szE ws=0) (hl:bl.length=szN ws) :
  Calls Tryz.prog 126 #[.slice (some ⟨b,off,none⟩) ws.length cap,.slice (some ⟨bb,ob,none⟩) bl.length cb] w fun e w'=>∃ r,e=.returned (.tuple #[r,.int .i64 (yS ws bl:Nat)]) /\
   Seg w' r (yW ws bl)/\zP7 w.heap.size w'.heap.size r/\Below w.heap.size w w':=by
 have H:=hid h;have H2:=hid h2;have HBL:=hid hbl;have HB2:=hid hb2;have hsz:=jN _ hz;have hlen:ws.length<=40:=hsz.1;have HA:=hid hsz.2.1;have HN:=hid hsz.2.2.1;have HT:=hid hsz.2.2.2;have HZ:=hid hz;have HL:=hid hl;have hn300:=yM5 ws;have hbl300:bl.length<=300:=by omega
 have hmk:=run_make_row' (P:=Tryz.prog) 22 3 (.int .i64 0) 8 Tryz.underlying22 Tryz.infoInt rfl .i64 .i64 ws.length (by omega) (by omega);have HMK:=hid hmk;clear h hz hsz h2 hl hbl hb2 hmk;go_enter Tryz.func126,Tryz.ntmps126
 go_wp2_with fail
 refine (vI _ ws (by omega) _ (.inr ⟨b,off,cap,rfl,H.out⟩)).mono ?_;rintro e wx ⟨rfl,hx⟩;have hy:=hx.symm;clear hx;subst hy;rw [HZ.out,<- HL.out];have hmk:=HMK.out;clear HMK;go_wp2;clear hmk
 go_loopw [9,29] (fun a i wr=>∃ k:Nat,k<=ws.length/\i=.int .i64 k/\a=.int .i64 (yU (ws.take k):Nat) /\
   wr.rowIs w.heap.size 3 ws.length (fun j=>if j<k then .int .i64 (zI4 ws bl j:Nat) else .int .i64 0)/\Below w.heap.size w wr)
  (fun _ i _=>ws.length-(intOf i).toNat)
 case atStart=>exact ⟨0,zG _,rfl,rfl,World.rowIs_made w (.int .i64 0) ws.length 3,yO.alloc yN _⟩
 case round =>
  obtain ⟨k,hk,rfl,rfl,hrow,hbel⟩:=hrel;have HC2:=hid (fun j (hj:j<bl.length)=>(hbel.cell (p:=⟨bb,ob+j,none⟩) (HB2.out (by omega))).trans (H2.out j hj));by_cases hlt:k<ws.length
  ·have g:=(hbel.cell (p:=⟨b,off+k,none⟩) (hb (by omega))).trans (H.out k hlt)
   have hok:=xN9 ws k hlt HA.out;have hbit:=yS8 ws k hlt;have hbs:=jG ws k hlt;have hva:zI4 ws bl k=Plain.num (xM bl) (yU (ws.take k)) (ws.getD k 0).toNat:=rfl;have hlt':(k:Int)<(ws.length:Int):=by omega
   have hfro:=hrow.frozen k;have hcel:=hrow.cell hlt;have HR:=hid hrow;have HBE:=hid hbel;clear hrow hbel;generalize ws.getD k 0=x at g hok hbit hbs hva;obtain ⟨xn,rfl⟩:=zW (show 0<=x by omega);rw [zK] at hbit hbs hva;have HBS:=hid hbs;clear hbs;have hfit:yU (ws.take k)+xn<=8*bl.length:=by have:=HN.out;have:=HL.out;omega
   clear hbit;generalize ha:yU (ws.take k)=a at hfit hva;have HAA:=hid ha;have HVA:=hid hva;clear ha hva;have hxn:xn<=60:=by omega
   clear hok
   go_wp2_with fail
   refine (zE3 bb ob cb a xn bl HBL.out hfit (by omega) hxn _ HC2.out).mono ?_;rintro e w2 ⟨rfl,q,rfl⟩;generalize hX:Plain.num (xM bl) a xn=X at *;have R:=hid (yS9 (q:=q) HVA.out HR.out HBE.out);go_wp2
   go_roundw
   case rel=>exact ⟨k+1,by omega,by go_num,by rw [HBS.out,HAA.out];go_num,R.out.1,R.out.2⟩
   case measure=>simp [intOf];omega
  ·have ek:k=ws.length:=by omega
   subst ek;rw [List.take_length];have hT:=HT.out;have hTn:yU ws<=8*bl.length/\8*bl.length-yU ws<=60:=by have:=HN.out;have:=HL.out;omega
   have HX0:=hid (yS7 ws bl HZ.out HL.out);have HX1:=hid (xU4 ws bl HZ.out HL.out);rw [<- HL.out] at HX0 HX1;generalize yU ws=T at *;obtain ⟨m,hm⟩:∃ m,m=8*bl.length-T:=⟨_,rfl⟩;rw [<- hm] at HX0 HX1;have hmm:8*(bl.length:Int)-(T:Int)=(m:Int):=by omega
   have hm60:m<=60:=by omega
   have hfit:T+m<=8*bl.length:=by omega
   have HM:=hid hm;have HMM:=hid hmm;have HR:=hid hrow;have HBE:=hid hbel;clear hrow hbel hm hmm
   go_wp2_with fail
   rw [HMM.out];refine (zE3 bb ob cb T m bl HBL.out hfit (by omega) hm60 _ HC2.out).mono ?_;rintro e w2 ⟨rfl,q,rfl⟩;by_cases hX:Plain.num (xM bl) T m=0
   ·rw [hX]
    have HF:=hid (HX1.out hX);clear hX;go_wp2;go_ret2
    refine ⟨_,by rw [HF.out.1];rfl,?_,⟨qF HR.out.lt,zW5 yN⟩,below_drewN HBE.out q⟩;rw [HF.out.2];refine .inr ⟨w.heap.size,0,ws.length,by rw [zL,vals_len,zL],fun j hj=>?_⟩;rw [zL,vals_len,zL] at hj;have e:=zH0 ws bl j hj;have hc:=HR.out.cell hj;rw [if_pos hj] at hc;rw [Nat.zero_add,World.cell?_drewN,hc,<- e];have hl2:j<(vals (xM bl) 0 (ws.map Int.toNat)).length:=by rw [vals_len,zL];exact hj
    simp [List.getD_eq_getElem?_getD,List.getElem?_eq_getElem hl2]
   ·have HF:=hid (HX0.out hX)
    have hne:=kT _ hX;clear hX;generalize Plain.num (xM bl) T m=X at *;go_wp2;go_ret2
    exact ⟨_,by rw [HF.out.1];rfl,by rw [HF.out.2];exact Seg.nil _,⟨yT _ _ _,qZ _ _ _⟩,below_drewN HBE.out q⟩
theorem yB2 (v u:Value) (ws:List Int) (bl:List Nat) (hbl:∀ x∈bl,x<256) (hm:ws.length<=9223372036854775807) (hb:bl.length<=9223372036854775807) (w:World)
  (h:Seg w v ws) (hv:Lies w.heap.size v) (h2:SegB w u bl) (hu:Lies w.heap.size u) :
  Calls Tryz.prog 126 #[v,u] w fun e w'=>∃ r,e=.returned (.tuple #[r,.int .i64 (yS ws bl:Nat)])/\Seg w' r (yW ws bl)/\zP7 w.heap.size w'.heap.size r/\Below w.heap.size w w':=by
 by_cases hz:szE ws=0
 ·by_cases hl:bl.length=szN ws
  ·rcases h with ⟨rfl,p,c,rfl⟩|⟨b,o,c,rfl,g⟩
   ·obtain ⟨p2,c2,rfl⟩:=zA7 h2
    have hl0:bl=[]:=zP.1 hl;subst hl0;refine (vJ p p2 c c2 w).mono ?_;rintro e w' ⟨rfl,hb⟩;exact ⟨_,rfl,.inl ⟨rfl,_,_,rfl⟩,⟨yT _ _ _,qZ _ _ _⟩,hb⟩
   ·rcases h2 with ⟨rfl,p2,c2,rfl⟩|⟨b2,o2,c2,rfl,g2⟩
    ·have hw0:ws=[]:=by
      have h3:=jN ws hz;cases ws with
      | nil=>rfl
      | cons x xs =>
       have h4:=(vO x).1 (by have:=h3.2.1;simp only [List.all_cons,Bool.and_eq_true] at this;exact this.1);have h5:yU (x :: xs)=x.toNat+yU xs:=by simp [yU]
       have h6:([]:List Nat).length=0:=rfl;omega
     subst hw0;refine (vJ _ p2 c c2 w).mono ?_;rintro e w' ⟨rfl,hb⟩;exact ⟨_,rfl,.inl ⟨rfl,_,_,rfl⟩,⟨yT _ _ _,qZ _ _ _⟩,hb⟩
    ·exact zW6 b o c b2 o2 c2 ws bl hbl w g (fun hp=>hv _ _ _ rfl hp) g2 (fun hp=>hu _ _ _ rfl hp) hz hl
  ·obtain ⟨p2,c2,rfl⟩:=zA7 h2
   refine (zL2 v p2 c2 ws bl hm hb w h hz hl).mono ?_;rintro e w' ⟨rfl,rfl⟩;exact ⟨_,rfl,by rw [(yS6 ws bl hz hl).2];exact Seg.nil _,⟨yT _ _ _,qZ _ _ _⟩,yO⟩
 ·refine (zL1 v u ws bl hm w h hz).mono ?_
  rintro e w' ⟨rfl,rfl⟩;exact ⟨_,rfl,by rw [(yF5 ws bl hz).2];exact Seg.nil _,⟨yT _ _ _,qZ _ _ _⟩,yO⟩
theorem yY3 (wd:Int) (n:Nat) (hn:Cnt n) (u:Value) (bl:List Nat) (hbl:∀ x∈bl,x<256) (hb:bl.length<=9223372036854775807) (w:World) (hs:SegB w u bl) (hl:Lies w.heap.size u) :
  Calls Tryz.prog 100 #[.int .i64 wd,.int .i64 n,u] w fun e w'=>∃ r,e=.returned (.tuple #[r,.int .i64 (yS (List.replicate n wd) bl:Nat)])/\Seg w' r (yW (List.replicate n wd) bl)/\zP7 w.heap.size w'.heap.size r/\Below w.heap.size w w':=by
 obtain ⟨W,hW⟩:∃ W,W=w.alloc (.cells #[.int .i64 wd] 3):=⟨_,rfl⟩;have bA:Below w.heap.size w W:=by rw [hW];exact yO.alloc yN _
 have c0:W.cell? ⟨w.heap.size,0,none⟩=some (.int .i64 wd):=by rw [hW,zM _ _ _ _ rfl];rfl
 have K:=zL0 w.heap.size n wd hn W c0;have HU:=hid (fun (v:Value) (X:World) (b:Below w.heap.size w X) (h:Seg X v (List.replicate n wd)) (hv:Lies X.heap.size v)=>yB2 v u (List.replicate n wd) bl hbl (by rw [yA];have:=hn.le;omega) hb X h hv (hs.below b hl) (hl.mono b.size));have HB:=hid bA;clear bA c0 hs hl hbl hb;rw [hW] at K;have HW:=hid hW;clear hW;go_enter Tryz.func100,Tryz.ntmps100
 go_wp2_with fail
 refine K.mono ?_;rintro e w1 ⟨v,rfl,h1,h2,h3⟩;rw [<- HW.out] at h3;have B1:=hid (HB.out.trans (h3.mono HB.out.size));have K2:=HU.out v w1 B1.out h1 h2;clear K HU h1 h2 h3
 go_wp2_with fail
 refine K2.mono ?_;rintro e w2 ⟨r,rfl,h1,h2,h3⟩;have R:=hid (And.intro h1 (And.intro (zP7.base h2 B1.out.size) (B1.out.trans (h3.mono B1.out.size))));clear h1 h2 h3 K2;go_wp2;go_ret2
 exact ⟨r,rfl,R.out⟩
theorem yY4 (c:Cf) (lv mv u:Value) (l:List Nat) (hm:l.length<=9223372036854775807) (hr:∀ x∈l,x<256) (w:World) (hI:CfI w c lv mv) (hs:SegB w u l) (hl:Lies w.heap.size u) :
  Calls Tryz.prog 97 #[cfV c lv mv,u] w (AskN c l w):=by
 have B0:=hid (BcI.start hI);have HS:=hid (fun (X:World) (b:Below w.heap.size w X)=>And.intro (hs.below b hl) (hl.mono b.size));obtain ⟨lp,lc,rfl⟩:=yX hI.sl;obtain ⟨mp,mc,rfl⟩:=yX hI.sm;have KM:=xG0 c (.slice lp c.ls.length lc) (.slice mp c.ms.length mc) (w.alloc (boxC c (.slice lp c.ls.length lc) (.slice mp c.ms.length mc))) B0.out.ci;clear hs hl hI;obtain ⟨n,ls,t,ms,cap⟩:=c;dsimp only at *;cases hmay:mayC ⟨n,ls,t,ms,cap⟩ with
 | false =>
  rw [hmay] at KM;have HE:=hid (xH1 (b:=l) hmay);clear hmay;go_enter Tryz.func97,Tryz.ntmps97
  go_wp2_with fail
  refine KM.mono ?_;rintro e w1 ⟨rfl,b1⟩;have B1:=hid (B0.out.grow b1);clear B0 KM b1;go_wp2;go_ret2
  exact yB1 HE.out B1.out.be
 | true =>
  rw [hmay] at KM;have HM:=hid hmay;have h3:=(xJ hmay).2.2.2.2.1;dsimp only at h3;have K2:=hid (fun (X:World) (b:Below w.heap.size w X)=>yY3 21 ms.length (by unfold Cnt;omega) u l hr hm X (HS.out X b).1 (HS.out X b).2);clear hmay h3;obtain ⟨E,hE⟩:∃ E,E=yS (List.replicate ms.length 21) l:=⟨_,rfl⟩;obtain ⟨V,hV⟩:∃ V,V=yW (List.replicate ms.length 21) l:=⟨_,rfl⟩;have hV6:=hid (show V.length<=1000000 by rw [hV];exact qE5 _ _);simp only [<- hE,<- hV] at K2;by_cases h0:E=0
  ·cases hc:V.all cntB with
   | false =>
    have HE:=hid (xH2 HM.out (c:=⟨n,ls,t,ms,cap⟩) (b:=l) (by rw [<- hE];exact h0) (by rw [<- hV];exact hc));clear hE hV;subst h0;go_enter Tryz.func97,Tryz.ntmps97
    go_wp2_with fail
    refine KM.mono ?_;rintro e w1 ⟨rfl,b1⟩;have B1:=hid (B0.out.grow b1);obtain ⟨c0,c1,c2,c3,c4⟩:=B1.out.cc;clear B0 KM b1
    go_wp2_with fail
    refine (K2.out w1 B1.out.be).mono ?_;rintro e w2 ⟨r,rfl,g1,g2,g3⟩;have B2:=hid (B1.out.grow g3);have K3:=vH r V w2 (by have:=hV6.out;omega) g1 g2.1;rw [hc] at K3;clear B1 c0 c1 c2 c3 c4 g1 g2 g3
    go_wp2_with fail
    refine K3.mono ?_;rintro e w3 ⟨rfl,b3⟩;have B3:=hid (B2.out.grow b3);clear b3 K3;go_wp2;go_ret2
    exact yB1 HE.out B3.out.be
   | true =>
    have HE:=hid (xO0 HM.out (c:=⟨n,ls,t,ms,cap⟩) (b:=l) (by rw [<- hE];exact h0) (by rw [<- hV];exact hc));rw [<- hV] at HE;clear hE hV;subst h0;go_enter Tryz.func97,Tryz.ntmps97
    go_wp2_with fail
    refine KM.mono ?_;rintro e w1 ⟨rfl,b1⟩;have B1:=hid (B0.out.grow b1);obtain ⟨c0,c1,c2,c3,c4⟩:=B1.out.cc;clear B0 KM b1
    go_wp2_with fail
    refine (K2.out w1 B1.out.be).mono ?_;rintro e w2 ⟨r,rfl,g1,g2,g3⟩;have B2:=hid (B1.out.grow g3);have K3:=vH r V w2 (by have:=hV6.out;omega) g1 g2.1;rw [hc] at K3;have G:=hid (And.intro g1 g2);have GN:=hid ((zP7.base g2 B1.out.be.size).2);clear B1 c0 c1 c2 c3 c4 g1 g2 g3
    go_wp2_with fail
    refine K3.mono ?_;rintro e w3 ⟨rfl,b3⟩;have B3:=hid (B2.out.grow b3);have R:=hid (show AskN ⟨n,ls,t,ms,cap⟩ l w (.returned (.tuple #[r,.int .i64 ((0:Nat):Int)])) w3 from ⟨r,by rw [HE.out.1],by rw [HE.out.2];exact G.out.1.below b3 G.out.2.1,⟨G.out.2.1.mono b3.size,GN.out⟩,B3.out.be⟩);clear b3 K3;go_wp2;go_ret2
    exact R.out
  ·have HE:=hid (qE4 HM.out (c:=⟨n,ls,t,ms,cap⟩) (b:=l) (by rw [<- hE];exact h0))
   have hne:((E:Int) != 0)=true:=by rw [bne_iff_ne];omega
   clear hE hV;go_enter Tryz.func97,Tryz.ntmps97
   go_wp2_with fail
   refine KM.mono ?_;rintro e w1 ⟨rfl,b1⟩;have B1:=hid (B0.out.grow b1);obtain ⟨c0,c1,c2,c3,c4⟩:=B1.out.cc;clear B0 KM b1
   go_wp2_with fail
   refine (K2.out w1 B1.out.be).mono ?_;rintro e w2 ⟨r,rfl,g1,g2,g3⟩;have B2:=hid (B1.out.grow g3);clear B1 c0 c1 c2 c3 c4 g1 g2 g3;go_wp2;go_ret2
   exact yB1 HE.out B2.out.be
namespace Plain
def wanK (W:Wo) (frm:Int) (l:List Int) (k:Nat):Wo:={ W with bk:=fun j=>if j<k then Bo.Plain.caB (W.bk j) ⟨2,frm,l.getD j 0⟩ else W.bk j }
theorem yY5 (W:Wo) (frm:Int) (l:List Int):wanK W frm l 0=W:=by
 unfold wanK;have:(fun j=>if j<0 then Bo.Plain.caB (W.bk j) ⟨2,frm,l.getD j 0⟩ else W.bk j)=W.bk:=funext fun j=>by rw [if_neg (by omega)]
 rw [this]
theorem xX3 (W:Wo) (frm:Int) (l:List Int) (k:Nat):(wanK W frm l k).bk k=W.bk k:=by unfold wanK;dsimp only;rw [if_neg (by omega)]
theorem yY6 (W:Wo) (frm:Int) (l:List Int) (k:Nat):{ wanK W frm l k with bk:=up1 (wanK W frm l k).bk k (Bo.Plain.caB (W.bk k) ⟨2,frm,l.getD k 0⟩) }=wanK W frm l (k+1):=by
 unfold wanK;have:up1 (fun j=>if j<k then Bo.Plain.caB (W.bk j) ⟨2,frm,l.getD j 0⟩ else W.bk j) k (Bo.Plain.caB (W.bk k) ⟨2,frm,l.getD k 0⟩)=fun j=>if j<k+1 then Bo.Plain.caB (W.bk j) ⟨2,frm,l.getD j 0⟩ else W.bk j:=funext fun j=>by
  unfold up1;dsimp only;by_cases e:j=k
  ·subst e
   rw [if_pos rfl,if_pos (Nat.lt_succ_self _)]
  ·rw [if_neg e]
   by_cases c:j<k
   ·rw [if_pos c,if_pos (by omega)]
   ·rw [if_neg c,if_neg (by omega)]
 dsimp only;rw [this]
theorem xJ8 (W:Wo) (frm:Int) (l:List Int):wanK W frm l l.length=yL4 W frm l:=rfl
end Plain
def NoP (B:Nat) (M:Mm) (c:Cf) (n m:Nat) (W':Wo) (T S:Nat) (w:World) (e:Ending) (w':World):Prop :=
 e=.returned (.tuple #[])/\∃ M',M'.R=M.R/\WI B M' w' c n m W' T S/\Fr M M' n m w w'
theorem yQ8 (B:Nat) (M:Mm) (c:Cf) (n m:Nat) (W:Wo) (T S:Nat) (frm:Int) (v:Value) (bl:List Nat) (hbl:bl.length<=1000) (hlt':∀ x∈bl,x<256) (hT:T+m<=1000) (hl:(askV c bl).length<=m) (w:World) (h:WI B M w c n m W T S) (hs:SegB w v bl) (hy:Lies w.heap.size v) :
  Calls Tryz.prog 78 #[.pointer (some ⟨M.R,0,none⟩),.int .i64 frm,v] w (NoP B M c n m (yL4 W frm (askV c bl)) (T+m) S w):=by
 have KA:=yY4 c (M.lv c) (M.mv c) v bl (by omega) hlt' w h.cf hs hy;have c0:w.cell? ⟨M.R,0,none⟩=some (.int .i64 c.n):=h.cell (j:=0) (by omega);have c1:w.cell? ⟨M.R,1,none⟩=some (M.lv c):=h.cell (j:=1) (by omega);have c2:w.cell? ⟨M.R,2,none⟩=some (.int .i64 c.t):=h.cell (j:=2) (by omega);have c3:w.cell? ⟨M.R,3,none⟩=some (M.mv c):=h.cell (j:=3) (by omega);have c4:w.cell? ⟨M.R,4,none⟩=some (.int .i64 c.cap):=h.cell (j:=4) (by omega);have HI:=hid h;have HB:=hid h.bw;clear h hs hy hlt' hbl;obtain ⟨l,hll⟩:∃ l,l=askV c bl:=⟨_,rfl⟩;unfold AskN at KA;rw [<- hll] at KA hl ⊢;clear hll;generalize askE c bl=E at KA;go_enter Tryz.func78,Tryz.ntmps78
 go_wp2_with fail
 refine KA.mono ?_;rintro e w1 ⟨u,rfl,sg,ly,hb⟩;obtain ⟨p,k0,rfl⟩:=yX sg;have H1:=hid (HI.out.grow hb);have F1:=hid (show Fr M M n m w w1 from Fr.of_below hb);have SG:=hid (show ∀ j,j<l.length->∃ b off,p=some ⟨b,off,none⟩/\w1.cell? ⟨b,off+j,none⟩=some (.int .i64 (l.getD j 0))/\¬ own M n m b/\b<w1.heap.size from fun j hj=>by
  have h0:0<l.length:=by omega
  obtain ⟨b,off,e,g⟩:=zD3 sg h0;subst e;refine ⟨b,off,rfl,g j hj,fun x=>?_,ly.1 _ _ _ rfl h0⟩;have:=HI.out.own_lt x;have:=ly.2 _ _ _ rfl h0;dsimp only at this;omega)
 have HE:=hid (xJ8 W frm l);clear KA c0 c1 c2 c3 c4 sg ly hb;generalize hL:l.length=L at *;clear hL;go_wp2
 go_loopg [8,9,21] L (fun gg _ _ s21 wx=>∃ k:Nat,k<=L/\L-k<=gg/\s21=.int .i64 k/\Aside (∃ M',M'.R=M.R/\WI B M' wx c n m (wanK W frm l k) (T+k) S/\Fr M M' n m w wx/\∀ j,j<L->∃ b off,p=some ⟨b,off,none⟩/\wx.cell? ⟨b,off+j,none⟩=some (.int .i64 (l.getD j 0))/\¬ own M' n m b/\b<wx.heap.size))
 case atStart=>exact ⟨0,zG _,by omega,rfl,(show Aside _ from ⟨M,rfl,by rw [yY5];exact H1.out,F1.out,SG.out⟩)⟩
 case round =>
  obtain ⟨k,hkk,hgg,rfl,A⟩:=hrel;clear SG H1 F1;by_cases hlt:k<L
  ·have hltz:(k:Int)<(L:Int):=by omega
   obtain ⟨M',hR,hw,hf,hg⟩:=A.out;have HW:=hid hw;have HF:=hid hf;have HG:=hid hg;obtain ⟨b,off,hp,q0,_,_⟩:=hg k hlt;subst hp;have a8:wr.cell? ⟨M.R,8,none⟩=some (.slice (some ⟨M'.BB,0,none⟩) m M'.cb):=by rw [<- hR];exact hw.cell (j:=8) (by omega)
   have hkm:k<m:=by omega
   have hkz:(k:Int)<(m:Int):=by omega
   have K:=yX3 B M'.BB M'.NB M'.FB M'.A M'.G M'.vl M'.N m (wanK W frm l k).bk (T+k) k hkm (by omega) ⟨2,frm,l.getD k 0⟩ wr hw.bk;clear hw hf hg A;generalize hxg:l.getD k 0=xg at *;have HX:=hid hxg;clear hxg
   go_wp2_with fail
   refine K.mono ?_;rintro e w2 ⟨r,F',vl',N',rfl,hd,hbk,u2,ns,hv⟩;clear K a8 q0;obtain ⟨i2,ua,oa⟩:=HW.out.setBk hbk u2 hv;have fa:=(⟨ua,oa⟩:Fr M' _ n m wr w2);rw [xX3,<- HX.out,yY6] at i2;have hR2:({ M' with FB:=F',vl:=up1 M'.vl k vl',N:=N' }:Mm).R=M.R:=hR;generalize ({ M' with FB:=F',vl:=up1 M'.vl k vl',N:=N' }:Mm)=M2 at i2 fa hR2;have I2:=hid i2;have F2:=hid (HF.out.trans fa);have G2:=hid (show ∀ j,j<L->∃ b' off',some (⟨b,off,none⟩:Addr)=some ⟨b',off',none⟩/\w2.cell? ⟨b',off' + j,none⟩=some (.int .i64 (l.getD j 0))/\¬ own M2 n m b'/\b'<w2.heap.size from fun j hj=>by
    obtain ⟨b',off',e,g1,g2,g3⟩:=HG.out j hj;obtain ⟨k1,k2⟩:=fa.keep g3 g2;exact ⟨b',off',e,(fa.u.cell b' (off' + j) g3 g2).trans g1,k2,zF g3 fa.u.size⟩)
   clear fa i2 ua oa u2 hbk hv ns hd HW HF HG;go_wp2
   go_roundg (L-(k+1))
   case measure=>omega
   case rel=>exact ⟨k+1,by omega,by omega,by go_num,(show Aside _ from ⟨M2,hR2,I2.out,F2.out,G2.out⟩)⟩
  ·have hltz:¬ (k:Int)<(L:Int):=by omega
   have ek:k=L:=by omega
   subst ek;have HA:=hid A.out;clear A;go_wp2;go_end0
   obtain ⟨M',hR,hw,hf,_⟩:=HA.out;rw [HE.out] at hw;exact ⟨rfl,M',hR,hw.later (by omega) yN,hf⟩
end Go.Proofs.YtleaknfjbbccgaaGreatDoor
