/- Laid together. -/
import Derived.Deep.LoopGhost
import Derived.Deep.RegionHeld3
import Derived.Deep.QuietTactic
import Derived.BigQuiet
import Derived.Deep.CutBlock
import Derived.Test.YtleaknfjbbccgaaGreatDoorMt03
import Derived.Test.YtleaknfjbbccgaaGreatDoorMt11
import Derived.Test.YtleaknfjbbccgaaGreatDoorMt12
import Derived.Test.YtleaknfjbbccgaaGreatDoorMt16
import Derived.Test.YtleaknfjbbccgaaGreatDoorMt18
import Derived.Test.YtleaknfjbbccgaaGreatDoorMt19
namespace Go.Proofs.YtleaknfjbbccgaaGreatDoor
open Plain
set_option maxHeartbeats 16000000
set_option maxRecDepth 100000
namespace Plain
def Wob (W:Wo):Prop:=∀ k,Bo.Plain.Ok (W.bk k)
theorem Wob.start {c:Cf} (hc:mayC c=true):Wob (Wo.start c):=fun k=>by
 have hm:=xO hc;have h0:Bo.Plain.Ok (Bo.Plain.Bk.new c.n.toNat c.cap c.t.toNat):=Bo.Plain.Ok.new hm.2.2.2.2.2.2 (by omega);show Bo.Plain.Ok (bk0 c k);unfold bk0;split
 ·exact h0.step _
 ·exact h0
theorem Wob.step {c:Cf} {W:Wo} (h:Wob W) (s:Sp):Wob (stW c W s):=by
 unfold stW;split
 ·exact fun k=>(h k).round
 split
 ·unfold delW
  split
  ·exact h
  ·unfold qU
   split
   ·intro k
    show Bo.Plain.Ok (if k<_ then _ else _);split
    ·exact (h k).step _
    ·exact h k
   split
   ·exact h
   ·exact h
 split
 ·unfold losW
  split<;>exact h
 split
 ·exact h
 split
 ·exact h
 ·intro k
  rw [(brW_keep c W s.who.toNat s).1];exact h k
theorem Wob.run {c:Cf} {W:Wo} (h:Wob W) (l:List Sp):Wob (runW c W l):=by
 induction l generalizing W with
 | nil=>exact h
 | cons s l ih=>exact ih (h.step s)
def look3 (p:Se.Plain.Po):Int × Int × Nat:=(p.frm,p.«to»,p.data.length)
def qA7 (c:Cf):Nat:=(21*c.ms.length+7)/8
def xB8 (c:Cf) (i:Nat):List (Int × Int × Nat):=((i:Int),c.n,qA7 c) :: ((List.range c.n.toNat).filter fun j=>j≠i).map fun j:Nat=>((i:Int),(j:Int),34*comN c i j)
def shape (c:Cf):List (Int × Int × Nat):=(List.range c.n.toNat).flatMap (xB8 c)++(List.range c.n.toNat).map fun i:Nat=>(c.n,(i:Int),qA7 c)
theorem zS0 {m:Nat} {f:Nat->Int} (h:∀ k,k<m->0<=f k/\f k<=1048576):(Bo.Plain.mapN m f).all cntB=true:=by
 rw [zS];intro x hx;unfold Bo.Plain.mapN at hx;obtain ⟨k,hk,rfl⟩:=zY.1 hx;have:=h k (zX.1 hk);unfold cntB;exact (vG _ _ _).2 this
theorem xR1 {c:Cf} (hc:mayC c=true) {f:Nat->Int} (h:∀ k,k<c.ms.length->0<=f k/\f k<=1048576):(byI (xV c (Bo.Plain.mapN c.ms.length f))).length=qA7 c:=by
 rw [xG];have hl:(Bo.Plain.mapN c.ms.length f).length=c.ms.length:=Bo.Plain.kM _ _;have:=(zI9 hc hl (zS0 h)).2.2.2;rw [this,hl];rfl
theorem rum_z {c:Cf} (hc:mayC c=true) {Z:Int} {s:Nat->List En} (hs:Sok Z s) {i j:Nat} (hi:(i:Int)<c.n) (hj:(j:Int)<c.n):(byI (rumB c i j (stL s c.ls.length))).length=34*comN c i j:=by
 rw [xG];have hst:(stL s c.ls.length).length=c.ls.length:=by simp [stL]
 have hr:refE c i j=0:=by unfold refE;rw [if_pos hc,if_pos (by omega)]
 exact (zD6 hr hst
  (zS.2 fun l hl=>by obtain ⟨t,_,rfl⟩:=zY.1 hl;exact hs.mayL t)
  (fun l hl=>by
   obtain ⟨t,_,rfl⟩:=zY.1 hl;exact zS.2 fun e he=>by
    have:=hs.may t e he;unfold fitE;simp only [Bool.and_eq_true,decide_eq_true_eq];exact ⟨this.2.1.2,this.2.2.2⟩)).2.2.2
theorem zK3 {α β:Type} {l:List α} {f g:α->List β} (h:∀ a,a∈l->f a=g a):l.flatMap f=l.flatMap g:=by
 induction l with
 | nil=>rfl
 | cons a l ih=>rw [List.flatMap_cons,List.flatMap_cons,h a yC,ih fun b hb=>h b (yB _ hb)]
theorem zY0 {α β γ:Type} (l:List α) (f:α->List β) (g:β->γ):(l.flatMap f).map g=l.flatMap fun a=>(f a).map g:=by
 induction l with
 | nil=>rfl
 | cons a l ih=>rw [List.flatMap_cons,List.map_append,List.flatMap_cons,ih]
theorem zE0 {c:Cf} {n m K:Nat} {W:Wo} (hc:mayC c=true) (hn:c.n=n) (h:Wok c n m K W) (hb:Wob W):(xT c W).map look3=shape c:=by
 unfold xT shape;rw [List.map_append,zY0];congr 1
 ·refine zK3 fun i hi=>?_
  have hi:=zX.1 hi;unfold sends xB8;rw [List.map_cons,List.map_map];congr 1
  ·show ((i:Int),c.n,(byI (xV c (Bo.Plain.mapN c.ms.length (W.ask i)))).length)=_
   rw [xR1 hc fun k _=>h.ask i k]
  ·refine List.map_congr_left fun j hj=>?_
   have hj:=zX.1 (List.mem_filter.1 hj).1;show ((i:Int),(j:Int),(byI (rumB c i j (stL (W.st i) c.ls.length))).length)=_;rw [rum_z hc (h.st i) (by omega) (by omega)]
 ·rw [List.map_map]
  refine List.map_congr_left fun i hi=>?_;have hi:=zX.1 hi;show (c.n,(i:Int),(byI (xV c (Bo.Plain.mapN c.ms.length fun k=>(Bo.Plain.kV (W.bk k)).given.getD i 0))).length)=_;rw [xR1 hc fun k _=>by
   have o:=(hb k).round;have hi2:i<(Bo.Plain.kV (W.bk k)).n:=by rw [Bo.Plain.roundB_n,h.bn];omega
   have a:=o.gi i hi2;have b:=o.wa i hi2;omega]
def qG (l:List Sp):Nat:=(l.filter fun s=>decide (s.kind=9)).length
theorem zJ6 (l:List Sp) (s:Sp):qG (l++[s])=qG l+if s.kind=9 then 1 else 0:=by
 unfold qG;rw [List.filter_append,zD];by_cases h:s.kind=9
 ·simp [h]
 ·simp [h]
theorem zJ7 (c:Cf) (W:Wo) (s:Sp):(stW c W s).off.posted=if s.kind=9 then W.off.posted++xT c W else W.off.posted:=by
 unfold stW;by_cases h9:s.kind=9
 ·rw [if_pos h9,if_pos h9];rfl
 rw [if_neg h9,if_neg h9];split
 ·unfold delW
  split
  ·rfl
  ·unfold qU
   split
   ·rfl
   split<;>rfl
 split
 ·unfold losW
  split<;>rfl
 split
 ·rfl
 split
 ·rfl
 ·rw [(brW_keep c W s.who.toNat s).2.1]
theorem kQ {c:Cf} {n m:Nat} (hc:mayC c=true) (hn:c.n=n) (hm:c.ms.length=m) (l:List Sp) (hl:l.length<=300):Wok c n m l.length (runW c (Wo.start c) l)/\Wob (runW c (Wo.start c) l):=by
 refine ⟨?_,(Wob.start hc).run l⟩;have:=wok_run hc hn hm l hl l.length yM;rw [List.take_length] at this;exact this
theorem zN8 {c:Cf} {n m:Nat} (hc:mayC c=true) (hn:c.n=n) (hm:c.ms.length=m):∀ (k:Nat) (l:List Sp),l.length=k->k<=300->(runW c (Wo.start c) l).off.posted.length=(shape c).length*qG l:=by
 intro k;induction k with
 | zero =>
  intro l hl _;have:l=[]:=zP.1 hl;subst this;rfl
 | succ k ih =>
  intro l hl hk;have hne:l≠[]:=by intro e;subst e;simp at hl
  obtain ⟨i,s,rfl⟩:∃ i s,l=i++[s]:=⟨l.dropLast,l.getLast hne,(List.dropLast_concat_getLast hne).symm⟩;rw [zD,List.length_singleton] at hl;have hi:=ih i (by omega) (by omega);have ok:=kQ hc hn hm i (by omega);rw [jT];show (stW c (runW c (Wo.start c) i) s).off.posted.length=_;rw [zJ7,zJ6];by_cases h9:s.kind=9
  ·rw [if_pos h9,if_pos h9,zD,hi,Nat.mul_add,Nat.mul_one]
   have:=congrArg List.length (zE0 hc hn ok.1 ok.2);rw [zL] at this;rw [this]
  ·rw [if_neg h9,if_neg h9,hi,Nat.add_zero]
end Plain
namespace Plain
theorem zJ8 (b:Bo.Plain.Bk) (w x:Int):(Bo.Plain.caB b ⟨2,w,x⟩).given=b.given/\(Bo.Plain.caB b ⟨2,w,x⟩).ever=b.ever/\(Bo.Plain.caB b ⟨2,w,x⟩).reserve=b.reserve:=by
 unfold Bo.Plain.caB;split
 ·exact ⟨rfl,rfl,rfl⟩
 ·rw [if_neg (by show ¬ (2:Int)=3;omega),if_neg (by show ¬ (2:Int)=1;omega)]
  exact ⟨rfl,rfl,rfl⟩
theorem zY1 {b:Bo.Plain.Bk} (h:Bo.Plain.Ok b) {i:Nat} (hi:¬ i<b.n):b.given.getD i 0=0:=by
 rw [zA,zN (by rw [h.lg];omega)];rfl
theorem yI5 {b:Bo.Plain.Bk} (h:Bo.Plain.Ok b) (i:Nat):b.given.getD i 0<=(Bo.Plain.kV b).given.getD i 0:=by
 by_cases hi:i<b.n
 ·exact (Bo.Plain.qB6 h hi).1
 ·rw [zY1 h hi,zY1 h.round (by rw [Bo.Plain.roundB_n];exact hi)]
  exact Int.le_refl _
structure Wss (c:Cf) (n m:Nat) (W:Wo):Prop where
 tot:∀ i k,Hd.Plain.Hv (W.rk i k) (W.gain i k)
 le:∀ i k,W.gain i k<=(W.bk k).given.getD i 0
 ev:∀ k,k<m->(W.bk k).ever=c.ms.getD k 0
 fr:∀ p,p∈W.off.posted->p.frm=n->∀ i:Nat,p.«to»=i->∀ k,(askV c (natL p.data)).getD k 0<=(W.bk k).given.getD i 0
theorem Wss.start {c:Cf} {n m:Nat} (hc:mayC c=true) (hm:c.ms.length=m):Wss c n m (Wo.start c):=by
 have hz:∀ k i,((Wo.start c).bk k).given.getD i 0=0:=fun k i=>by
  show (bk0 c k).given.getD i 0=0;have e:(Bo.Plain.Bk.new c.n.toNat c.cap c.t.toNat).given.getD i 0=0:=by
   show (Bo.Plain.zeros _).getD i 0=0;rw [Bo.Plain.jR]
  unfold bk0;split
  ·unfold Bo.Plain.caB
   split
   ·exact e
   ·rw [if_neg (by show ¬ (1:Int)=3;omega),if_pos rfl];exact e
  ·exact e
 refine ⟨fun _ _=>Hd.Plain.Hv.nil,fun i k=>by rw [hz];exact Int.le_refl _,fun k hk=>?_,fun p hp=>(nomatch hp)⟩;show (bk0 c k).ever=_;have hcnt:0<=c.ms.getD k 0/\c.ms.getD k 0<=1048576:=by
  have hk':k<c.ms.length:=by omega
  have:=zS.1 (xO hc).2.2.2.2.2.1 _ (zH hk');unfold cntB inR at this;simp only [Bool.and_eq_true,decide_eq_true_eq] at this;rw [zA,zB hk'];exact this
 unfold bk0;by_cases h0:c.ms.getD k 0≠0
 ·rw [if_pos h0]
  have hE:Bo.Plain.caE (Bo.Plain.Bk.new c.n.toNat c.cap c.t.toNat) ⟨1,0,c.ms.getD k 0⟩=0:=by
   unfold Bo.Plain.caE;have e0:(Bo.Plain.Bk.new c.n.toNat c.cap c.t.toNat).ever=0:=rfl;rw [if_neg (by show ¬ (1:Int)=3;omega),if_pos rfl,e0];dsimp only;rw [if_neg (by omega),if_neg (by omega)]
  unfold Bo.Plain.caB;rw [if_neg (by rw [hE];exact fun h=>h rfl),if_neg (by show ¬ (1:Int)=3;omega),if_pos rfl];show (0:Int)+c.ms.getD k 0=_;omega
 ·rw [if_neg h0]
  have:c.ms.getD k 0=0:=Classical.not_not.1 h0;rw [this];rfl
theorem Wss.step {c:Cf} {n m K:Nat} {W:Wo} (h:Wss c n m W) (hc:mayC c=true) (hn:c.n=n) (hw:Wok c n m K W) (hb:Wob W) (s:Sp):Wss c n m (stW c W s):=by
 unfold stW;by_cases h9:s.kind=9
 ·rw [if_pos h9]
  refine ⟨fun i k=>?_,fun i k=>Int.le_trans (h.le i k) (yI5 (hb k) i),fun k hk=>(Bo.Plain.xT9 _).trans (h.ev k hk),fun p hp hf i ht k=>?_⟩
  ·have:=(h.tot i k).step ⟨7,0,0,0⟩
   have e:Hd.Plain.qC0 (W.rk i k) ⟨7,0,0,0⟩=0:=by unfold Hd.Plain.qC0;rw [if_neg (fun x=>by have:=x.1;simp at this)]
   rw [e,Int.add_zero] at this;exact this
  ·rcases yK.1 hp with hp|hp
   ·exact Int.le_trans (h.fr p hp hf i ht k) (yI5 (hb k) i)
   ·rcases zX9 hp with ⟨j,hj,rfl⟩|⟨j,j',hj,hj',_,rfl⟩|⟨j,hj,rfl⟩
    ·have:((j:Nat):Int)=n:=hf
     omega
    ·have:((j:Nat):Int)=n:=hf
     omega
    ·have hij:j=i:=by have:((j:Nat):Int)=(i:Nat):=ht;omega
     subst hij;show (askV c (natL (byI (xV c (Bo.Plain.mapN c.ms.length fun k=>(Bo.Plain.kV (W.bk k)).given.getD j 0))))).getD k 0<=(Bo.Plain.kV (W.bk k)).given.getD j 0;have hgv:∀ k,0<=(Bo.Plain.kV (W.bk k)).given.getD j 0/\(Bo.Plain.kV (W.bk k)).given.getD j 0<=1048576:=fun k=>by
      have o:=(hb k).round;have hi2:j<(Bo.Plain.kV (W.bk k)).n:=by rw [Bo.Plain.roundB_n,hw.bn];omega
      have a:=o.gi j hi2;have b:=o.wa j hi2;omega
     rw [jU,(zI9 hc (Bo.Plain.kM _ _) (zS0 fun k _=>hgv k)).2.2.1];by_cases hk:k<c.ms.length
     ·rw [Bo.Plain.kN hk];exact Int.le_refl _
     ·rw [zA,zN (by rw [Bo.Plain.kM];omega)]
      exact (hgv k).1
 rw [if_neg h9];by_cases h10:s.kind=10
 ·rw [if_pos h10]
  unfold delW;by_cases hf:xQ W s.id≠0
  ·rw [if_pos hf];exact h
  rw [if_neg hf];have hs:¬ (s.id<0\/(W.off.posted.length:Int)<=s.id):=fun x=>hf (by
   have e:Se.Plain.seenE W.off s.id≠0:=by unfold Se.Plain.seenE;rw [if_pos x];decide
   unfold xQ;rw [if_pos e];decide)
  have hlt:s.id.toNat<W.off.posted.length:=by omega
  have hmem:W.off.at s.id.toNat∈W.off.posted:=by
   unfold Se.Plain.Off.at
   rw [zA,zB hlt];exact zH hlt
  have hfr:=h.fr _ hmem;obtain ⟨bl,hbl,_,hb2,hx⟩:=hw.fr _ hmem;have hnl:natL (W.off.at s.id.toNat).data=bl:=by rw [hbl];exact jU bl
  rw [hnl] at hfr;unfold qU;rw [hnl];rcases hx with ⟨hto,hal⟩|⟨i,hi,hto,hfr2,hal,hle⟩|⟨i,j,hi,hj,hij,hto,hfr2,hU,hhl⟩
  ·rw [if_pos (by rw [hto,hn])]
   have hg:∀ k,((yC2 { W with off:={ W.off with opened:=W.off.opened++[s.id.toNat] } } (W.off.at s.id.toNat).frm (askV c bl)).bk k).given=(W.bk k).given/\((yC2 { W with off:={ W.off with opened:=W.off.opened++[s.id.toNat] } } (W.off.at s.id.toNat).frm (askV c bl)).bk k).ever=(W.bk k).ever:=fun k=>by
    show (if k<_ then _ else _:Bo.Plain.Bk).given=_/\(if k<_ then _ else _:Bo.Plain.Bk).ever=_;split
    ·exact ⟨(zJ8 _ _ _).1,(zJ8 _ _ _).2.1⟩
    ·exact ⟨rfl,rfl⟩
   exact ⟨h.tot,fun i k=>by rw [(hg k).1];exact h.le i k,fun k hk=>(hg k).2.trans (h.ev k hk),fun p hp hf' i ht k=>by rw [(hg k).1];exact h.fr p hp hf' i ht k⟩
  ·rw [if_neg (by rw [hto,hn];omega),if_pos (by rw [hfr2,hn])]
   have hti:(W.off.at s.id.toNat).«to».toNat=i:=by rw [hto];exact zK i
   have hlei:=hfr hfr2 i hto;refine ⟨fun a k=>?_,fun a k=>?_,h.ev,h.fr⟩
   ·unfold zX1
    dsimp only;rw [hti];by_cases e:a=i/\k<(askV c bl).length/\W.gain a k<(askV c bl).getD k 0
    ·rw [if_pos e,if_pos e]
     have ht:=h.tot a k;have hst:=ht.step ⟨1,(askV c bl).getD k 0-W.gain a k,0,0⟩;have hmx:=(zF4 c bl).2 k;have hg0:=ht.gb.1;have hE:Hd.Plain.ordE (W.rk a k) ⟨1,(askV c bl).getD k 0-W.gain a k,0,0⟩=0:=by
      unfold Hd.Plain.ordE;have hsm:=ht.sm;dsimp only;rw [if_neg (by omega),if_neg (fun x=>by have:=x.2;have:=e.2.2;omega),if_pos rfl,if_neg (by omega)]
     have hgo:Hd.Plain.qC0 (W.rk a k) ⟨1,(askV c bl).getD k 0-W.gain a k,0,0⟩=(askV c bl).getD k 0-W.gain a k:=by
      unfold Hd.Plain.qC0;rw [if_pos ⟨rfl,hE⟩]
     rw [hgo,show W.gain a k+((askV c bl).getD k 0-W.gain a k)=(askV c bl).getD k 0 by omega] at hst;exact hst
    ·rw [if_neg e,if_neg e]
     exact h.tot a k
   ·unfold zX1
    dsimp only;rw [hti];by_cases e:a=i/\k<(askV c bl).length/\W.gain a k<(askV c bl).getD k 0
    ·rw [if_pos e,e.1]
     exact hlei k
    ·rw [if_neg e]
     exact h.le a k
  ·rw [if_neg (by rw [hto,hn];omega),if_neg (by rw [hfr2,hn];omega)]
   exact ⟨h.tot,h.le,h.ev,h.fr⟩
 rw [if_neg h10];by_cases h11:s.kind=11
 ·rw [if_pos h11]
  unfold losW;split
  ·exact h
  ·exact ⟨h.tot,h.le,h.ev,h.fr⟩
 rw [if_neg h11];by_cases hk:s.kind<1\/8<s.kind
 ·rw [if_pos hk];exact h
 rw [if_neg hk];by_cases hwho:s.who<0\/c.n<=s.who
 ·rw [if_pos hwho];exact h
 rw [if_neg hwho];unfold brW;by_cases h7:s.kind=7
 ·rw [if_pos h7];exact ⟨h.tot,h.le,h.ev,h.fr⟩
 rw [if_neg h7];by_cases h8:s.kind=8
 ·rw [if_pos h8];exact h
 rw [if_neg h8];by_cases hit:s.item<0\/(c.ms.length:Int)<=s.item
 ·rw [if_pos hit];exact h
 rw [if_neg hit];by_cases h1:s.kind=1
 ·rw [if_pos h1]
  split
  ·exact ⟨h.tot,h.le,h.ev,h.fr⟩
  ·exact h
 ·rw [if_neg h1]
  refine ⟨fun a k=>?_,h.le,h.ev,h.fr⟩;show Hd.Plain.Hv (up2 W.rk _ _ _ a k) (W.gain a k);unfold up2;split
  next e =>
   rw [e.1,e.2];have:=(h.tot s.who.toNat s.item.toNat).step ⟨s.kind,s.count,s.life,s.id⟩;have e0:Hd.Plain.qC0 (W.rk s.who.toNat s.item.toNat) ⟨s.kind,s.count,s.life,s.id⟩=0:=by unfold Hd.Plain.qC0;rw [if_neg (fun x=>h1 x.1)]
   rw [e0,Int.add_zero] at this;exact this
  ·exact h.tot a k
theorem qA8 {c:Cf} {n m:Nat} (hc:mayC c=true) (hn:c.n=n) (hm:c.ms.length=m):∀ (k:Nat) (l:List Sp),l.length=k->k<=300->Wss c n m (runW c (Wo.start c) l):=by
 intro k;induction k with
 | zero =>
  intro l hl _;have:l=[]:=zP.1 hl;subst this;exact Wss.start hc hm
 | succ k ih =>
  intro l hl hk;have hne:l≠[]:=by intro e;subst e;simp at hl
  obtain ⟨i,s,rfl⟩:∃ i s,l=i++[s]:=⟨l.dropLast,l.getLast hne,(List.dropLast_concat_getLast hne).symm⟩;rw [zD,List.length_singleton] at hl;have ok:=kQ hc hn hm i (by omega);rw [jT];exact (ih i (by omega) (by omega)).step hc hn ok.1 ok.2 s
end Plain
namespace Plain
theorem zC3 {c:Cf} (hn:c.n=4):(shape c).length=20:=by
 unfold shape xB8;simp only [hn];rfl
theorem qJ9 (c:Cf):∀ (l:List Sp) (W:Wo) (i:Nat),(tlsF c W l)[i]?=(l[i]?).map (stT c (runW c W (l.take i))):=by
 intro l;induction l with
 | nil=>intro W i;simp [tlsF]
 | cons s l ih =>
  intro W i;cases i with
  | zero=>rfl
  | succ i=>exact ih (stW c W s) i
theorem yD3 (l:List Sp) (i:Nat) (s:Sp) (hi:l[i]?=some s):qG (l.take (i+1))=qG (l.take i)+if s.kind=9 then 1 else 0:=by
 rw [List.take_add_one,hi];exact zJ6 _ _
theorem zJ9 (l:List Sp):qG l<=l.length:=List.length_filter_le _ _
end Plain
namespace Plain
def Wlo (W:Wo):Prop:=∀ i,i∈W.lost->i<(W.off.posted.length:Int)
theorem xB9 (c:Cf) (W:Wo) (s:Sp):W.off.posted.length<=(stW c W s).off.posted.length:=by
 rw [zJ7];split
 ·rw [zD];omega
 ·exact yM
theorem xC0 (c:Cf) (W:Wo) (s:Sp):(stW c W s).lost=W.lost\/(s.kind=11/\xQ W s.id=0/\(stW c W s).lost=W.lost++[s.id]):=by
 unfold stW;split
 ·exact .inl rfl
 split
 ·left
  unfold delW;split
  ·rfl
  ·unfold qU
   split
   ·rfl
   split<;>rfl
 split
 next h11 =>
  unfold losW;split
  ·exact .inl rfl
  next hf=>exact .inr ⟨h11,Classical.not_not.1 hf,rfl⟩
 split
 ·exact .inl rfl
 split
 ·exact .inl rfl
 ·left
  unfold brW
  repeat' split
  all_goals rfl
theorem Wlo.step {c:Cf} {W:Wo} (h:Wlo W) (s:Sp):Wlo (stW c W s):=fun i hi=>by
 have hu:=xB9 c W s;rcases xC0 c W s with e|⟨_,hf,e⟩
 ·rw [e] at hi
  have:=h i hi;omega
 ·rw [e] at hi
  rcases yK.1 hi with hi|hi
  ·have:=h i hi
   omega
  ·have hi:=List.mem_singleton.1 hi
   subst hi;have hs:=(zJ3 hf).1;unfold Se.Plain.seenE at hs;by_cases x:s.id<0\/(W.off.posted.length:Int)<=s.id
   ·rw [if_pos x] at hs;cases hs
   ·omega
theorem Wlo.run {c:Cf} {W:Wo} (h:Wlo W) (l:List Sp):Wlo (runW c W l):=by
 induction l generalizing W with
 | nil=>exact h
 | cons s l ih=>exact ih (h.step s)
def zK0:Sp:=⟨9,0,0,0,0,0,0,0⟩
def delS (i:Nat):Sp:=⟨10,0,0,0,0,(i:Int),0,0⟩
def vT (b j:Nat):List Sp:=(List.range j).map fun i=>delS (b+i)
def jH (l:List Sp):List Sp:=l++zK0 :: vT (20*qG l) 20
theorem zE1 (b j:Nat):vT b (j+1)=vT b j++[delS (b+j)]:=by
 unfold vT;rw [List.range_succ,List.map_append];rfl
theorem zC4 (b j:Nat):(vT b j).length=j:=by unfold vT;rw [zL,List.length_range]
theorem qS (l:List Sp):(jH l).length=l.length+21:=by unfold jH;rw [zD,List.length_cons,zC4]
theorem zY2 {c:Cf} {W:Wo} (hn:c.n=4) {i:Nat} (hi:i<4):(xT c W)[16+i]?=some (givP c W i):=by
 have hA:((List.range c.n.toNat).flatMap (sends c W)).length=16:=by
  unfold sends;rw [hn];rfl
 unfold xT;rw [zR (by omega),hA,show 16+i-16=i by omega,zU,yG (by rw [hn];exact hi)];rfl
theorem xC1 {c:Cf} {W:Wo} {p:Se.Plain.Po}:(qU c W p).off=W.off/\(qU c W p).lost=W.lost/\(∀ k,((qU c W p).bk k).given=(W.bk k).given):=by
 unfold qU;split
 ·refine ⟨rfl,rfl,fun k=>?_⟩
  show (if k<_ then _ else _:Bo.Plain.Bk).given=_;split
  ·exact (zJ8 _ _ _).1
  ·rfl
 split
 ·exact ⟨rfl,rfl,fun _=>rfl⟩
 ·exact ⟨rfl,rfl,fun _=>rfl⟩
structure Cmg (c:Cf) (m b:Nat) (W1 D:Wo) (j:Nat):Prop where
 po:D.off.posted=W1.off.posted
 op:D.off.opened=W1.off.opened++(List.range j).map (b + ·)
 lo:D.lost=W1.lost
 gi:∀ k,(D.bk k).given=(W1.bk k).given
 ga:∀ i k,i+16<j->k<m->D.gain i k=(W1.bk k).given.getD i 0
theorem Cmg.step {c:Cf} {m K b:Nat} {W D:Wo} {j:Nat} (hc:mayC c=true) (hn:c.n=4) (hm:c.ms.length=m) (hw:Wok c 4 m K W) (hb:Wob W) (hlo:Wlo W) (hbp:W.off.posted.length=b) (h:Cmg c m b (kX c W) D j) (hj:j<20) (hle:∀ i k,D.gain i k<=(D.bk k).given.getD i 0):Cmg c m b (kX c W) (stW c D (delS (b+j))) (j+1):=by
 have h20:(xT c W).length=20:=by rw [<- zC3 hn,<- zE0 hc hn hw hb,zL]
 have hpl:D.off.posted.length=b+20:=by
  rw [h.po];show (W.off.posted++xT c W).length=_;rw [zD,hbp,h20]
 have hid:(delS (b+j)).id=((b+j:Nat):Int):=rfl;have hfind:xQ D ((b+j:Nat):Int)=0:=by
  have e1:Se.Plain.seenE D.off ((b+j:Nat):Int)=0:=by unfold Se.Plain.seenE;rw [if_neg (by rw [hpl];omega)]
  have e2:¬ ((b+j:Nat):Int)∈D.lost:=fun x=>by
   rw [h.lo] at x;have:=hlo _ x;omega
  have e3:Se.Plain.oldO D.off ((b+j:Nat):Int).toNat≠true:=fun x=>by
   rw [zK] at x;unfold Se.Plain.oldO at x;obtain ⟨k,hk,hd⟩:=List.any_eq_true.1 x;have hd:=(of_decide_eq_true hd).1;rw [h.op] at hk;rcases yK.1 hk with hk|hk
   ·have:k<W.off.posted.length:=hw.gd.op k hk
    omega
   ·obtain ⟨i,hi,rfl⟩:=zY.1 hk
    have:=zX.1 hi;omega
  unfold xQ;rw [if_neg (fun y=>y e1),if_neg (fun y=>y.elim e2 e3)]
 have hst:stW c D (delS (b+j))=qU c { D with off:={ D.off with opened:=D.off.opened++[b+j] } } (D.off.at (b+j)):=by
  unfold stW;rw [if_neg (by show ¬ (10:Int)=9;omega),if_pos (show (delS (b+j)).kind=10 from rfl),hid];unfold delW;rw [if_neg (fun y=>y hfind),zK]
 rw [hst];have hk:=xC1 (c:=c) (W:={ D with off:={ D.off with opened:=D.off.opened++[b+j] } }) (p:=D.off.at (b+j));refine ⟨by rw [hk.1];exact h.po,by rw [hk.1,List.range_succ,List.map_append,<- yF,<- h.op];rfl,by rw [hk.2.1];exact h.lo,fun k=>by rw [hk.2.2];exact h.gi k,fun i k hi hkm=>?_⟩;by_cases h16:16<=j
 ·obtain ⟨a,rfl⟩:=Nat.exists_eq_add_of_le h16
  have hat:D.off.at (b+(16+a))=givP c W a:=by
   unfold Se.Plain.Off.at
   rw [h.po];show (W.off.posted++xT c W).getD _ _=_;rw [zA,zR (by omega),hbp,show b+(16+a)-b=16+a by omega,zY2 hn (by omega)];rfl
  rw [hat];have hgv:∀ k,0<=(Bo.Plain.kV (W.bk k)).given.getD a 0/\(Bo.Plain.kV (W.bk k)).given.getD a 0<=1048576:=fun k=>by
   have o:=(hb k).round;have hi2:a<(Bo.Plain.kV (W.bk k)).n:=by rw [Bo.Plain.roundB_n,hw.bn];omega
   have x:=o.gi a hi2;have y:=o.wa a hi2;omega
  have hask:askV c (natL (givP c W a).data)=Bo.Plain.mapN c.ms.length fun k=>(Bo.Plain.kV (W.bk k)).given.getD a 0:=by
   show askV c (natL (byI (xV c (Bo.Plain.mapN c.ms.length fun k=>(Bo.Plain.kV (W.bk k)).given.getD a 0))))=_;rw [jU,(zI9 hc (Bo.Plain.kM _ _) (zS0 fun k _=>hgv k)).2.2.1]
  unfold qU;rw [if_neg (by show ¬ ((a:Nat):Int)=c.n;rw [hn];omega),if_pos (by rfl),hask];have hto:(givP c W a).«to».toNat=a:=zK a;rw [hto];show (if i=a/\k<(Bo.Plain.mapN c.ms.length _).length/\D.gain i k<(Bo.Plain.mapN c.ms.length _).getD k 0 then (Bo.Plain.mapN c.ms.length _).getD k 0 else D.gain i k)=_;rw [Bo.Plain.kM,Bo.Plain.kN (by omega)];have hg:(D.bk k).given.getD i 0=(Bo.Plain.kV (W.bk k)).given.getD i 0:=by rw [h.gi];rfl
  have hg1:((kX c W).bk k).given.getD i 0=(Bo.Plain.kV (W.bk k)).given.getD i 0:=rfl;have hl:=hle i k;rw [hg1];by_cases ia:i=a
  ·subst ia
   split
   ·rfl
   next hno =>
    have:¬ D.gain i k<(Bo.Plain.kV (W.bk k)).given.getD i 0:=fun x=>hno ⟨rfl,by omega,x⟩;omega
  ·rw [if_neg (fun x=>ia x.1)]
   exact h.ga i k (by omega) hkm
 ·omega
theorem qA9 {c:Cf} {m K:Nat} {l:List Sp} (hc:mayC c=true) (hn:c.n=4) (hm:c.ms.length=m) (hl:l.length+21<=300) (hK:l.length=K):∀ j,j<=20->Cmg c m (20*qG l) (kX c (runW c (Wo.start c) l)) (runW c (Wo.start c) (l++zK0 :: vT (20*qG l) j)) j:=by
 have hw:=kQ hc (n:=4) hn hm l (by omega);have hlo:Wlo (runW c (Wo.start c) l):=Wlo.run (show Wlo (Wo.start c) from fun i (hi:i∈([]:List Int))=>(nomatch hi)) l;have hbp:(runW c (Wo.start c) l).off.posted.length=20*qG l:=by rw [zN8 hc (n:=4) hn hm l.length l rfl (by omega),zC3 hn]
 intro j;induction j with
 | zero =>
  intro _;rw [jT];exact ⟨rfl,(List.append_nil _).symm,rfl,fun _=>rfl,fun i k hi=>by omega⟩
 | succ j ih =>
  intro hj;have hi:=ih (by omega);rw [zE1,<- List.cons_append,<- yF,jT];have hs:=qA8 hc (n:=4) hn hm _ (l++zK0 :: vT (20*qG l) j) rfl (by rw [zD,List.length_cons,zC4];omega);exact hi.step hc hn hm hw.1 hw.2 hlo hbp (by omega) hs.le
end Plain
namespace Plain
/-! ### One list has all that another one has -/
def Ab (a b:List En):Prop:=yR b a=b
theorem Ab.nil (b:List En):Ab [] b:=rfl
theorem Ab.refl {a:List En} (h:Srt a):Ab a a:=zD0 h
theorem Ab.left {a b:List En} (ha:Srt a) (hb:Srt b):Ab a (yR a b):=by
 unfold Ab;rw [zL0 (yX ha b) ha,<- kL ha ha hb,zD0 ha]
theorem Ab.right {a b:List En} (ha:Srt a) (hb:Srt b):Ab b (yR a b):=zZ0 ha hb
theorem Ab.trans {a b c:List En} (ha:Srt a) (hb:Srt b) (hc:Srt c) (h1:Ab a b) (h2:Ab b c):Ab a c:=by
 unfold Ab at *
 conv=>lhs;rw [<- h2]
 rw [kL hc hb ha,h1,h2]
theorem Ab.both {a b c:List En} (ha:Srt a) (hb:Srt b) (hc:Srt c) (h1:Ab a c) (h2:Ab b c):Ab (yR a b) c:=by
 unfold Ab at *;rw [<- kL hc ha hb,h1,h2]
theorem Ab.anti {a b:List En} (ha:Srt a) (hb:Srt b) (h1:Ab a b) (h2:Ab b a):a=b:=by
 unfold Ab at *;rw [<- h1,zL0 hb ha,h2]
/-! ### Tells -/
def totL (s:Stt) (j:Nat):List En:=yR (yR (yR (s 0 j) (s 1 j)) (s 2 j)) (s 3 j)
theorem zS1 {n:Nat} {L:List Int} {T:Int} {s:Stt} (h:Gok n L T s) (j:Nat):Srt (totL s j):=yX (yX (yX (h.srt 0 j) _) _) _
theorem yD4 {n:Nat} {L:List Int} {T:Int} {s:Stt} (h:Gok n L T s) (j:Nat) {i:Nat} (hi:i<4):Ab (s i j) (totL s j):=by
 have s0:=h.srt 0 j;have s1:=h.srt 1 j;have s2:=h.srt 2 j;have s3:=h.srt 3 j;have m1:=yX s0 (s 1 j);have m2:=yX m1 (s 2 j);have m3:=yX m2 (s 3 j);have up:∀ {a},Srt a->Ab a (yR (s 0 j) (s 1 j))->Ab a (totL s j):=fun sa h1=>Ab.trans sa m2 m3 (Ab.trans sa m1 m2 h1 (Ab.left m1 s2)) (Ab.left m2 s3);have:i=0\/i=1\/i=2\/i=3:=by omega
 rcases this with rfl|rfl|rfl|rfl
 ·exact up s0 (Ab.left s0 s1)
 ·exact up s1 (Ab.right s0 s1)
 ·exact Ab.trans s2 m2 m3 (Ab.right m1 s2) (Ab.left m2 s3)
 ·exact Ab.right m2 s3
theorem xC2 {n:Nat} {L:List Int} {T:Int} {s:Stt} (h:Gok n L T s) (j:Nat) {U:List En} (hU:Srt U) (hs:∀ i,i<4->Ab (s i j) U):Ab (totL s j) U:=by
 have s0:=h.srt 0 j;have s1:=h.srt 1 j;have s2:=h.srt 2 j;have s3:=h.srt 3 j;have m1:=yX s0 (s 1 j);have m2:=yX m1 (s 2 j);exact Ab.both m2 s3 hU (Ab.both m1 s2 hU (Ab.both s0 s1 hU (hs 0 (by omega)) (hs 1 (by omega))) (hs 2 (by omega))) (hs 3 (by omega))
/-! ### Who knows all and writes has the last word -/
theorem qK0 {l:List En} (hs:Srt l) {e:En} (he:e.time=maxT l+1):Ab l (put l e):=by
 have sp:=zC9 hs e;refine zA8 (yX sp l) sp fun k=>?_;rw [qJ sp hs,yQ3 hs he k];by_cases h:e.key=k
 ·rw [if_pos h]
  cases hl:look k l with
  | none=>rfl
  | some x =>
   show some (top e x)=some e;have hn:=zG8 (zU0 he (jC hl).2);unfold top;rw [hn];rfl
 ·rw [if_neg h]
  cases look k l with
  | none=>rfl
  | some x=>show some (top x x)=some x;rw [yE5]
/-! ### What is written for others does not matter -/
end Plain
open Go.RowKit Go.Shelf Go.Sort
theorem xN8 (p:Option Addr) (N cap:Nat) (l:List Sp) (hN:l.length=N) (h300:N<=1000) (w:World) (hp:jY.Holds w p l) :
  Calls Tryz.prog 13 #[.slice p N cap] w fun e w'=>e=.returned (.int .i64 ((20*qG l:Nat):Int))/\w'=w:=by
 have HP:=hid hp;have HN:=hid hN;clear hp hN;go_enter Tryz.func13,Tryz.ntmps13
 go_wp2
 go_loopg [3,4] N (fun gg s3 s4 wx=>∃ k:Nat,k<=N/\N-k<=gg/\s4=.int .i64 k/\s3=.int .i64 ((20*qG (l.take k):Nat):Int)/\wx=w)
 case atStart=>exact ⟨0,zG _,by omega,rfl,rfl,rfl⟩
 case round =>
  obtain ⟨k,hk,hg,rfl,rfl,hw⟩:=hrel;have hy:=hw.symm;clear hw;subst hy;by_cases hlt:k<N
  ·have hltz:(k:Int)<(N:Int):=by omega
   have hkn:¬ (k:Int)<0:=by omega
   have hkL:k<l.length:=by have:=HN.out;omega
   obtain ⟨bs,os,eS,lS,gS⟩:=yD0 HP.out (by omega);obtain ⟨c0,_,_,_,_,_,_,_⟩:=gS k hkL;subst eS;have hTk:qG (l.take k)<=1000:=by have:=zJ9 (l.take k);rw [zT] at this;omega
   have hTn:=hid (yD3 l k (l.getD k default) (by rw [zA,zB hkL];rfl));generalize (l.getD k default).kind=kd at c0 hTn;generalize qG (l.take k)=T at hTk hTn ⊢;clear gS lS;by_cases h9:kd=9
   ·subst h9
    go_wp2
    go_roundg (N-(k+1))
    case measure=>omega
    case rel=>exact ⟨k+1,by omega,by omega,by go_num,by have e:=hTn.out;rw [if_pos trivial] at e;rw [e];go_num,rfl⟩
   ·have h9b:(kd==9)=false:=by simp [h9]
    go_wp2
    go_roundg (N-(k+1))
    case measure=>omega
    case rel=>exact ⟨k+1,by omega,by omega,by go_num,by rw [hTn.out,if_neg h9];rfl,rfl⟩
  ·have hltz:¬ (k:Int)<(N:Int):=by omega
   have ek:l.take k=l:=yA (by have:=HN.out;omega);rw [ek];go_wp2;go_ret
   exact ⟨rfl,rfl⟩
theorem xC3 (p:Option Addr) (N cap:Nat) (l:List Sp) (hN:l.length=N) (h300:N<=1000) (hp0:p=none->cap=0) (w:World) (hp:jY.Holds w p l) :
  Calls Tryz.prog 10 #[.slice p N cap] w fun e w'=>∃ q c,e=.returned (.slice q (N+21) c)/\SpR w w' (.slice q (N+21) c) (jH l):=by
 have KF:=xN8 p N cap l hN h300 w hp;obtain ⟨v1,w1,hr1,s1,_⟩:=(SpR.nil w).app (zG _) (p:=p) (c:=cap) hp hp0 (by omega);obtain ⟨p1,c1,rfl,_,_⟩:=s1.form;rw [List.nil_append] at s1 hr1;rw [hN] at hr1 s1;obtain ⟨p2,c2,w2,hr2,s2⟩:=s1.snoc (by omega) zK0;rw [hN] at hr2 s2;have R1:=hid hr1;have R2:=hid hr2;obtain ⟨T,hTT⟩:∃ T,T=qG l:=⟨_,rfl⟩;have hT:T<=1000:=by have:=zJ9 l;omega
 have HF:=hid (show jH l=l++zK0 :: vT (20*T) 20 by rw [hTT];rfl);have S2:=hid (show SpR w w2 (.slice p2 (N+1+0) c2) (l++zK0 :: vT (20*T) 0) from s2);have HLN:=hid (show ∀ j,(l++zK0 :: vT (20*T) j).length=N+1+j from fun j=>by rw [zD,List.length_cons,zC4,hN];omega);rw [<- hTT] at KF;obtain ⟨B,hB⟩:∃ B:Int,B=((20*T:Nat):Int):=⟨_,rfl⟩;have hB2:0<=B/\B<=20000:=by omega
 have HD:=hid (show ∀ j:Nat,delS (20*T+j)=⟨10,0,0,0,0,B+(j:Int),0,0⟩ from fun j=>by unfold delS;rw [hB];simp);rw [<- hB] at KF;clear hr1 hr2 s1 s2 hp hN hTT hB hp0;go_enter Tryz.func10,Tryz.ntmps10
 go_wp2_with fail
 refine KF.mono ?_;rintro e w3 ⟨rfl,hw3⟩;have hy:=hw3.symm;clear hw3 KF;subst hy
 go_wp2_with (first|(at_builtin;refine xE _ _ 28 R1.out (by rfl) (by rfl) (by rfl) (by rfl) (by rfl) ?_)|(at_builtin;refine xE _ _ 28 R2.out (by rfl) (by rfl) (by rfl) (by rfl) (by rfl) ?_)|fail)
 clear R1 R2
 go_loopg [4,5] 20 (fun gg s4 s5 wx=>∃ (j:Nat) (q:Option Addr) (c:Nat),j<=20/\20-j<=gg/\s5=.int .i64 j/\s4=.slice q (N+1+j) c/\Aside (SpR w wx (.slice q (N+1+j) c) (l++zK0 :: vT (20*T) j)))
 case atStart=>exact ⟨0,p2,c2,zG _,by omega,rfl,rfl,(show Aside _ from S2.out)⟩
 case round =>
  obtain ⟨j,q,c,hj,hg,rfl,rfl,A⟩:=hrel;clear S2;by_cases hlt:j<20
  ·have hltz:(j:Int)<20:=by omega
   have h0:=A.out;obtain ⟨p3,c3,w4,hr,s4⟩:=h0.snoc (by rw [HLN.out];omega) ⟨10,0,0,0,0,B+(j:Int),0,0⟩;rw [HLN.out] at hr s4;have NX:=hid (show SpR w w4 (.slice p3 (N+1+(j+1)) c3) (l++zK0 :: vT (20*T) (j+1)) by
    rw [zE1,HD.out,<- List.cons_append,<- yF];exact s4)
   have RUN:=hid hr;obtain ⟨M,hM⟩:∃ M,M=N+1+j:=⟨_,rfl⟩;rw [<- hM] at RUN ⊢;have HM:=hid (show M+1=N+1+(j+1) by omega);clear h0 hr s4 A hM
   go_wp2_with (first|(at_builtin;refine xE _ _ 28 RUN.out (by rfl) (by rfl) (by rfl) (by rfl) (by rfl) ?_)|fail)
   go_roundg (20-(j+1))
   case measure=>omega
   case rel=>exact ⟨j+1,p3,c3,by omega,by omega,by go_num,by rw [HM.out],(show Aside _ from NX.out)⟩
  ·have hltz:¬ (j:Int)<20:=by omega
   have ej:j=20:=by omega
   subst ej;have h0:=hid A.out;clear A;go_wp2;go_ret
   exact ⟨q,c,rfl,by rw [HF.out];exact h0.out⟩
namespace Plain
def Wou (c:Cf) (W:Wo):Prop:=∀ i k,(reads (xF c.ls k) i=false\/c.ls.length<=k)->W.st i k=[]
theorem Wou.start {c:Cf}:Wou c (Wo.start c):=fun _ _ _=>rfl
theorem Wou.hear {c:Cf} {W:Wo} (h:Wou c W) (frm i:Nat) (t:List (List En)):Wou c (xK8 c W frm i t):=fun a k hk=>by
 show (if a=i then heaK c.ls frm i (W.st i) (fun j=>t.getD j []) c.ls.length else W.st a) k=[];by_cases e:a=i
 ·subst e
  rw [if_pos rfl];unfold heaK;rw [if_neg (fun x=>by
   rcases hk with y|y
   ·rw [y] at x;exact absurd x.2.2 (by decide)
   ·omega)]
  exact h a k hk
 ·rw [if_neg e]
  exact h a k hk
theorem Wou.come {c:Cf} {W:Wo} (h:Wou c W) (p:Se.Plain.Po):Wou c (qU c W p):=by
 unfold qU;split
 ·exact fun i k hk=>h i k hk
 split
 ·exact fun i k hk=>h i k hk
 ·exact h.hear _ _ _
theorem Wou.step {c:Cf} {W:Wo} (h:Wou c W) (s:Sp):Wou c (stW c W s):=by
 unfold stW;split
 ·exact fun i k hk=>h i k hk
 split
 ·unfold delW
  split
  ·exact h
  ·refine Wou.come (W:={ W with off:={ W.off with opened:=W.off.opened++[s.id.toNat] } }) ?_ _
   exact fun i k hk=>h i k hk
 split
 ·unfold losW
  split
  ·exact h
  ·exact fun i k hk=>h i k hk
 split
 ·exact h
 split
 ·exact h
 unfold brW;split
 ·intro a k hk
  show (if a=s.who.toNat then wrS c.ls s.who.toNat (W.st s.who.toNat) s.label s.key s.count else W.st a) k=[];by_cases e:a=s.who.toNat
  ·rw [if_pos e,<- e]
   unfold wrS;by_cases e0:wrE c.ls a s.label s.key s.count≠0
   ·rw [if_pos e0];exact h a k hk
   ·rw [if_neg e0]
    show (if k=s.label.toNat then _ else W.st a k)=[];by_cases el:k=s.label.toNat
    ·exfalso
     have e0:wrE c.ls a s.label s.key s.count=0:=Classical.not_not.1 e0;unfold wrE at e0;have e1:¬ (s.count<0\/255<s.count):=fun x=>by rw [if_pos x] at e0;cases e0
     rw [if_neg e1] at e0;unfold rfS at e0;have e2:¬ ((s.label<0\/(c.ls.length:Int)<=s.label)\/(s.key<0\/7<s.key)):=fun x=>by rw [if_pos x] at e0;cases e0
     rw [if_neg e2] at e0;rcases hk with y|y
     ·rw [<- el,if_pos y] at e0;cases e0
     ·omega
    ·rw [if_neg el];exact h a k hk
  ·rw [if_neg e];exact h a k hk
 split
 ·exact h
 split
 ·exact h
 split
 ·split
  ·exact fun i k hk=>h i k hk
  ·exact h
 ·exact fun i k hk=>h i k hk
theorem Wou.run {c:Cf} {W:Wo} (h:Wou c W) (l:List Sp):Wou c (runW c W l):=by
 induction l generalizing W with
 | nil=>exact h
 | cons s l ih=>exact ih (h.step s)
theorem Wou.gok {c:Cf} {n m K:Nat} {W:Wo} (h:Wou c W) (hw:Wok c n m K W):Gok 4 c.ls (K:Int) W.st:=⟨fun i j=>(hw.st i).srt j,fun i j e he=>(hw.st i).may j e he,fun i j hj=>h i j hj⟩
def dstF (f:Nat):Nat:=if f%4-1<f/4 then f%4-1 else f%4
theorem xC4 {c:Cf} {W:Wo} (hn:c.n=4) {j:Nat} (hj:j<16):(xT c W)[j]?=some (if j%4=0 then vJ c W (j/4) else rumP c W (j/4) (dstF j)):=by
 unfold xT sends dstF;rw [hn];have:j=0\/j=1\/j=2\/j=3\/j=4\/j=5\/j=6\/j=7\/j=8\/j=9\/j=10\/j=11\/j=12\/j=13\/j=14\/j=15:=by omega
 rcases this with rfl|rfl|rfl|rfl|rfl|rfl|rfl|rfl|rfl|rfl|rfl|rfl|rfl|rfl|rfl|rfl<;>rfl
theorem zY3 (s:Int) {a:Nat} (ha:a<8):rdB s (a:Int)=reads s a:=by
 unfold rdB reads;rw [decide_eq_true (show (0:Int)<=(a:Int) by omega),decide_eq_true (show (a:Int)<8 by omega),zK];rfl
theorem xC5 {c:Cf} (hc:mayC c=true) (hn:c.n=4) {Z:Int} {s:Nat->List En} (hs:Sok Z s) {i j:Nat} (hi:i<4) (hj:j<4) {k:Nat} (hk:k<c.ls.length) (hri:reads (xF c.ls k) i=true) (hrj:reads (xF c.ls k) j=true) :
  (heaV c j i (rumB c j i (stL s c.ls.length))).getD k []=s k:=by
 have hst:(stL s c.ls.length).length=c.ls.length:=by simp [stL]
 have hr:refE c j i=0:=by unfold refE;rw [if_pos hc,if_pos (by omega)]
 obtain ⟨_,_,h3,_⟩:=zD6 hr hst
  (zS.2 fun l hl=>by obtain ⟨t,_,rfl⟩:=zY.1 hl;exact hs.mayL t)
  (fun l hl=>by
   obtain ⟨t,_,rfl⟩:=zY.1 hl;exact zS.2 fun e he=>by
    have:=hs.may t e he;unfold fitE;simp only [Bool.and_eq_true,decide_eq_true_eq];exact ⟨this.2.1.2,this.2.2.2⟩)
 rw [h3,zA,zU,yG hk];dsimp only [Option.map_some,Option.getD_some];have hb:both (c.ls.getD k 0) j i=true:=by
  unfold both;rw [zY3 _ (by omega),zY3 _ (by omega)];unfold xF at hri hrj;rw [hri,hrj];rfl
 rw [if_pos hb];unfold stL;rw [zA,zU,yG hk];rfl
theorem Cmg.come {c:Cf} {m K b:Nat} {W D:Wo} {j:Nat} (hc:mayC c=true) (hn:c.n=4) (hw:Wok c 4 m K W) (hb:Wob W) (hlo:Wlo W) (hbp:W.off.posted.length=b) (h:Cmg c m b (kX c W) D j) (hj:j<20) :
  stW c D (delS (b+j))=qU c { D with off:={ D.off with opened:=D.off.opened++[b+j] } } (D.off.at (b+j))/\∀ p,(xT c W)[j]?=some p->D.off.at (b+j)=p:=by
 have h20:(xT c W).length=20:=by rw [<- zC3 hn,<- zE0 hc hn hw hb,zL]
 have hpl:D.off.posted.length=b+20:=by
  rw [h.po];show (W.off.posted++xT c W).length=_;rw [zD,hbp,h20]
 have hid:(delS (b+j)).id=((b+j:Nat):Int):=rfl;have hfind:xQ D ((b+j:Nat):Int)=0:=by
  have e1:Se.Plain.seenE D.off ((b+j:Nat):Int)=0:=by unfold Se.Plain.seenE;rw [if_neg (by rw [hpl];omega)]
  have e2:¬ ((b+j:Nat):Int)∈D.lost:=fun x=>by
   rw [h.lo] at x;have:=hlo _ x;omega
  have e3:Se.Plain.oldO D.off ((b+j:Nat):Int).toNat≠true:=fun x=>by
   rw [zK] at x;unfold Se.Plain.oldO at x;obtain ⟨k,hk,hd⟩:=List.any_eq_true.1 x;have hd:=(of_decide_eq_true hd).1;rw [h.op] at hk;rcases yK.1 hk with hk|hk
   ·have:k<W.off.posted.length:=hw.gd.op k hk
    omega
   ·obtain ⟨i,hi,rfl⟩:=zY.1 hk
    have:=zX.1 hi;omega
  unfold xQ;rw [if_neg (fun y=>y e1),if_neg (fun y=>y.elim e2 e3)]
 refine ⟨?_,fun p hp=>?_⟩
 ·unfold stW
  rw [if_neg (by show ¬ (10:Int)=9;omega),if_pos (show (delS (b+j)).kind=10 from rfl),hid];unfold delW;rw [if_neg (fun y=>y hfind),zK]
 ·unfold Se.Plain.Off.at
  rw [h.po];show (W.off.posted++xT c W).getD _ _=_;rw [zA,zR (by omega),hbp,show b+j-b=j by omega,hp];rfl
structure Cst (c:Cf) (W D:Wo) (j:Nat):Prop where
 up:∀ i k,i<4->reads (xF c.ls k) i=true->Ab (D.st i k) (totL W.st k)
 ge:∀ i k,Ab (W.st i k) (D.st i k)
 ht:∀ f,f<j->f<16->f%4≠0->∀ k,k<c.ls.length->reads (xF c.ls k) (f/4)=true->reads (xF c.ls k) (dstF f)=true->Ab (W.st (f/4) k) (D.st (dstF f) k)
theorem Cst.same {c:Cf} {W D D':Wo} {j:Nat} (h:Cst c W D j) (e:D'.st=D.st) (hj:j%4=0\/16<=j):Cst c W D' (j+1):=by
 refine ⟨fun i k hi hr=>by rw [e];exact h.up i k hi hr,fun i k=>by rw [e];exact h.ge i k,fun f hf h16 h4 k hk r1 r2=>?_⟩;rw [e];exact h.ht f (by
  rcases hj with y|y
  ·by_cases x:f=j
   ·subst x;exact absurd y h4
   ·omega
  ·omega) h16 h4 k hk r1 r2
theorem Cst.step {c:Cf} {m K b:Nat} {W D:Wo} {j:Nat} (hc:mayC c=true) (hn:c.n=4) (hw:Wok c 4 m K W) (hb:Wob W) (hlo:Wlo W) (hou:Wou c W) (hbp:W.off.posted.length=b) (h:Cmg c m b (kX c W) D j) (hD:∀ i k,Srt (D.st i k)) (g:Cst c W D j) (hj:j<20):Cst c W (stW c D (delS (b+j))) (j+1):=by
 obtain ⟨e1,e2⟩:=h.come hc hn hw hb hlo hbp hj;rw [e1];have hG:=hou.gok hw;by_cases h16:16<=j
 ·obtain ⟨a,rfl⟩:=Nat.exists_eq_add_of_le h16
  rw [e2 _ (zY2 hn (by omega))];refine g.same ?_ (.inr h16);unfold qU;rw [if_neg (by show ¬ ((a:Nat):Int)=c.n;rw [hn];omega),if_pos (by rfl)];rfl
 have hlow:=e2 _ (xC4 hn (j:=j) (by omega));by_cases h0:j%4=0
 ·rw [if_pos h0] at hlow
  rw [hlow];refine g.same ?_ (.inl h0);unfold qU;rw [if_pos (by rfl)];rfl
 rw [if_neg h0] at hlow;rw [hlow];have ha4:j/4<4:=by omega
 have hi4:dstF j<4:=by unfold dstF;split<;>omega
 obtain ⟨a,ha⟩:∃ a,a=j/4:=⟨_,rfl⟩;obtain ⟨i,hi⟩:∃ i,i=dstF j:=⟨_,rfl⟩;rw [<- ha] at ha4 ⊢;rw [<- hi] at hi4 ⊢;have hst:∀ x k,(qU c { D with off:={ D.off with opened:=D.off.opened++[b+j] } } (rumP c W a i)).st x k=if x=i/\k<c.ls.length/\reads (xF c.ls k) a=true/\reads (xF c.ls k) i=true then yR (D.st i k) (W.st a k) else D.st x k:=fun x k=>by
  unfold qU;rw [if_neg (by show ¬ ((i:Nat):Int)=c.n;rw [hn];omega),if_neg (by show ¬ ((a:Nat):Int)=c.n;rw [hn];omega)];show (if x=((i:Nat):Int).toNat then heaK c.ls ((a:Nat):Int).toNat ((i:Nat):Int).toNat (D.st ((i:Nat):Int).toNat) (fun k=>(heaV c (a:Nat) (i:Nat) (natL (byI (rumB c a i (stL (W.st a) c.ls.length))))).getD k []) c.ls.length else D.st x) k=_;rw [zK,zK,jU];by_cases ex:x=i
  ·rw [if_pos ex]
   unfold heaK;by_cases hy:k<c.ls.length/\reads (xF c.ls k) a=true/\reads (xF c.ls k) i=true
   ·rw [if_pos hy,if_pos ⟨ex,hy⟩]
    refine congrArg (yR (D.st i k)) ?_;exact xC5 hc hn (hw.st a) hi4 ha4 hy.1 hy.2.2 hy.2.1
   ·rw [if_neg hy,if_neg (fun z=>hy z.2),ex]
  ·rw [if_neg ex,if_neg (fun z=>ex z.1)]
 refine ⟨fun x k hx hr=>?_,fun x k=>?_,fun f hf hf16 hf4 k hk r1 r2=>?_⟩
 ·rw [hst]
  split
  next hy =>
   rw [hy.1] at hr;exact Ab.both (hD i k) (hG.srt a k) (zS1 hG k) (g.up i k hi4 hr) (yD4 hG k ha4)
  ·exact g.up x k hx hr
 ·rw [hst]
  split
  next hy =>
   rw [hy.1];exact Ab.trans (hG.srt i k) (hD i k) (yX (hD i k) _) (g.ge i k) (Ab.left (hD i k) (hG.srt a k))
  ·exact g.ge x k
 ·rw [hst]
  by_cases ef:f=j
  ·subst ef
   rw [<- ha,<- hi,if_pos ⟨rfl,hk,by rw [ha];exact r1,by rw [hi];exact r2⟩];exact Ab.right (hD i k) (hG.srt a k)
  ·have old:=g.ht f (by omega) hf16 hf4 k hk r1 r2
   split
   next hy =>
    rw [hy.1] at old;exact Ab.trans (hG.srt _ k) (hD i k) (yX (hD i k) _) old (Ab.left (hD i k) (hG.srt a k))
   ·exact old
theorem qB0 {c:Cf} {m:Nat} {l:List Sp} (hc:mayC c=true) (hn:c.n=4) (hm:c.ms.length=m) (hl:l.length+21<=300):∀ j,j<=20->Cst c (runW c (Wo.start c) l) (runW c (Wo.start c) (l++zK0 :: vT (20*qG l) j)) j:=by
 have hw:=kQ hc (n:=4) hn hm l (by omega);have hlo:Wlo (runW c (Wo.start c) l):=Wlo.run (show Wlo (Wo.start c) from fun i (hi:i∈([]:List Int))=>(nomatch hi)) l;have hou:Wou c (runW c (Wo.start c) l):=Wou.run Wou.start l;have hbp:(runW c (Wo.start c) l).off.posted.length=20*qG l:=by rw [zN8 hc (n:=4) hn hm l.length l rfl (by omega),zC3 hn]
 have hG:=hou.gok hw.1;intro j;induction j with
 | zero =>
  intro _;rw [jT];exact ⟨fun i k hi _=>yD4 hG k hi,fun i k=>Ab.refl (hG.srt i k),fun f hf=>by omega⟩
 | succ j ih =>
  intro hj;have hi:=ih (by omega);have hcm:=qA9 hc hn hm hl rfl j (by omega);rw [zE1,<- List.cons_append,<- yF,jT];have hD:=kQ hc (n:=4) hn hm (l++zK0 :: vT (20*qG l) j) (by rw [zD,List.length_cons,zC4];omega);exact hi.step hc hn hw.1 hw.2 hlo hou hbp hcm (fun i k=>(hD.1.st i).srt k) (by omega)
theorem zY4 {c:Cf} {m:Nat} {l:List Sp} (hc:mayC c=true) (hn:c.n=4) (hm:c.ms.length=m) (hl:l.length+21<=300) {i k:Nat} (hi:i<4) (hk:k<c.ls.length) (hr:reads (xF c.ls k) i=true):(runW c (Wo.start c) (jH l)).st i k=totL (runW c (Wo.start c) l).st k:=by
 have h:=qB0 hc hn hm hl 20 yM;have hw:=kQ hc (n:=4) hn hm l (by omega);have hw2:=kQ hc (n:=4) hn hm (jH l) (by rw [qS];omega);have hou:Wou c (runW c (Wo.start c) l):=Wou.run Wou.start l;have hG:=hou.gok hw.1;have hs:Srt ((runW c (Wo.start c) (jH l)).st i k):=(hw2.1.st i).srt k;refine Ab.anti hs (zS1 hG k) (h.up i k hi hr) (xC2 hG k hs fun a ha=>?_);by_cases ea:a=i
 ·subst ea;exact h.ge a k
 by_cases hra:reads (xF c.ls k) a=true
 ·have hf:∃ f,f<16/\f%4≠0/\f/4=a/\dstF f=i:=by
   refine ⟨4*a+(if i<a then i+1 else i),?_⟩;unfold dstF;split<;>refine ⟨by omega,by omega,by omega,?_⟩<;>split<;>omega
  obtain ⟨f,h16,h4,rfl,rfl⟩:=hf;exact h.ht f (by omega) h16 h4 k hk hra hr
 ·rw [hou a k (.inl (by simpa using hra))]
  exact Ab.nil _
end Plain
theorem Plain.full_ids {l:List Sp} (h:∀ s,s∈l->0<=s.id/\s.id<=100000) (hl:l.length<=1000):∀ s,s∈jH l->0<=s.id/\s.id<=100000:=fun s hs=>by
 unfold jH vT at hs;rcases yK.1 hs with y|y
 ·exact h s y
 ·rcases List.mem_cons.1 y with rfl|y
  ·exact ⟨Int.le_refl _,by decide⟩
  ·obtain ⟨i,hi,rfl⟩:=zY.1 y
   have h1:=zX.1 hi;have h2:=zJ9 l;exact ⟨Int.natCast_nonneg _,by show ((20*qG l+i:Nat):Int)<=100000;omega⟩
theorem SpR.both {w0 w:World} {q:Option Addr} {N k:Nat} {L:List Sp} (h:SpR w0 w (.slice q N k) L):jY.Holds w q L/\(q=none->k=0):=by
 obtain ⟨p',c',e',hh,hn'⟩:=h.form;injection e' with e1 _ e3;rw [e1,e3];exact ⟨hh,hn'⟩
namespace Plain
def putS (w k:Nat) (ke va:Int):Sp:=⟨7,(w:Int),0,va,0,0,(k:Int),ke⟩
def getS (b k:Nat) (ke:Int):Sp:=⟨8,(b:Int),0,0,0,0,(k:Int),ke⟩
theorem xR2 {L:List Int} {w k:Nat} {ke:Int} (hk:k<L.length) (hke:0<=ke/\ke<=7) (hr:reads (xF L k) w=true):rfS L w (k:Int) ke=0:=by
 unfold rfS;rw [if_neg (by omega),if_neg (by rw [zK,hr];decide)]
theorem xN9 {c:Cf} (hn:c.n=4) {W:Wo} {w k:Nat} (hw:w<4) (hk:k<c.ls.length) {ke va:Int} (hke:0<=ke/\ke<=7) (hva:0<=va/\va<=255) (hr:reads (xF c.ls k) w=true) :
  (stW c W (putS w k ke va)).st=fun a=>if a=w then (fun b=>if b=k then put (W.st w k) (entW (W.st w k) ke va w false) else W.st w b) else W.st a:=by
 have h1:¬ ((w:Int)<0\/c.n<=(w:Int)):=by omega
 have e0:¬ wrE c.ls w (k:Int) ke va≠0:=by
  unfold wrE;rw [if_neg (by omega),xR2 hk hke hr];exact fun x=>x rfl
 unfold stW brW putS;dsimp only;rw [if_neg (by decide),if_neg (by decide),if_neg (by decide),if_neg (by decide),if_neg h1,if_pos rfl,zK];unfold wrS;rw [if_neg e0,zK]
theorem xO0 {c:Cf} (hn:c.n=4) {W:Wo} {b k:Nat} (hb:b<4) (hk:k<c.ls.length) {ke:Int} (hke:0<=ke/\ke<=7) (hr:reads (xF c.ls k) b=true) {e:En} (hl:look ke (W.st b k)=some e) (hg:e.gone=false) :
  (stT c W (getS b k ke)).code=0/\(stT c W (getS b k ke)).value=e.value/\(stT c W (getS b k ke)).who=(b:Int):=by
 have h1:¬ ((b:Int)<0\/c.n<=(b:Int)):=by omega
 have hv:lives ke (W.st b k)=true:=by
  unfold lives;rw [hl];simp [hg]
 have ev:valE c.ls b (W.st b) (k:Int) ke=0:=by
  unfold valE;rw [xR2 hk hke hr,if_neg (fun x=>x rfl),zK,hv,if_neg (by decide)]
 have evv:valV c.ls b (W.st b) (k:Int) ke=e.value:=by
  unfold valV;rw [ev,if_neg (fun x=>x rfl),zK,hl]
 have es:stT c W (getS b k ke)={ ({ tlE (valE c.ls b (W.st b) (k:Int) ke) with value:=valV c.ls b (W.st b) (k:Int) ke }:Tl) with who:=(b:Int) }:=by
  unfold stT brT getS;dsimp only;rw [if_neg (by decide),if_neg (by decide),if_neg (by decide),if_neg (by decide),if_neg h1,if_neg (by decide),if_pos rfl,zK]
 rw [es,ev,evv];exact ⟨rfl,rfl,rfl⟩
theorem xO1 {c:Cf} {m:Nat} (hc:mayC c=true) (hn:c.n=4) (hm:c.ms.length=m) {l:List Sp} (hl:l.length+85<=300) {w b k:Nat} (hw:w<4) (hb:b<4) (hk:k<c.ls.length) (hrw:reads (xF c.ls k) w=true) (hrb:reads (xF c.ls k) b=true) {ke va:Int} (hke:0<=ke/\ke<=7) (hva:0<=va/\va<=255) :
  ∃ t,(tlsF c (Wo.start c) (jH (jH (jH l)++[putS w k ke va])++[getS b k ke]))[l.length+64]?=some t/\t.code=0/\t.value=va/\t.who=(b:Int):=by
 obtain ⟨L,hL⟩:∃ L,L=jH (jH l):=⟨_,rfl⟩;have hLl:L.length=l.length+42:=by rw [hL,qS,qS]
 rw [<- hL];obtain ⟨X,hX⟩:∃ X,X=totL (runW c (Wo.start c) (jH l)).st k:=⟨_,rfl⟩;have hmeet:∀ i,i<4->reads (xF c.ls k) i=true->(runW c (Wo.start c) L).st i k=X:=fun i hi hr=>by
  rw [hL,hX];exact zY4 hc hn hm (by rw [qS];omega) hi hk hr
 have hou:Wou c (runW c (Wo.start c) L):=Wou.run Wou.start L;have hwL:=kQ hc (n:=4) hn hm L (by omega);have hXs:Srt X:=by rw [<- hmeet w hw hrw];exact (hwL.1.st w).srt k
 obtain ⟨e,he⟩:∃ e,e=entW X ke va w false:=⟨_,rfl⟩;have het:e.time=maxT X+1:=by rw [he];rfl
 have hek:e.key=ke:=by rw [he];rfl
 have hev:e.value=va:=by rw [he];rfl
 have heg:e.gone=false:=by rw [he];rfl
 have hst:=xN9 (c:=c) hn (W:=runW c (Wo.start c) L) hw hk hke hva hrw;have hst2:∀ i,(runW c (Wo.start c) (L++[putS w k ke va])).st i k=if i=w then put X e else (runW c (Wo.start c) L).st i k:=fun i=>by
  rw [jT];show (stW c (runW c (Wo.start c) L) (putS w k ke va)).st i k=_;rw [hst];dsimp only;by_cases hi:i=w
  ·rw [if_pos hi,if_pos hi]
   rw [if_pos rfl,hmeet w hw hrw,he]
  ·rw [if_neg hi,if_neg hi]
 have hlen:(L++[putS w k ke va]).length=l.length+43:=by rw [zD,hLl];rfl
 have hwP:=kQ hc (n:=4) hn hm (L++[putS w k ke va]) (by omega);have hGP:=(Wou.run (c:=c) Wou.start (L++[putS w k ke va])).gok hwP.1;have hUs:Srt (put X e):=zC9 hXs e;have htot:totL (runW c (Wo.start c) (L++[putS w k ke va])).st k=put X e:=by
  refine Ab.anti (zS1 hGP k) hUs (xC2 hGP k hUs fun i hi=>?_) ?_
  ·rw [hst2]
   by_cases hiw:i=w
   ·rw [if_pos hiw];exact Ab.refl hUs
   ·rw [if_neg hiw]
    by_cases hr:reads (xF c.ls k) i=true
    ·rw [hmeet i hi hr];exact qK0 hXs het
    ·rw [hou i k (.inl (by simpa using hr))];exact Ab.nil _
  ·have:=yD4 hGP k hw
   rw [hst2,if_pos rfl] at this;exact this
 have hfin:(runW c (Wo.start c) (jH (L++[putS w k ke va]))).st b k=put X e:=by
  rw [zY4 hc hn hm (by omega) hb hk hrb,htot]
 have hlook:look ke ((runW c (Wo.start c) (jH (L++[putS w k ke va]))).st b k)=some e:=by
  rw [hfin,yQ3 hXs het,hek,if_pos rfl]
 have hg:=xO0 (c:=c) hn hb hk hke hrb hlook heg;rw [hev] at hg;refine ⟨stT c (runW c (Wo.start c) (jH (L++[putS w k ke va]))) (getS b k ke),?_,hg⟩;have hfl:(jH (L++[putS w k ke va])).length=l.length+64:=by rw [qS,hlen]
 rw [qJ9,<- hfl,zR yM,List.take_append_of_le_length yM,yA yM];simp
end Plain
namespace Plain
theorem xO2:∀ z:Fin 16,∀ w:Fin 4,∀ b:Fin 4,(z.val ||| (2^w.val ||| 2^b.val))<16/\((z.val ||| (2^w.val ||| 2^b.val))/2^w.val%2==1)=true/\((z.val ||| (2^w.val ||| 2^b.val))/2^b.val%2==1)=true:=by decide +kernel
def xO3 (c:Cf) (k:Nat) (y:Int):Cf:=⟨c.n,c.ls.set k y,c.t,c.ms,c.cap⟩
theorem xO4 {c:Cf} (hc:mayC c=true) (hn:c.n=4) (k:Nat) {y:Int} (hy:0<=y/\y<16):mayC (xO3 c k y)=true:=by
 unfold mayC zV9 at hc ⊢;simp only [Bool.and_eq_true,decide_eq_true_eq] at hc ⊢;obtain ⟨h1,⟨h2,h3⟩,h4⟩:=hc;refine ⟨h1,⟨by show (c.ls.set k y).length<=4;rw [List.length_set];exact h2,?_⟩,h4⟩;rw [zS] at h3 ⊢;intro s hs;rcases List.mem_or_eq_of_mem_set hs with h|h
 ·exact h3 s h
 ·rw [h]
  unfold labB;rw [zQ,decide_eq_true_eq,decide_eq_true_eq];show 0<=y/\y<2^c.n.toNat;rw [hn];exact hy
theorem xO5 (c:Cf) {k:Nat} (hk:k<c.ls.length) (y:Int):xF (xO3 c k y).ls k=y:=by
 unfold xF xO3;dsimp only;rw [zA,List.getElem?_set_self hk];rfl
end Plain
theorem qB1:∀ z:Fin 16,∀ w:Fin 4,∀ b:Fin 4,bits .or .i64 ((z.val:Nat):Int) (bits .or .i64 (2^w.val) (2^b.val))=((z.val ||| (2^w.val ||| 2^b.val):Nat):Int):=by decide +kernel
theorem xR3:∀ w:Fin 4,IntKind.i64.wrap (2^w.val)=2^w.val:=by decide +kernel
theorem xO6 {c:Cf} {l:List Sp} {R:List Vi.RT} (hx:R.map (·.x)=(tlsF c (Wo.start c) l).map toTd) {w:World} {TB:Nat} (h:Vi.OutT w (some ⟨TB,0,none⟩) R) {k:Nat} {t:Tl} (ht:(tlsF c (Wo.start c) l)[k]?=some t) :
  ∃ r:Vi.RT,r.x=toTd t/\∀ i,i<11->w.cell? ⟨TB,k*11+i,none⟩=some (r.cell i):=by
 have hR:R.length=(tlsF c (Wo.start c) l).length:=by have:=congrArg List.length hx;rwa [zL,zL] at this
 have hk:k<(tlsF c (Wo.start c) l).length:=(List.getElem?_eq_some_iff.1 ht).1;obtain ⟨bT,oT,eT,lT,gT⟩:=Vi.holdsT h.hd (by omega);have eT1:=Option.some.inj eT;have ebT:TB=bT:=congrArg Addr.block eT1;have eoT:0=oT:=congrArg Addr.off eT1;subst ebT;subst eoT;have kR:k<R.length:=by omega
 refine ⟨R.getD k default,?_,fun i hi=>?_⟩
 ·have e:=congrArg (·[k]?) hx
  simp only [List.getElem?_map,ht,Option.map_some] at e;rw [zB kR,Option.map_some] at e;rw [zA,zB kR];exact Option.some.inj e
 ·have:=gT k kR i hi
  rwa [Nat.zero_add] at this
theorem xC6 (p:Option Addr) (n cap:Nat) (ls:List Int) (hbig:n<=9223372036854775807) (hn:ls.length=n) (hwf:∀ x,x∈ls->In64 x) (p2:Option Addr) (n2 cap2:Nat) (ds:List Sp) (hn2:ds.length=n2) (hbig2:n2<=9223372036854775807) (hd:∀ d,d∈ds->InX d) (aw al ak av ab:Int) (haw:In64 aw) (hal:In64 al) (hak:In64 ak) (hav:In64 av) (hab:In64 ab)
  (w:World) (htb:∀ k,2<=k->k<=6->w.cell? ⟨0,k,none⟩=some (.int .i64 (k:Nat))) (hp:xN3 w p ls) (hp2:jY.Holds w p2 ds) :
  Calls Tryz.prog 3 #[.slice p n cap,.slice p2 n2 cap2,.int .i64 aw,.int .i64 al,.int .i64 ak,.int .i64 av,.int .i64 ab] w fun e w'=>e=.returned (.bool true)/\Below w.heap.size w w':=by
 have hb0:0<w.heap.size:=zC (w:=w) (h:=htb 2 (by omega) (by omega));have HTB:=hid (fun X (bx:Below w.heap.size w X) k (h2:2<=k) (h6:k<=6)=>(bx.cell (p:=⟨0,k,none⟩) hb0).trans (htb k h2 h6));have KC:=xN5 1 50 5 (by decide) (by decide) (by decide) p n cap ls hbig hn hwf w hp;have KS:=hid (fun X (bx:Below w.heap.size w X)=>xB7 p2 n2 cap2 80 ds hn2 hbig2 (by omega) hd X (hp2.grow bx));obtain ⟨wo,hwo,hwo4⟩:∃ t:Nat,aw%4=(t:Int)/\t<4:=⟨(aw%4).toNat,by omega,by omega⟩;obtain ⟨bo,hbo,hbo4⟩:∃ t:Nat,ab%4=(t:Int)/\t<4:=⟨(ab%4).toNat,by omega,by omega⟩;obtain ⟨k,hk,hk3⟩:∃ t:Nat,al%3=(t:Int)/\t<3:=⟨(al%3).toNat,by omega,by omega⟩;have KW:=fun X=>yW aw 4 haw.1 haw.2 (by omega) (by omega) X;have KB:=fun X=>yW ab 4 hab.1 hab.2 (by omega) (by omega) X;have KK:=fun X=>yW al 3 hal.1 hal.2 (by omega) (by omega) X;have KY:=fun X=>yW ak 4 hak.1 hak.2 (by omega) (by omega) X;have KV:=fun X=>yW av 256 hav.1 hav.2 (by omega) (by omega) X;have hy:0<=ak%4/\ak%4<=7:=by omega
 have hv:0<=av%256/\av%256<=255:=by omega
 rw [hwo] at KW;rw [hbo] at KB;rw [hk] at KK;generalize ak%4=ke at KY hy;generalize av%256=va at KV hv;have HY:=hid hy;have HV:=hid hv;clear hp hp2 hwf hd htb hb0 haw hal hak hav hab hwo hbo hk hy hv;go_enter Tryz.func3,Tryz.ntmps3
 go_wp2_with fail
 refine KC.mono ?_;rintro e w1 ⟨lp,lc,mp,mc,rfl,hI,b1,T,M,rfl,rfl,rfl,hT,hTM,hM1,rT⟩;obtain ⟨c,hcc⟩:∃ c,c=cfG ls 1 50 5:=⟨_,rfl⟩;rw [<- hcc] at hI ⊢;have hm:mayC c=true:=by rw [hcc];exact cfG_may _ _ _ _
 have hc4:c.n=4:=by rw [hcc];rfl
 have hc3:c.ls.length=3:=by rw [hcc];exact kH _
 have hc2:c.ms.length=2:=by rw [hcc];rfl
 have rT2:w1.rowIs T 3 3 (rowV (xF c.ls)):=by rw [hcc];exact rT
 obtain ⟨z,hz,hz16⟩:∃ z:Nat,xF c.ls k=(z:Int)/\z<16:=by
  have h:=zR8 ls (xF c.ls k) (by
   rw [hcc];unfold xF;have:k<(zA2 ls).length:=by rw [kH];exact hk3
   show (zA2 ls).getD k 0∈_;rw [zA,zB this];exact zH _)
  exact ⟨(xF c.ls k).toNat,by omega,by omega⟩
 have HC:=hid (And.intro hm (And.intro hc4 (And.intro hc3 hc2)));have HI:=hid hI;have B1:=hid b1;have RT:=hid rT2;have HT:=hid (And.intro hT (And.intro hTM hM1));obtain ⟨CB,hCB⟩:∃ CB,CB=w1.heap.size:=⟨_,rfl⟩;obtain ⟨W2,hW2⟩:∃ W2,W2=w1.alloc (boxC c (.slice (some ⟨T,0,none⟩) 3 3) (.slice (some ⟨M,0,none⟩) 2 mc)):=⟨_,rfl⟩;have G2:=hid (show Below w1.heap.size w1 W2 by rw [hW2];exact yN.alloc yM _);have R2:=hid (show W2.rowIs CB 25 5 (cfF c (.slice (some ⟨T,0,none⟩) 3 3) (.slice (some ⟨M,0,none⟩) 2 mc)) by
  rw [hW2,hCB];refine yJ w1 _ 25 _ fun j hi=>?_;have hi5:j<5:=hi;have:j=0\/j=1\/j=2\/j=3\/j=4:=by omega
  rcases this with rfl|rfl|rfl|rfl|rfl<;>rfl)
 have HCB:=hid (show w1.heap.size<=CB by omega);have RT2:=hid (RT.out.of_block (G2.out.block T (by have:=HT.out;omega)));clear KC hm hc4 hc3 hc2 hI b1 hcc rT rT2 hT hTM hM1 RT
 go_upto_region 2 with fail
 rw [<- hW2,<- hCB];clear hW2 hCB
 go_wp2_with fail
 refine (KW _).mono ?_;rintro e wx ⟨rfl,hx⟩;have hy:=hx.symm;clear hx KW;subst hy
 go_upto_region 3 with fail
 go_wp2_with fail
 refine (KB _).mono ?_;rintro e wx ⟨rfl,hx⟩;have hy:=hx.symm;clear hx KB;subst hy
 go_upto_region 4 with fail
 go_wp2_with fail
 refine (KK _).mono ?_;rintro e wx ⟨rfl,hx⟩;have hy:=hx.symm;clear hx KK;subst hy
 go_upto_region 5 with fail
 have z1:W2.cell? ⟨CB,1,none⟩=some (.slice (some ⟨T,0,none⟩) 3 3):=R2.out.cell (i:=1) (by decide);have zk:W2.cell? ⟨T,k,none⟩=some (.int .i64 (z:Int)):=by rw [RT2.out.cell hk3];unfold rowV;rw [hz]
 have fk:=RT2.out.frozen k;have hk3z:(k:Int)<3:=by omega
 have hk0z:¬ (k:Int)<0:=by omega
 have hw0:¬ (wo:Int)<0:=by omega
 have hb0:¬ (bo:Int)<0:=by omega
 obtain ⟨Y,hY,hY16,hrw,hrb⟩:∃ Y:Nat,bits .or .i64 (z:Int) (bits .or .i64 (IntKind.i64.wrap (2^wo)) (IntKind.i64.wrap (2^bo)))=(Y:Int)/\Y<16/\Plain.reads (Y:Int) wo=true/\Plain.reads (Y:Int) bo=true:=by
  have h:=xO2 ⟨z,hz16⟩ ⟨wo,hwo4⟩ ⟨bo,hbo4⟩;have hb:=qB1 ⟨z,hz16⟩ ⟨wo,hwo4⟩ ⟨bo,hbo4⟩;have s1:=xR3 ⟨wo,hwo4⟩;have s2:=xR3 ⟨bo,hbo4⟩;dsimp only at h hb s1 s2;refine ⟨z ||| (2^wo ||| 2^bo),by rw [s1,s2,hb],h.1,?_,?_⟩
  ·unfold Plain.reads;rw [zK];exact h.2.1
  ·unfold Plain.reads;rw [zK];exact h.2.2
 have HYY:=hid hY;have HRD:=hid (And.intro hrw hrb);clear hY hrw hrb
 go_region_with (fail)
 rw [HYY.out];obtain ⟨W3,hW3⟩:∃ W3,W3=(W2.setCell ⟨T,k,none⟩ (.int .i64 (Y:Int))).drew:=⟨_,rfl⟩;rw [<- hW3];have hTC:T≠CB:=by have:=HT.out;have:=HCB.out;omega
 have hMT:M≠T:=by have:=HT.out;omega
 have BS:=hid (show Below w.heap.size w (W2.setCell ⟨T,k,none⟩ (.int .i64 (Y:Int))) from (B1.out.trans (G2.out.mono B1.out.size)).setCell (p:=⟨T,k,none⟩) HT.out.1 _);have BW3:=hid (show Below w.heap.size w W3 by rw [hW3];exact ⟨BS.out.os,BS.out.tape,BS.out.output,BS.out.size,BS.out.block⟩);have R3:=hid (show W3.rowIs CB 25 5 (cfF c (.slice (some ⟨T,0,none⟩) 3 3) (.slice (some ⟨M,0,none⟩) 2 mc)) by rw [hW3];exact (R2.out.of_block (RowKit.Below.heap_setCell _ _ _ _ (fun e=>hTC e.symm))).of_block rfl);have RT3:=hid (show W3.rowIs T 3 3 (fun j=>if j=k then .int .i64 (Y:Int) else rowV (xF c.ls) j) by rw [hW3];exact (RT2.out.set k (.int .i64 (Y:Int))).of_block rfl);obtain ⟨d,hd⟩:∃ d,d=xO3 c k (Y:Int):=⟨_,rfl⟩;have HC3:=hid (show mayC d=true/\d.n=4/\d.ls.length=3/\d.ms.length=2 from ⟨by rw [hd];exact xO4 HC.out.1 HC.out.2.1 k (by omega),by rw [hd];exact HC.out.2.1,by rw [hd];show (c.ls.set k _).length=3;rw [List.length_set];exact HC.out.2.2.1,by rw [hd];exact HC.out.2.2.2⟩);have HLB:=hid (show Plain.reads (xF d.ls k) wo=true/\Plain.reads (xF d.ls k) bo=true by rw [hd,xO5 c (by rw [HC.out.2.2.1];exact hk3)];exact HRD.out);have hnum:d.n=c.n/\d.t=c.t/\d.cap=c.cap/\d.ms=c.ms/\d.ls=c.ls.set k (Y:Int):=by rw [hd];exact ⟨rfl,rfl,rfl,rfl,rfl⟩
 have HM3:=hid (show M<W3.heap.size/\∀ j,j<2->W3.cell? ⟨M,0+j,none⟩=some (.int .i64 (c.ms.getD j 0)) from by
  obtain ⟨mb,mo',em,mcl⟩:=zE6 (show Seg w1 (.slice (some ⟨M,0,none⟩) c.ms.length mc) c.ms by rw [HC.out.2.2.2];exact HI.out.sm) (by rw [HC.out.2.2.2];omega);have e1:=Option.some.inj em;have e2:M=mb:=congrArg Addr.block e1;have e3:0=mo':=congrArg Addr.off e1;subst e2;subst e3;have hM1:=HT.out.2.2;have hs:w1.heap.size<=W3.heap.size:=by
   rw [hW3];show w1.heap.size<=(W2.setCell ⟨T,k,none⟩ (.int .i64 (Y:Int))).heap.size;rw [show (W2.setCell ⟨T,k,none⟩ (.int .i64 (Y:Int))).heap.size=W2.heap.size by simp [World.setCell]];exact G2.out.size
  refine ⟨by omega,fun j hj=>?_⟩;have e:=mcl j (by rw [HC.out.2.2.2];exact hj);rw [<- e,hW3];show (W2.setCell ⟨T,k,none⟩ (.int .i64 (Y:Int))).cell? ⟨M,0+j,none⟩=_;rw [World.cell?_of_block (w:=W2) (a:=⟨M,0+j,none⟩) (RowKit.Below.heap_setCell _ _ _ _ hMT)];exact G2.out.cell (p:=⟨M,0+j,none⟩) hM1)
 have hI3:CfI W3 d (.slice (some ⟨T,0,none⟩) d.ls.length 3) (.slice (some ⟨M,0,none⟩) d.ms.length mc):=by
  have hl3:=HC3.out.2.2.1;have hm2:=HC3.out.2.2.2;refine ⟨.inr ⟨T,0,3,by rw [hl3],fun j hj=>?_⟩,qB RT3.out.lt,.inr ⟨M,0,mc,by rw [hm2],fun j hj=>?_⟩,qB HM3.out.1,?_,by omega,by omega⟩
  ·rw [hl3] at hj
   rw [Nat.zero_add,RT3.out.cell hj];by_cases e:j=k
   ·subst e
    rw [if_pos rfl,hnum.2.2.2.2,zA,List.getElem?_set_self (by rw [HC.out.2.2.1];exact hk3)];rfl
   ·rw [if_neg e,hnum.2.2.2.2,zA,List.getElem?_set_ne (fun z=>e z.symm),<- zA]
    rfl
  ·rw [hm2] at hj
   rw [HM3.out.2 j hj,hnum.2.2.2.1]
  ·intro s hs
   have:=lab_lt HC3.out.1 s hs;omega
 have C3:jE W3 CB d (.slice (some ⟨T,0,none⟩) d.ls.length 3) (.slice (some ⟨M,0,none⟩) d.ms.length mc):=by
  rw [HC3.out.2.2.1,HC3.out.2.2.2];unfold jE;rw [hnum.1,hnum.2.1,hnum.2.2.1];exact ⟨R3.out.cell (i:=0) (by decide),R3.out.cell (i:=1) (by decide),R3.out.cell (i:=2) (by decide),R3.out.cell (i:=3) (by decide),R3.out.cell (i:=4) (by decide)⟩
 obtain ⟨lp,lc,mp,hI4,C4⟩:∃ lp lc mp,CfI W3 d (.slice lp d.ls.length lc) (.slice mp d.ms.length mc)/\jE W3 CB d (.slice lp d.ls.length lc) (.slice mp d.ms.length mc):=⟨_,_,_,hI3,C3⟩;have CW:=hid (fun X (bx:Below W3.heap.size W3 X)=>(C4.below bx C4.lt:jE X CB d (.slice lp d.ls.length lc) (.slice mp d.ms.length mc)));have IW:=hid (fun X (bx:Below W3.heap.size W3 X)=>hI4.grow bx);have BW:=hid (fun X (bx:Below W3.heap.size W3 X)=>BW3.out.trans (bx.mono BW3.out.size));have HTW:=hid (fun X (bx:Below W3.heap.size W3 X)=>HTB.out X (BW.out X bx));clear z1 zk fk hk3z hk0z hw0 hb0 hTC hMT hW3 hd hnum hI3 C3 hI4 C4 HM3 RT3 R3 RT2 R2 G2 B1 BS HC HI HCB HT HYY HRD HTB hz;have K3:=KS.out W3 (BW.out _ yN)
 go_wp2_with fail
 refine K3.mono ?_;rintro e w3 ⟨q,kc,L,rfl,sp,hL,hid5⟩;obtain ⟨N,hN⟩:∃ N,N=L.length:=⟨_,rfl⟩;have hN1:N<=80:=by omega
 have HI1:=hid (full_ids hid5 (by omega));have HI2:=hid (full_ids HI1.out (by rw [qS];omega));rw [<- hN] at sp ⊢;have K4:=xC3 q N kc L hN.symm (by omega) sp.both.2 w3 sp.both.1;have B3:=hid (show Below W3.heap.size W3 w3 from sp.be);have HN:=hid hN;clear K3 KS sp hid5 hL hN
 go_wp2_with fail
 refine K4.mono ?_;rintro e w4 ⟨q4,c4,rfl,sp4⟩;obtain ⟨A,hA⟩:∃ A,A=N+21:=⟨_,rfl⟩;have hA1:A<=101:=by omega
 rw [<- hA] at sp4 ⊢;have HLA:=hid (show (jH L).length=A by rw [qS,hA,HN.out]);have K5:=xC3 q4 A c4 (jH L) HLA.out (by omega) sp4.both.2 w4 sp4.both.1;have B4:=hid (show Below W3.heap.size W3 w4 from B3.out.trans (sp4.be.mono B3.out.size));have HAN:=hid hA;clear K4 sp4 hA B3
 go_wp2_with fail
 refine K5.mono ?_;rintro e w5 ⟨q5,c5,rfl,sp5⟩;obtain ⟨Z,hZ⟩:∃ Z,Z=A+21:=⟨_,rfl⟩;have hZ1:Z<=122:=by omega
 rw [<- hZ] at sp5 ⊢;obtain ⟨L2,hL2⟩:∃ L2,L2=jH (jH L):=⟨_,rfl⟩;rw [<- hL2] at sp5 HI2;have HLZ:=hid (show L2.length=Z by rw [hL2,qS,HLA.out,hZ]);have B5:=hid (show Below W3.heap.size W3 w5 from B4.out.trans (sp5.be.mono B4.out.size));have HL2:=hid hL2;have HZN:=hid hZ;have B40:=B4;clear K5 hZ B4 hL2;obtain ⟨p6,c6,w6,hrun6,sp6⟩:=sp5.snoc (by rw [HLZ.out];omega) (putS wo k ke va);rw [HLZ.out] at hrun6 sp6;have RUN6:=hid hrun6;have SP6:=hid sp6;clear hrun6 sp6 sp5;have k4:=KY w5;have k5:=KV w5
 go_upto_region 7 with fail
 go_wp2_with fail
 refine k4.mono ?_;rintro e wx ⟨rfl,hx⟩;have hy:=hx.symm;clear hx k4;subst hy
 go_wp2_with fail
 refine k5.mono ?_;rintro e wx ⟨rfl,hx⟩;have hy:=hx.symm;clear hx k5;subst hy
 go_wp2_with (first|(at_builtin;refine xE _ _ 28 RUN6.out (by rfl) (by rfl) (by rfl) (by rfl) (by rfl) ?_)|fail)
 obtain ⟨V,hV⟩:∃ V,V=Z+1:=⟨_,rfl⟩;obtain ⟨L3,hL3⟩:∃ L3,L3=L2++[putS wo k ke va]:=⟨_,rfl⟩;rw [<- hV] at SP6 ⊢;rw [<- hL3] at SP6;have hV1:V<=123:=by omega
 have HLV:=hid (show L3.length=V by rw [hL3,zD,HLZ.out,hV];rfl);have HI3:=hid (show ∀ s,s∈L3->0<=s.id/\s.id<=100000 from fun s hs=>by
  rw [hL3] at hs;rcases yK.1 hs with y|y
  ·exact HI2.out s y
  ·rw [List.mem_singleton.1 y];exact ⟨Int.le_refl _,(show (0:Int)<=100000 by decide)⟩)
 have HL3:=hid hL3;have HVZ:=hid hV;have B6:=hid (show Below W3.heap.size W3 w6 from B40.out.trans (SP6.out.be.mono B40.out.size));have K8:=xC3 p6 V c6 L3 HLV.out (by omega) SP6.out.both.2 w6 SP6.out.both.1;clear RUN6 hV hL3;refine K8.mono ?_;rintro e w8 ⟨q8,c8,rfl,sp8⟩;obtain ⟨Q,hQ⟩:∃ Q,Q=V+21:=⟨_,rfl⟩;have hQ1:Q<=144:=by omega
 rw [<- hQ] at sp8 ⊢;have HLQ:=hid (show (jH L3).length=Q by rw [qS,HLV.out,hQ]);have HI8:=hid (full_ids HI3.out (by rw [HLV.out];omega));obtain ⟨p9,c9,w9,hrun9,sp9⟩:=sp8.snoc (by rw [HLQ.out];omega) (getS bo k ke);rw [HLQ.out] at hrun9 sp9;have RUN9:=hid hrun9;have B8:=hid (show Below W3.heap.size W3 w8 from B6.out.trans (sp8.be.mono B6.out.size));have SP9:=hid sp9;have HQV:=hid hQ;clear K8 hrun9 sp9 sp8 hQ;have k8:=KY w8
 go_wp2_with fail
 refine k8.mono ?_;rintro e wx ⟨rfl,hx⟩;have hy:=hx.symm;clear hx k8 KY;subst hy
 go_upto_region 9 with (first|(at_builtin;refine xE _ _ 28 RUN9.out (by rfl) (by rfl) (by rfl) (by rfl) (by rfl) ?_)|fail)
 obtain ⟨N4,hN4⟩:∃ N4,N4=Q+1:=⟨_,rfl⟩;obtain ⟨L4,hL4⟩:∃ L4,L4=jH L3++[getS bo k ke]:=⟨_,rfl⟩;rw [<- hN4] at SP9 ⊢;rw [<- hL4] at SP9;have hN41:N4<=145:=by omega
 have HNL:=hid (show L4.length=N4 by rw [hL4,zD,HLQ.out,hN4];rfl);have HI4:=hid (show ∀ s,s∈L4->0<=s.id/\s.id<=100000 from fun s hs=>by
  rw [hL4] at hs;rcases yK.1 hs with y|y
  ·exact HI8.out s y
  ·rw [List.mem_singleton.1 y];exact ⟨Int.le_refl _,(show (0:Int)<=100000 by decide)⟩)
 have HTG:=hid (show ∃ t,(tlsF d (Wo.start d) L4)[Q]?=some t/\t.code=0/\t.value=va/\t.who=(bo:Int) by
  have h:=xO1 HC3.out.1 HC3.out.2.1 HC3.out.2.2.2 (l:=L) (by rw [<- HN.out];omega) hwo4 hbo4 (by rw [HC3.out.2.2.1];exact hk3) HLB.out.1 HLB.out.2 HY.out HV.out;rw [<- HL2.out,<- HL3.out,<- hL4,<- HN.out] at h;have e:N+64=Q:=by have:=HAN.out;have:=HZN.out;have:=HVZ.out;have:=HQV.out;omega
  rwa [e] at h)
 have HQN:=hid hN4;have HC:=HC3;have HO4:=hid SP9.out.both.1;have HP4:=hid SP9.out.both.2;have B4:=hid (show Below W3.heap.size W3 w9 from B6.out.trans (SP9.out.be.mono B6.out.size));clear RUN9 hN4 hL4 HLQ HLV HLZ HLA HN HAN HZN HVZ HQV HL2 HL3 HI8 HI3 HI2 HI1 SP9 SP6 B5 B40 B6 B8 HC3;have D4:=hid (show Below w9.heap.size w9 w9.drew from yN.drew);obtain ⟨v6,w6,hrun6,sp6,_⟩:=(SpR.nil w9.drew).app (zG _) (p:=p9) (c:=c9) (HO4.out.grow D4.out) HP4.out (by have:=HNL.out;omega);obtain ⟨p6,c6,rfl,hh6,_⟩:=sp6.form;rw [List.nil_append,HNL.out] at hrun6;rw [List.nil_append] at hh6;have RUN6:=hid hrun6;have HH6:=hid hh6;have B6:=hid (show Below W3.heap.size W3 w6 from B4.out.trans ((D4.out.trans (sp6.be.mono D4.out.size)).mono B4.out.size));have G6:=hid (show Below w9.drew.heap.size w9.drew w6 from sp6.be);have mixed:Tryz.prog.follows .mixedOrders=true:=by kernel_rfl
 have TS:(fun w':World=>w'.cell? ⟨CB,0,none⟩=some (.int .i64 d.n)/\w'.cell? ⟨CB,1,none⟩=some (.slice lp d.ls.length lc)/\w'.cell? ⟨CB,2,none⟩=some (.int .i64 d.t)/\w'.cell? ⟨CB,3,none⟩=some (.slice mp d.ms.length mc)/\w'.cell? ⟨CB,4,none⟩=some (.int .i64 d.cap)) w9.drew:=by
  obtain ⟨k0,k1,k2,k3,k4⟩:=CW.out _ (B4.out.trans (D4.out.mono B4.out.size));exact ⟨k0,k1,k2,k3,k4⟩
 have T6:(fun w':World=>w'.cell? ⟨CB,0,none⟩=some (.int .i64 d.n)/\w'.cell? ⟨CB,1,none⟩=some (.slice lp d.ls.length lc)/\w'.cell? ⟨CB,2,none⟩=some (.int .i64 d.t)/\w'.cell? ⟨CB,3,none⟩=some (.slice mp d.ms.length mc)/\w'.cell? ⟨CB,4,none⟩=some (.int .i64 d.cap)) w6:=by
  obtain ⟨k0,k1,k2,k3,k4⟩:=CW.out _ B6.out;exact ⟨k0,k1,k2,k3,k4⟩
 have K7:=xB4 d lp mp lc mc 4 2 p6 N4 c6 L4 HNL.out (by omega) HC.out.1 HC.out.2.1 HC.out.2.2.2 (fun _=>by rw [HC.out.2.2.1];omega) (fun s hs=>xN7 (HI4.out s hs)) w6 (IW.out _ B6.out) (HTW.out _ B6.out) HH6.out;clear hrun6 sp6 hh6;refine yO.begin (fun w':World=>w'.cell? ⟨CB,0,none⟩=some (.int .i64 d.n)/\w'.cell? ⟨CB,1,none⟩=some (.slice lp d.ls.length lc)/\w'.cell? ⟨CB,2,none⟩=some (.int .i64 d.t)/\w'.cell? ⟨CB,3,none⟩=some (.slice mp d.ms.length mc)/\w'.cell? ⟨CB,4,none⟩=some (.int .i64 d.cap)) 8 mixed ?_;refine yO.take 0 (cfV d (.slice lp d.ls.length lc) (.slice mp d.ms.length mc)) rfl (by kernel_rfl) (by kernel_rfl) (by kernel_rfl) (by kernel_rfl) (fun _ _ _ h=>h) TS (by rfl) (fun w' hS=>?_) ?_
 ·(obtain ⟨q0,q1,q2,q3,q4⟩:=hS;go_simp)
 (try simp only [Act.put,List.setIfInBounds_toArray,List.set_cons_zero,List.set_cons_succ])
 refine yO.take 1 (.slice p9 N4 c9) rfl (by kernel_rfl) (by kernel_rfl) (by kernel_rfl) (by kernel_rfl) (fun _ _ _ h=>h) TS (by rfl) (fun w' hS=>?_) ?_
 ·(go_simp)
 (try simp only [Act.put,List.setIfInBounds_toArray,List.set_cons_zero,List.set_cons_succ])
 refine yO.one 2 (by kernel_rfl) rfl (by rfl) (fun K hK=>?_);refine zC8 _ _ 28 rfl 28 rfl (.slice none 0 0) (.slice p9 N4 c9) (by simp [Act.eval]) (by simp [Act.eval]) RUN6.out ?_;refine hK.out _ _ (fun _=>T6) ?_;clear hK K
 (try simp only [Act.put,List.setIfInBounds_toArray,List.set_cons_zero,List.set_cons_succ])
 refine yO.one 3 (by kernel_rfl) rfl (by rfl) (fun K hK=>?_);go_simp;refine K7.mono ?_;rintro e w7 ⟨TB,R,rfl,hR,hx,ho,_,b7⟩;have B7:=hid (show Below W3.heap.size W3 w7 from B6.out.trans (b7.mono B6.out.size));have G7:=hid (show Below w9.heap.size w9 w7 from (D4.out.trans (G6.out.mono D4.out.size)).trans (b7.mono (zI D4.out.size G6.out.size)));have T7:(fun w':World=>w'.cell? ⟨CB,0,none⟩=some (.int .i64 d.n)/\w'.cell? ⟨CB,1,none⟩=some (.slice lp d.ls.length lc)/\w'.cell? ⟨CB,2,none⟩=some (.int .i64 d.t)/\w'.cell? ⟨CB,3,none⟩=some (.slice mp d.ms.length mc)/\w'.cell? ⟨CB,4,none⟩=some (.int .i64 d.cap)) w7:=by
  obtain ⟨k0,k1,k2,k3,k4⟩:=CW.out _ B7.out;exact ⟨k0,k1,k2,k3,k4⟩
 have HR:=hid hR;have HX:=hid hx;have HO:=hid ho;refine hK.out _ _ (fun _=>T7) ?_;clear hK K K7 hR hx ho b7 T6 TS RUN6 HH6
 (try simp only [Act.put,List.setIfInBounds_toArray,List.set_cons_zero,List.set_cons_succ])
 refine yO.one 4 (by kernel_rfl) rfl (by rfl) (fun K hK=>?_);go_simp;refine hK.out _ _ (fun _=>T7) ?_;clear hK K
 (try simp only [Act.put,List.setIfInBounds_toArray,List.set_cons_zero,List.set_cons_succ])
 refine yO.take 5 (.slice (some ⟨TB,0,none⟩) N4 N4) rfl (by kernel_rfl) (by kernel_rfl) (by kernel_rfl) (by kernel_rfl) (fun _ _ _ h=>h) T7 (by rfl) (fun w' hS=>?_) ?_
 ·(go_simp)
 (try simp only [Act.put,List.setIfInBounds_toArray,List.set_cons_zero,List.set_cons_succ])
 refine yO.take 6 (.int .i64 0) rfl (by kernel_rfl) (by kernel_rfl) (by kernel_rfl) (by kernel_rfl) (fun _ _ _ h=>h) T7 (by rfl) (fun w' hS=>?_) ?_
 ·(go_simp)
 (try simp only [Act.put,List.setIfInBounds_toArray,List.set_cons_zero,List.set_cons_succ])
 refine yO.take 7 (.slice (some ⟨TB,0,none⟩) N4 N4) rfl (by kernel_rfl) (by kernel_rfl) (by kernel_rfl) (by kernel_rfl) (fun _ _ _ h=>h) T7 (by rfl) (fun w' hS=>?_) ?_
 ·(go_simp)
 (try simp only [Act.put,List.setIfInBounds_toArray,List.set_cons_zero,List.set_cons_succ])
 refine yO.one 8 (by kernel_rfl) rfl (by rfl) (fun K hK=>?_);go_simp;refine hK.out _ _ (fun h=>absurd rfl h) ?_;clear hK K;refine yO.done (by kernel_rfl) ?_;clear T7;clear HO4 HP4 D4 B6 G6 mixed G7 B4 HI4 HNL IW CW HTW;obtain ⟨t,ht,tc,tv,tw⟩:=HTG.out;obtain ⟨r,hr,hcell⟩:=xO6 HX.out HO.out ht;obtain ⟨⟨code,who,⟨kc,ki,kf,kh,ku⟩,val,sent,frame,report⟩,ps,cs,pf,cf,pr,cr⟩:=r;dsimp only at hr;have e1:code=0:=by have:=congrArg Vi.Td.code hr;dsimp only [toTd] at this;rw [this,tc];rfl
 have e2:who=(bo:Int):=by have:=congrArg Vi.Td.who hr;dsimp only [toTd] at this;rw [this,tw]
 have e3:val=va:=by have:=congrArg Vi.Td.val hr;dsimp only [toTd] at this;rw [this,tv]
 subst e1;subst e2;subst e3;have c0:w7.cell? ⟨TB,Q*11,none⟩=some (.int .i64 0):=hcell 0 (by decide);have c1:w7.cell? ⟨TB,Q*11+1,none⟩=some (.int .i64 (bo:Int)):=hcell 1 (by decide);have c2:w7.cell? ⟨TB,Q*11+2,none⟩=some (.int .i64 kc):=hcell 2 (by decide);have c3:w7.cell? ⟨TB,Q*11+3,none⟩=some (.int .i64 ki):=hcell 3 (by decide);have c4:w7.cell? ⟨TB,Q*11+4,none⟩=some (.int .i64 kf):=hcell 4 (by decide);have c5:w7.cell? ⟨TB,Q*11+5,none⟩=some (.int .i64 kh):=hcell 5 (by decide);have c6:w7.cell? ⟨TB,Q*11+6,none⟩=some (.int .i64 ku):=hcell 6 (by decide);have c7:w7.cell? ⟨TB,Q*11+7,none⟩=some (.int .i64 val):=hcell 7 (by decide);have c8:w7.cell? ⟨TB,Q*11+8,none⟩=some (.slice ps sent.length cs):=hcell 8 (by decide);have c9:w7.cell? ⟨TB,Q*11+9,none⟩=some (.slice pf frame.length cf):=hcell 9 (by decide);have c10:w7.cell? ⟨TB,Q*11+10,none⟩=some (.slice pr report.length cr):=hcell 10 (by decide);generalize sent.length=sn at c8;generalize frame.length=fn at c9;generalize report.length=rn at c10;have hq1:(N4:Int)-1=(Q:Int):=by have:=HQN.out;omega
 have hq2:(Q:Int)<(N4:Int):=by have:=HQN.out;omega
 have hq3:¬ (Q:Int)<0:=by omega
 have hNN:((N4:Int) != (N4:Int))=false:=by simp
 have BF:=hid (BW.out _ B7.out);obtain ⟨W9,hW9⟩:∃ W9,W9=w7.alloc (.cells #[.int .i64 0,.int .i64 (bo:Int),.int .i64 kc,.int .i64 ki,.int .i64 kf,.int .i64 kh,.int .i64 ku,.int .i64 val,.slice ps sn cs,.slice pf fn cf,.slice pr rn cr] 42):=⟨_,rfl⟩;have G9:=hid (show Below w7.heap.size w7 W9 by rw [hW9];exact yN.alloc yM _);have s0:W9.cell? ⟨w7.heap.size,0,none⟩=some (.int .i64 0):=by rw [hW9,zM _ _ _ _ rfl];rfl
 have s1:W9.cell? ⟨w7.heap.size,1,none⟩=some (.int .i64 (bo:Int)):=by rw [hW9,zM _ _ _ _ rfl];rfl
 have s7:W9.cell? ⟨w7.heap.size,7,none⟩=some (.int .i64 val):=by rw [hW9,zM _ _ _ _ rfl];rfl
 clear hcell hr ht tc tv tw HX HO HTG HQN
 go_upto_region 13 with fail
 rw [<- hW9];clear hW9 c0 c1 c2 c3 c4 c5 c6 c7 c8 c9 c10 hq1 hq2 hq3 hNN;have KVq:=hid (fun m=>((KV (W9.drewN m)).mono (by rintro e w' ⟨rfl,rfl⟩;exact ⟨rfl,0,rfl⟩):Calls Tryz.prog 9 #[.int .i64 av,.int .i64 256] (W9.drewN m) fun e w'=>e=.returned (.int .i64 val)/\∃ q,w'=(W9.drewN m).drewN q));have hvv:(val==val)=true:=by simp
 have hbb:((bo:Int)==(bo:Int))=true:=by simp
 have FB:=hid (show Below w.heap.size w W9 from BF.out.trans (G9.out.mono BF.out.size));clear KV
 go_quiet ((go_at_call 9;exact Calls.quiet_of (KVq.out _)))
 go_wp2;go_ret
 exact ⟨rfl,⟨FB.out.os,FB.out.tape,FB.out.output,FB.out.size,FB.out.block⟩⟩
end Go.Proofs.YtleaknfjbbccgaaGreatDoor
