/-
 Laid together: what the law asks of these.
-/
import Derived.Deep.QuietTactic
import Derived.BigQuiet
import Derived.Deep.LoopGhost
import Derived.Deep.CutBlock
import Derived.Deep.RegionHeld3
import Derived.Test.YtleaknfjbbccgaaGreatDoorMb03
import Derived.Test.YtleaknfjbbccgaaGreatDoorMb10
import Derived.Test.YtleaknfjbbccgaaGreatDoorMb11
import Derived.Test.YtleaknfjbbccgaaGreatDoorMb15
import Derived.Test.YtleaknfjbbccgaaGreatDoorMb18
import Derived.Test.YtleaknfjbbccgaaGreatDoorMb19
namespace Go.Proofs.YtleaknfjbbccgaaGreatDoor
open Plain
set_option maxHeartbeats 16000000
set_option maxRecDepth 100000
namespace Plain
def Wob (W:Wo):Prop:=∀ k,Bo.Plain.Ok (W.bk k)
theorem Wob.start {c:Cf} (hc:mayC c=true):Wob (Wo.start c):=fun k=>by
 have hm:=xE hc;have h0:Bo.Plain.Ok (Bo.Plain.Bk.new c.n.toNat c.cap c.t.toNat):=Bo.Plain.Ok.new hm.2.2.2.2.2.2 (by omega);show Bo.Plain.Ok (bk0 c k);unfold bk0;split
 ·exact h0.step _
 ·exact h0
theorem Wob.step {c:Cf} {W:Wo} (h:Wob W) (s:Sp):Wob (stW c W s):=by
 unfold stW;split
 ·exact fun k=>(h k).round
 split
 ·unfold delW
  split
  ·exact h
  ·unfold comeW
   split
   ·intro k
    show Bo.Plain.Ok (if k<_ then _ else _);split
    ·exact (h k).step _
    ·exact h k
   split
   ·exact h
   ·exact h
 split
 ·unfold losW
  split<;>exact h
 split
 ·exact h
 split
 ·exact h
 ·intro k
  rw [(brW_keep c W s.who.toNat s).1];exact h k
def look3 (p:Se.Plain.Po):Int × Int × Nat:=(p.frm,p.«to»,p.data.length)
def asksZ (c:Cf):Nat:=(21*c.ms.length+7)/8
def shapeB (c:Cf) (i:Nat):List (Int × Int × Nat):=((i:Int),c.n,asksZ c) :: ((List.range c.n.toNat).filter fun j=>j≠i).map fun j:Nat=>((i:Int),(j:Int),34*comN c i j)
def shape (c:Cf):List (Int × Int × Nat):=(List.range c.n.toNat).flatMap (shapeB c)++(List.range c.n.toNat).map fun i:Nat=>(c.n,(i:Int),asksZ c)
theorem xP0 {m:Nat} {f:Nat->Int} (h:∀ k,k<m->0<=f k/\f k<=1048576):(Bo.Plain.mapN m f).all cntB=true:=by
 rw [zS];intro x hx;unfold Bo.Plain.mapN at hx;obtain ⟨k,hk,rfl⟩:=zY.1 hx;have:=h k (zX.1 hk);unfold cntB;exact (zA7 _ _ _).2 this
theorem zO9 {c:Cf} (hc:mayC c=true) {f:Nat->Int} (h:∀ k,k<c.ms.length->0<=f k/\f k<=1048576):(byI (asksB c (Bo.Plain.mapN c.ms.length f))).length=asksZ c:=by
 rw [yW];have hl:(Bo.Plain.mapN c.ms.length f).length=c.ms.length:=Bo.Plain.mapN_len _ _;have:=(yY5 hc hl (xP0 h)).2.2.2;rw [this,hl];rfl
theorem qA8 {c:Cf} (hc:mayC c=true) {Z:Int} {s:Nat->List En} (hs:Sok Z s) {i j:Nat} (hi:(i:Int)<c.n) (hj:(j:Int)<c.n):(byI (rumB c i j (stL s c.ls.length))).length=34*comN c i j:=by
 rw [yW];have hst:(stL s c.ls.length).length=c.ls.length:=by simp [stL]
 have hr:refE c i j=0:=by unfold refE;rw [if_pos hc,if_pos (by omega)]
 exact (zF8 hr hst
  (zS.2 fun l hl=>by obtain ⟨t,_,rfl⟩:=zY.1 hl;exact hs.mayL t)
  (fun l hl=>by
   obtain ⟨t,_,rfl⟩:=zY.1 hl;exact zS.2 fun e he=>by
    have:=hs.may t e he;unfold fitE;simp only [Bool.and_eq_true,decide_eq_true_eq];exact ⟨this.2.1.2,this.2.2.2⟩)).2.2.2
theorem zL6 {α β:Type} {l:List α} {f g:α->List β} (h:∀ a,a∈l->f a=g a):l.flatMap f=l.flatMap g:=by
 induction l with
 | nil=>rfl
 | cons a l ih=>rw [List.flatMap_cons,List.flatMap_cons,h a yC,ih fun b hb=>h b (yB _ hb)]
theorem zZ5 {α β γ:Type} (l:List α) (f:α->List β) (g:β->γ):(l.flatMap f).map g=l.flatMap fun a=>(f a).map g:=by
 induction l with
 | nil=>rfl
 | cons a l ih=>rw [List.flatMap_cons,List.map_append,List.flatMap_cons,ih]
theorem zC3 {c:Cf} {n m K:Nat} {W:Wo} (hc:mayC c=true) (hn:c.n=n) (h:Wok c n m K W) (hb:Wob W):(tickP c W).map look3=shape c:=by
 unfold tickP shape;rw [List.map_append,zZ5];congr 1
 ·refine zL6 fun i hi=>?_
  have hi:=zX.1 hi;unfold sends shapeB;rw [List.map_cons,List.map_map];congr 1
  ·show ((i:Int),c.n,(byI (asksB c (Bo.Plain.mapN c.ms.length (W.ask i)))).length)=_
   rw [zO9 hc fun k _=>h.ask i k]
  ·refine List.map_congr_left fun j hj=>?_
   have hj:=zX.1 (List.mem_filter.1 hj).1;show ((i:Int),(j:Int),(byI (rumB c i j (stL (W.st i) c.ls.length))).length)=_;rw [qA8 hc (h.st i) (by omega) (by omega)]
 ·rw [List.map_map]
  refine List.map_congr_left fun i hi=>?_;have hi:=zX.1 hi;show (c.n,(i:Int),(byI (asksB c (Bo.Plain.mapN c.ms.length fun k=>(Bo.Plain.roundB (W.bk k)).given.getD i 0))).length)=_;rw [zO9 hc fun k _=>by
   have o:=(hb k).round;have hi2:i<(Bo.Plain.roundB (W.bk k)).n:=by rw [Bo.Plain.roundB_n,h.bn];omega
   have a:=o.gi i hi2;have b:=o.wa i hi2;omega]
def ticksN (l:List Sp):Nat:=(l.filter fun s=>decide (s.kind=9)).length
theorem yE3 (l:List Sp) (s:Sp):ticksN (l++[s])=ticksN l+if s.kind=9 then 1 else 0:=by
 unfold ticksN;rw [List.filter_append,zD];by_cases h:s.kind=9
 ·simp [h]
 ·simp [h]
theorem yE4 (c:Cf) (W:Wo) (s:Sp):(stW c W s).off.posted=if s.kind=9 then W.off.posted++tickP c W else W.off.posted:=by
 unfold stW;by_cases h9:s.kind=9
 ·rw [if_pos h9,if_pos h9];rfl
 rw [if_neg h9,if_neg h9];split
 ·unfold delW
  split
  ·rfl
  ·unfold comeW
   split
   ·rfl
   split<;>rfl
 split
 ·unfold losW
  split<;>rfl
 split
 ·rfl
 split
 ·rfl
 ·rw [(brW_keep c W s.who.toNat s).2.1]
end Plain
namespace Plain
theorem zZ6 {c:Cf} (hn:c.n=4):(shape c).length=20:=by
 unfold shape shapeB;simp only [hn];rfl
theorem zD2 (l:List Sp) (i:Nat) (s:Sp) (hi:l[i]?=some s):ticksN (l.take (i+1))=ticksN (l.take i)+if s.kind=9 then 1 else 0:=by
 rw [List.take_add_one,hi];exact yE3 _ _
theorem xC8 (l:List Sp):ticksN l<=l.length:=List.length_filter_le _ _
end Plain
namespace Plain
theorem zL0 {c:Cf} {W:Wo} (hn:c.n=4) {i:Nat} (hi:i<4):(tickP c W)[16+i]?=some (givP c W i):=by
 have hA:((List.range c.n.toNat).flatMap (sends c W)).length=16:=by
  unfold sends;rw [hn];rfl
 unfold tickP;rw [zR (by omega),hA,show 16+i-16=i by omega,zU,yG (by rw [hn];exact hi)];rfl
end Plain
namespace Plain
def dstF (f:Nat):Nat:=if f%4-1<f/4 then f%4-1 else f%4
theorem zL1 {c:Cf} {W:Wo} (hn:c.n=4) {j:Nat} (hj:j<16):(tickP c W)[j]?=some (if j%4=0 then asksP c W (j/4) else rumP c W (j/4) (dstF j)):=by
 unfold tickP sends dstF;rw [hn];have:j=0\/j=1\/j=2\/j=3\/j=4\/j=5\/j=6\/j=7\/j=8\/j=9\/j=10\/j=11\/j=12\/j=13\/j=14\/j=15:=by omega
 rcases this with rfl|rfl|rfl|rfl|rfl|rfl|rfl|rfl|rfl|rfl|rfl|rfl|rfl|rfl|rfl|rfl<;>rfl
theorem zB0 (s:Int) {a:Nat} (ha:a<8):rdB s (a:Int)=reads s a:=by
 unfold rdB reads;rw [decide_eq_true (show (0:Int)<=(a:Int) by omega),decide_eq_true (show (a:Int)<8 by omega),zK];rfl
end Plain
open Go.RowKit Go.Shelf Go.Sort
theorem xP1 (z i:Nat) (hz:z<256):bits .and .i64 ((z:Int)/2^i) 1=if Plain.reads (z:Int) i=true then 1 else 0:=by
 have e:((z:Int)/2^i)=((z/2^i:Nat):Int):=by simp
 have h:z/2^i<=z:=Nat.div_le_self _ _;have e2:bits .and .i64 ((z/2^i:Nat):Int) 1=((z/2^i%2:Nat):Int):=by
  rw [show (1:Int)=((1:Nat):Int) from rfl,LabP.zP5 _ _ (by omega) (by decide),Nat.and_one_is_mod]
 rw [e,e2];unfold Plain.reads;rw [zK];by_cases hb:z/2^i%2=1
 ·rw [hb];simp
 ·have:z/2^i%2=0:=by omega
  rw [this];simp
theorem Plain.lab_nat {c:Cf} (hc:mayC c=true) (k:Nat):∃ z:Nat,c.ls.getD k 0=(z:Int)/\z<256:=by
 by_cases h:k<c.ls.length
 ·have hm:c.ls.getD k 0∈c.ls:=by rw [zA,zB h];exact zH _
  have:=lab_lt hc _ hm;exact ⟨(c.ls.getD k 0).toNat,by omega,by omega⟩
 ·exact ⟨0,by rw [zA,zN (by omega)];rfl,by omega⟩
theorem SpR.both {w0 w:World} {q:Option Addr} {N k:Nat} {L:List Sp} (h:SpR w0 w (.slice q N k) L):encSp.Holds w q L/\(q=none->k=0):=by
 obtain ⟨p',c',e',hh,hn'⟩:=h.form;injection e' with e1 _ e3;rw [e1,e3];exact ⟨hh,hn'⟩
namespace Plain
open Bo.Plain (Bk roundB caB mapN begB giveB amt)
def Vis (c:Cf) (x:Int) (k:Nat):Prop:=∃ i,i<4/\reads x i=true/\reads (labAt c.ls k) i=true
structure BkR (x:Int) (b d:Bk):Prop where
 n:b.n=d.n
 cap:b.cap=d.cap
 tk:b.ticks=d.ticks
 rd:b.rounds=d.rounds
 qu:b.quotas=d.quotas
 lw:b.wants.length=d.wants.length
 wa:∀ i,reads x i=true->b.wants.getD i 0=d.wants.getD i 0
 gi:∀ i,reads x i=true->b.given.getD i 0=d.given.getD i 0
 si:∀ i,reads x i=true->b.since.getD i 0=d.since.getD i 0
theorem zZ7 {n:Nat} {f g:Nat->Int} {i:Nat} (h:f i=g i):(mapN n f).getD i 0=(mapN n g).getD i 0:=by
 by_cases hi:i<n
 ·rw [Bo.Plain.mapN_at hi,Bo.Plain.mapN_at hi,h]
 ·rw [zA,zA,zN (by rw [Bo.Plain.mapN_len];omega),zN (by rw [Bo.Plain.mapN_len];omega)]
theorem BkR.beg {x:Int} {b d:Bk} (h:BkR x b d) (hr:b.rounds=0->b.reserve=d.reserve):BkR x (begB b) (begB d):=by
 unfold Bo.Plain.begB;by_cases e:b.rounds=0
 ·rw [if_pos e,if_pos (h.rd.symm.trans e)]
  exact ⟨h.n,h.cap,h.tk,h.rd,by show Bo.Plain.splitL _ _=Bo.Plain.splitL _ _;rw [hr e,h.n,h.cap],h.lw,h.wa,h.gi,fun i _=>by show (Bo.Plain.zeros b.n).getD i 0=(Bo.Plain.zeros d.n).getD i 0;rw [h.n]⟩
 ·rw [if_neg e,if_neg (fun z=>e (h.rd.trans z))]
  exact h
theorem BkR.give {x:Int} {b d:Bk} (h:BkR x b d):BkR x (giveB b) (giveB d):=by
 have ha:∀ i,reads x i=true->amt b i=amt d i:=fun i hi=>by
  unfold Bo.Plain.amt;rw [h.wa i hi,h.gi i hi,h.si i hi,h.qu]
 refine ⟨h.n,h.cap,h.tk,?_,h.qu,h.lw,h.wa,fun i hi=>?_,fun i hi=>?_⟩
 ·show (b.rounds+1)%b.ticks=(d.rounds+1)%d.ticks
  rw [h.rd,h.tk]
 ·show (mapN b.n fun i=>b.given.getD i 0+amt b i).getD i 0=(mapN d.n fun i=>d.given.getD i 0+amt d i).getD i 0
  rw [h.n];exact zZ7 (by rw [h.gi i hi,ha i hi])
 ·show (mapN b.n fun i=>b.since.getD i 0+amt b i).getD i 0=(mapN d.n fun i=>d.since.getD i 0+amt d i).getD i 0
  rw [h.n];exact zZ7 (by rw [h.si i hi,ha i hi])
theorem BkR.round {x:Int} {b d:Bk} (h:BkR x b d) (hr:b.rounds=0->b.reserve=d.reserve):BkR x (roundB b) (roundB d):=(h.beg hr).give
theorem qJ9 (b:Bk) (w y:Int):Bo.Plain.caE b ⟨2,w,y⟩=if (w<0\/(b.n:Int)<=w)\/(y<0\/1048576<y) then 2 else 0:=by
 unfold Bo.Plain.caE;dsimp only;rw [if_neg (by decide),if_neg (by decide),if_pos rfl]
theorem yJ4 (b:Bk) (w y:Int):caB b ⟨2,w,y⟩=if (w<0\/(b.n:Int)<=w)\/(y<0\/1048576<y) then b else { b with wants:=b.wants.set w.toNat (max (b.wants.getD w.toNat 0) y) }:=by
 unfold Bo.Plain.caB;rw [qJ9];dsimp only;by_cases h:(w<0\/(b.n:Int)<=w)\/(y<0\/1048576<y)
 ·rw [if_pos h,if_pos (by decide),if_pos h]
 ·rw [if_neg h,if_neg (by decide),if_neg (by decide),if_neg (by decide),if_neg h]
theorem zH6 (l:List Int) (w i:Nat) (v:Int):(l.set w v).getD i 0=if w=i/\w<l.length then v else l.getD i 0:=by
 rw [zA,List.getElem?_set];by_cases e:w=i
 ·subst e
  by_cases hl:w<l.length
  ·rw [if_pos rfl,if_pos hl,if_pos ⟨rfl,hl⟩];rfl
  ·rw [if_pos rfl,if_neg hl,if_neg (fun z=>hl z.2),zA,zN (by omega)]
 ·rw [if_neg e,if_neg (fun z=>e z.1),<- zA]
theorem BkR.want {x:Int} {b d:Bk} (h:BkR x b d) (w:Nat) {y z:Int} (hy:reads x w=true->y=z):BkR x (caB b ⟨2,(w:Int),y⟩) (caB d ⟨2,(w:Int),z⟩):=by
 rw [yJ4,yJ4,zK];by_cases hw:reads x w=true
 ·rw [hy hw]
  by_cases hq:((w:Int)<0\/(b.n:Int)<=(w:Int))\/(z<0\/1048576<z)
  ·rw [if_pos hq,if_pos (by rw [<- h.n];exact hq)]
   exact h
  ·rw [if_neg hq,if_neg (by rw [<- h.n];exact hq)]
   refine ⟨h.n,h.cap,h.tk,h.rd,h.qu,by show (b.wants.set _ _).length=(d.wants.set _ _).length;rw [List.length_set,List.length_set];exact h.lw,fun i hi=>?_,h.gi,h.si⟩;show (b.wants.set w _).getD i 0=(d.wants.set w _).getD i 0;rw [zH6,zH6,h.wa w hw,h.lw,h.wa i hi]
 ·have key:∀ (e:Bk) (v:Int),(if ((w:Int)<0\/(e.n:Int)<=(w:Int))\/(v<0\/1048576<v) then e else { e with wants:=e.wants.set w (max (e.wants.getD w 0) v) }).n=e.n/\(if ((w:Int)<0\/(e.n:Int)<=(w:Int))\/(v<0\/1048576<v) then e else { e with wants:=e.wants.set w (max (e.wants.getD w 0) v) })={ e with wants:=(if ((w:Int)<0\/(e.n:Int)<=(w:Int))\/(v<0\/1048576<v) then e.wants else e.wants.set w (max (e.wants.getD w 0) v)) }:=fun e v=>by
   split<;>exact ⟨rfl,rfl⟩
  rw [(key b y).2,(key d z).2];have len:∀ (e:Bk) (v:Int),(if ((w:Int)<0\/(e.n:Int)<=(w:Int))\/(v<0\/1048576<v) then e.wants else e.wants.set w (max (e.wants.getD w 0) v)).length=e.wants.length:=fun e v=>by
   split
   ·rfl
   ·rw [List.length_set]
  have get:∀ (e:Bk) (v:Int) (i:Nat),reads x i=true->(if ((w:Int)<0\/(e.n:Int)<=(w:Int))\/(v<0\/1048576<v) then e.wants else e.wants.set w (max (e.wants.getD w 0) v)).getD i 0=e.wants.getD i 0:=fun e v i hi=>by
   split
   ·rfl
   ·rw [zH6,if_neg (fun q=>hw (by rw [q.1];exact hi))]
  exact ⟨h.n,h.cap,h.tk,h.rd,h.qu,by show List.length _=List.length _;rw [len,len];exact h.lw,fun i hi=>by show List.getD _ _ _=List.getD _ _ _;rw [get b y i hi,get d z i hi];exact h.wa i hi,h.gi,h.si⟩
structure PoR (c:Cf) (x:Int) (p q:Se.Plain.Po):Prop where
 frm:p.frm=q.frm
 tow:p.«to»=q.«to»
 len:p.data.length=q.data.length
 ask:∀ i:Nat,p.frm=i->p.«to»=4->reads x i=true->p.data=q.data
 own:∀ i:Nat,i<4->p.«to»=i->reads x i=true->p.data=q.data
 hrd:∀ k,Vis c x k->(heaV c p.frm p.«to» (natL p.data)).getD k []=(heaV c q.frm q.«to» (natL q.data)).getD k []
theorem PoR.rfl (c:Cf) (x:Int) (p:Se.Plain.Po):PoR c x p p:=⟨Eq.refl _,Eq.refl _,Eq.refl _,fun _ _ _ _=>Eq.refl _,fun _ _ _ _=>Eq.refl _,fun _ _=>Eq.refl _⟩
structure Blr (c:Cf) (x:Int) (W V:Wo):Prop where
 ask:∀ i k,reads x i=true->W.ask i k=V.ask i k
 gai:∀ i k,reads x i=true->W.gain i k=V.gain i k
 rk:∀ i k,reads x i=true->W.rk i k=V.rk i k
 st:∀ i k,Vis c x k->W.st i k=V.st i k
 len:W.off.posted.length=V.off.posted.length
 po:∀ j,PoR c x (W.off.at j) (V.off.at j)
 op:W.off.opened=V.off.opened
 lo:W.lost=V.lost
 bk:∀ k,k<c.ms.length->BkR x (W.bk k) (V.bk k)
theorem BkR.rfl (x:Int) (b:Bk):BkR x b b:=⟨Eq.refl _,Eq.refl _,Eq.refl _,Eq.refl _,Eq.refl _,Eq.refl _,fun _ _=>Eq.refl _,fun _ _=>Eq.refl _,fun _ _=>Eq.refl _⟩
theorem Blr.rfl (c:Cf) (x:Int) (W:Wo):Blr c x W W:=⟨fun _ _ _=>Eq.refl _,fun _ _ _=>Eq.refl _,fun _ _ _=>Eq.refl _,fun _ _ _=>Eq.refl _,Eq.refl _,fun _=>PoR.rfl c x _,Eq.refl _,Eq.refl _,fun _ _=>BkR.rfl x _⟩
structure TlR (x:Int) (t u:Tl):Prop where
 who:t.who=u.who
 sent:t.sent=u.sent
 rep:t.report=u.report
 own:rdB x t.who=true->t=u
theorem TlR.rfl (x:Int) (t:Tl):TlR x t t:=⟨Eq.refl _,Eq.refl _,Eq.refl _,fun _=>Eq.refl _⟩
theorem Blr.find {c:Cf} {x:Int} {W V:Wo} (h:Blr c x W V) (i:Int):findE W i=findE V i:=by
 have e1:Se.Plain.seenE W.off i=Se.Plain.seenE V.off i:=by unfold Se.Plain.seenE;rw [h.len]
 have e2:Se.Plain.oldO W.off i.toNat=Se.Plain.oldO V.off i.toNat:=by
  unfold Se.Plain.oldO;rw [h.op];refine congrArg (List.any V.off.opened) (funext fun k=>?_);rw [(h.po k).frm,(h.po k).tow,(h.po i.toNat).frm,(h.po i.toNat).tow]
 unfold findE;rw [e1,e2,h.lo]
theorem BkR.symm {x:Int} {b d:Bk} (h:BkR x b d):BkR x d b:=⟨h.n.symm,h.cap.symm,h.tk.symm,h.rd.symm,h.qu.symm,h.lw.symm,fun i hi=>(h.wa i hi).symm,fun i hi=>(h.gi i hi).symm,fun i hi=>(h.si i hi).symm⟩
theorem BkR.trans {x:Int} {b d e:Bk} (h:BkR x b d) (g:BkR x d e):BkR x b e:=⟨h.n.trans g.n,h.cap.trans g.cap,h.tk.trans g.tk,h.rd.trans g.rd,h.qu.trans g.qu,h.lw.trans g.lw,fun i hi=>(h.wa i hi).trans (g.wa i hi),fun i hi=>(h.gi i hi).trans (g.gi i hi),fun i hi=>(h.si i hi).trans (g.si i hi)⟩
theorem BkR.other {x:Int} (b:Bk) {w:Nat} (hw:¬ reads x w=true) (y:Int):BkR x b (caB b ⟨2,(w:Int),y⟩):=by
 rw [yJ4,zK];split
 ·exact BkR.rfl x b
 ·exact ⟨Eq.refl _,Eq.refl _,Eq.refl _,Eq.refl _,Eq.refl _,by show _=(b.wants.set w _).length;rw [List.length_set],fun i hi=>by
   show _=(b.wants.set w _).getD i 0;rw [zH6,if_neg (fun q=>hw (by rw [q.1];exact hi))],fun _ _=>Eq.refl _,fun _ _=>Eq.refl _⟩
def PoB (p:Se.Plain.Po):Prop:=(∃ i:Nat,i<4/\p.frm=i/\p.«to»=4)\/(∃ i:Nat,i<4/\p.frm=4/\p.«to»=i)\/∃ i j:Nat,i<4/\j<4/\p.frm=i/\p.«to»=j
theorem Blr.come {c:Cf} {x:Int} {W V:Wo} (hn:c.n=4) (h:Blr c x W V) {p q:Se.Plain.Po} (hp:PoR c x p q) (hb:PoB p):Blr c x (comeW c W p) (comeW c V q):=by
 unfold comeW;rw [<- hp.tow,<- hp.frm,hn];rcases hb with ⟨i,hi,hf,ht⟩|⟨i,hi,hf,ht⟩|⟨i,j,hi,hj,hf,ht⟩
 ·rw [if_pos ht,if_pos ht,hf]
  refine ⟨h.ask,h.gai,h.rk,h.st,h.len,h.po,h.op,h.lo,fun k hk=>?_⟩;by_cases hx:reads x i=true
  ·rw [hp.ask i hf ht hx]
   show BkR x (if _ then _ else _) (if _ then _ else _);split
   ·exact (h.bk k hk).want i fun _=>Eq.refl _
   ·exact h.bk k hk
  ·have a1:∀ (b:Bk) (l:List Int),BkR x b (if k<l.length then caB b ⟨2,(i:Int),l.getD k 0⟩ else b):=fun b l=>by
    split
    ·exact BkR.other b hx _
    ·exact BkR.rfl x b
   exact (a1 (W.bk k) _).symm.trans ((h.bk k hk).trans (a1 (V.bk k) _))
 ·have h4:¬ p.«to»=4:=by omega
  rw [if_neg h4,if_neg h4,if_pos hf,if_pos hf,ht,zK];by_cases hx:reads x i=true
  ·rw [hp.own i hi ht hx]
   refine ⟨h.ask,fun a k ha=>?_,fun a k ha=>?_,h.st,h.len,h.po,h.op,h.lo,h.bk⟩
   ·show (if _ then _ else _:Int)=if _ then _ else _
    rw [h.gai a k ha]
   ·show (if _ then _ else _:Hd.Plain.Rk)=if _ then _ else _
    rw [h.gai a k ha,h.rk a k ha]
  ·refine ⟨h.ask,fun a k ha=>?_,fun a k ha=>?_,h.st,h.len,h.po,h.op,h.lo,h.bk⟩
   ·have hne:a≠i:=fun e=>hx (by rw [<- e];exact ha)
    show (if _ then _ else _:Int)=if _ then _ else _;rw [if_neg (fun z=>hne z.1),if_neg (fun z=>hne z.1)];exact h.gai a k ha
   ·have hne:a≠i:=fun e=>hx (by rw [<- e];exact ha)
    show (if _ then _ else _:Hd.Plain.Rk)=if _ then _ else _;rw [if_neg (fun z=>hne z.1),if_neg (fun z=>hne z.1)];exact h.rk a k ha
 ·have h4:¬ p.«to»=4:=by omega
  have h5:¬ p.frm=4:=by omega
  rw [if_neg h4,if_neg h4,if_neg h5,if_neg h5];refine ⟨h.ask,h.gai,h.rk,fun a k hk=>?_,h.len,h.po,h.op,h.lo,h.bk⟩;have ht:=hp.hrd k hk;rw [<- hp.tow,<- hp.frm] at ht;show (if a=p.«to».toNat then heaK c.ls p.frm.toNat p.«to».toNat (W.st p.«to».toNat) (fun j=>(heaV c p.frm p.«to» (natL p.data)).getD j []) c.ls.length else W.st a) k=(if a=p.«to».toNat then heaK c.ls p.frm.toNat p.«to».toNat (V.st p.«to».toNat) (fun j=>(heaV c p.frm p.«to» (natL q.data)).getD j []) c.ls.length else V.st a) k;split
  ·unfold heaK
   dsimp only;rw [ht,h.st _ k hk]
  ·exact h.st a k hk
theorem Blr.opened {c:Cf} {x:Int} {W V:Wo} (h:Blr c x W V) (i:Nat):Blr c x { W with off:={ W.off with opened:=W.off.opened++[i] } } { V with off:={ V.off with opened:=V.off.opened++[i] } } :=
 ⟨h.ask,h.gai,h.rk,h.st,h.len,h.po,by show W.off.opened++[i]=V.off.opened++[i];rw [h.op],h.lo,h.bk⟩
theorem qA9 {x:Int} (hx:0<=x/\x<16):rdB x 4=false:=by
 have h:x=0\/x=1\/x=2\/x=3\/x=4\/x=5\/x=6\/x=7\/x=8\/x=9\/x=10\/x=11\/x=12\/x=13\/x=14\/x=15:=by omega
 rcases h with h|h|h|h|h|h|h|h|h|h|h|h|h|h|h|h<;>subst h<;>decide
theorem Blr.del {c:Cf} {x:Int} {W V:Wo} (hn:c.n=4) (hx16:0<=x/\x<16) (h:Blr c x W V) (hp:∀ j,j<W.off.posted.length->PoB (W.off.at j)) (i:Int):Blr c x (delW c W i) (delW c V i)/\TlR x (delT W i) (delT V i):=by
 unfold delW delT;rw [<- h.find i];by_cases hf:findE W i≠0
 ·rw [if_pos hf,if_pos hf,if_pos hf,if_pos hf]
  refine ⟨h,?_⟩;have e:(Se.Plain.seenV W.off i).tow=(Se.Plain.seenV V.off i).tow:=by
   unfold Se.Plain.seenV;rw [h.len];split
   ·exact Eq.refl _
   ·exact (h.po i.toNat).tow
  rw [e];exact TlR.rfl x _
 ·rw [if_neg hf,if_neg hf,if_neg hf,if_neg hf]
  have hr:0<=i/\i<(W.off.posted.length:Int):=by
   have h0:findE W i=0:=Classical.not_not.1 hf;have hs:=(zK6 h0).1;unfold Se.Plain.seenE at hs;by_cases z:i<0\/(W.off.posted.length:Int)<=i
   ·rw [if_pos z] at hs;cases hs
   ·omega
  have hP:=hp i.toNat (by omega);have hpo:=h.po i.toNat;refine ⟨(h.opened i.toNat).come hn hpo hP,⟨hpo.tow,Eq.refl _,Eq.refl _,fun hx=>?_⟩⟩;change rdB x (W.off.at i.toNat).«to»=true at hx;have hd:(W.off.at i.toNat).data=(V.off.at i.toNat).data:=by
   rcases hP with ⟨a,ha,hfa,hta⟩|⟨a,ha,hfa,hta⟩|⟨a,b,ha,hb,hfa,hta⟩
   ·rw [hta,qA9 hx16] at hx;cases hx
   ·rw [hta,zB0 x (by omega)] at hx
    exact hpo.own a ha hta hx
   ·rw [hta,zB0 x (by omega)] at hx
    exact hpo.own b hb hta hx
  rw [hd,hpo.tow]
theorem yE5 (st tt:List (List En)) (js:List Nat) (h:∀ j∈js,st.getD j []=tt.getD j []):flatS st js=flatS tt js:=by
 induction js with
 | nil=>exact Eq.refl _
 | cons x js ih =>
  show slotsL _++flatS st js=slotsL _++flatS tt js;rw [h x yC,ih (fun j hj=>h j (yB _ hj))]
theorem xC9 (s:Nat->List En) {m k:Nat} (hk:k<m):(stL s m).getD k []=s k:=by
 unfold stL;rw [zA,zU,yG hk];exact Eq.refl _
theorem zZ8 {c:Cf} (hc:mayC c=true) (hn:c.n=4) {Z:Int} {s:Nat->List En} (hs:Sok Z s) {i j:Nat} (hi:i<4) (hj:j<4) :
  rumE c j i (stL s c.ls.length)=0/\∀ k,(heaV c j i (rumB c j i (stL s c.ls.length))).getD k []=if k<c.ls.length/\both (c.ls.getD k 0) j i=true then s k else []:=by
 have hst:(stL s c.ls.length).length=c.ls.length:=by simp [stL]
 have hr:refE c j i=0:=by unfold refE;rw [if_pos hc,if_pos (by omega)]
 obtain ⟨h1,_,h3,_⟩:=zF8 hr hst
  (zS.2 fun l hl=>by obtain ⟨t,_,e⟩:=zY.1 hl;rw [<- e];exact hs.mayL t)
  (fun l hl=>by
   obtain ⟨t,_,e⟩:=zY.1 hl;rw [<- e];exact zS.2 fun e he=>by
    have:=hs.may t e he;unfold fitE;simp only [Bool.and_eq_true,decide_eq_true_eq];exact ⟨this.2.1.2,this.2.2.2⟩)
 refine ⟨h1,fun k=>?_⟩;rw [h3];by_cases hk:k<c.ls.length
 ·rw [zA,zU,yG hk]
  dsimp only [Option.map_some,Option.getD_some];by_cases hb:both (c.ls.getD k 0) j i=true
  ·rw [if_pos hb,if_pos ⟨hk,hb⟩,xC9 s hk]
  ·rw [if_neg hb,if_neg (fun z=>hb z.2)]
 ·rw [zA,zN (by simp;omega),if_neg (fun z=>hk z.1)]
  exact Eq.refl _
theorem zT4 {c:Cf} (hc:mayC c=true) (hn:c.n=4) {a b:Int} (h:a=4\/b=4) (bl:List Nat):heaV c a b bl=[]:=by
 have:refE c a b≠0:=by
  unfold refE;rw [if_pos hc,if_neg (by omega)];decide
 exact (yX7 this).2
theorem xD0 {c:Cf} {x:Int} {m K:Nat} {W V:Wo} (hc:mayC c=true) (hn:c.n=4) (hW:Wok c 4 m K W) (hV:Wok c 4 m K V) (h:Blr c x W V) {a i:Nat} (ha:a<4) (hi:i<4):PoR c x (rumP c W a i) (rumP c V a i):=by
 have f1:=zZ8 hc hn (hW.st a) hi ha;have f2:=zZ8 hc hn (hV.st a) hi ha;have hvis:∀ k,reads x i=true->both (c.ls.getD k 0) a i=true->Vis c x k:=fun k hx hb=>by
  unfold both at hb;rw [zB0 _ (by omega),zB0 _ (by omega),zQ] at hb;exact ⟨i,hi,hx,hb.2⟩
 refine ⟨Eq.refl _,Eq.refl _,?_,fun j _ h4=>?_,fun j hj hji hx=>?_,fun k hk=>?_⟩
 ·show (byI (rumB c a i (stL (W.st a) c.ls.length))).length=(byI (rumB c a i (stL (V.st a) c.ls.length))).length
  rw [qA8 hc (hW.st a) (by omega) (by omega),qA8 hc (hV.st a) (by omega) (by omega)]
 ·exfalso
  have:((i:Nat):Int)=4:=h4;omega
 ·have e:i=j:=by have:((i:Nat):Int)=(j:Int):=hji;omega
  subst e;show byI (rumB c a i (stL (W.st a) c.ls.length))=byI (rumB c a i (stL (V.st a) c.ls.length));unfold rumB;rw [f1.1,f2.1,if_pos (Eq.refl _),if_pos (Eq.refl _)];rw [yE5 (stL (W.st a) c.ls.length) (stL (V.st a) c.ls.length) _ fun j hj=>?_];unfold comL at hj;obtain ⟨hj1,hj2⟩:=List.mem_filter.1 hj;have hjl:=zX.1 hj1;rw [xC9 _ hjl,xC9 _ hjl];exact h.st a j (hvis j hx hj2)
 ·show (heaV c a i (natL (byI (rumB c a i (stL (W.st a) c.ls.length))))).getD k []=(heaV c a i (natL (byI (rumB c a i (stL (V.st a) c.ls.length))))).getD k []
  rw [zC1,zC1,f1.2 k,f2.2 k,h.st a k hk]
theorem yO5 {c:Cf} {x:Int} {m K:Nat} {W V:Wo} (hc:mayC c=true) (hn:c.n=4) (hW:Wok c 4 m K W) (hV:Wok c 4 m K V) (h:Blr c x W V) (a:Nat):PoR c x (asksP c W a) (asksP c V a):=by
 refine ⟨Eq.refl _,Eq.refl _,?_,fun j hf _ hx=>?_,fun j hj hji=>?_,fun k _=>?_⟩
 ·show (byI (asksB c (mapN c.ms.length (W.ask a)))).length=(byI (asksB c (mapN c.ms.length (V.ask a)))).length
  rw [zO9 hc fun k _=>hW.ask a k,zO9 hc fun k _=>hV.ask a k]
 ·have e:a=j:=by have:((a:Nat):Int)=(j:Int):=hf;omega
  subst e;show byI (asksB c (mapN c.ms.length (W.ask a)))=byI (asksB c (mapN c.ms.length (V.ask a)));rw [show W.ask a=V.ask a from funext fun k=>h.ask a k hx]
 ·exfalso
  have:c.n=(j:Int):=hji;omega
 ·show (heaV c a c.n _).getD k []=(heaV c a c.n _).getD k []
  rw [zT4 hc hn (.inr hn),zT4 hc hn (.inr hn)]
theorem xD1 {c:Cf} {x:Int} {W V:Wo} (hc:mayC c=true) (hn:c.n=4) (hW:Wob W) (hV:Wob V) (hWn:∀ k,(W.bk k).n=4) (hVn:∀ k,(V.bk k).n=4) (h:∀ k,k<c.ms.length->BkR x (roundB (W.bk k)) (roundB (V.bk k))) {i:Nat} (hi:i<4):PoR c x (givP c W i) (givP c V i):=by
 have bd:∀ (U:Wo),Wob U->(∀ k,(U.bk k).n=4)->∀ k,0<=(roundB (U.bk k)).given.getD i 0/\(roundB (U.bk k)).given.getD i 0<=1048576:=fun U hU hn k=>by
  have o:=(hU k).round;have hi2:i<(roundB (U.bk k)).n:=by rw [Bo.Plain.roundB_n,hn];omega
  have a:=o.gi i hi2;have b:=o.wa i hi2;omega
 refine ⟨Eq.refl _,Eq.refl _,?_,fun j _ h4=>?_,fun j hj hji hx=>?_,fun k _=>?_⟩
 ·show (byI (asksB c (mapN c.ms.length fun k=>(roundB (W.bk k)).given.getD i 0))).length=(byI (asksB c (mapN c.ms.length fun k=>(roundB (V.bk k)).given.getD i 0))).length
  rw [zO9 hc fun k _=>bd W hW hWn k,zO9 hc fun k _=>bd V hV hVn k]
 ·exfalso
  have:((i:Nat):Int)=4:=h4;omega
 ·have e:i=j:=by have:((i:Nat):Int)=(j:Int):=hji;omega
  subst e;show byI (asksB c (mapN c.ms.length fun k=>(roundB (W.bk k)).given.getD i 0))=byI (asksB c (mapN c.ms.length fun k=>(roundB (V.bk k)).given.getD i 0));refine congrArg (fun l=>byI (asksB c l)) ?_;unfold Bo.Plain.mapN;exact List.map_congr_left fun k hk=>(h k (zX.1 hk)).gi i hx
 ·show (heaV c c.n i _).getD k []=(heaV c c.n i _).getD k []
  rw [zT4 hc hn (.inl hn),zT4 hc hn (.inl hn)]
end Plain
namespace Plain
open Bo.Plain (Bk roundB caB mapN begB giveB amt)
theorem yE6 {f g:Nat->Int}:∀ m,(∀ k,k<m->(0<=f k ↔ 0<=g k))->((mapN m f).filter fun x=>decide (0<=x))=((mapN m g).filter fun x=>decide (0<=x))->∀ k,k<m->0<=f k->f k=g k:=by
 intro m;induction m with
 | zero=>intro _ _ k hk;omega
 | succ m ih =>
  intro hm he k hk h0;rw [Bo.Plain.mapN_succ,Bo.Plain.mapN_succ,List.filter_append,List.filter_append] at he;have hmm:=hm m (by omega);by_cases hf:0<=f m
  ·have hg:=hmm.1 hf
   have e1:[f m].filter (fun x=>decide (0<=x))=[f m]:=by simp [hf]
   have e2:[g m].filter (fun x=>decide (0<=x))=[g m]:=by simp [hg]
   rw [e1,e2] at he;obtain ⟨h1,h2⟩:=List.append_inj' he rfl;by_cases hkm:k=m
   ·subst hkm
    exact List.head_eq_of_cons_eq h2
   ·exact ih (fun k hk=>hm k (by omega)) h1 k (by omega) h0
  ·have hg:¬ 0<=g m:=fun z=>hf (hmm.2 z)
   have e1:[f m].filter (fun x=>decide (0<=x))=[]:=by simp [hf]
   have e2:[g m].filter (fun x=>decide (0<=x))=[]:=by simp [hg]
   rw [e1,e2,List.append_nil,List.append_nil] at he;by_cases hkm:k=m
   ·subst hkm;exact absurd h0 hf
   ·exact ih (fun k hk=>hm k (by omega)) he k (by omega) h0
theorem zZ9:∀ (l u:List Se.Plain.Po) (b:Nat),l.map look3=u.map look3->evsF b l=evsF b u:=by
 intro l;induction l with
 | nil =>
  intro u b h;cases u with
  | nil=>rfl
  | cons q u=>simp at h
 | cons p l ih =>
  intro u b h;cases u with
  | nil=>simp at h
  | cons q u =>
   rw [List.map_cons,List.map_cons] at h;have h1:=List.head_eq_of_cons_eq h;have h2:=List.tail_eq_of_cons_eq h;unfold look3 at h1;have a1:p.frm=q.frm:=congrArg (·.1) h1;have a2:p.«to»=q.«to»:=congrArg (·.2.1) h1;have a3:p.data.length=q.data.length:=congrArg (·.2.2) h1;unfold evsF;rw [a1,a2,a3,ih u (b+1) h2]
theorem zP0 {c:Cf} {m K:Nat} {W:Wo} (hc:mayC c=true) (hn:c.n=4) (hw:Wok c 4 m K W) (hb:Wob W) {j:Nat} (hj:20<=j):(tickP c W)[j]?=none:=by
 have h20:(tickP c W).length=20:=by rw [<- zZ6 hn,<- zC3 hc hn hw hb,zL]
 exact zN (by omega)
theorem Blr.tick {c:Cf} {x:Int} {m K:Nat} {W V:Wo} (hc:mayC c=true) (hn:c.n=4) (hW:Wok c 4 m K W) (hV:Wok c 4 m K V) (bW:Wob W) (bV:Wob V) (h:Blr c x W V) (hrep:tickR c W=tickR c V):Blr c x (tickW c W) (tickW c V)/\TlR x (tickT c W) (tickT c V):=by
 have rep:∀ (U:Wo),Wob U->∀ k,0<=Bo.Plain.reportB (U.bk k) ↔ (U.bk k).rounds=0:=fun U hU k=>by
  unfold Bo.Plain.reportB;split
  next e=>exact ⟨fun _=>e,fun _=>(hU k).re⟩
  next e=>exact ⟨fun z=>absurd z (by decide),fun z=>absurd z e⟩
 have hres:∀ k,k<c.ms.length->(W.bk k).rounds=0->(W.bk k).reserve=(V.bk k).reserve:=fun k hk h0=>by
  have h1:=yE6 (f:=fun k=>Bo.Plain.reportB (W.bk k)) (g:=fun k=>Bo.Plain.reportB (V.bk k)) c.ms.length (fun k hk=>by rw [rep W bW,rep V bV,(h.bk k hk).rd]) hrep k hk ((rep W bW k).2 h0);unfold Bo.Plain.reportB at h1;rw [if_pos h0,if_pos ((h.bk k hk).rd.symm.trans h0)] at h1;exact h1
 have hbk:∀ k,k<c.ms.length->BkR x (roundB (W.bk k)) (roundB (V.bk k)):=fun k hk=>(h.bk k hk).round (hres k hk);have hsh:(tickP c W).map look3=(tickP c V).map look3:=by rw [zC3 hc hn hW bW,zC3 hc hn hV bV]
 refine ⟨⟨h.ask,h.gai,fun i k hi=>?_,h.st,?_,fun j=>?_,h.op,h.lo,hbk⟩,⟨Eq.refl _,?_,hrep,fun _=>?_⟩⟩
 ·show Hd.Plain.stepR (W.rk i k) ⟨7,0,0,0⟩=Hd.Plain.stepR (V.rk i k) ⟨7,0,0,0⟩
  rw [h.rk i k hi]
 ·show (W.off.posted++tickP c W).length=(V.off.posted++tickP c V).length
  have:=congrArg List.length hsh;rw [zL,zL] at this;rw [zD,zD,h.len,this]
 ·by_cases hj:j<W.off.posted.length
  ·have e:∀ U:Wo,j<U.off.posted.length->(tickW c U).off.at j=U.off.at j:=fun U hU=>by
    show (U.off.posted++tickP c U).getD j default=U.off.posted.getD j default;rw [zA,zW hU,<- zA]
   rw [e W hj,e V (by rw [<- h.len];exact hj)];exact h.po j
  ·have e:∀ (U:Wo) p,¬ j<U.off.posted.length->(tickP c U)[j-U.off.posted.length]?=p->(tickW c U).off.at j=p.getD default:=fun U p hU hp=>by
    show (U.off.posted++tickP c U).getD j default=_;rw [zA,zR (by omega),hp]
   have hjV:¬ j<V.off.posted.length:=by rw [<- h.len];exact hj
   by_cases h16:j-W.off.posted.length<16
   ·have h16V:j-V.off.posted.length<16:=by rw [<- h.len];exact h16
    rw [e W _ hj (zL1 hn h16),e V _ hjV (zL1 hn h16V),<- h.len];obtain ⟨f,hf⟩:∃ f,f=j-W.off.posted.length:=⟨_,Eq.refl _⟩;rw [<- hf] at h16 ⊢;show PoR c x (if f%4=0 then _ else _) (if f%4=0 then _ else _);split
    ·exact yO5 hc hn hW hV h _
    ·exact xD0 hc hn hW hV h (by omega) (by unfold dstF;split<;>omega)
   ·by_cases h20:j-W.off.posted.length<20
    ·obtain ⟨a,ha⟩:=Nat.exists_eq_add_of_le (show 16<=j-W.off.posted.length by omega)
     rw [e W (some (givP c W a)) hj (by rw [ha];exact zL0 hn (by omega)),e V (some (givP c V a)) hjV (by rw [<- h.len,ha];exact zL0 hn (by omega))];exact xD1 hc hn bW bV hW.bn hV.bn hbk (by omega)
    ·rw [e W none hj (zP0 hc hn hW bW (by omega)),e V none hjV (zP0 hc hn hV bV (by rw [<- h.len];omega))]
     exact PoR.rfl c x _
 ·show evsF W.off.posted.length (tickP c W)=evsF V.off.posted.length (tickP c V)
  rw [h.len,zZ9 _ _ _ hsh]
 ·show ({ tlE 0 with sent:=evsF W.off.posted.length (tickP c W),report:=tickR c W }:Tl)={ tlE 0 with sent:=evsF V.off.posted.length (tickP c V),report:=tickR c V }
  rw [h.len,zZ9 _ _ _ hsh,hrep]
def Wpb (W:Wo):Prop:=∀ j,j<W.off.posted.length->PoB (W.off.at j)
theorem Wpb.step {c:Cf} {m K:Nat} {W:Wo} (hc:mayC c=true) (hn:c.n=4) (hw:Wok c 4 m K W) (hb:Wob W) (h:Wpb W) (s:Sp):Wpb (stW c W s):=fun j hj=>by
 have hp:=yE4 c W s;by_cases h9:s.kind=9
 ·rw [if_pos h9] at hp
  unfold Se.Plain.Off.at
  rw [hp] at hj ⊢;by_cases hl:j<W.off.posted.length
  ·rw [zA,zW hl,<- zA]
   exact h j hl
  ·have h20:(tickP c W).length=20:=by rw [<- zZ6 hn,<- zC3 hc hn hw hb,zL]
   rw [zD,h20] at hj;rw [zA,zR (by omega)];obtain ⟨f,hf⟩:∃ f,f=j-W.off.posted.length:=⟨_,rfl⟩;rw [<- hf];by_cases h16:f<16
   ·rw [zL1 hn h16]
    show PoB (if f%4=0 then _ else _);split
    ·exact .inl ⟨f/4,by omega,rfl,hn⟩
    ·exact .inr (.inr ⟨f/4,dstF f,by omega,by unfold dstF;split<;>omega,rfl,rfl⟩)
   ·obtain ⟨a,ha⟩:=Nat.exists_eq_add_of_le (show 16<=f by omega)
    rw [ha,zL0 hn (by omega)];exact .inr (.inl ⟨a,by omega,hn,rfl⟩)
 ·rw [if_neg h9] at hp
  unfold Se.Plain.Off.at
  rw [hp] at hj ⊢;exact h j hj
theorem zT5 (c:Cf) (W:Wo) (i:Nat) (s:Sp):(brW c W i s).gain=W.gain/\(brW c W i s).off=W.off/\(brW c W i s).lost=W.lost/\(brW c W i s).bk=W.bk/\(∀ a k,a≠i->(brW c W i s).ask a k=W.ask a k/\(brW c W i s).rk a k=W.rk a k)/\(s.kind≠7->(brW c W i s).st=W.st):=by
 unfold brW;by_cases h7:s.kind=7
 ·rw [if_pos h7]
  exact ⟨rfl,rfl,rfl,rfl,fun _ _ _=>⟨rfl,rfl⟩,fun z=>absurd h7 z⟩
 rw [if_neg h7];split
 ·exact ⟨rfl,rfl,rfl,rfl,fun _ _ _=>⟨rfl,rfl⟩,fun _=>rfl⟩
 split
 ·exact ⟨rfl,rfl,rfl,rfl,fun _ _ _=>⟨rfl,rfl⟩,fun _=>rfl⟩
 split
 ·split
  ·exact ⟨rfl,rfl,rfl,rfl,fun a k ha=>⟨zG6 _ _ _ _ (fun z=>ha z.1),rfl⟩,fun _=>rfl⟩
  ·exact ⟨rfl,rfl,rfl,rfl,fun _ _ _=>⟨rfl,rfl⟩,fun _=>rfl⟩
 ·exact ⟨rfl,rfl,rfl,rfl,fun a k ha=>⟨rfl,zG6 _ _ _ _ (fun z=>ha z.1)⟩,fun _=>rfl⟩
theorem qB0 (c:Cf) (W:Wo) (i:Nat) (s:Sp) (h7:s.kind=7) (a k:Nat):(brW c W i s).st a k=if a=i/\wrE c.ls i s.label s.key s.count=0/\k=s.label.toNat then put (W.st i k) (entW (W.st i k) s.key s.count i false) else W.st a k:=by
 unfold brW;rw [if_pos h7];show (if a=i then wrS c.ls i (W.st i) s.label s.key s.count else W.st a) k=_;by_cases e:a=i
 ·rw [if_pos e]
  unfold wrS;by_cases e0:wrE c.ls i s.label s.key s.count=0
  ·rw [if_neg (fun z=>z e0)]
   show (if k=s.label.toNat then _ else W.st i k)=_;by_cases el:k=s.label.toNat
   ·rw [if_pos el,if_pos ⟨e,e0,el⟩,el]
   ·rw [if_neg el,if_neg (fun z=>el z.2.2),e]
  ·rw [if_pos e0,if_neg (fun z=>e0 z.2.1),e]
 ·rw [if_neg e,if_neg (fun z=>e z.1)]
theorem zL2 (c:Cf) (W:Wo) (i:Nat) (s:Sp):(brT c W i s).sent=[]/\(brT c W i s).report=[]:=by
 unfold brT
 repeat' split
 all_goals exact ⟨rfl,rfl⟩
theorem xD2 {c:Cf} {x:Int} {W V:Wo} (h:Blr c x W V) {i:Nat} (hi:i<4) (hx:reads x i=true) (s:Sp):brT c W i s=brT c V i s/\∀ k,(brW c W i s).ask i k=(brW c V i s).ask i k/\(brW c W i s).rk i k=(brW c V i s).rk i k:=by
 constructor
 ·unfold brT
  rw [show W.ask i s.item.toNat=V.ask i s.item.toNat from h.ask i _ hx,show W.rk i s.item.toNat=V.rk i s.item.toNat from h.rk i _ hx];have hval:valE c.ls i (W.st i) s.label s.key=valE c.ls i (V.st i) s.label s.key/\valV c.ls i (W.st i) s.label s.key=valV c.ls i (V.st i) s.label s.key:=by
   by_cases hr:rfS c.ls i s.label s.key=0
   ·have hv:Vis c x s.label.toNat:=by
     unfold rfS at hr;by_cases e2:(s.label<0\/(c.ls.length:Int)<=s.label)\/(s.key<0\/7<s.key)
     ·rw [if_pos e2] at hr;cases hr
     ·rw [if_neg e2] at hr
      by_cases e3:reads (labAt c.ls s.label.toNat) i=false
      ·rw [if_pos e3] at hr;cases hr
      ·exact ⟨i,hi,hx,by simpa using e3⟩
    unfold valV valE;rw [h.st i _ hv];exact ⟨rfl,rfl⟩
   ·have eW:∀ S,valE c.ls i S s.label s.key=rfS c.ls i s.label s.key:=fun S=>by unfold valE;rw [if_pos hr]
    have vW:∀ S,valV c.ls i S s.label s.key=0:=fun S=>by unfold valV;rw [eW,if_pos hr]
    exact ⟨by rw [eW,eW],by rw [vW,vW]⟩
  rw [hval.1,hval.2]
 ·intro k
  unfold brW;rw [show W.ask i s.item.toNat=V.ask i s.item.toNat from h.ask i _ hx,show W.rk i s.item.toNat=V.rk i s.item.toNat from h.rk i _ hx];split
  ·exact ⟨h.ask i k hx,h.rk i k hx⟩
  split
  ·exact ⟨h.ask i k hx,h.rk i k hx⟩
  split
  ·exact ⟨h.ask i k hx,h.rk i k hx⟩
  split
  ·split
   ·refine ⟨?_,h.rk i k hx⟩
    show up2 _ _ _ _ i k=up2 _ _ _ _ i k;unfold up2;rw [h.ask i k hx]
   ·exact ⟨h.ask i k hx,h.rk i k hx⟩
  ·refine ⟨h.ask i k hx,?_⟩
   show up2 _ _ _ _ i k=up2 _ _ _ _ i k;unfold up2;rw [h.rk i k hx]
def Alk (c:Cf) (x:Int) (i:Nat) (s t:Sp):Prop:=s=t\/(¬ reads x i=true/\((s.kind≠7/\t.kind≠7)\/(s.label=t.label/\¬ Vis c x s.label.toNat)))
theorem Blr.br {c:Cf} {x:Int} {W V:Wo} (h:Blr c x W V) {i:Nat} (hi:i<4) {s t:Sp} (ha:Alk c x i s t):Blr c x (brW c W i s) (brW c V i t):=by
 obtain ⟨w1,w2,w3,w4,w5,w6⟩:=zT5 c W i s;obtain ⟨v1,v2,v3,v4,v5,v6⟩:=zT5 c V i t;have hak:∀ a k,reads x a=true->(brW c W i s).ask a k=(brW c V i t).ask a k/\(brW c W i s).rk a k=(brW c V i t).rk a k:=fun a k hx=>by
  by_cases e:a=i
  ·subst e
   rcases ha with ha|ha
   ·rw [<- ha]
    exact (xD2 h hi hx s).2 k
   ·exact absurd hx ha.1
  ·rw [(w5 a k e).1,(w5 a k e).2,(v5 a k e).1,(v5 a k e).2]
   exact ⟨h.ask a k hx,h.rk a k hx⟩
 refine ⟨fun a k hx=>(hak a k hx).1,fun a k hx=>by rw [w1,v1];exact h.gai a k hx,fun a k hx=>(hak a k hx).2,fun a k hk=>?_,by rw [w2,v2];exact h.len,fun j=>by rw [w2,v2];exact h.po j,by rw [w2,v2];exact h.op,by rw [w3,v3];exact h.lo,fun k hk=>by rw [w4,v4];exact h.bk k hk⟩;have out:∀ (U:Wo) (u:Sp),(u.kind=7->¬ Vis c x u.label.toNat)->(brW c U i u).st a k=U.st a k:=fun U u hu=>by
  by_cases h7:u.kind=7
  ·rw [qB0 c U i u h7,if_neg (fun z=>hu h7 (by rw [<- z.2.2];exact hk))]
  ·rw [(zT5 c U i u).2.2.2.2.2 h7]
 rcases ha with ha|⟨_,⟨h1,h2⟩|⟨h1,h2⟩⟩
 ·rw [<- ha]
  by_cases h7:s.kind=7
  ·rw [qB0 c W i s h7,qB0 c V i s h7,h.st i k hk,h.st a k hk]
  ·rw [w6 h7,ha,v6 (by rw [<- ha];exact h7)]
   exact h.st a k hk
 ·rw [w6 h1,v6 h2]
  exact h.st a k hk
 ·rw [out W s (fun _=>h2),out V t (fun _=>by rw [<- h1];exact h2)]
  exact h.st a k hk
end Plain
namespace Plain
def Pair (c:Cf) (x:Int) (s t:Sp):Prop:=s=t\/∃ w:Nat,w<4/\s.who=w/\t.who=w/\¬ reads x w=true/\(1<=s.kind/\s.kind<=8)/\(1<=t.kind/\t.kind<=8)/\((s.kind≠7/\t.kind≠7)\/(s.label=t.label/\¬ Vis c x s.label.toNat))
theorem yA0 {c:Cf} (hn:c.n=4) (W:Wo) {s:Sp} {w:Nat} (hw:w<4) (hs:s.who=w) (hk:1<=s.kind/\s.kind<=8):stW c W s=brW c W w s/\stT c W s={ brT c W w s with who:=(w:Int) }:=by
 have h1:¬ (s.who<0\/c.n<=s.who):=by omega
 unfold stW stT;rw [if_neg (by omega),if_neg (by omega),if_neg (by omega),if_neg (by omega),if_neg h1,if_neg (by omega),if_neg (by omega),if_neg (by omega),if_neg (by omega),if_neg h1,hs,zK];exact ⟨Eq.refl _,Eq.refl _⟩
theorem Blr.branch {c:Cf} {x:Int} {W V:Wo} (hn:c.n=4) (h:Blr c x W V) {w:Nat} (hw:w<4) {s t:Sp} (hs:s.who=w) (ht:t.who=w) (ks:1<=s.kind/\s.kind<=8) (kt:1<=t.kind/\t.kind<=8) (ha:Alk c x w s t):Blr c x (stW c W s) (stW c V t)/\TlR x (stT c W s) (stT c V t):=by
 obtain ⟨a1,a2⟩:=yA0 hn W hw hs ks;obtain ⟨b1,b2⟩:=yA0 hn V hw ht kt;rw [a1,a2,b1,b2];refine ⟨h.br hw ha,⟨Eq.refl _,?_,?_,fun hx=>?_⟩⟩
 ·show (brT c W w s).sent=(brT c V w t).sent
  rw [(zL2 c W w s).1,(zL2 c V w t).1]
 ·show (brT c W w s).report=(brT c V w t).report
  rw [(zL2 c W w s).2,(zL2 c V w t).2]
 ·change rdB x (w:Int)=true at hx
  rw [zB0 x (by omega)] at hx;rcases ha with ha|ha
  ·rw [<- ha,(xD2 h hw hx s).1]
  ·exact absurd hx ha.1
theorem Blr.step {c:Cf} {x:Int} {m K:Nat} {W V:Wo} (hc:mayC c=true) (hn:c.n=4) (hx16:0<=x/\x<16) (hW:Wok c 4 m K W) (hV:Wok c 4 m K V) (bW:Wob W) (bV:Wob V) (pW:Wpb W) (h:Blr c x W V) {s t:Sp} (hs:Pair c x s t) (hrep:(stT c W s).report=(stT c V t).report):Blr c x (stW c W s) (stW c V t)/\TlR x (stT c W s) (stT c V t):=by
 rcases hs with hs|⟨w,hw,h1,h2,hnx,k1,k2,hd⟩
 ·subst hs
  by_cases h9:s.kind=9
  ·have e1:∀ U,stW c U s=tickW c U/\stT c U s=tickT c U:=fun U=>by unfold stW stT;rw [if_pos h9,if_pos h9];exact ⟨Eq.refl _,Eq.refl _⟩
   rw [(e1 W).2,(e1 V).2] at hrep;rw [(e1 W).1,(e1 V).1,(e1 W).2,(e1 V).2];exact h.tick hc hn hW hV bW bV hrep
  by_cases h10:s.kind=10
  ·have e1:∀ U,stW c U s=delW c U s.id/\stT c U s=delT U s.id:=fun U=>by unfold stW stT;rw [if_neg h9,if_pos h10,if_neg h9,if_pos h10];exact ⟨Eq.refl _,Eq.refl _⟩
   rw [(e1 W).1,(e1 V).1,(e1 W).2,(e1 V).2];exact h.del hn hx16 pW s.id
  by_cases h11:s.kind=11
  ·have e1:∀ U,stW c U s=losW U s.id/\stT c U s=tlE (findE U s.id):=fun U=>by unfold stW stT;rw [if_neg h9,if_neg h10,if_pos h11,if_neg h9,if_neg h10,if_pos h11];exact ⟨Eq.refl _,Eq.refl _⟩
   rw [(e1 W).1,(e1 V).1,(e1 W).2,(e1 V).2,<- h.find];refine ⟨?_,TlR.rfl x _⟩;unfold losW;rw [<- h.find];split
   ·exact h
   ·exact ⟨h.ask,h.gai,h.rk,h.st,h.len,h.po,h.op,by show W.lost++[s.id]=V.lost++[s.id];rw [h.lo],h.bk⟩
  by_cases hk:s.kind<1\/8<s.kind
  ·have e1:∀ U,stW c U s=U/\stT c U s=tlE 3:=fun U=>by unfold stW stT;rw [if_neg h9,if_neg h10,if_neg h11,if_pos hk,if_neg h9,if_neg h10,if_neg h11,if_pos hk];exact ⟨Eq.refl _,Eq.refl _⟩
   rw [(e1 W).1,(e1 V).1,(e1 W).2,(e1 V).2];exact ⟨h,TlR.rfl x _⟩
  by_cases hw:s.who<0\/c.n<=s.who
  ·have e1:∀ U,stW c U s=U/\stT c U s=tlE 2:=fun U=>by unfold stW stT;rw [if_neg h9,if_neg h10,if_neg h11,if_neg hk,if_pos hw,if_neg h9,if_neg h10,if_neg h11,if_neg hk,if_pos hw];exact ⟨Eq.refl _,Eq.refl _⟩
   rw [(e1 W).1,(e1 V).1,(e1 W).2,(e1 V).2];exact ⟨h,TlR.rfl x _⟩
  have hw2:s.who=(s.who.toNat:Nat):=by omega
  exact h.branch hn (w:=s.who.toNat) (by omega) hw2 hw2 (by omega) (by omega) (.inl (Eq.refl _))
 ·exact h.branch hn hw h1 h2 k1 k2 (.inr ⟨hnx,hd⟩)
inductive Pairs (c:Cf) (x:Int):List Sp->List Sp->Prop
 | nil:Pairs c x [] []
 | cons {s t:Sp} {l u:List Sp}:Pair c x s t->Pairs c x l u->Pairs c x (s :: l) (t :: u)
inductive Tells (x:Int):List Tl->List Tl->Prop
 | nil:Tells x [] []
 | cons {s t:Tl} {l u:List Tl}:TlR x s t->Tells x l u->Tells x (s :: l) (t :: u)
theorem xD3 {c:Cf} {x:Int} {m:Nat} (hc:mayC c=true) (hn:c.n=4) (hm:c.ms.length=m) (hx16:0<=x/\x<16) {l u:List Sp} (hp:Pairs c x l u):∀ (K:Nat) (W V:Wo),K+l.length<=300->Wok c 4 m K W->Wok c 4 m K V->Wob W->Wob V->Wpb W->Blr c x W V->(tlsF c W l).map (·.report)=(tlsF c V u).map (·.report)->Tells x (tlsF c W l) (tlsF c V u)/\Blr c x (runW c W l) (runW c V u):=by
 induction hp with
 | nil=>exact fun K W V _ _ _ _ _ _ h _=>⟨.nil,h⟩
 | @cons s t l u hst _ ih =>
  intro K W V hK hW hV bW bV pW h hr;have hr1:(stT c W s).report=(stT c V t).report:=List.head_eq_of_cons_eq hr;have hr2:=List.tail_eq_of_cons_eq hr;obtain ⟨h1,h2⟩:=h.step hc hn hx16 hW hV bW bV pW hst hr1;have hl:K+1+l.length<=300:=by rw [List.length_cons] at hK;omega
  have hK1:K<300:=by omega
  have r:=ih (K+1) (stW c W s) (stW c V t) hl (hW.step hc hn hm (by omega) s) (hV.step hc hn hm (by omega) t) (bW.step s) (bV.step t) (pW.step hc hn hW bW s) h1 hr2;exact ⟨.cons h2 r.1,r.2⟩
end Plain
namespace Plain
open Bo.Plain (Bk roundB caB mapN begB giveB)
structure Rnd (c:Cf) (j:Nat) (W:Wo):Prop where
 rd:∀ k,k<c.ms.length->(W.bk k).rounds=j%c.t.toNat
 tk:∀ k,k<c.ms.length->(W.bk k).ticks=c.t.toNat
 re:j=0->∀ k,k<c.ms.length->(W.bk k).reserve=(bk0 c k).reserve
theorem xP2 (b:Bk) (w y:Int):(caB b ⟨2,w,y⟩).rounds=b.rounds/\(caB b ⟨2,w,y⟩).ticks=b.ticks/\(caB b ⟨2,w,y⟩).reserve=b.reserve:=by
 rw [yJ4];split<;>exact ⟨rfl,rfl,rfl⟩
theorem Rnd.start {c:Cf}:Rnd c 0 (Wo.start c):=by
 have e:∀ k,(bk0 c k).rounds=0/\(bk0 c k).ticks=c.t.toNat:=fun k=>by
  unfold bk0;split
  ·unfold Bo.Plain.caB
   split
   ·exact ⟨rfl,rfl⟩
   ·dsimp only
    rw [if_neg (by decide),if_pos rfl];exact ⟨rfl,rfl⟩
  ·exact ⟨rfl,rfl⟩
 exact ⟨fun k _=>by rw [Nat.zero_mod];exact (e k).1,fun k _=>(e k).2,fun _ _ _=>rfl⟩
theorem Rnd.come {c:Cf} {j:Nat} {W:Wo} (h:Rnd c j W) (p:Se.Plain.Po):Rnd c j (comeW c W p):=by
 unfold comeW;split
 ·have e:∀ k,((wantW W p.frm (askV c (natL p.data))).bk k).rounds=(W.bk k).rounds/\((wantW W p.frm (askV c (natL p.data))).bk k).ticks=(W.bk k).ticks/\((wantW W p.frm (askV c (natL p.data))).bk k).reserve=(W.bk k).reserve:=fun k=>by
   show (if _ then _ else _:Bk).rounds=_/\(if _ then _ else _:Bk).ticks=_/\(if _ then _ else _:Bk).reserve=_;split
   ·exact xP2 _ _ _
   ·exact ⟨rfl,rfl,rfl⟩
  exact ⟨fun k hk=>(e k).1.trans (h.rd k hk),fun k hk=>(e k).2.1.trans (h.tk k hk),fun h0 k hk=>(e k).2.2.trans (h.re h0 k hk)⟩
 split
 ·exact ⟨h.rd,h.tk,h.re⟩
 ·exact ⟨h.rd,h.tk,h.re⟩
theorem Rnd.step {c:Cf} {j:Nat} {W:Wo} (h:Rnd c j W) (s:Sp):Rnd c (if s.kind=9 then j+1 else j) (stW c W s):=by
 unfold stW;by_cases h9:s.kind=9
 ·rw [if_pos h9,if_pos h9]
  have e:∀ b:Bk,(roundB b).rounds=(b.rounds+1)%b.ticks/\(roundB b).ticks=b.ticks:=fun b=>by
   unfold Bo.Plain.roundB Bo.Plain.begB;split<;>exact ⟨rfl,rfl⟩
  refine ⟨fun k hk=>?_,fun k hk=>?_,fun z=>by omega⟩
  ·show (roundB (W.bk k)).rounds=_
   rw [(e _).1,h.rd k hk,h.tk k hk,Nat.mod_add_mod]
  ·show (roundB (W.bk k)).ticks=_
   rw [(e _).2];exact h.tk k hk
 rw [if_neg h9,if_neg h9];split
 ·unfold delW
  split
  ·exact h
  ·refine Rnd.come (W:={ W with off:={ W.off with opened:=W.off.opened++[s.id.toNat] } }) ?_ _
   exact ⟨h.rd,h.tk,h.re⟩
 split
 ·unfold losW
  split
  ·exact h
  ·exact ⟨h.rd,h.tk,h.re⟩
 split
 ·exact h
 split
 ·exact h
 have e:=(zT5 c W s.who.toNat s).2.2.2.1;exact ⟨fun k hk=>by rw [e];exact h.rd k hk,fun k hk=>by rw [e];exact h.tk k hk,fun h0 k hk=>by rw [e];exact h.re h0 k hk⟩
theorem Rnd.same {c:Cf} {j:Nat} {W V:Wo} (hW:Rnd c j W) (hV:Rnd c j V) (hj:j<c.t.toNat):tickR c W=tickR c V:=by
 unfold tickR;refine congrArg (List.filter _) ?_;unfold Bo.Plain.mapN;refine List.map_congr_left fun k hk=>?_;have hk:=zX.1 hk;unfold Bo.Plain.reportB;rw [hW.rd k hk,hV.rd k hk,Nat.mod_eq_of_lt hj];by_cases h0:j=0
 ·rw [if_pos h0,if_pos h0,hW.re h0 k hk,hV.re h0 k hk]
 ·rw [if_neg h0,if_neg h0]
theorem yJ5 {c:Cf} (W:Wo) {s:Sp} (h:s.kind≠9):(stT c W s).report=[]:=by
 unfold stT;rw [if_neg h];split
 ·unfold delT
  split<;>rfl
 split
 ·rfl
 split
 ·rfl
 split
 ·rfl
 ·exact (zL2 c W s.who.toNat s).2
theorem yO6 {c:Cf} {x:Int} {l u:List Sp} (hp:Pairs c x l u):∀ (j:Nat) (W V:Wo),Rnd c j W->Rnd c j V->j+ticksN l<=c.t.toNat->(tlsF c W l).map (·.report)=(tlsF c V u).map (·.report):=by
 induction hp with
 | nil=>exact fun _ _ _ _ _ _=>rfl
 | @cons s t l u hst _ ih =>
  intro j W V hW hV hj;have hk:s.kind=9 ↔ t.kind=9:=by
   rcases hst with e|⟨w,_,_,_,_,k1,k2,_⟩
   ·rw [e]
   ·omega
  have ht:ticksN (s :: l)=(if s.kind=9 then 1 else 0)+ticksN l:=by
   unfold ticksN;rw [List.filter_cons];by_cases h9:s.kind=9
   ·rw [if_pos (decide_eq_true h9),if_pos h9,List.length_cons];omega
   ·rw [if_neg (by simpa using h9),if_neg h9];omega
  rw [ht] at hj;show (stT c W s).report :: _=(stT c V t).report :: _;by_cases h9:s.kind=9
  ·have t9:=hk.1 h9
   rw [if_pos h9] at hj;have e1:∀ (U:Wo) (r:Sp),r.kind=9->(stT c U r).report=tickR c U:=fun U r hr=>by unfold stT;rw [if_pos hr];rfl
   have s1:=hW.step s;have s2:=hV.step t;rw [if_pos h9] at s1;rw [if_pos t9] at s2;rw [e1 W s h9,e1 V t t9,hW.same hV (by omega)];exact congrArg _ (ih (j+1) _ _ s1 s2 (by omega))
  ·have t9:¬ t.kind=9:=fun z=>h9 (hk.2 z)
   rw [if_neg h9] at hj;have s1:=hW.step s;have s2:=hV.step t;rw [if_neg h9] at s1;rw [if_neg t9] at s2;rw [yJ5 W h9,yJ5 V t9];exact congrArg _ (ih j _ _ s1 s2 (by omega))
end Plain
namespace Plain
def privB (c:Cf) (x:Int) (s:Sp):Bool :=
 !(reads x s.who.toNat)&&(decide (1<=s.kind/\s.kind<=6) || (decide (s.kind=7\/s.kind=8)&&decide ((labAt c.ls s.label.toNat).toNat &&& x.toNat=0)))
def otS (s o:Sp):Sp :=
 if s.kind=7\/s.kind=8 then ⟨7+o.kind%2,s.who,s.item,o.count,s.life,s.id,s.label,o.key⟩
 else ⟨1+o.kind%6,s.who,o.item%3,o.count,o.life,o.id,s.label,s.key⟩
def otP (c:Cf) (x:Int) (s o:Sp):Sp:=if privB c x s then otS s o else s
def otL (c:Cf) (x:Int) (l os:List Sp) (k:Nat):List Sp:=(List.range l.length).map fun i=>if i<k/\i<os.length then otP c x (l.getD i default) (os.getD i default) else l.getD i default
theorem zL3 (c:Cf) (x:Int) (l os:List Sp) (k:Nat):(otL c x l os k).length=l.length:=by simp [otL]
theorem zP1 (c:Cf) (x:Int) (l os:List Sp) (k:Nat) {i:Nat} (h:i<l.length):(otL c x l os k).getD i default=if i<k/\i<os.length then otP c x (l.getD i default) (os.getD i default) else l.getD i default:=by
 unfold otL;rw [zA,zU,yG h];rfl
theorem xP3 {c:Cf} {x:Int}:∀ {l u:List Sp},l.length=u.length->(∀ i,i<l.length->Pair c x (l.getD i default) (u.getD i default))->Pairs c x l u:=by
 intro l;induction l with
 | nil =>
  intro u h _;cases u with
  | nil=>exact .nil
  | cons t u=>simp at h
 | cons s l ih =>
  intro u h hp;cases u with
  | nil=>simp at h
  | cons t u =>
   refine .cons (hp 0 (by simp)) (ih (by simpa using h) fun i hi=>?_);have:=hp (i+1) (by simpa using hi);simpa using this
theorem qB1 {c:Cf} {x:Int} {k:Nat} (h:(labAt c.ls k).toNat &&& x.toNat=0):¬ Vis c x k:=by
 rintro ⟨i,_,h1,h2⟩;unfold reads at h1 h2;have a:∀ z:Nat,(z/2^i%2==1)=z.testBit i:=fun z=>by
  rw [Nat.testBit_eq_decide_div_mod_eq];rfl
 rw [a] at h1 h2;have:=Nat.testBit_and (labAt c.ls k).toNat x.toNat i;rw [h,h1,h2] at this;simp at this
theorem xP4 {c:Cf} {x:Int} {s o:Sp} (hs:SOk s):Pair c x s (otP c x s o):=by
 unfold otP;cases hp:privB c x s with
 | false=>exact .inl (by simp)
 | true =>
  rw [if_pos rfl];unfold privB at hp;simp only [Bool.and_eq_true,Bool.or_eq_true,decide_eq_true_eq,Bool.not_eq_true'] at hp;obtain ⟨hr,hk⟩:=hp;obtain ⟨_,hw,hl,_⟩:=hs;refine .inr ⟨s.who.toNat,by omega,by omega,?_,by rw [hr];decide,by omega,?_,?_⟩
  ·unfold otS;split<;>(show s.who=_;omega)
  ·unfold otS
   split
   ·show 1<=7+o.kind%2/\7+o.kind%2<=8;omega
   ·show 1<=1+o.kind%6/\1+o.kind%6<=8;omega
  ·rcases hk with hk|⟨hk,hv⟩
   ·have h7:¬ (s.kind=7\/s.kind=8):=by omega
    unfold otS;rw [if_neg h7];exact .inl ⟨by omega,by show 1+o.kind%6≠7;omega⟩
   ·unfold otS
    rw [if_pos hk];exact .inr ⟨rfl,qB1 hv⟩
theorem yA1 {c:Cf} {x:Int} {l os:List Sp} (hl:∀ s,s∈l->SOk s) (k:Nat):Pairs c x l (otL c x l os k):=by
 refine xP3 (zL3 c x l os k).symm fun i hi=>?_;rw [zP1 c x l os k hi];split
 ·exact xP4 (hl _ (by rw [zA,zB hi];exact zH _))
 ·exact .inl rfl
theorem xD4 {c:Cf} {x:Int} {l os:List Sp} {k:Nat} (h:l.length<=k\/os.length<=k):∀ i,i<l.length->(otL c x l os k).getD i default=(otL c x l os l.length).getD i default:=by
 intro i hi;rw [zP1 c x l os k hi,zP1 c x l os _ hi];by_cases h1:i<os.length
 ·rw [if_pos ⟨by omega,h1⟩,if_pos ⟨hi,h1⟩]
 ·rw [if_neg (fun x=>h1 x.2),if_neg (fun x=>h1 x.2)]
theorem xR7 {c:Cf} {x:Int} {l os:List Sp} {k:Nat} (hl:∀ s,s∈l->In64 s.id) (ho:∀ s,s∈os->In64 s.id):∀ s,s∈otL c x l os k->In64 s.id:=by
 intro s hs;obtain ⟨i,hi,rfl⟩:=zY.1 hs;have hi:=zX.1 hi;have h1:=hl (l.getD i default) (by rw [zA,zB hi];exact zH _);split
 next h =>
  have h2:=ho (os.getD i default) (by rw [zA,zB h.2];exact zH _);unfold otP otS;split
  ·split
   ·exact h1
   ·exact h2
  ·exact h1
 next=>exact h1
end Plain
def BS (B:Nat) (W:World) (pb:Option Addr) (N:Nat) (bs:List Sp):Prop :=
 0<N->∃ g M f,pb=some ⟨g,0,none⟩/\B<=g/\W.rowIs g 32 M f/\N*8<=M/\∀ j q,j<N->q<8->f (j*8+q)=spF (bs.getD j default) q
theorem yJ6 (l:List Sp) {j q:Nat} (h:j<l.length) (hq:q<8):(encSp.vals l)[j*8+q]?=some (spF (l.getD j default) q):=by
 have:=encSp.vals_at default l j q h hq;rw [show j*encSp.n+q=j*8+q from rfl] at this;rw [this];have:q=0\/q=1\/q=2\/q=3\/q=4\/q=5\/q=6\/q=7:=by omega
 rcases this with rfl|rfl|rfl|rfl|rfl|rfl|rfl|rfl<;>rfl
theorem SpR.bs {w W:World} {p:Option Addr} {c:Nat} {ts:List Sp} {N:Nat} (h:SpR w W (.slice p N c) ts) (hN:N=ts.length):BS w.heap.size W p N ts:=fun h0=>by
 subst hN;rcases h.ow.2 with ⟨_,h1⟩|⟨g,cap,cur,e,hg,hb,h1,h2,h3,h4⟩
 ·omega
 ·rw [Value.slice.injEq] at e
  obtain ⟨rfl,_,rfl⟩:=e;refine ⟨g,cur.size,fun j=>cur.getD j undef,rfl,hg,⟨cur,hb,rfl,fun i hi=>by simp [hi]⟩,by omega,fun j q hj hq=>?_⟩;have h5:(cur.toList.take (ts.length*8))[j*8+q]?=some (spF (ts.getD j default) q):=by rw [h4];exact yJ6 ts hj hq
  rw [List.getElem?_take,if_pos (by omega),Array.getElem?_toList] at h5;show cur.getD (j*8+q) undef=_;rw [Array.getD_eq_getD_getElem?,h5];rfl
theorem BS.holds {B:Nat} {W:World} {pb:Option Addr} {N:Nat} {bs cs:List Sp} (h:BS B W pb N bs) (hl:cs.length=N) (he:∀ i,i<N->bs.getD i default=cs.getD i default):encSp.Holds W pb cs:=fun h0=>by
 obtain ⟨g,M,f,rfl,_,hr,hM,hf⟩:=h (by omega);refine ⟨g,0,rfl,hr.lt,fun j u hu=>?_⟩;have hj:j<cs.length*8:=by
  rcases Nat.lt_or_ge j (cs.length*8) with h1|h1
  ·exact h1
  ·rw [zN (by rw [encSp.vals_len];exact h1)] at hu;cases hu
 have hd:j/8<cs.length:=by omega
 have hm:j%8<8:=Nat.mod_lt _ (by decide);have e:=yJ6 cs hd hm;rw [show j/8*8+j%8=j by omega] at e;rw [e] at hu;injection hu with hu;rw [Nat.zero_add,hr.cell (i:=j) (by omega),<- hu];have:=hf (j/8) (j%8) (by omega) hm;rw [show j/8*8+j%8=j by omega] at this;rw [this,he (j/8) (by omega)]
theorem yO7 {x:Int} {T U:List Tl} (h:Tells x T U):Vi.viewL x (T.map toTd)=Vi.viewL x (U.map toTd):=by
 induction h with
 | nil=>rfl
 | @cons s t l u hst _ ih =>
  have e:Vi.seeT (rdB x (toTd s).who) (toTd s)=Vi.seeT (rdB x (toTd t).who) (toTd t):=by
   show Vi.seeT (rdB x s.who) (toTd s)=Vi.seeT (rdB x t.who) (toTd t);cases hr:rdB x s.who with
   | true =>
    have:=hst.own hr;subst this;rw [hr]
   | false =>
    rw [<- hst.who,hr];show (⟨0,s.who,⟨0,0,0,0,0⟩,0,s.sent.map toEv,[],s.report⟩:Vi.Td)=⟨0,t.who,⟨0,0,0,0,0⟩,0,t.sent.map toEv,[],t.report⟩;rw [hst.who,hst.sent,hst.rep]
  unfold Vi.viewL at ih ⊢;rw [List.map_cons,List.map_cons,List.map_cons,List.map_cons,e,ih]
theorem drewT (w:World) (a b:Nat):(w.drewN a).drewN b=w.drewN (a+b):=by unfold World.drewN;simp [Nat.add_assoc]
theorem qB2 {l u:List Int} {k:Nat} (h:l.getD k 0≠u.getD k 0):l≠u:=fun e=>h (by rw [e])
theorem xD5 {l u:List Int} {n:Nat} (h1:l.length=n) (h2:u.length=n) (h:∀ j,j<n->l.getD j 0=u.getD j 0):l=u:=by
 refine List.ext_getElem (by omega) fun i a b=>?_;have:=h i (by omega);rwa [zA,zB a,zA,zB b] at this
theorem tsI_c (p1 p2:Option Addr) (n1 n2 c1 c2:Nat) (l1 l2:List Int) (e1:l1.length=n1) (e2:l2.length=n2) (hl:n1<=9223372036854775807) (w:World) (h1:Vi.encI.Holds w p1 l1) (h2:Vi.encI.Holds w p2 l2) :
  Calls Tryz.prog 32 #[.slice p1 n1 c1,.slice p2 n2 c2] w fun e w'=>e=.returned (.bool (decide (l1=l2)))/\∃ q,w'=w.drewN q:=by
 by_cases hne:n1=n2
 ·subst hne
  by_cases h0:0<n1
  ·obtain ⟨b1,o1,rfl,_,g1⟩:=h1.at 0 (by omega)
   obtain ⟨b2,o2,rfl,_,g2⟩:=h2.at 0 (by omega);have G1:=hid (show ∀ j,j<n1->w.cell? ⟨b1,o1+j,none⟩=some (.int .i64 (l1.getD j 0)) from fun j hj=>by
    have:=g1 j 0 _ (by omega) (by decide) rfl;rwa [show j*Vi.encI.n+0=j from by show j*1+0=j;omega] at this)
   have G2:=hid (show ∀ j,j<n1->w.cell? ⟨b2,o2+j,none⟩=some (.int .i64 (l2.getD j 0)) from fun j hj=>by
    have:=g2 j 0 _ (by omega) (by decide) rfl;rwa [show j*Vi.encI.n+0=j from by show j*1+0=j;omega] at this)
   have HE:=hid (fun (h:∀ j,j<n1->l1.getD j 0=l2.getD j 0)=>show decide (l1=l2)=true from decide_eq_true (xD5 e1 e2 h));have HF:=hid (fun (k:Nat) (h:l1.getD k 0≠l2.getD k 0)=>show decide (l1=l2)=false from decide_eq_false (qB2 h));generalize decide (l1=l2)=R at HE HF;clear g1 g2 h1 h2 e1 e2;go_enter Tryz.func32,Tryz.ntmps32
   go_wp2
   go_loopg [5] n1 (fun gg s5 wr=>∃ k q:Nat,k<=n1/\n1-k<=gg/\s5=.int .i64 k/\wr=w.drewN q/\Aside (∀ j,j<k->l1.getD j 0=l2.getD j 0))
   case atStart=>exact ⟨0,0,zG _,by omega,rfl,rfl,(show Aside _ from fun j hj=>by omega)⟩
   case round =>
    obtain ⟨k,q,hk,hg,rfl,rfl,A⟩:=hrel;by_cases hlt:k<n1
    ·have g1:=G1.out k hlt
     have g2:=G2.out k hlt;have hlt':(k:Int)<(n1:Int):=by omega
     have F0:=hid (HF.out k);have A0:=hid (fun (h:l1.getD k 0=l2.getD k 0)=>show ∀ j,j<k+1->l1.getD j 0=l2.getD j 0 from fun j hj=>by
      by_cases hjk:j=k
      ·rw [hjk];exact h
      ·exact A.out j (by omega))
     generalize l1.getD k 0=x at g1 F0 A0;generalize l2.getD k 0=y at g2 F0 A0;by_cases hxy:x=y
     ·have hx:(x != y)=false:=by simp [hxy]
      have A1:=hid (A0.out hxy);clear A F0 A0 hxy;go_wp2
      go_quiet (fail)
      go_wp2
      go_roundg (n1-(k+1))
      case measure=>omega
      case rel=>exact ⟨k+1,_,by omega,by omega,by go_num,rfl,(show Aside _ from A1.out)⟩
     ·have hx:(x != y)=true:=by simp [hxy]
      have HR:=hid (F0.out hxy);clear A F0 A0 hxy;go_wp2
      go_quiet (fail)
      go_wp2;go_ret
      exact ⟨by rw [HR.out];rfl,q+nq,drewT w q nq⟩
    ·have hlt':¬ (k:Int)<(n1:Int):=by omega
     have HR:=hid (HE.out fun j hj=>A.out j (by omega));clear A;go_wp2;go_ret
     exact ⟨by rw [HR.out];rfl,_,rfl⟩
  ·have e0:n1=0:=by omega
   subst e0;have a1:=List.eq_nil_of_length_eq_zero e1;have a2:=List.eq_nil_of_length_eq_zero e2;subst a1;subst a2;clear h1 h2 e1 e2;go_enter Tryz.func32,Tryz.ntmps32
   go_wp2;refine wp_loop_rounds 1 ?_;rw [rounds_succ];go_wp2;go_ret
   exact ⟨rfl,0,rfl⟩
 ·have hb:((n1:Int) != (n2:Int))=true:=by simp;omega
  have HR:=hid (show decide (l1=l2)=false from decide_eq_false fun e=>hne (by rw [<- e1,<- e2,e]));generalize decide (l1=l2)=R at HR;clear h1 h2 e1 e2;go_enter Tryz.func32,Tryz.ntmps32
  go_wp2;go_ret
  exact ⟨by rw [HR.out];rfl,0,rfl⟩
theorem qK0 {R S:List Vi.RT} {k:Nat} (h:(R.getD k default).x.report≠(S.getD k default).x.report) (hk:k<R.length) (hl:R.length=S.length):R.map (·.x.report)≠S.map (·.x.report):=fun e=>h (by
 have:=congrArg (·[k]?) e;simp only [List.getElem?_map,List.getElem?_eq_getElem hk,List.getElem?_eq_getElem (show k<S.length by omega),Option.map_some] at this;rw [zA,zB hk,zA,zB (show k<S.length by omega)];exact Option.some.inj this)
theorem xP5 {R S:List Vi.RT} {N:Nat} (hR:R.length=N) (hS:S.length=N) (h:∀ j,j<N->(R.getD j default).x.report=(S.getD j default).x.report):R.map (·.x.report)=S.map (·.x.report):=by
 refine List.ext_getElem (by rw [zL,zL];omega) fun i a b=>?_;rw [zL] at a b;have:=h i (by omega);rw [zA,zB a,zA,zB b] at this;rw [List.getElem_map,List.getElem_map];exact this
theorem xD6 (R S:List Vi.RT) (N:Nat) (hR:R.length=N) (hS:S.length=N) (hN:N<=300) (p1 p2:Option Addr) (c1 c2:Nat) (w:World) (h1:Vi.OutT w p1 R) (h2:Vi.OutT w p2 S) (b1:∀ r,r∈R->r.x.report.length<=1000) :
  Calls Tryz.prog 22 #[.slice p1 N c1,.slice p2 N c2] w fun e w'=>e=.returned (.bool (decide (R.map (·.x.report)=S.map (·.x.report))))/\∃ q,w'=w.drewN q:=by
 by_cases h0:0<N
 ·obtain ⟨a1,o1,rfl,l1,g1⟩:=Vi.holdsT h1.hd (by omega)
  obtain ⟨a2,o2,rfl,l2,g2⟩:=Vi.holdsT h2.hd (by omega);have mem:∀ (Q:List Vi.RT) k,k<Q.length->Q.getD k default∈Q:=fun Q k hk=>by rw [zA,zB hk];exact zH _
  have C1:=hid (show ∀ X,Below w.heap.size w X->∀ k,k<N->X.cell? ⟨a1,o1+k*11+10,none⟩=some (.slice (R.getD k default).pr (R.getD k default).x.report.length (R.getD k default).cr)/\Vi.encI.Holds X (R.getD k default).pr (R.getD k default).x.report/\(R.getD k default).x.report.length<=1000 from fun X bx k hk =>
   ⟨by
    have:=(bx.cell (p:=⟨a1,o1+(k*11+10),none⟩) l1).trans (g1 k (by omega) 10 (by decide));rwa [<- Nat.add_assoc] at this,((h1.td _ (mem R k (by omega))).r.holds).grow bx,b1 _ (mem R k (by omega))⟩)
  have C2:=hid (show ∀ X,Below w.heap.size w X->∀ k,k<N->X.cell? ⟨a2,o2+k*11+10,none⟩=some (.slice (S.getD k default).pr (S.getD k default).x.report.length (S.getD k default).cr)/\Vi.encI.Holds X (S.getD k default).pr (S.getD k default).x.report from fun X bx k hk =>
   ⟨by
    have:=(bx.cell (p:=⟨a2,o2+(k*11+10),none⟩) l2).trans (g2 k (by omega) 10 (by decide));rwa [<- Nat.add_assoc] at this,((h2.td _ (mem S k (by omega))).r.holds).grow bx⟩)
  have HE:=hid (fun (h:∀ j,j<N->(R.getD j default).x.report=(S.getD j default).x.report)=>show decide (R.map (·.x.report)=S.map (·.x.report))=true from decide_eq_true (xP5 hR hS h));have HF:=hid (fun (k:Nat) (hk:k<N) (h:(R.getD k default).x.report≠(S.getD k default).x.report)=>show decide (R.map (·.x.report)=S.map (·.x.report))=false from decide_eq_false (qK0 h (by omega) (by omega)));generalize decide (R.map (·.x.report)=S.map (·.x.report))=D at HE HF;clear g1 g2 h1 h2 hR hS l1 l2 mem b1;have hNN:((N:Int)==(N:Int))=true:=by simp
  go_enter Tryz.func22,Tryz.ntmps22
  go_wp2
  go_loopg [5] N (fun gg s4 wr=>∃ k:Nat,k<=N/\N-k<=gg/\s4=.int .i64 k/\Aside (∃ q,wr=w.drewN q)/\Aside (∀ j,j<k->(R.getD j default).x.report=(S.getD j default).x.report))
  case atStart=>exact ⟨0,zG _,by omega,rfl,(show Aside _ from ⟨0,rfl⟩),(show Aside _ from fun j hj=>by omega)⟩
  case round =>
   obtain ⟨k,hk,hg,rfl,AQ,A⟩:=hrel;have HQ:=hid AQ.out;have AB:Aside (Below w.heap.size w wr):=(show Aside _ from by obtain ⟨q,hq⟩:=HQ.out;rw [hq];exact ⟨rfl,rfl,rfl,yM,fun _ _=>rfl⟩);clear AQ;by_cases hlt:k<N
   ·have hltz:(k:Int)<(N:Int):=by omega
    obtain ⟨u1,v1,lr⟩:=C1.out _ AB.out k hlt;obtain ⟨u2,v2⟩:=C2.out _ AB.out k hlt;have F0:=hid (HF.out k hlt);have A0:=hid (fun (h:(R.getD k default).x.report=(S.getD k default).x.report)=>show ∀ j,j<k+1->(R.getD j default).x.report=(S.getD j default).x.report from fun j hj=>by
     by_cases hjk:j=k
     ·rw [hjk];exact h
     ·exact A.out j (by omega))
    generalize (R.getD k default).x.report=x at u1 v1 lr F0 A0;generalize (S.getD k default).x.report=y at u2 v2 F0 A0;generalize (R.getD k default).pr=q1 at u1 v1;generalize (R.getD k default).cr=d1 at u1;generalize (S.getD k default).pr=q2 at u2 v2;generalize (S.getD k default).cr=d2 at u2;have bq:=hid (fun (X:World) (q:Nat)=>(show Below X.heap.size X (X.drewN q) from ⟨rfl,rfl,rfl,yM,fun _ _=>rfl⟩));have KS:=hid (fun q=>tsI_c q1 q2 x.length y.length d1 d2 x y rfl rfl (by omega) (wr.drewN q) (v1.grow (bq.out wr q)) (v2.grow (bq.out wr q)));have AB2:=hid (fun m=>show ∃ q,wr.drewN m=w.drewN q from by obtain ⟨q,hq⟩:=HQ.out;exact ⟨q+m,by rw [hq,drewT]⟩);by_cases hxy:x=y
    ·have A1:=hid (A0.out hxy)
     rw [decide_eq_true hxy] at KS;generalize x.length=xn at *;generalize y.length=yn at *;clear A F0 A0 hxy v1 v2 lr AB;go_wp2
     go_quiet ((go_at_call 32;exact Calls.quiet_of (KS.out _)))
     go_wp2
     go_roundg (N-(k+1))
     case measure=>omega
     case rel=>exact ⟨k+1,by omega,by omega,by go_num,(show Aside _ from AB2.out _),(show Aside _ from A1.out)⟩
    ·have HR:=hid (F0.out hxy)
     rw [decide_eq_false hxy] at KS;generalize x.length=xn at *;generalize y.length=yn at *;clear A F0 A0 hxy v1 v2 lr AB;go_wp2
     go_quiet ((go_at_call 32;exact Calls.quiet_of (KS.out _)))
     go_wp2;go_ret
     exact ⟨by rw [HR.out];rfl,AB2.out _⟩
   ·have hltz:¬ (k:Int)<(N:Int):=by omega
    have HR:=hid (HE.out fun j hj=>A.out j (by omega));clear A AB;go_wp2;go_ret
    exact ⟨by rw [HR.out];rfl,HQ.out⟩
 ·have e0:N=0:=by omega
  subst e0;have a1:=List.eq_nil_of_length_eq_zero hR;have a2:=List.eq_nil_of_length_eq_zero hS;subst a1;subst a2;clear h1 h2 hR hS b1;go_enter Tryz.func22,Tryz.ntmps22
  go_wp2;refine wp_loop_rounds 1 ?_;rw [rounds_succ];go_wp2;go_ret
  exact ⟨rfl,0,rfl⟩
theorem xD7 (R S:List Vi.RT) (N:Nat) (hR:R.length=N) (hS:S.length=N) (hN:N<=300) (p1 p2:Option Addr) (c1 c2:Nat) (w:World) (h1:Vi.OutT w p1 R) (h2:Vi.OutT w p2 S) (b1:∀ r,r∈R->r.x.report.length<=1000) :
  Calls Tryz.prog 22 #[.slice p1 N c1,.slice p2 N c2] w fun e w'=>e=.returned (.bool (decide (R.map (·.x.report)=S.map (·.x.report))))/\Below w.heap.size w w':=by
 refine (xD6 R S N hR hS hN p1 p2 c1 c2 w h1 h2 b1).mono ?_;rintro e w' ⟨h,q,rfl⟩;exact ⟨h,rfl,rfl,rfl,yM,fun _ _=>rfl⟩
theorem yO8 (w:World) (a b:Obj):((w.alloc a).alloc b)=grow (w.drewN 0) #[a,b]:=by
 show _=grow w #[a,b];rw [alloc_eq_grow,alloc_eq_grow,grow_grow];rfl
theorem xD8 (c:Cf) (lp mp:Option Addr) (lc mc:Nat) (s:Sp) (x:Nat) (hx:x<16) (hs:SOk s) (hc:mayC c=true) (h3:c.ls.length=3) (w:World) (hI:CfI w c (.slice lp c.ls.length lc) (.slice mp c.ms.length mc)) :
  Calls Tryz.prog 27 #[cfV c (.slice lp c.ls.length lc) (.slice mp c.ms.length mc),aggX s,.int .i64 (x:Int)] w fun e w'=>e=.returned (.bool (privB c x s))/\∃ q os',w'=grow (w.drewN q) os':=by
 obtain ⟨kd,who,it,cn,li,id',la,ke⟩:=s;obtain ⟨_,hw,hl,hk⟩:=hs;dsimp only at hw hl hk;obtain ⟨wn,rfl⟩:∃ wn:Nat,who=(wn:Int):=⟨who.toNat,by omega⟩;obtain ⟨ln,rfl⟩:∃ ln:Nat,la=(ln:Int):=⟨la.toNat,by omega⟩;have hl3:ln<3:=by omega
 have hw4:wn<4:=by omega
 obtain ⟨z,hz,hz256⟩:=lab_nat hc ln;have HP:=hid (show privB c x ⟨kd,(wn:Int),it,cn,li,id',(ln:Int),ke⟩=(!(Plain.reads (x:Int) wn)&&(decide (1<=kd/\kd<=6) || (decide (kd=7\/kd=8)&&decide (z &&& x=0)))) by
  show (!(Plain.reads (x:Int) (wn:Int).toNat)&&(decide (1<=kd/\kd<=6) || (decide (kd=7\/kd=8)&&decide ((labAt c.ls (ln:Int).toNat).toNat &&& (x:Int).toNat=0))))=_;unfold labAt;rw [zK,zK,zK,hz,zK])
 generalize privB c x ⟨kd,(wn:Int),it,cn,li,id',(ln:Int),ke⟩=P at HP;obtain ⟨lb,lo,el,lcl⟩:=zG5 hI.sl (by omega);subst el;have hlz:=lcl ln (by omega);rw [hz] at hlz;have hlb:lb<w.heap.size:=zC (w:=w) (h:=hlz);have hand:=LabP.zP5 z x (by omega) (by omega);obtain ⟨W2,hW2⟩:∃ W2,W2=(w.alloc (boxC c (.slice (some ⟨lb,lo,none⟩) c.ls.length lc) (.slice mp c.ms.length mc))).alloc (boxX ⟨kd,(wn:Int),it,cn,li,id',(ln:Int),ke⟩):=⟨_,rfl⟩;have HG:=hid (show ∃ q os',W2=grow (w.drewN q) os' from ⟨0,_,by rw [hW2];exact yO8 w _ _⟩);have b2:Below w.heap.size w W2:=by rw [hW2];exact (yN.alloc yM _).alloc (by simp) _
 obtain ⟨C,hCC⟩:∃ C,C=w.heap.size:=⟨_,rfl⟩;obtain ⟨S,hSS⟩:∃ S,S=w.heap.size+1:=⟨_,rfl⟩;have c1:W2.cell? ⟨C,1,none⟩=some (.slice (some ⟨lb,lo,none⟩) 3 lc):=by
  rw [hW2,hCC,yI (w:=w.alloc _) (h:=by simp),zM _ _ _ _ rfl];show some (Value.slice (some ⟨lb,lo,none⟩) c.ls.length lc)=_;rw [h3]
 have rs:W2.rowIs S 32 8 (spF ⟨kd,(wn:Int),it,cn,li,id',(ln:Int),ke⟩):=by rw [hW2,hSS,show w.heap.size+1=(w.alloc (boxC c (.slice (some ⟨lb,lo,none⟩) c.ls.length lc) (.slice mp c.ms.length mc))).heap.size by simp];exact rowX _ _
 have s0:W2.cell? ⟨S,0,none⟩=some (.int .i64 kd):=rs.cell (i:=0) (by decide);have s1:W2.cell? ⟨S,1,none⟩=some (.int .i64 (wn:Int)):=rs.cell (i:=1) (by decide);have s6:W2.cell? ⟨S,6,none⟩=some (.int .i64 (ln:Int)):=rs.cell (i:=6) (by decide);have lz:W2.cell? ⟨lb,lo+ln,none⟩=some (.int .i64 (z:Int)):=(b2.cell (p:=⟨lb,lo+ln,none⟩) hlb).trans hlz;have hbit:=xP1 x wn (by omega);have hw0:¬ (wn:Int)<0:=by omega
 have hl0:¬ (ln:Int)<0:=by omega
 have hl3z:(ln:Int)<3:=by omega
 clear hlz lcl hI hc hw hl rs b2 hz hlb h3;go_enter Tryz.func27,Tryz.ntmps27
 go_upto_region 1 with fail
 rw [<- hW2,<- hSS,<- hCC];clear hW2 hSS hCC;cases hr:Plain.reads (x:Int) wn with
 | true =>
  rw [hr,if_pos rfl] at hbit;rw [hr] at HP;clear hr;go_wp2;go_ret
  exact ⟨by rw [HP.out];rfl,HG.out⟩
 | false =>
  rw [hr,if_neg (by decide)] at hbit;rw [hr] at HP;clear hr;have:kd=1\/kd=2\/kd=3\/kd=4\/kd=5\/kd=6\/(kd=7\/kd=8)\/kd=9\/kd=10\/kd=11:=by omega
  rcases this with rfl|rfl|rfl|rfl|rfl|rfl|h78|rfl|rfl|rfl
  case inr.inr.inr.inr.inr.inr.inl =>
   by_cases hq:z &&& x=0
   ·have hqz:(((z &&& x:Nat):Int)==0)=true:=by rw [hq];rfl
    have HP2:=hid (show P=true by rw [HP.out];rcases h78 with rfl|rfl<;>simp [hq]);clear HP;rcases h78 with rfl|rfl
    ·go_wp2
     go_ret
     exact ⟨by rw [HP2.out];rfl,HG.out⟩
    ·go_wp2
     go_ret
     exact ⟨by rw [HP2.out];rfl,HG.out⟩
   ·have hqz:(((z &&& x:Nat):Int)==0)=false:=by rw [beq_eq_false_iff_ne];omega
    have HP2:=hid (show P=false by rw [HP.out];rcases h78 with rfl|rfl<;>simp [hq]);clear HP;rcases h78 with rfl|rfl
    ·go_wp2
     go_ret
     exact ⟨by rw [HP2.out];rfl,HG.out⟩
    ·go_wp2
     go_ret
     exact ⟨by rw [HP2.out];rfl,HG.out⟩
  all_goals (go_wp2;go_ret;exact ⟨by rw [HP.out];simp,HG.out⟩)
def SeenY (c:Cf) (l:List Sp) (N:Nat) (x:Int) (w:World) (e:Ending) (w':World):Prop :=
 ∃ q k D TB R,e=.returned (.tuple #[.slice q N k,.slice (some ⟨TB,0,none⟩) N N,.bool true])/\D.length=N/\R.length=N/\R.map (·.x)=(tlsF c (Wo.start c) l).map toTd/\D.map (·.x)=Vi.viewL x (R.map (·.x))/\(∀ t,t∈R.map (·.x)->TdB t)/\Vi.OutT w' q D/\Vi.OutT w' (some ⟨TB,0,none⟩) R/\Below w.heap.size w w'
theorem zC6 (c:Cf) (lp mp:Option Addr) (lc mc:Nat) (p:Option Addr) (N cap:Nat) (l:List Sp) (hN:l.length=N) (h300:N<=300) (hc:mayC c=true) (hn:c.n=4) (hL:c.ls.length=3) (hm:c.ms.length=2) (hwf:∀ s,s∈l->(Lit.int .i64 s.id).wf=true) (hp0:p=none->cap=0) (x:Int) (hx:0<=x/\x<16)
  (w:World) (hI:CfI w c (.slice lp c.ls.length lc) (.slice mp c.ms.length mc)) (htb:∀ k,2<=k->k<=6->w.cell? ⟨0,k,none⟩=some (.int .i64 (k:Nat))) (hp:encSp.Holds w p l) :
  Calls Tryz.prog 20 #[cfV c (.slice lp c.ls.length lc) (.slice mp c.ms.length mc),.slice p N cap,.int .i64 x] w (SeenY c l N x w):=by
 have hb0:0<w.heap.size:=zC (w:=w) (h:=htb 2 (by omega) (by omega));obtain ⟨W2,hW2⟩:∃ W2,W2=w.alloc (boxC c (.slice lp c.ls.length lc) (.slice mp c.ms.length mc)):=⟨_,rfl⟩;have b2:Below w.heap.size w W2:=by rw [hW2];exact yN.alloc yM _
 have C2:=hid (show CellC W2 w.heap.size c (.slice lp c.ls.length lc) (.slice mp c.ms.length mc) by rw [hW2];exact CellC.start w c (.slice lp c.ls.length lc) (.slice mp c.ms.length mc));have BW:=hid (fun X (bx:Below W2.heap.size W2 X)=>b2.trans (bx.mono b2.size));have HTW:=hid (fun X (bx:Below W2.heap.size W2 X) k (h2:2<=k) (h6:k<=6)=>((BW.out X bx).cell (p:=⟨0,k,none⟩) hb0).trans (htb k h2 h6));have IW:=hid (fun X (bx:Below W2.heap.size W2 X)=>hI.grow (BW.out X bx));have HO4:=hid (hp.grow b2);have HC:=hid (And.intro hc (And.intro hn (And.intro hL hm)));have HWF:=hid hwf;have HP4:=hid hp0;have HNL:=hid hN;have B4:=hid (Below.refl W2.heap.size W2);clear hb0 htb hI hp hc hn hL hm hwf hp0 hN b2;go_enter Tryz.func20,Tryz.ntmps20
 go_upto_region 1 with fail
 rw [<- hW2];obtain ⟨CB,hCB⟩:∃ CB,CB=w.heap.size:=⟨_,rfl⟩;rw [<- hCB] at C2 ⊢;clear hW2;have CW:=hid (fun X (bx:Below W2.heap.size W2 X)=>(C2.out.below bx C2.out.lt:CellC X CB c (.slice lp c.ls.length lc) (.slice mp c.ms.length mc)));clear C2 hCB;have D4:=hid (show Below W2.heap.size W2 W2.drew from yN.drew);obtain ⟨v6,w6,hrun6,sp6,_⟩:=(SpR.nil W2.drew).app (zG _) (p:=p) (c:=cap) (HO4.out.grow D4.out) HP4.out (by have:=HNL.out;omega);obtain ⟨p6,c6,rfl,hh6,_⟩:=sp6.form;rw [List.nil_append,HNL.out] at hrun6;rw [List.nil_append] at hh6;have RUN6:=hid hrun6;have HH6:=hid hh6;have B6:=hid (show Below W2.heap.size W2 w6 from B4.out.trans ((D4.out.trans (sp6.be.mono D4.out.size)).mono B4.out.size));have G6:=hid (show Below W2.drew.heap.size W2.drew w6 from sp6.be);have mixed:Tryz.prog.follows .mixedOrders=true:=by kernel_rfl
 have TS:(fun w':World=>w'.cell? ⟨CB,0,none⟩=some (.int .i64 c.n)/\w'.cell? ⟨CB,1,none⟩=some (.slice lp c.ls.length lc)/\w'.cell? ⟨CB,2,none⟩=some (.int .i64 c.t)/\w'.cell? ⟨CB,3,none⟩=some (.slice mp c.ms.length mc)/\w'.cell? ⟨CB,4,none⟩=some (.int .i64 c.cap)) W2.drew:=by
  obtain ⟨k0,k1,k2,k3,k4⟩:=CW.out _ (B4.out.trans (D4.out.mono B4.out.size));exact ⟨k0,k1,k2,k3,k4⟩
 have T6:(fun w':World=>w'.cell? ⟨CB,0,none⟩=some (.int .i64 c.n)/\w'.cell? ⟨CB,1,none⟩=some (.slice lp c.ls.length lc)/\w'.cell? ⟨CB,2,none⟩=some (.int .i64 c.t)/\w'.cell? ⟨CB,3,none⟩=some (.slice mp c.ms.length mc)/\w'.cell? ⟨CB,4,none⟩=some (.int .i64 c.cap)) w6:=by
  obtain ⟨k0,k1,k2,k3,k4⟩:=CW.out _ B6.out;exact ⟨k0,k1,k2,k3,k4⟩
 have K7:=zZ3 c lp mp lc mc 4 2 p6 N c6 l HNL.out h300 HC.out.1 HC.out.2.1 HC.out.2.2.2 (fun _=>by rw [HC.out.2.2.1];omega) HWF.out w6 (IW.out _ B6.out) (HTW.out _ B6.out) HH6.out;clear hrun6 sp6 hh6;refine AnyBut.begin (fun w':World=>w'.cell? ⟨CB,0,none⟩=some (.int .i64 c.n)/\w'.cell? ⟨CB,1,none⟩=some (.slice lp c.ls.length lc)/\w'.cell? ⟨CB,2,none⟩=some (.int .i64 c.t)/\w'.cell? ⟨CB,3,none⟩=some (.slice mp c.ms.length mc)/\w'.cell? ⟨CB,4,none⟩=some (.int .i64 c.cap)) 8 mixed ?_;refine AnyBut.take 0 (cfV c (.slice lp c.ls.length lc) (.slice mp c.ms.length mc)) rfl (by kernel_rfl) (by kernel_rfl) (by kernel_rfl) (by kernel_rfl) (fun _ _ _ h=>h) TS (by rfl) (fun w' hS=>?_) ?_
 ·(obtain ⟨q0,q1,q2,q3,q4⟩:=hS;go_simp)
 (try simp only [Act.put,List.setIfInBounds_toArray,List.set_cons_zero,List.set_cons_succ])
 refine AnyBut.take 1 (.slice p N cap) rfl (by kernel_rfl) (by kernel_rfl) (by kernel_rfl) (by kernel_rfl) (fun _ _ _ h=>h) TS (by rfl) (fun w' hS=>?_) ?_
 ·(go_simp)
 (try simp only [Act.put,List.setIfInBounds_toArray,List.set_cons_zero,List.set_cons_succ])
 refine AnyBut.one 2 (by kernel_rfl) rfl (by rfl) (fun K hK=>?_);refine zF3 _ _ 28 rfl 28 rfl (.slice none 0 0) (.slice p N cap) (by simp [Act.eval]) (by simp [Act.eval]) RUN6.out ?_;refine hK.out _ _ (fun _=>T6) ?_;clear hK K
 (try simp only [Act.put,List.setIfInBounds_toArray,List.set_cons_zero,List.set_cons_succ])
 refine AnyBut.one 3 (by kernel_rfl) rfl (by rfl) (fun K hK=>?_);go_simp;refine K7.mono ?_;rintro e w7 ⟨TB,R,rfl,hR,hx,ho,_,b7⟩;have B7:=hid (show Below W2.heap.size W2 w7 from B6.out.trans (b7.mono B6.out.size));have G7:=hid (show Below W2.heap.size W2 w7 from (D4.out.trans (G6.out.mono D4.out.size)).trans (b7.mono (zI D4.out.size G6.out.size)));have T7:(fun w':World=>w'.cell? ⟨CB,0,none⟩=some (.int .i64 c.n)/\w'.cell? ⟨CB,1,none⟩=some (.slice lp c.ls.length lc)/\w'.cell? ⟨CB,2,none⟩=some (.int .i64 c.t)/\w'.cell? ⟨CB,3,none⟩=some (.slice mp c.ms.length mc)/\w'.cell? ⟨CB,4,none⟩=some (.int .i64 c.cap)) w7:=by
  obtain ⟨k0,k1,k2,k3,k4⟩:=CW.out _ B7.out;exact ⟨k0,k1,k2,k3,k4⟩
 have HR:=hid hR;have HX:=hid hx;have HO:=hid ho;refine hK.out _ _ (fun _=>T7) ?_;clear hK K K7 hR hx ho b7 T6 TS RUN6 HH6
 (try simp only [Act.put,List.setIfInBounds_toArray,List.set_cons_zero,List.set_cons_succ])
 refine AnyBut.one 4 (by kernel_rfl) rfl (by rfl) (fun K hK=>?_);go_simp;refine hK.out _ _ (fun _=>T7) ?_;clear hK K
 (try simp only [Act.put,List.setIfInBounds_toArray,List.set_cons_zero,List.set_cons_succ])
 refine AnyBut.take 5 (.slice (some ⟨TB,0,none⟩) N N) rfl (by kernel_rfl) (by kernel_rfl) (by kernel_rfl) (by kernel_rfl) (fun _ _ _ h=>h) T7 (by rfl) (fun w' hS=>?_) ?_
 ·(go_simp)
 (try simp only [Act.put,List.setIfInBounds_toArray,List.set_cons_zero,List.set_cons_succ])
 refine AnyBut.take 6 (.int .i64 0) rfl (by kernel_rfl) (by kernel_rfl) (by kernel_rfl) (by kernel_rfl) (fun _ _ _ h=>h) T7 (by rfl) (fun w' hS=>?_) ?_
 ·(go_simp)
 (try simp only [Act.put,List.setIfInBounds_toArray,List.set_cons_zero,List.set_cons_succ])
 refine AnyBut.take 7 (.slice (some ⟨TB,0,none⟩) N N) rfl (by kernel_rfl) (by kernel_rfl) (by kernel_rfl) (by kernel_rfl) (fun _ _ _ h=>h) T7 (by rfl) (fun w' hS=>?_) ?_
 ·(go_simp)
 (try simp only [Act.put,List.setIfInBounds_toArray,List.set_cons_zero,List.set_cons_succ])
 refine AnyBut.one 8 (by kernel_rfl) rfl (by rfl) (fun K hK=>?_);go_simp;refine hK.out _ _ (fun h=>absurd rfl h) ?_;clear hK K;refine AnyBut.done (by kernel_rfl) ?_;clear T7;have HTD:=hid (show ∀ t,t∈R.map (·.x)->TdB t from fun t ht=>by
  rw [HX.out] at ht;obtain ⟨u,hu,rfl⟩:=zY.1 ht;exact TdB.of (tls_bd (n:=4) (m:=2) HC.out.1 HC.out.2.1 HC.out.2.2.2 l 0 (Wo.start c) (Wok.start HC.out.2.1) (by have:=HNL.out;omega) u hu))
 obtain ⟨e0,e1,e2,e3,e4⟩:=CW.out _ B7.out;have K5:=of_16 c HC.out.2.1 HC.out.1 (.slice lp c.ls.length lc) (.slice mp c.ms.length mc) (some ⟨TB,0,none⟩) N N R HR.out x hx HTD.out h300 w7 (IW.out _ B7.out) HO.out;clear HO4 HP4 G7 D4 B6 G6 mixed
 go_upto_region 2 with fail
 go_wp2_with fail
 refine K5.mono ?_;rintro e w8 ⟨q8,c8,D8,rfl,hl8,hx8,ho8,b8⟩;have FIN:=hid (show SeenY c l N x w (.returned (.tuple #[.slice q8 N c8,.slice (some ⟨TB,0,none⟩) N N,.bool true])) w8 from ⟨q8,c8,D8,TB,R,rfl,hl8,HR.out,HX.out,hx8,HTD.out,ho8,HO.out.grow b8,BW.out _ (B7.out.trans (b8.mono B7.out.size))⟩);have hNN:((N:Int)==(N:Int))=true:=by simp
 clear K5 hl8 hx8 ho8 b8 e0 e1 e2 e3 e4;go_wp2;go_ret3
 exact FIN.out
end Go.Proofs.YtleaknfjbbccgaaGreatDoor
