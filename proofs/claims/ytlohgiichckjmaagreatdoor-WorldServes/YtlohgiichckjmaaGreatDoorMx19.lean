/-
 Laid together: what the law asks of these.
-/
import Derived.Deep.LoopGhost
import Derived.Deep.RegionHeld3
import Derived.Deep.QuietTactic
import Derived.BigQuiet
import Derived.Test.YtlohgiichckjmaaGreatDoorMx03
import Derived.Test.YtlohgiichckjmaaGreatDoorMx08
import Derived.Test.YtlohgiichckjmaaGreatDoorMx10
import Derived.Test.YtlohgiichckjmaaGreatDoorMx11
import Derived.Test.YtlohgiichckjmaaGreatDoorMx15
import Derived.Test.YtlohgiichckjmaaGreatDoorMx16
import Derived.Test.YtlohgiichckjmaaGreatDoorMx17
import Derived.Test.YtlohgiichckjmaaGreatDoorMx18
namespace Go.Proofs.YtlohgiichckjmaaGreatDoor
set_option maxHeartbeats 16000000
set_option maxRecDepth 100000
namespace Plain
def Wob (W:Wo):Prop:=∀ k,Bo.Plain.Ok (W.bk k)
theorem Wob.start {c:Cf} (hc:mayC c=true):Wob (Wo.start c):=fun k=>by
 have hm:=may_all hc
 have h0:Bo.Plain.Ok (Bo.Plain.Bk.new c.n.toNat c.cap c.t.toNat):=Bo.Plain.Ok.new hm.2.2.2.2.2.2 (by omega)
 show Bo.Plain.Ok (bk0 c k)
 unfold bk0
 split
 ·exact h0.step _
 ·exact h0
theorem Wob.step {c:Cf} {W:Wo} (h:Wob W) (s:Sp):Wob (stW c W s):=by
 unfold stW
 split
 ·exact fun k=>(h k).round
 split
 ·unfold delW
  split
  ·exact h
  ·unfold comeW
   split
   ·intro k
    show Bo.Plain.Ok (if k<_ then _ else _)
    split
    ·exact (h k).step _
    ·exact h k
   split
   ·exact h
   ·exact h
 split
 ·unfold losW
  split<;>exact h
 split
 ·exact h
 split
 ·exact h
 ·intro k
  rw [(brW_keep c W s.who.toNat s).1]
  exact h k
theorem Wob.run {c:Cf} {W:Wo} (h:Wob W) (l:List Sp):Wob (runW c W l):=by
 induction l generalizing W with
 | nil=>exact h
 | cons s l ih=>exact ih (h.step s)
def look3 (p:Se.Plain.Po):Int × Int × Nat:=(p.frm,p.«to»,p.data.length)
def asksZ (c:Cf):Nat:=(21*c.ms.length+7)/8
def shapeB (c:Cf) (i:Nat):List (Int × Int × Nat):=((i:Int),c.n,asksZ c) :: ((List.range c.n.toNat).filter fun j=>j≠i).map fun j:Nat=>((i:Int),(j:Int),34*comN c i j)
def shape (c:Cf):List (Int × Int × Nat):=(List.range c.n.toNat).flatMap (shapeB c)++(List.range c.n.toNat).map fun i:Nat=>(c.n,(i:Int),asksZ c)
theorem mapN_all {m:Nat} {f:Nat->Int} (h:∀ k,k<m->0<=f k/\f k<=1048576):(Bo.Plain.mapN m f).all cntB=true:=by
 rw [List.all_eq_true]
 intro x hx
 unfold Bo.Plain.mapN at hx
 obtain ⟨k,hk,rfl⟩:=List.mem_map.1 hx
 have:=h k (List.mem_range.1 hk)
 unfold cntB
 exact (inR_iff _ _ _).2 this
theorem asks_z {c:Cf} (hc:mayC c=true) {f:Nat->Int} (h:∀ k,k<c.ms.length->0<=f k/\f k<=1048576):(byI (asksB c (Bo.Plain.mapN c.ms.length f))).length=asksZ c:=by
 rw [byI_len]
 have hl:(Bo.Plain.mapN c.ms.length f).length=c.ms.length:=Bo.Plain.mapN_len _ _
 have:=(asks_back hc hl (mapN_all h)).2.2.2
 rw [this,hl]
 rfl
theorem rum_z {c:Cf} (hc:mayC c=true) {Z:Int} {s:Nat->List En} (hs:Sok Z s) {i j:Nat} (hi:(i:Int)<c.n) (hj:(j:Int)<c.n):(byI (rumB c i j (stL s c.ls.length))).length=34*comN c i j:=by
 rw [byI_len]
 have hst:(stL s c.ls.length).length=c.ls.length:=by simp [stL]
 have hr:refE c i j=0:=by unfold refE;rw [if_pos hc,if_pos (by omega)]
 exact (told_heard hr hst
  (List.all_eq_true.2 fun l hl=>by obtain ⟨t,_,rfl⟩:=List.mem_map.1 hl;exact hs.mayL t)
  (fun l hl=>by
   obtain ⟨t,_,rfl⟩:=List.mem_map.1 hl
   exact List.all_eq_true.2 fun e he=>by
    have:=hs.may t e he
    unfold fitE
    simp only [Bool.and_eq_true,decide_eq_true_eq]
    exact ⟨this.2.1.2,this.2.2.2⟩)).2.2.2
theorem flatMap_congr' {α β:Type} {l:List α} {f g:α->List β} (h:∀ a,a∈l->f a=g a):l.flatMap f=l.flatMap g:=by
 induction l with
 | nil=>rfl
 | cons a l ih=>rw [List.flatMap_cons,List.flatMap_cons,h a List.mem_cons_self,ih fun b hb=>h b (List.mem_cons_of_mem _ hb)]
theorem map_flatMap' {α β γ:Type} (l:List α) (f:α->List β) (g:β->γ):(l.flatMap f).map g=l.flatMap fun a=>(f a).map g:=by
 induction l with
 | nil=>rfl
 | cons a l ih=>rw [List.flatMap_cons,List.map_append,List.flatMap_cons,ih]
theorem tick_shape {c:Cf} {n m K:Nat} {W:Wo} (hc:mayC c=true) (hn:c.n=n) (h:Wok c n m K W) (hb:Wob W):(tickP c W).map look3=shape c:=by
 unfold tickP shape
 rw [List.map_append,map_flatMap']
 congr 1
 ·refine flatMap_congr' fun i hi=>?_
  have hi:=List.mem_range.1 hi
  unfold sends shapeB
  rw [List.map_cons,List.map_map]
  congr 1
  ·show ((i:Int),c.n,(byI (asksB c (Bo.Plain.mapN c.ms.length (W.ask i)))).length)=_
   rw [asks_z hc fun k _=>h.ask i k]
  ·refine List.map_congr_left fun j hj=>?_
   have hj:=List.mem_range.1 (List.mem_filter.1 hj).1
   show ((i:Int),(j:Int),(byI (rumB c i j (stL (W.st i) c.ls.length))).length)=_
   rw [rum_z hc (h.st i) (by omega) (by omega)]
 ·rw [List.map_map]
  refine List.map_congr_left fun i hi=>?_
  have hi:=List.mem_range.1 hi
  show (c.n,(i:Int),(byI (asksB c (Bo.Plain.mapN c.ms.length fun k=>(Bo.Plain.roundB (W.bk k)).given.getD i 0))).length)=_
  rw [asks_z hc fun k _=>by
   have o:=(hb k).round
   have hi2:i<(Bo.Plain.roundB (W.bk k)).n:=by rw [Bo.Plain.roundB_n,h.bn];omega
   have a:=o.gi i hi2
   have b:=o.wa i hi2
   omega]
def ticksN (l:List Sp):Nat:=(l.filter fun s=>decide (s.kind=9)).length
theorem ticksN_snoc (l:List Sp) (s:Sp):ticksN (l++[s])=ticksN l+if s.kind=9 then 1 else 0:=by
 unfold ticksN
 rw [List.filter_append,List.length_append]
 by_cases h:s.kind=9
 ·simp [h]
 ·simp [h]
theorem posted_step (c:Cf) (W:Wo) (s:Sp):(stW c W s).off.posted=if s.kind=9 then W.off.posted++tickP c W else W.off.posted:=by
 unfold stW
 by_cases h9:s.kind=9
 ·rw [if_pos h9,if_pos h9];rfl
 rw [if_neg h9,if_neg h9]
 split
 ·unfold delW
  split
  ·rfl
  ·unfold comeW
   split
   ·rfl
   split<;>rfl
 split
 ·unfold losW
  split<;>rfl
 split
 ·rfl
 split
 ·rfl
 ·rw [(brW_keep c W s.who.toNat s).2.1]
theorem wok_all {c:Cf} {n m:Nat} (hc:mayC c=true) (hn:c.n=n) (hm:c.ms.length=m) (l:List Sp) (hl:l.length<=300):Wok c n m l.length (runW c (Wo.start c) l)/\Wob (runW c (Wo.start c) l):=by
 refine ⟨?_,(Wob.start hc).run l⟩
 have:=wok_run hc hn hm l hl l.length (Nat.le_refl _)
 rw [List.take_length] at this
 exact this
theorem posted_len {c:Cf} {n m:Nat} (hc:mayC c=true) (hn:c.n=n) (hm:c.ms.length=m):∀ (k:Nat) (l:List Sp),l.length=k->k<=300->(runW c (Wo.start c) l).off.posted.length=(shape c).length*ticksN l:=by
 intro k
 induction k with
 | zero =>
  intro l hl _
  have:l=[]:=List.length_eq_zero_iff.1 hl
  subst this
  rfl
 | succ k ih =>
  intro l hl hk
  have hne:l≠[]:=by intro e;subst e;simp at hl
  obtain ⟨i,s,rfl⟩:∃ i s,l=i++[s]:=⟨l.dropLast,l.getLast hne,(List.dropLast_concat_getLast hne).symm⟩
  rw [List.length_append,List.length_singleton] at hl
  have hi:=ih i (by omega) (by omega)
  have ok:=wok_all hc hn hm i (by omega)
  rw [runW_app]
  show (stW c (runW c (Wo.start c) i) s).off.posted.length=_
  rw [posted_step,ticksN_snoc]
  by_cases h9:s.kind=9
  ·rw [if_pos h9,if_pos h9,List.length_append,hi,Nat.mul_add,Nat.mul_one]
   have:=congrArg List.length (tick_shape hc hn ok.1 ok.2)
   rw [List.length_map] at this
   rw [this]
  ·rw [if_neg h9,if_neg h9,hi,Nat.add_zero]
end Plain
end Go.Proofs.YtlohgiichckjmaaGreatDoor
namespace Go.Proofs.YtlohgiichckjmaaGreatDoor
set_option maxHeartbeats 16000000
set_option maxRecDepth 100000
namespace Plain
theorem caB_given (b:Bo.Plain.Bk) (w x:Int):(Bo.Plain.caB b ⟨2,w,x⟩).given=b.given/\(Bo.Plain.caB b ⟨2,w,x⟩).ever=b.ever/\(Bo.Plain.caB b ⟨2,w,x⟩).reserve=b.reserve:=by
 unfold Bo.Plain.caB
 split
 ·exact ⟨rfl,rfl,rfl⟩
 ·rw [if_neg (by show ¬ (2:Int)=3;omega),if_neg (by show ¬ (2:Int)=1;omega)]
  exact ⟨rfl,rfl,rfl⟩
theorem given_out {b:Bo.Plain.Bk} (h:Bo.Plain.Ok b) {i:Nat} (hi:¬ i<b.n):b.given.getD i 0=0:=by
 rw [List.getD_eq_getElem?_getD,List.getElem?_eq_none (by rw [h.lg];omega)];rfl
theorem given_up {b:Bo.Plain.Bk} (h:Bo.Plain.Ok b) (i:Nat):b.given.getD i 0<=(Bo.Plain.roundB b).given.getD i 0:=by
 by_cases hi:i<b.n
 ·exact (Bo.Plain.sums_round h hi).1
 ·rw [given_out h hi,given_out h.round (by rw [Bo.Plain.roundB_n];exact hi)]
  exact Int.le_refl _
structure Wss (c:Cf) (n m:Nat) (W:Wo):Prop where
 tot:∀ i k,Hd.Plain.Hv (W.rk i k) (W.gain i k)
 le:∀ i k,W.gain i k<=(W.bk k).given.getD i 0
 ev:∀ k,k<m->(W.bk k).ever=c.ms.getD k 0
 fr:∀ p,p∈W.off.posted->p.frm=n->∀ i:Nat,p.«to»=i->∀ k,(askV c (natL p.data)).getD k 0<=(W.bk k).given.getD i 0
theorem Wss.start {c:Cf} {n m:Nat} (hc:mayC c=true) (hm:c.ms.length=m):Wss c n m (Wo.start c):=by
 have hz:∀ k i,((Wo.start c).bk k).given.getD i 0=0:=fun k i=>by
  show (bk0 c k).given.getD i 0=0
  have e:(Bo.Plain.Bk.new c.n.toNat c.cap c.t.toNat).given.getD i 0=0:=by
   show (Bo.Plain.zeros _).getD i 0=0
   rw [Bo.Plain.zeros_at]
  unfold bk0
  split
  ·unfold Bo.Plain.caB
   split
   ·exact e
   ·rw [if_neg (by show ¬ (1:Int)=3;omega),if_pos rfl];exact e
  ·exact e
 refine ⟨fun _ _=>Hd.Plain.Hv.nil,fun i k=>by rw [hz];exact Int.le_refl _,fun k hk=>?_,fun p hp=>(nomatch hp)⟩
 show (bk0 c k).ever=_
 have hcnt:0<=c.ms.getD k 0/\c.ms.getD k 0<=1048576:=by
  have hk':k<c.ms.length:=by omega
  have:=List.all_eq_true.1 (may_all hc).2.2.2.2.2.1 _ (List.getElem_mem hk')
  unfold cntB inR at this
  simp only [Bool.and_eq_true,decide_eq_true_eq] at this
  rw [List.getD_eq_getElem?_getD,List.getElem?_eq_getElem hk']
  exact this
 unfold bk0
 by_cases h0:c.ms.getD k 0≠0
 ·rw [if_pos h0]
  have hE:Bo.Plain.caE (Bo.Plain.Bk.new c.n.toNat c.cap c.t.toNat) ⟨1,0,c.ms.getD k 0⟩=0:=by
   unfold Bo.Plain.caE
   have e0:(Bo.Plain.Bk.new c.n.toNat c.cap c.t.toNat).ever=0:=rfl
   rw [if_neg (by show ¬ (1:Int)=3;omega),if_pos rfl,e0]
   dsimp only
   rw [if_neg (by omega),if_neg (by omega)]
  unfold Bo.Plain.caB
  rw [if_neg (by rw [hE];exact fun h=>h rfl),if_neg (by show ¬ (1:Int)=3;omega),if_pos rfl]
  show (0:Int)+c.ms.getD k 0=_
  omega
 ·rw [if_neg h0]
  have:c.ms.getD k 0=0:=Classical.not_not.1 h0
  rw [this];rfl
theorem Wss.step {c:Cf} {n m K:Nat} {W:Wo} (h:Wss c n m W) (hc:mayC c=true) (hn:c.n=n) (hw:Wok c n m K W) (hb:Wob W) (s:Sp):Wss c n m (stW c W s):=by
 unfold stW
 by_cases h9:s.kind=9
 ·rw [if_pos h9]
  refine ⟨fun i k=>?_,fun i k=>Int.le_trans (h.le i k) (given_up (hb k) i),fun k hk=>(Bo.Plain.roundB_ever _).trans (h.ev k hk),fun p hp hf i ht k=>?_⟩
  ·have:=(h.tot i k).step ⟨7,0,0,0⟩
   have e:Hd.Plain.gainO (W.rk i k) ⟨7,0,0,0⟩=0:=by unfold Hd.Plain.gainO;rw [if_neg (fun x=>by have:=x.1;simp at this)]
   rw [e,Int.add_zero] at this
   exact this
  ·rcases List.mem_append.1 hp with hp|hp
   ·exact Int.le_trans (h.fr p hp hf i ht k) (given_up (hb k) i)
   ·rcases tickP_mem hp with ⟨j,hj,rfl⟩|⟨j,j',hj,hj',_,rfl⟩|⟨j,hj,rfl⟩
    ·have:((j:Nat):Int)=n:=hf
     omega
    ·have:((j:Nat):Int)=n:=hf
     omega
    ·have hij:j=i:=by have:((j:Nat):Int)=(i:Nat):=ht;omega
     subst hij
     show (askV c (natL (byI (asksB c (Bo.Plain.mapN c.ms.length fun k=>(Bo.Plain.roundB (W.bk k)).given.getD j 0))))).getD k 0<=(Bo.Plain.roundB (W.bk k)).given.getD j 0
     have hgv:∀ k,0<=(Bo.Plain.roundB (W.bk k)).given.getD j 0/\(Bo.Plain.roundB (W.bk k)).given.getD j 0<=1048576:=fun k=>by
      have o:=(hb k).round
      have hi2:j<(Bo.Plain.roundB (W.bk k)).n:=by rw [Bo.Plain.roundB_n,hw.bn];omega
      have a:=o.gi j hi2
      have b:=o.wa j hi2
      omega
     rw [natL_byI,(asks_back hc (Bo.Plain.mapN_len _ _) (mapN_all fun k _=>hgv k)).2.2.1]
     by_cases hk:k<c.ms.length
     ·rw [Bo.Plain.mapN_at hk];exact Int.le_refl _
     ·rw [List.getD_eq_getElem?_getD,List.getElem?_eq_none (by rw [Bo.Plain.mapN_len];omega)]
      exact (hgv k).1
 rw [if_neg h9]
 by_cases h10:s.kind=10
 ·rw [if_pos h10]
  unfold delW
  by_cases hf:findE W s.id≠0
  ·rw [if_pos hf];exact h
  rw [if_neg hf]
  have hs:¬ (s.id<0\/(W.off.posted.length:Int)<=s.id):=fun x=>hf (by
   have e:Se.Plain.seenE W.off s.id≠0:=by unfold Se.Plain.seenE;rw [if_pos x];decide
   unfold findE;rw [if_pos e];decide)
  have hlt:s.id.toNat<W.off.posted.length:=by omega
  have hmem:W.off.at s.id.toNat∈W.off.posted:=by
   unfold Se.Plain.Off.at
   rw [List.getD_eq_getElem?_getD,List.getElem?_eq_getElem hlt]
   exact List.getElem_mem hlt
  have hfr:=h.fr _ hmem
  obtain ⟨bl,hbl,_,hb2,hx⟩:=hw.fr _ hmem
  have hnl:natL (W.off.at s.id.toNat).data=bl:=by rw [hbl];exact natL_byI bl
  rw [hnl] at hfr
  unfold comeW
  rw [hnl]
  rcases hx with ⟨hto,hal⟩|⟨i,hi,hto,hfr2,hal,hle⟩|⟨i,j,hi,hj,hij,hto,hfr2,hU,hhl⟩
  ·rw [if_pos (by rw [hto,hn])]
   have hg:∀ k,((wantW { W with off:={ W.off with opened:=W.off.opened++[s.id.toNat] } } (W.off.at s.id.toNat).frm (askV c bl)).bk k).given=(W.bk k).given/\((wantW { W with off:={ W.off with opened:=W.off.opened++[s.id.toNat] } } (W.off.at s.id.toNat).frm (askV c bl)).bk k).ever=(W.bk k).ever:=fun k=>by
    show (if k<_ then _ else _:Bo.Plain.Bk).given=_/\(if k<_ then _ else _:Bo.Plain.Bk).ever=_
    split
    ·exact ⟨(caB_given _ _ _).1,(caB_given _ _ _).2.1⟩
    ·exact ⟨rfl,rfl⟩
   exact ⟨h.tot,fun i k=>by rw [(hg k).1];exact h.le i k,fun k hk=>(hg k).2.trans (h.ev k hk),fun p hp hf' i ht k=>by rw [(hg k).1];exact h.fr p hp hf' i ht k⟩
  ·rw [if_neg (by rw [hto,hn];omega),if_pos (by rw [hfr2,hn])]
   have hti:(W.off.at s.id.toNat).«to».toNat=i:=by rw [hto];exact Int.toNat_natCast i
   have hlei:=hfr hfr2 i hto
   refine ⟨fun a k=>?_,fun a k=>?_,h.ev,h.fr⟩
   ·unfold giveW
    dsimp only
    rw [hti]
    by_cases e:a=i/\k<(askV c bl).length/\W.gain a k<(askV c bl).getD k 0
    ·rw [if_pos e,if_pos e]
     have ht:=h.tot a k
     have hst:=ht.step ⟨1,(askV c bl).getD k 0-W.gain a k,0,0⟩
     have hmx:=(askV_all c bl).2 k
     have hg0:=ht.gb.1
     have hE:Hd.Plain.ordE (W.rk a k) ⟨1,(askV c bl).getD k 0-W.gain a k,0,0⟩=0:=by
      unfold Hd.Plain.ordE
      have hsm:=ht.sm
      dsimp only
      rw [if_neg (by omega),if_neg (fun x=>by have:=x.2;have:=e.2.2;omega),if_pos rfl,if_neg (by omega)]
     have hgo:Hd.Plain.gainO (W.rk a k) ⟨1,(askV c bl).getD k 0-W.gain a k,0,0⟩=(askV c bl).getD k 0-W.gain a k:=by
      unfold Hd.Plain.gainO
      rw [if_pos ⟨rfl,hE⟩]
     rw [hgo,show W.gain a k+((askV c bl).getD k 0-W.gain a k)=(askV c bl).getD k 0 by omega] at hst
     exact hst
    ·rw [if_neg e,if_neg e]
     exact h.tot a k
   ·unfold giveW
    dsimp only
    rw [hti]
    by_cases e:a=i/\k<(askV c bl).length/\W.gain a k<(askV c bl).getD k 0
    ·rw [if_pos e,e.1]
     exact hlei k
    ·rw [if_neg e]
     exact h.le a k
  ·rw [if_neg (by rw [hto,hn];omega),if_neg (by rw [hfr2,hn];omega)]
   exact ⟨h.tot,h.le,h.ev,h.fr⟩
 rw [if_neg h10]
 by_cases h11:s.kind=11
 ·rw [if_pos h11]
  unfold losW
  split
  ·exact h
  ·exact ⟨h.tot,h.le,h.ev,h.fr⟩
 rw [if_neg h11]
 by_cases hk:s.kind<1\/8<s.kind
 ·rw [if_pos hk];exact h
 rw [if_neg hk]
 by_cases hwho:s.who<0\/c.n<=s.who
 ·rw [if_pos hwho];exact h
 rw [if_neg hwho]
 unfold brW
 by_cases h7:s.kind=7
 ·rw [if_pos h7];exact ⟨h.tot,h.le,h.ev,h.fr⟩
 rw [if_neg h7]
 by_cases h8:s.kind=8
 ·rw [if_pos h8];exact h
 rw [if_neg h8]
 by_cases hit:s.item<0\/(c.ms.length:Int)<=s.item
 ·rw [if_pos hit];exact h
 rw [if_neg hit]
 by_cases h1:s.kind=1
 ·rw [if_pos h1]
  split
  ·exact ⟨h.tot,h.le,h.ev,h.fr⟩
  ·exact h
 ·rw [if_neg h1]
  refine ⟨fun a k=>?_,h.le,h.ev,h.fr⟩
  show Hd.Plain.Hv (up2 W.rk _ _ _ a k) (W.gain a k)
  unfold up2
  split
  next e =>
   rw [e.1,e.2]
   have:=(h.tot s.who.toNat s.item.toNat).step ⟨s.kind,s.count,s.life,s.id⟩
   have e0:Hd.Plain.gainO (W.rk s.who.toNat s.item.toNat) ⟨s.kind,s.count,s.life,s.id⟩=0:=by unfold Hd.Plain.gainO;rw [if_neg (fun x=>h1 x.1)]
   rw [e0,Int.add_zero] at this
   exact this
  ·exact h.tot a k
theorem wss_all {c:Cf} {n m:Nat} (hc:mayC c=true) (hn:c.n=n) (hm:c.ms.length=m):∀ (k:Nat) (l:List Sp),l.length=k->k<=300->Wss c n m (runW c (Wo.start c) l):=by
 intro k
 induction k with
 | zero =>
  intro l hl _
  have:l=[]:=List.length_eq_zero_iff.1 hl
  subst this
  exact Wss.start hc hm
 | succ k ih =>
  intro l hl hk
  have hne:l≠[]:=by intro e;subst e;simp at hl
  obtain ⟨i,s,rfl⟩:∃ i s,l=i++[s]:=⟨l.dropLast,l.getLast hne,(List.dropLast_concat_getLast hne).symm⟩
  rw [List.length_append,List.length_singleton] at hl
  have ok:=wok_all hc hn hm i (by omega)
  rw [runW_app]
  exact (ih i (by omega) (by omega)).step hc hn ok.1 ok.2 s
end Plain
end Go.Proofs.YtlohgiichckjmaaGreatDoor
namespace Go.Proofs.YtlohgiichckjmaaGreatDoor
set_option maxHeartbeats 16000000
set_option maxRecDepth 100000
namespace Plain
theorem shape_len {c:Cf} (hn:c.n=4):(shape c).length=20:=by
 unfold shape shapeB
 simp only [hn]
 rfl
theorem ticksN_take (l:List Sp) (i:Nat) (s:Sp) (hi:l[i]?=some s):ticksN (l.take (i+1))=ticksN (l.take i)+if s.kind=9 then 1 else 0:=by
 rw [List.take_add_one,hi]
 exact ticksN_snoc _ _
theorem ticksN_le (l:List Sp):ticksN l<=l.length:=List.length_filter_le _ _
end Plain
end Go.Proofs.YtlohgiichckjmaaGreatDoor
namespace Go.Proofs.YtlohgiichckjmaaGreatDoor
set_option maxHeartbeats 16000000
set_option maxRecDepth 100000
namespace Plain
def Wlo (W:Wo):Prop:=∀ i,i∈W.lost->i<(W.off.posted.length:Int)
theorem posted_up (c:Cf) (W:Wo) (s:Sp):W.off.posted.length<=(stW c W s).off.posted.length:=by
 rw [posted_step]
 split
 ·rw [List.length_append];omega
 ·exact Nat.le_refl _
theorem lost_step (c:Cf) (W:Wo) (s:Sp):(stW c W s).lost=W.lost\/(s.kind=11/\findE W s.id=0/\(stW c W s).lost=W.lost++[s.id]):=by
 unfold stW
 split
 ·exact .inl rfl
 split
 ·left
  unfold delW
  split
  ·rfl
  ·unfold comeW
   split
   ·rfl
   split<;>rfl
 split
 next h11 =>
  unfold losW
  split
  ·exact .inl rfl
  next hf=>exact .inr ⟨h11,Classical.not_not.1 hf,rfl⟩
 split
 ·exact .inl rfl
 split
 ·exact .inl rfl
 ·left
  unfold brW
  repeat' split
  all_goals rfl
theorem Wlo.step {c:Cf} {W:Wo} (h:Wlo W) (s:Sp):Wlo (stW c W s):=fun i hi=>by
 have hu:=posted_up c W s
 rcases lost_step c W s with e|⟨_,hf,e⟩
 ·rw [e] at hi
  have:=h i hi
  omega
 ·rw [e] at hi
  rcases List.mem_append.1 hi with hi|hi
  ·have:=h i hi
   omega
  ·have hi:=List.mem_singleton.1 hi
   subst hi
   have hs:=(find_ok hf).1
   unfold Se.Plain.seenE at hs
   by_cases x:s.id<0\/(W.off.posted.length:Int)<=s.id
   ·rw [if_pos x] at hs;cases hs
   ·omega
theorem Wlo.run {c:Cf} {W:Wo} (h:Wlo W) (l:List Sp):Wlo (runW c W l):=by
 induction l generalizing W with
 | nil=>exact h
 | cons s l ih=>exact ih (h.step s)
def tickS:Sp:=⟨9,0,0,0,0,0,0,0⟩
def delS (i:Nat):Sp:=⟨10,0,0,0,0,(i:Int),0,0⟩
def comeL (b j:Nat):List Sp:=(List.range j).map fun i=>delS (b+i)
def fullF (l:List Sp):List Sp:=l++tickS :: comeL (20*ticksN l) 20
theorem comeL_succ (b j:Nat):comeL b (j+1)=comeL b j++[delS (b+j)]:=by
 unfold comeL
 rw [List.range_succ,List.map_append];rfl
theorem comeL_len (b j:Nat):(comeL b j).length=j:=by unfold comeL;rw [List.length_map,List.length_range]
theorem fullF_len (l:List Sp):(fullF l).length=l.length+21:=by unfold fullF;rw [List.length_append,List.length_cons,comeL_len]
theorem tickP_giv {c:Cf} {W:Wo} (hn:c.n=4) {i:Nat} (hi:i<4):(tickP c W)[16+i]?=some (givP c W i):=by
 have hA:((List.range c.n.toNat).flatMap (sends c W)).length=16:=by
  unfold sends
  rw [hn]
  rfl
 unfold tickP
 rw [List.getElem?_append_right (by omega),hA,show 16+i-16=i by omega,List.getElem?_map,List.getElem?_range (by rw [hn];exact hi)]
 rfl
theorem come_keep {c:Cf} {W:Wo} {p:Se.Plain.Po}:(comeW c W p).off=W.off/\(comeW c W p).lost=W.lost/\(∀ k,((comeW c W p).bk k).given=(W.bk k).given):=by
 unfold comeW
 split
 ·refine ⟨rfl,rfl,fun k=>?_⟩
  show (if k<_ then _ else _:Bo.Plain.Bk).given=_
  split
  ·exact (caB_given _ _ _).1
  ·rfl
 split
 ·exact ⟨rfl,rfl,fun _=>rfl⟩
 ·exact ⟨rfl,rfl,fun _=>rfl⟩
structure Cmg (c:Cf) (m b:Nat) (W1 D:Wo) (j:Nat):Prop where
 po:D.off.posted=W1.off.posted
 op:D.off.opened=W1.off.opened++(List.range j).map (b + ·)
 lo:D.lost=W1.lost
 gi:∀ k,(D.bk k).given=(W1.bk k).given
 ga:∀ i k,i+16<j->k<m->D.gain i k=(W1.bk k).given.getD i 0
theorem Cmg.step {c:Cf} {m K b:Nat} {W D:Wo} {j:Nat} (hc:mayC c=true) (hn:c.n=4) (hm:c.ms.length=m) (hw:Wok c 4 m K W) (hb:Wob W) (hlo:Wlo W) (hbp:W.off.posted.length=b) (h:Cmg c m b (tickW c W) D j) (hj:j<20) (hle:∀ i k,D.gain i k<=(D.bk k).given.getD i 0):Cmg c m b (tickW c W) (stW c D (delS (b+j))) (j+1):=by
 have h20:(tickP c W).length=20:=by rw [<- shape_len hn,<- tick_shape hc hn hw hb,List.length_map]
 have hpl:D.off.posted.length=b+20:=by
  rw [h.po]
  show (W.off.posted++tickP c W).length=_
  rw [List.length_append,hbp,h20]
 have hid:(delS (b+j)).id=((b+j:Nat):Int):=rfl
 have hfind:findE D ((b+j:Nat):Int)=0:=by
  have e1:Se.Plain.seenE D.off ((b+j:Nat):Int)=0:=by unfold Se.Plain.seenE;rw [if_neg (by rw [hpl];omega)]
  have e2:¬ ((b+j:Nat):Int)∈D.lost:=fun x=>by
   rw [h.lo] at x
   have:=hlo _ x
   omega
  have e3:Se.Plain.oldO D.off ((b+j:Nat):Int).toNat≠true:=fun x=>by
   rw [Int.toNat_natCast] at x
   unfold Se.Plain.oldO at x
   obtain ⟨k,hk,hd⟩:=List.any_eq_true.1 x
   have hd:=(of_decide_eq_true hd).1
   rw [h.op] at hk
   rcases List.mem_append.1 hk with hk|hk
   ·have:k<W.off.posted.length:=hw.gd.op k hk
    omega
   ·obtain ⟨i,hi,rfl⟩:=List.mem_map.1 hk
    have:=List.mem_range.1 hi
    omega
  unfold findE
  rw [if_neg (fun y=>y e1),if_neg (fun y=>y.elim e2 e3)]
 have hst:stW c D (delS (b+j))=comeW c { D with off:={ D.off with opened:=D.off.opened++[b+j] } } (D.off.at (b+j)):=by
  unfold stW
  rw [if_neg (by show ¬ (10:Int)=9;omega),if_pos (show (delS (b+j)).kind=10 from rfl),hid]
  unfold delW
  rw [if_neg (fun y=>y hfind),Int.toNat_natCast]
 rw [hst]
 have hk:=come_keep (c:=c) (W:={ D with off:={ D.off with opened:=D.off.opened++[b+j] } }) (p:=D.off.at (b+j))
 refine ⟨by rw [hk.1];exact h.po,by rw [hk.1,List.range_succ,List.map_append,<- List.append_assoc,<- h.op];rfl,by rw [hk.2.1];exact h.lo,fun k=>by rw [hk.2.2];exact h.gi k,fun i k hi hkm=>?_⟩
 by_cases h16:16<=j
 ·obtain ⟨a,rfl⟩:=Nat.exists_eq_add_of_le h16
  have hat:D.off.at (b+(16+a))=givP c W a:=by
   unfold Se.Plain.Off.at
   rw [h.po]
   show (W.off.posted++tickP c W).getD _ _=_
   rw [List.getD_eq_getElem?_getD,List.getElem?_append_right (by omega),hbp,show b+(16+a)-b=16+a by omega,tickP_giv hn (by omega)]
   rfl
  rw [hat]
  have hgv:∀ k,0<=(Bo.Plain.roundB (W.bk k)).given.getD a 0/\(Bo.Plain.roundB (W.bk k)).given.getD a 0<=1048576:=fun k=>by
   have o:=(hb k).round
   have hi2:a<(Bo.Plain.roundB (W.bk k)).n:=by rw [Bo.Plain.roundB_n,hw.bn];omega
   have x:=o.gi a hi2
   have y:=o.wa a hi2
   omega
  have hask:askV c (natL (givP c W a).data)=Bo.Plain.mapN c.ms.length fun k=>(Bo.Plain.roundB (W.bk k)).given.getD a 0:=by
   show askV c (natL (byI (asksB c (Bo.Plain.mapN c.ms.length fun k=>(Bo.Plain.roundB (W.bk k)).given.getD a 0))))=_
   rw [natL_byI,(asks_back hc (Bo.Plain.mapN_len _ _) (mapN_all fun k _=>hgv k)).2.2.1]
  unfold comeW
  rw [if_neg (by show ¬ ((a:Nat):Int)=c.n;rw [hn];omega),if_pos (by rfl),hask]
  have hto:(givP c W a).«to».toNat=a:=Int.toNat_natCast a
  rw [hto]
  show (if i=a/\k<(Bo.Plain.mapN c.ms.length _).length/\D.gain i k<(Bo.Plain.mapN c.ms.length _).getD k 0 then (Bo.Plain.mapN c.ms.length _).getD k 0 else D.gain i k)=_
  rw [Bo.Plain.mapN_len,Bo.Plain.mapN_at (by omega)]
  have hg:(D.bk k).given.getD i 0=(Bo.Plain.roundB (W.bk k)).given.getD i 0:=by rw [h.gi];rfl
  have hg1:((tickW c W).bk k).given.getD i 0=(Bo.Plain.roundB (W.bk k)).given.getD i 0:=rfl
  have hl:=hle i k
  rw [hg1]
  by_cases ia:i=a
  ·subst ia
   split
   ·rfl
   next hno =>
    have:¬ D.gain i k<(Bo.Plain.roundB (W.bk k)).given.getD i 0:=fun x=>hno ⟨rfl,by omega,x⟩
    omega
  ·rw [if_neg (fun x=>ia x.1)]
   exact h.ga i k (by omega) hkm
 ·omega
theorem cmg_all {c:Cf} {m K:Nat} {l:List Sp} (hc:mayC c=true) (hn:c.n=4) (hm:c.ms.length=m) (hl:l.length+21<=300) (hK:l.length=K):∀ j,j<=20->Cmg c m (20*ticksN l) (tickW c (runW c (Wo.start c) l)) (runW c (Wo.start c) (l++tickS :: comeL (20*ticksN l) j)) j:=by
 have hw:=wok_all hc (n:=4) hn hm l (by omega)
 have hlo:Wlo (runW c (Wo.start c) l):=Wlo.run (show Wlo (Wo.start c) from fun i (hi:i∈([]:List Int))=>(nomatch hi)) l
 have hbp:(runW c (Wo.start c) l).off.posted.length=20*ticksN l:=by rw [posted_len hc (n:=4) hn hm l.length l rfl (by omega),shape_len hn]
 intro j
 induction j with
 | zero =>
  intro _
  rw [runW_app]
  exact ⟨rfl,(List.append_nil _).symm,rfl,fun _=>rfl,fun i k hi=>by omega⟩
 | succ j ih =>
  intro hj
  have hi:=ih (by omega)
  rw [comeL_succ,<- List.cons_append,<- List.append_assoc,runW_app]
  have hs:=wss_all hc (n:=4) hn hm _ (l++tickS :: comeL (20*ticksN l) j) rfl (by rw [List.length_append,List.length_cons,comeL_len];omega)
  exact hi.step hc hn hm hw.1 hw.2 hlo hbp (by omega) hs.le
theorem full_all {c:Cf} {m:Nat} {l:List Sp} (hc:mayC c=true) (hn:c.n=4) (hm:c.ms.length=m) (hl:l.length+21<=300) {i k:Nat} (hi:i<4) (hk:k<m):(runW c (Wo.start c) (fullF l)).gain i k=((runW c (Wo.start c) (fullF l)).bk k).given.getD i 0:=by
 have h:=cmg_all hc hn hm hl rfl 20 (Nat.le_refl _)
 have e:=h.ga i k (by omega) hk
 rw [<- h.gi k] at e
 exact e
end Plain
end Go.Proofs.YtlohgiichckjmaaGreatDoor
namespace Go.Proofs.YtlohgiichckjmaaGreatDoor
set_option maxHeartbeats 16000000
set_option maxRecDepth 100000
open Go.RowKit Go.Shelf Go.Sort
theorem gnow_c (D:Nat->Nat) (vo:Nat->Nat->Value) (n m:Nat) (a g:Nat->Nat->Int) (r:Nat->Nat->Hd.Plain.Rk) (i k:Nat) (hi:i<n) (hk:k<m) (gg:Int) (hv:Hd.Plain.Hv (r i k) gg) (w:World) (h:GoI w D vo n m a g r) :
  Calls Tryz.prog 34 #[.pointer (some ⟨D i,k*6+2,none⟩)] w fun e w'=>e=.returned (Hd.aggS ⟨0,0,(r i k).free,(r i k).held,(r i k).used⟩)/\Below w.heap.size w w':=by
 obtain ⟨hf,hu,hs1⟩:=hv.bdsL
 obtain ⟨hp1,hp2,hp3⟩:=hv.ptsL
 have K:=Hd.now_c _ _ _ _ _ (r i k).free (r i k).used _ _ hp1 (by rw [Hd.Plain.sumP_open];exact hs1.2) (by omega) w (h.stock hi hk)
 rw [Hd.Plain.sumP_open] at K
 exact K
structure Plain.Pu where
 ask:Int
 free:Int
 held:Int
 used:Int
def puC (x:Plain.Pu) (j:Nat):Value:=.int .i64 (if j=0 then x.ask else if j=3 then x.free else if j=4 then x.held else if j=5 then x.used else 0)
def puF (f:Nat->Plain.Pu) (k j:Nat):Value:=if j/6<k then puC (f (j/6)) (j%6) else .int .i64 0
def Plain.puW (W:Plain.Wo) (i k:Nat):Plain.Pu:=⟨W.ask i k,(W.rk i k).free,(W.rk i k).held,(W.rk i k).used⟩
theorem made_rowP (w:World) (m:Nat) (f:Nat->Plain.Pu):(w.alloc (.cells (madeCells #[.int .i64 0,.int .i64 0,.int .i64 0,.int .i64 0,.int .i64 0,.int .i64 0] (m*6)) 52)).rowIs w.heap.size 52 (m*6) (puF f 0) :=
 ⟨_,Deep.blk_alloc_new _ _,size_madeCells _ _,fun i hi=>by
  have h6:i%6<6:=Nat.mod_lt _ (by decide)
  have:i%6=0\/i%6=1\/i%6=2\/i%6=3\/i%6=4\/i%6=5:=by omega
  rcases this with e|e|e|e|e|e<;>simp [madeCells,hi,e,puF]⟩
theorem puF_set (f:Nat->Plain.Pu) (k j:Nat):(if k*6<=j/\j<k*6+6 then puC (f k) (j-k*6) else puF f k j)=puF f (k+1) j:=by
 unfold puF
 by_cases e:k*6<=j/\j<k*6+6
 ·rw [if_pos e,if_pos (by omega),show j/6=k by omega,show j%6=j-k*6 by omega]
 ·rw [if_neg e]
  by_cases l:j/6<k
  ·rw [if_pos l,if_pos (by omega)]
  ·rw [if_neg l,if_neg (by omega)]
theorem puX (f:Nat->Plain.Pu) (k j:Nat) (x:Int) (hx:x=(f k).ask):(if j=k*6+5 then .int .i64 (f k).used else if j=k*6+4 then .int .i64 (f k).held else if j=k*6+3 then .int .i64 (f k).free else if j=k*6+2 then .int .i64 0 else if j=k*6+1 then .int .i64 0 else if j=k*6 then .int .i64 x else puF f k j:Value)=if k*6<=j/\j<k*6+6 then puC (f k) (j-k*6) else puF f k j:=by
 by_cases e:k*6<=j/\j<k*6+6
 ·rw [if_pos e]
  obtain ⟨d,rfl⟩:=Nat.exists_eq_add_of_le e.1
  rw [Nat.add_sub_cancel_left]
  have:d=0\/d=1\/d=2\/d=3\/d=4\/d=5:=by omega
  rcases this with rfl|rfl|rfl|rfl|rfl|rfl<;>simp [puC,hx]
 ·rw [if_neg e,if_neg (by omega),if_neg (by omega),if_neg (by omega),if_neg (by omega),if_neg (by omega),if_neg (by omega)]
theorem infoPu:(Tryz.prog.info? 52).map (fun i=>(i.zero,i.size,i.bytes))=some (some (.agg #[.int .i64 0,.int .i64 0,.int .i64 0,.int .i64 0,.int .i64 0,.int .i64 0]),6,48):=by kernel_rfl
theorem purses_c (EB NC:Nat) (F:Nat->Value) (H D:Nat->Nat) (vo:Nat->Nat->Value) (lp:Option Addr) (lc n m:Nat) (L:List Int) (W:Plain.Wo) (i:Nat) (hi:i<n) (hm:m<=3) (hv:∀ k,∃ g,Hd.Plain.Hv (W.rk i k) g) (w:World)
  (h:BrsI w EB NC F H D vo lp lc n m L W) :
  Calls Tryz.prog 25 #[.pointer (some ⟨EB,i*4,none⟩)] w fun e w'=>e=.returned (.slice (some ⟨w.heap.size,0,none⟩) m m)/\w'.rowIs w.heap.size 52 (m*6) (puF (Plain.puW W i) m)/\Below w.heap.size w w':=by
 have mk:∀ W:World,(Instr.makeSlice 53 (.int .i64 (m:Int)) (.int .i64 (m:Int))).run Tryz.prog W=.ok (.slice (some ⟨W.heap.size,0,none⟩) m m) (W.alloc (.cells (madeCells #[.int .i64 0,.int .i64 0,.int .i64 0,.int .i64 0,.int .i64 0,.int .i64 0] (m*6)) 52)):=fun W=>by
  obtain ⟨i0,hi,hz0,hz1,hz2⟩:=info_parts infoPu
  have:=run_make (P:=Tryz.prog) W 53 52 i0 _ Tryz.underlying53 hi hz0 .i64 .i64 (m:Int) (m:Int) (by omega) (Int.le_refl _) (by rw [hz2];omega) (by omega)
  rw [hz1,show (Value.agg #[.int .i64 0,.int .i64 0,.int .i64 0,.int .i64 0,.int .i64 0,.int .i64 0]).cells=#[.int .i64 0,.int .i64 0,.int .i64 0,.int .i64 0,.int .i64 0,.int .i64 0] from rfl] at this
  simpa using this
 obtain ⟨WA,hWA⟩:∃ WA,WA=w.alloc (.cells (madeCells #[.int .i64 0,.int .i64 0,.int .i64 0,.int .i64 0,.int .i64 0,.int .i64 0] (m*6)) 52):=⟨_,rfl⟩
 have BA:=hid (show Below w.heap.size w WA by rw [hWA];exact (Below.refl _ _).alloc (Nat.le_refl _) _)
 have RA:=hid (show WA.rowIs w.heap.size 52 (m*6) (puF (Plain.puW W i) 0) by rw [hWA];exact made_rowP w m (Plain.puW W i))
 have x3:=h.st.goods hi
 have x3A:=(h.grow BA.out).st.goods hi
 rw [hWA] at x3A
 have HG:=hid h
 have HV:=hid hv
 have mixed:Tryz.prog.follows .mixedOrders=true:=by kernel_rfl
 clear h hv
 go_enter Tryz.func25,Tryz.ntmps25
 go_wp2
 rw [<- hWA]
 clear hWA mk x3 x3A
 go_loopg [4,16] m (fun gg _ s16 wx=>∃ k:Nat,k<=m/\m-k<=gg/\s16=.int .i64 k/\Aside (Below w.heap.size w wx/\wx.rowIs w.heap.size 52 (m*6) (puF (Plain.puW W i) k)))
 case atStart=>exact ⟨0,Nat.zero_le _,by omega,rfl,(show Aside _ from ⟨BA.out,RA.out⟩)⟩
 case round =>
  obtain ⟨k,hk,hg,rfl,AR⟩:=hrel
  clear BA RA
  by_cases hlt:k<m
  ·have hltz:(k:Int)<(m:Int):=by omega
   have hkn:¬ (k:Int)<0:=by omega
   have hB:=HG.out.grow AR.out.1
   obtain ⟨gg5,hvk⟩:=HV.out k
   have KN:=gnow_c D vo n m W.ask W.gain W.rk i k hi hlt gg5 hvk wr.drew (hB.go.grow (Below.refl _ _).drew)
   have x3:=hB.st.goods hi
   have xa:=hB.go.cA hi hlt
   obtain ⟨x,hx⟩:∃ x,x=W.ask i k:=⟨_,rfl⟩
   rw [<- hx] at xa
   have TS:(fun w':World=>w'.cell? ⟨EB,i*4+3,none⟩=some (.slice (some ⟨D i,0,none⟩) m m)/\w'.cell? ⟨D i,k*6,none⟩=some (.int .i64 x)) wr.drew:=⟨x3,xa⟩
   have ARH:=hid AR.out
   have HX:=hid hx
   clear hB hvk xa x3 AR hx
   go_upto_region 5 with fail
   refine AnyBut.begin (fun w':World=>w'.cell? ⟨EB,i*4+3,none⟩=some (.slice (some ⟨D i,0,none⟩) m m)/\w'.cell? ⟨D i,k*6,none⟩=some (.int .i64 x)) 20 mixed ?_
   refine AnyBut.take 0 (.slice (some ⟨w.heap.size,0,none⟩) m m) rfl (by kernel_rfl) (by kernel_rfl) (by kernel_rfl) (by kernel_rfl) (fun _ _ _ h=>h) TS (by rfl) (fun w' hS=>?_) ?_
   ·(obtain ⟨q1,q2⟩:=hS;go_simp)
   (try simp only [Act.put,List.setIfInBounds_toArray,List.set_cons_zero,List.set_cons_succ])
   refine AnyBut.take 1 (.int .i64 (k:Int)) rfl (by kernel_rfl) (by kernel_rfl) (by kernel_rfl) (by kernel_rfl) (fun _ _ _ h=>h) TS (by rfl) (fun w' hS=>?_) ?_
   ·(obtain ⟨q1,q2⟩:=hS;go_simp)
   (try simp only [Act.put,List.setIfInBounds_toArray,List.set_cons_zero,List.set_cons_succ])
   refine AnyBut.take 2 (.pointer (some ⟨EB,i*4,none⟩)) rfl (by kernel_rfl) (by kernel_rfl) (by kernel_rfl) (by kernel_rfl) (fun _ _ _ h=>h) TS (by rfl) (fun w' hS=>?_) ?_
   ·(obtain ⟨q1,q2⟩:=hS;go_simp)
   (try simp only [Act.put,List.setIfInBounds_toArray,List.set_cons_zero,List.set_cons_succ])
   refine AnyBut.take 3 (.pointer (some ⟨EB,i*4,none⟩)) rfl (by kernel_rfl) (by kernel_rfl) (by kernel_rfl) (by kernel_rfl) (fun _ _ _ h=>h) TS (by rfl) (fun w' hS=>?_) ?_
   ·(obtain ⟨q1,q2⟩:=hS;go_simp)
   (try simp only [Act.put,List.setIfInBounds_toArray,List.set_cons_zero,List.set_cons_succ])
   refine AnyBut.take 4 (.pointer (some ⟨EB,i*4+3,none⟩)) rfl (by kernel_rfl) (by kernel_rfl) (by kernel_rfl) (by kernel_rfl) (fun _ _ _ h=>h) TS (by rfl) (fun w' hS=>?_) ?_
   ·(obtain ⟨q1,q2⟩:=hS;go_simp)
   (try simp only [Act.put,List.setIfInBounds_toArray,List.set_cons_zero,List.set_cons_succ])
   refine AnyBut.take 5 (.slice (some ⟨D i,0,none⟩) m m) rfl (by kernel_rfl) (by kernel_rfl) (by kernel_rfl) (by kernel_rfl) (fun _ _ _ h=>h) TS (by rfl) (fun w' hS=>?_) ?_
   ·(obtain ⟨q1,q2⟩:=hS;go_simp)
   (try simp only [Act.put,List.setIfInBounds_toArray,List.set_cons_zero,List.set_cons_succ])
   refine AnyBut.take 6 (.int .i64 (k:Int)) rfl (by kernel_rfl) (by kernel_rfl) (by kernel_rfl) (by kernel_rfl) (fun _ _ _ h=>h) TS (by rfl) (fun w' hS=>?_) ?_
   ·(obtain ⟨q1,q2⟩:=hS;go_simp)
   (try simp only [Act.put,List.setIfInBounds_toArray,List.set_cons_zero,List.set_cons_succ])
   refine AnyBut.take 7 (.pointer (some ⟨D i,k*6,none⟩)) rfl (by kernel_rfl) (by kernel_rfl) (by kernel_rfl) (by kernel_rfl) (fun _ _ _ h=>h) TS (by rfl) (fun w' hS=>?_) ?_
   ·(obtain ⟨q1,q2⟩:=hS;go_simp)
   (try simp only [Act.put,List.setIfInBounds_toArray,List.set_cons_zero,List.set_cons_succ])
   refine AnyBut.take 8 (.pointer (some ⟨D i,k*6,none⟩)) rfl (by kernel_rfl) (by kernel_rfl) (by kernel_rfl) (by kernel_rfl) (fun _ _ _ h=>h) TS (by rfl) (fun w' hS=>?_) ?_
   ·(obtain ⟨q1,q2⟩:=hS;go_simp)
   (try simp only [Act.put,List.setIfInBounds_toArray,List.set_cons_zero,List.set_cons_succ])
   refine AnyBut.take 9 (.int .i64 x) rfl (by kernel_rfl) (by kernel_rfl) (by kernel_rfl) (by kernel_rfl) (fun _ _ _ h=>h) TS (by rfl) (fun w' hS=>?_) ?_
   ·(obtain ⟨q1,q2⟩:=hS;go_simp)
   (try simp only [Act.put,List.setIfInBounds_toArray,List.set_cons_zero,List.set_cons_succ])
   refine AnyBut.take 10 (.pointer (some ⟨EB,i*4,none⟩)) rfl (by kernel_rfl) (by kernel_rfl) (by kernel_rfl) (by kernel_rfl) (fun _ _ _ h=>h) TS (by rfl) (fun w' hS=>?_) ?_
   ·(obtain ⟨q1,q2⟩:=hS;go_simp)
   (try simp only [Act.put,List.setIfInBounds_toArray,List.set_cons_zero,List.set_cons_succ])
   refine AnyBut.take 11 (.pointer (some ⟨EB,i*4,none⟩)) rfl (by kernel_rfl) (by kernel_rfl) (by kernel_rfl) (by kernel_rfl) (fun _ _ _ h=>h) TS (by rfl) (fun w' hS=>?_) ?_
   ·(obtain ⟨q1,q2⟩:=hS;go_simp)
   (try simp only [Act.put,List.setIfInBounds_toArray,List.set_cons_zero,List.set_cons_succ])
   refine AnyBut.take 12 (.pointer (some ⟨EB,i*4+3,none⟩)) rfl (by kernel_rfl) (by kernel_rfl) (by kernel_rfl) (by kernel_rfl) (fun _ _ _ h=>h) TS (by rfl) (fun w' hS=>?_) ?_
   ·(obtain ⟨q1,q2⟩:=hS;go_simp)
   (try simp only [Act.put,List.setIfInBounds_toArray,List.set_cons_zero,List.set_cons_succ])
   refine AnyBut.take 13 (.slice (some ⟨D i,0,none⟩) m m) rfl (by kernel_rfl) (by kernel_rfl) (by kernel_rfl) (by kernel_rfl) (fun _ _ _ h=>h) TS (by rfl) (fun w' hS=>?_) ?_
   ·(obtain ⟨q1,q2⟩:=hS;go_simp)
   (try simp only [Act.put,List.setIfInBounds_toArray,List.set_cons_zero,List.set_cons_succ])
   refine AnyBut.take 14 (.int .i64 (k:Int)) rfl (by kernel_rfl) (by kernel_rfl) (by kernel_rfl) (by kernel_rfl) (fun _ _ _ h=>h) TS (by rfl) (fun w' hS=>?_) ?_
   ·(obtain ⟨q1,q2⟩:=hS;go_simp)
   (try simp only [Act.put,List.setIfInBounds_toArray,List.set_cons_zero,List.set_cons_succ])
   refine AnyBut.take 15 (.pointer (some ⟨D i,k*6,none⟩)) rfl (by kernel_rfl) (by kernel_rfl) (by kernel_rfl) (by kernel_rfl) (fun _ _ _ h=>h) TS (by rfl) (fun w' hS=>?_) ?_
   ·(obtain ⟨q1,q2⟩:=hS;go_simp)
   (try simp only [Act.put,List.setIfInBounds_toArray,List.set_cons_zero,List.set_cons_succ])
   refine AnyBut.take 16 (.pointer (some ⟨D i,k*6+2,none⟩)) rfl (by kernel_rfl) (by kernel_rfl) (by kernel_rfl) (by kernel_rfl) (fun _ _ _ h=>h) TS (by rfl) (fun w' hS=>?_) ?_
   ·(obtain ⟨q1,q2⟩:=hS;go_simp)
   (try simp only [Act.put,List.setIfInBounds_toArray,List.set_cons_zero,List.set_cons_succ])
   refine AnyBut.one 17 (by kernel_rfl) rfl (by rfl) (fun K hK=>?_)
   go_simp
   refine KN.mono ?_
   rintro e w3 ⟨rfl,b3⟩
   have B3:=hid (show Below wr.heap.size wr w3 from ((Below.refl _ _).drew:Below wr.heap.size wr wr.drew).trans b3)
   have T3:(fun w':World=>w'.cell? ⟨EB,i*4+3,none⟩=some (.slice (some ⟨D i,0,none⟩) m m)/\w'.cell? ⟨D i,k*6,none⟩=some (.int .i64 x)) w3:=⟨(b3.cell (p:=⟨EB,i*4+3,none⟩) (World.block_lt_of_cell? (w:=wr.drew) (h:=TS.1))).trans TS.1,(b3.cell (p:=⟨D i,k*6,none⟩) (World.block_lt_of_cell? (w:=wr.drew) (h:=TS.2))).trans TS.2⟩
   refine hK.out _ _ (fun _=>T3) ?_
   clear hK K KN b3
   (try simp only [Act.put,List.setIfInBounds_toArray,List.set_cons_zero,List.set_cons_succ])
   refine AnyBut.one 18 (by kernel_rfl) rfl (by rfl) (fun K hK=>?_)
   go_simp
   refine hK.out _ _ (fun _=>T3) ?_
   clear hK K
   (try simp only [Act.put,List.setIfInBounds_toArray,List.set_cons_zero,List.set_cons_succ])
   refine AnyBut.one 19 (by kernel_rfl) rfl (by rfl) (fun K hK=>?_)
   go_simp
   refine hK.out _ _ (fun _=>T3) ?_
   clear hK K
   (try simp only [Act.put,List.setIfInBounds_toArray,List.set_cons_zero,List.set_cons_succ])
   have R3:=ARH.out.2.of_block (B3.out.block _ ARH.out.2.lt)
   have y0:=R3.cell (i:=k*6) (by omega)
   have y1:=R3.cell (i:=k*6+1) (by omega)
   have y2:=R3.cell (i:=k*6+2) (by omega)
   have y3:=R3.cell (i:=k*6+3) (by omega)
   have y4:=R3.cell (i:=k*6+4) (by omega)
   have y5:=R3.cell (i:=k*6+5) (by omega)
   have z0:=R3.frozen (k*6)
   have z1:=R3.frozen (k*6+1)
   have z2:=R3.frozen (k*6+2)
   have z3:=R3.frozen (k*6+3)
   have z4:=R3.frozen (k*6+4)
   have z5:=R3.frozen (k*6+5)
   have R9:=hid R3
   clear R3
   refine AnyBut.one 20 (by kernel_rfl) rfl (by rfl) (fun K hK=>?_)
   go_simp
   refine hK.out _ _ (fun h=>absurd rfl h) ?_
   clear hK K
   refine AnyBut.done (by kernel_rfl) ?_
   have NX:=hid (show Below w.heap.size w ((((((w3.setCell ⟨w.heap.size,k*6,none⟩ (.int .i64 x)).setCell ⟨w.heap.size,k*6+1,none⟩ (.int .i64 0)).setCell ⟨w.heap.size,k*6+2,none⟩ (.int .i64 0)).setCell ⟨w.heap.size,k*6+3,none⟩ (.int .i64 (W.rk i k).free)).setCell ⟨w.heap.size,k*6+4,none⟩ (.int .i64 (W.rk i k).held)).setCell ⟨w.heap.size,k*6+5,none⟩ (.int .i64 (W.rk i k).used))/\((((((w3.setCell ⟨w.heap.size,k*6,none⟩ (.int .i64 x)).setCell ⟨w.heap.size,k*6+1,none⟩ (.int .i64 0)).setCell ⟨w.heap.size,k*6+2,none⟩ (.int .i64 0)).setCell ⟨w.heap.size,k*6+3,none⟩ (.int .i64 (W.rk i k).free)).setCell ⟨w.heap.size,k*6+4,none⟩ (.int .i64 (W.rk i k).held)).setCell ⟨w.heap.size,k*6+5,none⟩ (.int .i64 (W.rk i k).used)).rowIs w.heap.size 52 (m*6) (puF (Plain.puW W i) (k+1)) from
    ⟨((((((ARH.out.1.trans (B3.out.mono ARH.out.1.size)).setCell (Nat.le_refl _) _).setCell (Nat.le_refl _) _).setCell (Nat.le_refl _) _).setCell (Nat.le_refl _) _).setCell (Nat.le_refl _) _).setCell (Nat.le_refl _) _,
     ((((((R9.out.set (k*6) _).set (k*6+1) _).set (k*6+2) _).set (k*6+3) _).set (k*6+4) _).set (k*6+5) _).congr fun j _=>by rw [<- puF_set];exact puX (Plain.puW W i) k j x HX.out⟩)
   generalize ((((((w3.setCell ⟨w.heap.size,k*6,none⟩ (.int .i64 x)).setCell ⟨w.heap.size,k*6+1,none⟩ (.int .i64 0)).setCell ⟨w.heap.size,k*6+2,none⟩ (.int .i64 0)).setCell ⟨w.heap.size,k*6+3,none⟩ (.int .i64 (W.rk i k).free)).setCell ⟨w.heap.size,k*6+4,none⟩ (.int .i64 (W.rk i k).held)).setCell ⟨w.heap.size,k*6+5,none⟩ (.int .i64 (W.rk i k).used))=W9 at NX ⊢
   clear y0 y1 y2 y3 y4 y5 z0 z1 z2 z3 z4 z5 R9 ARH B3 T3 TS HX
   go_wp2
   go_roundg (m-(k+1))
   case measure=>omega
   case rel=>exact ⟨k+1,by omega,by omega,by go_num,(show Aside _ from NX.out)⟩
  ·have hltz:¬ (k:Int)<(m:Int):=by omega
   have ek:k=m:=by omega
   subst ek
   go_wp2
   go_ret
   exact ⟨rfl,AR.out.2,AR.out.1⟩
end Go.Proofs.YtlohgiichckjmaaGreatDoor
namespace Go.Proofs.YtlohgiichckjmaaGreatDoor
set_option maxHeartbeats 16000000
set_option maxRecDepth 100000
open Go.RowKit Go.Shelf Go.Sort
def encK (m:Nat):Enc Nat:=⟨1,fun b=>[.slice (some ⟨b,0,none⟩) m m],fun _=>rfl,fun a u hu=>by simp only [List.mem_singleton] at hu;subst hu;rfl,by decide⟩
theorem infoPs:(Tryz.prog.info? 53).map (fun i=>(i.zero,i.size,i.bytes))=some (some (.slice none 0 0),1,24):=by kernel_rfl
theorem infoEs:(Tryz.prog.info? 56).map (fun i=>(i.zero,i.size,i.bytes))=some (some (.slice none 0 0),1,24):=by kernel_rfl
theorem own_lt2 {B e n k:Nat} {w:World} {v:Value} {l:List Value} (h:w.ownsRow B e n v k l) {b:Nat} (hb:v.ownBlock=some b):b<w.heap.size/\B<=b:=by
 rcases h.2 with ⟨rfl,_⟩|⟨g,cc,cur,rfl,hg,hh,_⟩
 ·simp [Value.ownBlock] at hb
 ·simp only [Value.ownBlock,Option.some.injEq] at hb
  rw [<- hb];exact ⟨(Array.getElem?_eq_some_iff.1 hh).1,hg⟩
theorem snocK {B t e m k:Nat} {w:World} {v:Value} {l:List Nat} (ht:Tryz.prog.underlying t=some (.slice e)) (hinfo:(Tryz.prog.info? e).map (fun i=>(i.zero,i.size,i.bytes))=some (some (.slice none 0 0),1,24)) (h:w.ownsRow B e 1 v k ((encK m).vals l)) (hk:l.length=k) (hl:k<=1000) (hw:B<=w.heap.size) (x:Nat) :
  ∃ p c w',(Builtin.append_ #[t,t] t #[v,.slice (some ⟨w.heap.size,0,none⟩) 1 1]).run Tryz.prog (w.alloc (.cells #[.slice (some ⟨x,0,none⟩) m m] e))=.ok (.slice p (k+1) c) w'/\w'.ownsRow B e 1 (.slice p (k+1) c) (k+1) ((encK m).vals (l++[x]))/\Uw (fun b=>v.ownBlock=some b) w w':=by
 have bA:Below w.heap.size w (w.alloc (.cells #[.slice (some ⟨x,0,none⟩) m m] e)):=(Below.refl _ _).alloc (Nat.le_refl _) _
 have hA:(w.alloc (.cells #[.slice (some ⟨x,0,none⟩) m m] e)).ownsRow B e 1 v k ((encK m).vals l):=Hd.owns_block h fun b hb=>bA.block b (own_lt2 h hb).1
 obtain ⟨i0,hi,hz0,hz1,hz2⟩:=info_parts hinfo
 obtain ⟨v',w',h1,h2,h3,h4⟩:=Enc.appW (E:=encK m) (w:=w.alloc (.cells #[.slice (some ⟨x,0,none⟩) m m] e)) (B:=B) (c:=1) (m:=1) (q:=[x]) ht hi hz0 hz1 hz2 rfl hA ((encK m).one_holds w x e) rfl (fun e=>by cases e) (by omega) (by omega) (by simp;omega)
 obtain ⟨p,c,rfl,_⟩:=(encK m).owns h2 (by rw [List.length_append,hk];rfl)
 exact ⟨p,c,w',h1,h2,⟨h3.os,h3.tape,h3.output,Nat.le_trans bA.size h3.size,fun k hk hn=>(h3.block k (by simp;omega) (fun e=>hn e.symm)).trans (bA.block k hk)⟩⟩
structure EnI (w0 w:World) (m L:Nat) (W:Plain.Wo) (rv pv sv:Value) (rl:List Int) (kp ks:Nat) (P G:Nat->Nat):Prop where
 be:Below w0.heap.size w0 w
 re:NumR w0 w rv rl
 po:w.ownsRow w0.heap.size 53 1 pv kp ((encK m).vals ((List.range kp).map P))
 so:w.ownsRow w0.heap.size 56 1 sv ks ((encK L).vals ((List.range ks).map G))
 pr:∀ i,i<kp->w.rowIs (P i) 52 (m*6) (puF (Plain.puW W i) m)
 gr:∀ i,i<ks->∃ f,RowL w (G i) L (W.st i) f
namespace EnI
variable {w0 w w':World} {m L:Nat} {W:Plain.Wo} {rv pv sv:Value} {rl:List Int} {kp ks:Nat} {P G:Nat->Nat}
theorem grow (h:EnI w0 w m L W rv pv sv rl kp ks P G) (b:Below w.heap.size w w'):EnI w0 w' m L W rv pv sv rl kp ks P G :=
 ⟨h.be.trans (b.mono h.be.size),h.re.keep fun x hx=>b.block x (h.re.lt hx).1,Hd.owns_block h.po fun x hx=>b.block x (own_lt2 h.po hx).1,Hd.owns_block h.so fun x hx=>b.block x (own_lt2 h.so hx).1,
  fun i hi=>(h.pr i hi).of_block (b.block _ (h.pr i hi).lt),fun i hi=>by obtain ⟨f,hf⟩:=h.gr i hi;exact ⟨f,hf.grow b⟩⟩
theorem nil (w0:World) (h:NumR w0 w rv rl) (b:Below w0.heap.size w0 w):EnI w0 w m L W rv (.slice none 0 0) (.slice none 0 0) rl 0 0 P G :=
 ⟨b,h,World.ownsRow_nil _ _ _ _,World.ownsRow_nil _ _ _ _,fun i hi=>by omega,fun i hi=>by omega⟩
theorem below (h:EnI w0 w m L W rv pv sv rl kp ks P G) {v:Value} (hv:∀ b,v.ownBlock=some b->w0.heap.size<=b) (u:Uw (fun b=>v.ownBlock=some b) w w'):Below w0.heap.size w0 w' :=
 h.be.trans (u.below h.be.size fun b hb e=>by have:=hv b e;omega)
theorem tne {a b:Nat} {s t:TypeId} (hs:tag w a=some s) (ht:tag w b=some t) (hne:s≠t):a≠b:=fun e=>by
 subst e
 rw [hs] at ht
 exact hne (Option.some.inj ht)
theorem noE {v:Value} {t:TypeId} (ht:∀ b,v.ownBlock=some b->tag w b=some t) (hne:t≠72):NoE w (fun b=>v.ownBlock=some b):=fun b hb cs e=>by
 have:=ht b hb
 unfold tag at this
 rw [e] at this
 exact hne (Option.some.inj this).symm
theorem snocP (h:EnI w0 w m L W rv pv sv rl kp ks P G) (hk:kp<=1000) {b:Nat} (hb:w.rowIs b 52 (m*6) (puF (Plain.puW W kp) m)) :
  ∃ p c w',(Builtin.append_ #[46,46] 46 #[pv,.slice (some ⟨w.heap.size,0,none⟩) 1 1]).run Tryz.prog (w.alloc (.cells #[.slice (some ⟨b,0,none⟩) m m] 53))=.ok (.slice p (kp+1) c) w'/\EnI w0 w' m L W rv (.slice p (kp+1) c) sv rl (kp+1) ks (fun i=>if i=kp then b else P i) G:=by
 obtain ⟨p,c,w',h1,h2,u⟩:=snocK Tryz.underlying46 infoPs h.po (by rw [List.length_map,List.length_range]) hk h.be.size b
 have tg:∀ x,pv.ownBlock=some x->tag w x=some 53:=fun x hx=>tag_owns h.po hx
 have kt:∀ x t,x<w.heap.size->tag w x=some t->t≠53->w'.heap[x]?=w.heap[x]?:=fun x t hx ht hne=>u.block x hx fun e=>tne ht (tg x e) hne rfl
 have hm:(List.range (kp+1)).map (fun i=>if i=kp then b else P i)=(List.range kp).map P++[b]:=by
  rw [List.range_succ,List.map_append,List.map_singleton,if_pos rfl]
  refine congrArg (·++[b]) ?_
  exact List.map_congr_left fun i hi=>by rw [if_neg (by have:=List.mem_range.1 hi;omega)]
 refine ⟨p,c,w',h1,h.below (fun x hx=>(own_lt2 h.po hx).2) u,h.re.keep fun x hx=>kt x _ (h.re.lt hx).1 (h.re.tag hx) (by decide),by rw [hm];exact h2,Hd.owns_block h.so fun x hx=>kt x _ (own_lt2 h.so hx).1 (tag_owns h.so hx) (by decide),fun i hi=>?_,fun i hi=>?_⟩
 ·by_cases e:i=kp
  ·subst e
   rw [if_pos rfl]
   exact hb.of_block (kt _ _ hb.lt (tag_row hb) (by decide))
  ·rw [if_neg e]
   have hr:=h.pr i (by omega)
   exact hr.of_block (kt _ _ hr.lt (tag_row hr) (by decide))
 ·obtain ⟨f,hf⟩:=h.gr i hi
  exact ⟨f,hf.uw u (noE tg (by decide)) fun e=>tne (tag_row hf.row) (tg _ e) (by decide) rfl⟩
theorem snocS (h:EnI w0 w m L W rv pv sv rl kp ks P G) (hk:ks<=1000) {b:Nat} {f:Nat->Value} (hb:RowL w b L (W.st ks) f) :
  ∃ p c w',(Builtin.append_ #[47,47] 47 #[sv,.slice (some ⟨w.heap.size,0,none⟩) 1 1]).run Tryz.prog (w.alloc (.cells #[.slice (some ⟨b,0,none⟩) L L] 56))=.ok (.slice p (ks+1) c) w'/\EnI w0 w' m L W rv pv (.slice p (ks+1) c) rl kp (ks+1) P (fun i=>if i=ks then b else G i):=by
 obtain ⟨p,c,w',h1,h2,u⟩:=snocK Tryz.underlying47 infoEs h.so (by rw [List.length_map,List.length_range]) hk h.be.size b
 have tg:∀ x,sv.ownBlock=some x->tag w x=some 56:=fun x hx=>tag_owns h.so hx
 have kt:∀ x t,x<w.heap.size->tag w x=some t->t≠56->w'.heap[x]?=w.heap[x]?:=fun x t hx ht hne=>u.block x hx fun e=>tne ht (tg x e) hne rfl
 have hm:(List.range (ks+1)).map (fun i=>if i=ks then b else G i)=(List.range ks).map G++[b]:=by
  rw [List.range_succ,List.map_append,List.map_singleton,if_pos rfl]
  refine congrArg (·++[b]) ?_
  exact List.map_congr_left fun i hi=>by rw [if_neg (by have:=List.mem_range.1 hi;omega)]
 refine ⟨p,c,w',h1,h.below (fun x hx=>(own_lt2 h.so hx).2) u,h.re.keep fun x hx=>kt x _ (h.re.lt hx).1 (h.re.tag hx) (by decide),Hd.owns_block h.po fun x hx=>kt x _ (own_lt2 h.po hx).1 (tag_owns h.po hx) (by decide),by rw [hm];exact h2,fun i hi=>?_,fun i hi=>?_⟩
 ·have hr:=h.pr i hi
  exact hr.of_block (kt _ _ hr.lt (tag_row hr) (by decide))
 ·have hx:∀ {g:Nat} {s:Nat->List Plain.En} {f':Nat->Value},RowL w g L s f'->RowL w' g L s f':=fun hf=>hf.uw u (noE tg (by decide)) fun e=>tne (tag_row hf.row) (tg _ e) (by decide) rfl
  by_cases e:i=ks
  ·subst e
   rw [if_pos rfl]
   exact ⟨f,hx hb⟩
  ·rw [if_neg e]
   obtain ⟨f',hf⟩:=h.gr i (by omega)
   exact ⟨f',hx hf⟩
end EnI
end Go.Proofs.YtlohgiichckjmaaGreatDoor
namespace Go.Proofs.YtlohgiichckjmaaGreatDoor
set_option maxHeartbeats 16000000
set_option maxRecDepth 100000
open Go.RowKit Go.Shelf Go.Sort
theorem results_four {fn:Func} {t u v x:Tmp} (h:fn.results=#[.tmp t,.tmp u,.tmp v,.tmp x]) (tmps:Array Value) (P:Program) (w:World):(results fn tmps).run P w=.ok (.tuple #[tmps.getD t undef,tmps.getD u undef,tmps.getD v undef,tmps.getD x undef]) w:=by simp [results,h]
theorem reserve_c (R oo:Nat) (x:Int) (w:World) (h:w.cell? ⟨R,oo+2,none⟩=some (.int .i64 x)):Calls Tryz.prog 24 #[.pointer (some ⟨R,oo,none⟩)] w fun e w'=>e=.returned (.int .i64 x)/\w'=w:=by
 go_enter Tryz.func24,Tryz.ntmps24
 go_wp2
 go_ret
 exact ⟨rfl,rfl⟩
def EndY (c:Plain.Cf) (n m:Nat) (l:List Plain.Sp) (w:World) (e:Ending) (w':World):Prop :=
 ∃ rp rc pp pc sp sc w0 P G,e=.returned (.tuple #[.slice rp m rc,.slice pp n pc,.slice sp n sc,.int .i64 0])/\Below w.heap.size w w'/\EnI w0 w' m c.ls.length (Plain.runW c (Plain.Wo.start c) l) (.slice rp m rc) (.slice pp n pc) (.slice sp n sc) (Bo.Plain.mapN m fun k=>((Plain.runW c (Plain.Wo.start c) l).bk k).reserve) n n P G
theorem end_yes (c:Plain.Cf) (lp mp:Option Addr) (lc mc n m:Nat) (p:Option Addr) (N cap:Nat) (l:List Plain.Sp) (hN:l.length=N) (h300:N<=300) (hc:Plain.mayC c=true) (hn:c.n=n) (hm:c.ms.length=m) (hL0:2<=n->0<c.ls.length) (hwf:∀ s,s∈l->(Lit.int .i64 s.id).wf=true)
  (w:World) (hI:CfI w c (.slice lp c.ls.length lc) (.slice mp c.ms.length mc)) (htb:∀ k,2<=k->k<=6->w.cell? ⟨0,k,none⟩=some (.int .i64 (k:Nat))) (hp:encSp.Holds w p l) :
  Calls Tryz.prog 19 #[cfV c (.slice lp c.ls.length lc) (.slice mp c.ms.length mc),.slice p N cap] w (EndY c n m l w):=by
 have hb0:0<w.heap.size:=World.block_lt_of_cell? (w:=w) (h:=htb 2 (by omega) (by omega))
 obtain ⟨WA,hWA⟩:∃ WA,WA=w.alloc (boxC c (.slice lp c.ls.length lc) (.slice mp c.ms.length mc)):=⟨_,rfl⟩
 have BA:=hid (show Below w.heap.size w WA by rw [hWA];exact (Below.refl _ _).alloc (Nat.le_refl _) _)
 have K:=run_yes c lp mp lc mc n m p N cap l hN h300 hc hn hm hL0 hwf WA (hI.grow BA.out) (fun k h2 h6=>(BA.out.cell (p:=⟨0,k,none⟩) hb0).trans (htb k h2 h6)) (hp.grow BA.out)
 have HOK:=hid (show Plain.Wok c n m N (Plain.runW c (Plain.Wo.start c) l) by have:=Plain.wok_run hc hn hm l (by omega) l.length (Nat.le_refl _);rw [List.take_length,hN] at this;exact this)
 have hm3:m<=3:=by have:=(Plain.may_all hc).2.2.2.2.1;omega
 have hn8:n<=8:=by have:=(Plain.may_all hc).1;omega
 have hL4:c.ls.length<=4:=(Plain.may_all hc).2.1
 rw [hWA] at K
 clear hI htb hp hc hn hm hL0 hwf hb0
 go_enter Tryz.func19,Tryz.ntmps19
 go_wp2_with fail
 refine K.mono ?_
 rintro e w2 ⟨B,M,T,S,TB,sv,fv,rv,rfl,hB,wi,tls,be⟩
 rw [<- hWA] at be
 have B2:=hid (show Below w.heap.size w w2 from BA.out.trans (be.mono BA.out.size))
 have HWI:=hid wi
 obtain ⟨R,hR⟩:∃ R,R=M.R:=⟨_,rfl⟩
 have c8:w2.cell? ⟨M.R,8,none⟩=some (.slice (some ⟨M.BB,0,none⟩) m M.cb):=wi.cell (j:=8) (by omega)
 rw [<- hR] at c8 ⊢
 have HR:=hid hR
 generalize hW:Plain.runW c (Plain.Wo.start c) l=W at HWI HOK
 have HE:=hid hW
 have N0:=hid (NumR.nil w2 w2)
 clear K hB wi tls be hWA BA hR hW
 go_wp2
 clear c8
 go_loopg [4,11,28] m (fun gg s4 _ s28 wx=>∃ (k:Nat) (p:Option Addr) (c:Nat),k<=m/\m-k<=gg/\s28=.int .i64 k/\s4=.slice p k c/\Aside (Below w2.heap.size w2 wx/\NumR w2 wx (.slice p k c) (Bo.Plain.mapN k fun k=>(W.bk k).reserve)))
 case atStart=>exact ⟨0,none,0,Nat.zero_le _,by omega,rfl,rfl,(show Aside _ from ⟨Below.refl _ _,N0.out⟩)⟩
 case round =>
  obtain ⟨k,p4,c4,hk,hg,rfl,rfl,A⟩:=hrel
  by_cases hlt:k<m
  ·have hltz:(k:Int)<(m:Int):=by omega
   have hkn:¬ (k:Int)<0:=by omega
   have wi:=HWI.out.grow A.out.1
   have c8:wr.cell? ⟨M.R,8,none⟩=some (.slice (some ⟨M.BB,0,none⟩) m M.cb):=wi.cell (j:=8) (by omega)
   rw [<- HR.out] at c8
   have KR:=reserve_c M.BB (k*8) (W.bk k).reserve wr (wi.bk.bk k hlt).c2
   obtain ⟨v5,w5,hrun,nr,uw,_,p5,c5,rfl⟩:=A.out.2.snoc (by rw [Bo.Plain.mapN_len];omega) A.out.1.size (W.bk k).reserve
   rw [Bo.Plain.mapN_len] at hrun nr
   rw [<- Bo.Plain.mapN_succ k fun k=>(W.bk k).reserve] at nr
   have RUN:=hid hrun
   have NX:=hid (show Below w2.heap.size w2 w5/\NumR w2 w5 (.slice p5 (k+1) c5) (Bo.Plain.mapN (k+1) fun k=>(W.bk k).reserve) from ⟨A.out.1.trans (uw.below A.out.1.size fun b hb e=>by have:=(A.out.2.lt e).2;omega),nr⟩)
   generalize (W.bk k).reserve=x at KR RUN
   clear wi hrun nr uw A N0
   go_wp2_with fail
   refine KR.mono ?_
   rintro e w6 ⟨rfl,hw6⟩
   subst hw6
   go_wp2_with (first|(at_builtin;refine wpList_app _ _ 22 RUN.out (by rfl) (by rfl) (by rfl) (by rfl) (by rfl) ?_)|fail)
   go_roundg (m-(k+1))
   case measure=>omega
   case rel=>exact ⟨k+1,p5,c5,by omega,by omega,by go_num,rfl,(show Aside _ from NX.out)⟩
  ·have hltz:¬ (k:Int)<(m:Int):=by omega
   have ek:m=k:=by omega
   subst ek
   have c7:wr.cell? ⟨M.R,7,none⟩=some (.slice (some ⟨M.EB,0,none⟩) n M.ce):=(HWI.out.grow A.out.1).cell (j:=7) (by omega)
   rw [<- HR.out] at c7
   have E0:=hid (show EnI w2 wr m c.ls.length W (.slice p4 m c4) (.slice none 0 0) (.slice none 0 0) (Bo.Plain.mapN m fun k=>(W.bk k).reserve) 0 0 (fun _=>0) (fun _=>0) from EnI.nil w2 A.out.2 A.out.1)
   clear A N0
   go_wp2
   clear c7
   go_loopg [5,6,12,47] n (fun gg s5 s6 _ s47 wx=>∃ (j:Nat) (p5:Option Addr) (c5:Nat) (p6:Option Addr) (c6:Nat),j<=n/\n-j<=gg/\s47=.int .i64 j/\s5=.slice p5 j c5/\s6=.slice p6 j c6/\Aside (∃ P G,EnI w2 wx m c.ls.length W (.slice p4 m c4) (.slice p5 j c5) (.slice p6 j c6) (Bo.Plain.mapN m fun k=>(W.bk k).reserve) j j P G))
   case atStart=>exact ⟨0,none,0,none,0,Nat.zero_le _,by omega,rfl,rfl,rfl,(show Aside _ from ⟨_,_,E0.out⟩)⟩
   case round =>
    obtain ⟨j,p5,c5,p6,c6,hj,hgj,rfl,rfl,rfl,A2⟩:=hrel
    clear E0
    obtain ⟨P,G,en⟩:=A2.out
    have EN:=hid en
    clear A2 en
    by_cases hlj:j<n
    ·have hljz:(j:Int)<(n:Int):=by omega
     have hjn:¬ (j:Int)<0:=by omega
     have wi:=HWI.out.grow EN.out.be
     have c7:wr.cell? ⟨M.R,7,none⟩=some (.slice (some ⟨M.EB,0,none⟩) n M.ce):=wi.cell (j:=7) (by omega)
     rw [<- HR.out] at c7
     have KP:=purses_c M.EB M.NC M.F M.H M.D M.vo M.lp M.lc n m c.ls W j hlj hm3 (fun k=>(HOK.out.rk j k).1) wr wi.br
     clear wi
     go_wp2_with fail
     refine KP.mono ?_
     rintro e w3 ⟨rfl,hrow,b3⟩
     obtain ⟨p7,c7',w4,hrun,en4⟩:=(EN.out.grow b3).snocP (by omega) hrow
     have RUN:=hid hrun
     have EN4:=hid en4
     clear KP hrow b3 hrun en4 EN c7
     go_upto_region 13 with (first|(at_builtin;refine wpList_app _ _ 46 RUN.out (by rfl) (by rfl) (by rfl) (by rfl) (by rfl) ?_)|fail)
     clear RUN
     have wi4:=HWI.out.grow EN4.out.be
     have d7:w4.cell? ⟨M.R,7,none⟩=some (.slice (some ⟨M.EB,0,none⟩) n M.ce):=wi4.cell (j:=7) (by omega)
     rw [<- HR.out] at d7
     have KE:=entries_c M.EB (j*4) _ (M.H j) j M.lp M.lc c.ls (W.st j) _ hL4 (HOK.out.st j) w4 (wi4.br.st.sto hlj)
     clear wi4
     go_wp2_with fail
     refine KE.mono ?_
     rintro e w5 ⟨GB,rfl,⟨f,hf⟩,_,b5⟩
     obtain ⟨p8,c8,w6,hrun,en6⟩:=(EN4.out.grow b5).snocS (by omega) hf
     have RUN:=hid hrun
     have EN6:=hid en6
     clear KE hf b5 hrun en6 EN4 d7
     go_wp2_with (first|(at_builtin;refine wpList_app _ _ 47 RUN.out (by rfl) (by rfl) (by rfl) (by rfl) (by rfl) ?_)|fail)
     go_roundg (n-(j+1))
     case measure=>omega
     case rel=>exact ⟨j+1,p7,c7',p8,c8,by omega,by omega,by go_num,rfl,rfl,(show Aside _ from ⟨_,_,EN6.out⟩)⟩
    ·have hljz:¬ (j:Int)<(n:Int):=by omega
     have ej:n=j:=by omega
     subst ej
     go_wp2
     (try simp only [Exit.inBlock,Exit.then])
     refine bodyPost_ret (results_four rfl _ _ _) rfl ?_
     have en:=EN.out
     rw [<- HE.out] at en
     exact ⟨p4,c4,p5,c5,p6,c6,w2,P,G,rfl,B2.out.trans (EN.out.be.mono B2.out.size),en⟩
end Go.Proofs.YtlohgiichckjmaaGreatDoor
namespace Go.Proofs.YtlohgiichckjmaaGreatDoor
set_option maxHeartbeats 16000000
set_option maxRecDepth 100000
open Go.RowKit Go.Shelf Go.Sort
theorem EnI.purse {w0 w:World} {n m L:Nat} {W:Plain.Wo} {rv sv:Value} {rl:List Int} {ks:Nat} {P G:Nat->Nat} {pp:Option Addr} {pc:Nat} (h:EnI w0 w m L W rv (.slice pp n pc) sv rl n ks P G) (hn:0<n) :
  ∃ b off,pp=some ⟨b,off,none⟩/\∀ i,i<n->w.cell? ⟨b,off+i,none⟩=some (.slice (some ⟨P i,0,none⟩) m m):=by
 have hl:((List.range n).map P).length=n:=by rw [List.length_map,List.length_range]
 obtain ⟨p,c,e,hh,_⟩:=(encK m).owns h.po hl
 injection e with e1 _ _
 obtain ⟨b,off,rfl,_,hc⟩:=hh.at 0 (by omega)
 refine ⟨b,off,e1,fun i hi=>?_⟩
 have:=hc i 0 (.slice (some ⟨P i,0,none⟩) m m) (by omega) (by show 0<1;omega) (by
  rw [List.getD_eq_getElem?_getD,List.getElem?_map,List.getElem?_range hi];rfl)
 rwa [show off+(i*(encK m).n+0)=off+i by show off+(i*1+0)=off+i;omega] at this
theorem EnI.pcells {w0 w:World} {m L:Nat} {W:Plain.Wo} {rv pv sv:Value} {rl:List Int} {kp ks:Nat} {P G:Nat->Nat} (h:EnI w0 w m L W rv pv sv rl kp ks P G) {i k:Nat} (hi:i<kp) (hk:k<m) :
  w.cell? ⟨P i,k*6,none⟩=some (.int .i64 (W.ask i k))/\w.cell? ⟨P i,k*6+1,none⟩=some (.int .i64 0)/\w.cell? ⟨P i,k*6+2,none⟩=some (.int .i64 0)/\w.cell? ⟨P i,k*6+3,none⟩=some (.int .i64 (W.rk i k).free)/\w.cell? ⟨P i,k*6+4,none⟩=some (.int .i64 (W.rk i k).held)/\w.cell? ⟨P i,k*6+5,none⟩=some (.int .i64 (W.rk i k).used):=by
 have f:∀ r,r<6->w.cell? ⟨P i,k*6+r,none⟩=some (puC (Plain.puW W i k) r):=fun r hr=>by
  rw [(h.pr i hi).cell (i:=k*6+r) (by omega)]
  unfold puF
  rw [if_pos (by omega),show (k*6+r)/6=k by omega,show (k*6+r)%6=r by omega]
 exact ⟨f 0 (by omega),f 1 (by omega),f 2 (by omega),f 3 (by omega),f 4 (by omega),f 5 (by omega)⟩
end Go.Proofs.YtlohgiichckjmaaGreatDoor
namespace Go.Proofs.YtlohgiichckjmaaGreatDoor
set_option maxHeartbeats 16000000
set_option maxRecDepth 100000
open Go.RowKit Go.Shelf Go.Sort
theorem EnI.stores {w0 w:World} {n m L:Nat} {W:Plain.Wo} {rv pv:Value} {rl:List Int} {kp:Nat} {P G:Nat->Nat} {sp:Option Addr} {sc:Nat} (h:EnI w0 w m L W rv pv (.slice sp n sc) rl kp n P G) (hn:0<n) :
  ∃ b off,sp=some ⟨b,off,none⟩/\∀ i,i<n->w.cell? ⟨b,off+i,none⟩=some (.slice (some ⟨G i,0,none⟩) L L):=by
 have hl:((List.range n).map G).length=n:=by rw [List.length_map,List.length_range]
 obtain ⟨p,c,e,hh,_⟩:=(encK L).owns h.so hl
 injection e with e1 _ _
 obtain ⟨b,off,rfl,_,hc⟩:=hh.at 0 (by omega)
 refine ⟨b,off,e1,fun i hi=>?_⟩
 have:=hc i 0 (.slice (some ⟨G i,0,none⟩) L L) (by omega) (by show 0<1;omega) (by
  rw [List.getD_eq_getElem?_getD,List.getElem?_map,List.getElem?_range hi];rfl)
 rwa [show off+(i*(encK L).n+0)=off+i by show off+(i*1+0)=off+i;omega] at this
theorem frames_c (p:Option Addr) (N cap:Nat) (l:List Plain.Sp) (hN:l.length=N) (h300:N<=1000) (w:World) (hp:encSp.Holds w p l) :
  Calls Tryz.prog 13 #[.slice p N cap] w fun e w'=>e=.returned (.int .i64 ((20*Plain.ticksN l:Nat):Int))/\w'=w:=by
 have HP:=hid hp
 have HN:=hid hN
 clear hp hN
 go_enter Tryz.func13,Tryz.ntmps13
 go_wp2
 go_loopg [3,4] N (fun gg s3 s4 wx=>∃ k:Nat,k<=N/\N-k<=gg/\s4=.int .i64 k/\s3=.int .i64 ((20*Plain.ticksN (l.take k):Nat):Int)/\wx=w)
 case atStart=>exact ⟨0,Nat.zero_le _,by omega,rfl,rfl,rfl⟩
 case round =>
  obtain ⟨k,hk,hg,rfl,rfl,hw⟩:=hrel
  have hy:=hw.symm
  clear hw
  subst hy
  by_cases hlt:k<N
  ·have hltz:(k:Int)<(N:Int):=by omega
   have hkn:¬ (k:Int)<0:=by omega
   have hkL:k<l.length:=by have:=HN.out;omega
   obtain ⟨bs,os,eS,lS,gS⟩:=holdsSp HP.out (by omega)
   obtain ⟨c0,_,_,_,_,_,_,_⟩:=gS k hkL
   subst eS
   have hTk:Plain.ticksN (l.take k)<=1000:=by have:=Plain.ticksN_le (l.take k);rw [List.length_take] at this;omega
   have hTn:=hid (Plain.ticksN_take l k (l.getD k default) (by rw [List.getD_eq_getElem?_getD,List.getElem?_eq_getElem hkL];rfl))
   generalize (l.getD k default).kind=kd at c0 hTn
   generalize Plain.ticksN (l.take k)=T at hTk hTn ⊢
   clear gS lS
   by_cases h9:kd=9
   ·subst h9
    go_wp2
    go_roundg (N-(k+1))
    case measure=>omega
    case rel=>exact ⟨k+1,by omega,by omega,by go_num,by have e:=hTn.out;rw [if_pos trivial] at e;rw [e];go_num,rfl⟩
   ·have h9b:(kd==9)=false:=by simp [h9]
    go_wp2
    go_roundg (N-(k+1))
    case measure=>omega
    case rel=>exact ⟨k+1,by omega,by omega,by go_num,by rw [hTn.out,if_neg h9];rfl,rfl⟩
  ·have hltz:¬ (k:Int)<(N:Int):=by omega
   have ek:l.take k=l:=List.take_of_length_le (by have:=HN.out;omega)
   rw [ek]
   go_wp2
   go_ret
   exact ⟨rfl,rfl⟩
theorem full_c (p:Option Addr) (N cap:Nat) (l:List Plain.Sp) (hN:l.length=N) (h300:N<=1000) (hp0:p=none->cap=0) (w:World) (hp:encSp.Holds w p l) :
  Calls Tryz.prog 17 #[.slice p N cap] w fun e w'=>∃ q c,e=.returned (.slice q (N+21) c)/\SpR w w' (.slice q (N+21) c) (Plain.fullF l):=by
 have KF:=frames_c p N cap l hN h300 w hp
 obtain ⟨v1,w1,hr1,s1,_⟩:=(SpR.nil w).app (Nat.zero_le _) (p:=p) (c:=cap) hp hp0 (by omega)
 obtain ⟨p1,c1,rfl,_,_⟩:=s1.form
 rw [List.nil_append] at s1 hr1
 rw [hN] at hr1 s1
 obtain ⟨p2,c2,w2,hr2,s2⟩:=s1.snoc (by omega) Plain.tickS
 rw [hN] at hr2 s2
 have R1:=hid hr1
 have R2:=hid hr2
 obtain ⟨T,hTT⟩:∃ T,T=Plain.ticksN l:=⟨_,rfl⟩
 have hT:T<=1000:=by have:=Plain.ticksN_le l;omega
 have HF:=hid (show Plain.fullF l=l++Plain.tickS :: Plain.comeL (20*T) 20 by rw [hTT];rfl)
 have S2:=hid (show SpR w w2 (.slice p2 (N+1+0) c2) (l++Plain.tickS :: Plain.comeL (20*T) 0) from s2)
 have HLN:=hid (show ∀ j,(l++Plain.tickS :: Plain.comeL (20*T) j).length=N+1+j from fun j=>by rw [List.length_append,List.length_cons,Plain.comeL_len,hN];omega)
 rw [<- hTT] at KF
 obtain ⟨B,hB⟩:∃ B:Int,B=((20*T:Nat):Int):=⟨_,rfl⟩
 have hB2:0<=B/\B<=20000:=by omega
 have HD:=hid (show ∀ j:Nat,Plain.delS (20*T+j)=⟨10,0,0,0,0,B+(j:Int),0,0⟩ from fun j=>by unfold Plain.delS;rw [hB];simp)
 rw [<- hB] at KF
 clear hr1 hr2 s1 s2 hp hN hTT hB hp0
 go_enter Tryz.func17,Tryz.ntmps17
 go_wp2_with fail
 refine KF.mono ?_
 rintro e w3 ⟨rfl,hw3⟩
 have hy:=hw3.symm
 clear hw3 KF
 subst hy
 go_wp2_with (first|(at_builtin;refine wpList_app _ _ 27 R1.out (by rfl) (by rfl) (by rfl) (by rfl) (by rfl) ?_)|(at_builtin;refine wpList_app _ _ 27 R2.out (by rfl) (by rfl) (by rfl) (by rfl) (by rfl) ?_)|fail)
 clear R1 R2
 go_loopg [4,5] 20 (fun gg s4 s5 wx=>∃ (j:Nat) (q:Option Addr) (c:Nat),j<=20/\20-j<=gg/\s5=.int .i64 j/\s4=.slice q (N+1+j) c/\Aside (SpR w wx (.slice q (N+1+j) c) (l++Plain.tickS :: Plain.comeL (20*T) j)))
 case atStart=>exact ⟨0,p2,c2,Nat.zero_le _,by omega,rfl,rfl,(show Aside _ from S2.out)⟩
 case round =>
  obtain ⟨j,q,c,hj,hg,rfl,rfl,A⟩:=hrel
  clear S2
  by_cases hlt:j<20
  ·have hltz:(j:Int)<20:=by omega
   have h0:=A.out
   obtain ⟨p3,c3,w4,hr,s4⟩:=h0.snoc (by rw [HLN.out];omega) ⟨10,0,0,0,0,B+(j:Int),0,0⟩
   rw [HLN.out] at hr s4
   have NX:=hid (show SpR w w4 (.slice p3 (N+1+(j+1)) c3) (l++Plain.tickS :: Plain.comeL (20*T) (j+1)) by
    rw [Plain.comeL_succ,HD.out,<- List.cons_append,<- List.append_assoc];exact s4)
   have RUN:=hid hr
   obtain ⟨M,hM⟩:∃ M,M=N+1+j:=⟨_,rfl⟩
   rw [<- hM] at RUN ⊢
   have HM:=hid (show M+1=N+1+(j+1) by omega)
   clear h0 hr s4 A hM
   go_wp2_with (first|(at_builtin;refine wpList_app _ _ 27 RUN.out (by rfl) (by rfl) (by rfl) (by rfl) (by rfl) ?_)|fail)
   go_roundg (20-(j+1))
   case measure=>omega
   case rel=>exact ⟨j+1,p3,c3,by omega,by omega,by go_num,by rw [HM.out],(show Aside _ from NX.out)⟩
  ·have hltz:¬ (j:Int)<20:=by omega
   have ej:j=20:=by omega
   subst ej
   have h0:=hid A.out
   clear A
   go_wp2
   go_ret
   exact ⟨q,c,rfl,by rw [HF.out];exact h0.out⟩
def EndedY (c:Plain.Cf) (l:List Plain.Sp) (w:World) (e:Ending) (w':World):Prop :=
 ∃ rp rc pp pc sp sc w0 P G,e=.returned (.tuple #[.slice rp 2 rc,.slice pp 4 pc,.slice sp 4 sc,.bool true])/\Below w.heap.size w w'/\EnI w0 w' 2 3 (Plain.runW c (Plain.Wo.start c) l) (.slice rp 2 rc) (.slice pp 4 pc) (.slice sp 4 sc) (Bo.Plain.mapN 2 fun k=>((Plain.runW c (Plain.Wo.start c) l).bk k).reserve) 4 4 P G
theorem ended_c (c:Plain.Cf) (lp mp:Option Addr) (lc mc:Nat) (p:Option Addr) (N cap:Nat) (l:List Plain.Sp) (hN:l.length=N) (h300:N<=300) (hc:Plain.mayC c=true) (hn:c.n=4) (hL:c.ls.length=3) (hm:c.ms.length=2) (hwf:∀ s,s∈l->(Lit.int .i64 s.id).wf=true) (hp0:p=none->cap=0)
  (w:World) (hI:CfI w c (.slice lp c.ls.length lc) (.slice mp c.ms.length mc)) (htb:∀ k,2<=k->k<=6->w.cell? ⟨0,k,none⟩=some (.int .i64 (k:Nat))) (hp:encSp.Holds w p l) :
  Calls Tryz.prog 14 #[cfV c (.slice lp c.ls.length lc) (.slice mp c.ms.length mc),.slice p N cap] w (EndedY c l w):=by
 have hb0:0<w.heap.size:=World.block_lt_of_cell? (w:=w) (h:=htb 2 (by omega) (by omega))
 have HTB:=hid (fun X (bx:Below w.heap.size w X) k (h2:2<=k) (h6:k<=6)=>(bx.cell (p:=⟨0,k,none⟩) hb0).trans (htb k h2 h6))
 obtain ⟨W2,hW2⟩:∃ W2,W2=w.alloc (boxC c (.slice lp c.ls.length lc) (.slice mp c.ms.length mc)):=⟨_,rfl⟩
 have b2:Below w.heap.size w W2:=by rw [hW2];exact (Below.refl _ _).alloc (Nat.le_refl _) _
 have C2:=hid (show CellC W2 w.heap.size c (.slice lp c.ls.length lc) (.slice mp c.ms.length mc) by rw [hW2];exact CellC.start w c (.slice lp c.ls.length lc) (.slice mp c.ms.length mc))
 have B2:=hid b2
 have I2:=hid (hI.grow b2)
 have HO2:=hid (hp.grow b2)
 have HC:=hid (And.intro hc (And.intro hn (And.intro hL hm)))
 have HWF:=hid hwf
 have HP0:=hid hp0
 have HN:=hid hN
 clear hb0 htb hI hp hc hn hL hm hwf hp0 hN b2
 go_enter Tryz.func14,Tryz.ntmps14
 go_upto_region 1 with fail
 rw [<- hW2]
 obtain ⟨CB,hCB⟩:∃ CB,CB=w.heap.size:=⟨_,rfl⟩
 rw [<- hCB] at C2 ⊢
 clear hW2
 have CW:=hid (fun X (bx:Below W2.heap.size W2 X)=>(C2.out.below bx C2.out.lt:CellC X CB c (.slice lp c.ls.length lc) (.slice mp c.ms.length mc)))
 have IW:=hid (fun X (bx:Below W2.heap.size W2 X)=>I2.out.grow bx)
 have BW:=hid (fun X (bx:Below W2.heap.size W2 X)=>B2.out.trans (bx.mono B2.out.size))
 clear C2 I2 hCB
 have D4:=hid (show Below W2.heap.size W2 W2.drew from (Below.refl _ _).drew)
 obtain ⟨v6,w6,hrun6,sp6,_⟩:=(SpR.nil W2.drew).app (Nat.zero_le _) (p:=p) (c:=cap) (HO2.out.grow D4.out) HP0.out (by have:=HN.out;omega)
 obtain ⟨p6,c6,rfl,hh6,_⟩:=sp6.form
 rw [List.nil_append,HN.out] at hrun6
 rw [List.nil_append] at hh6
 have RUN6:=hid hrun6
 have HH6:=hid hh6
 have B6:=hid (show Below W2.heap.size W2 w6 from D4.out.trans (sp6.be.mono D4.out.size))
 have mixed:Tryz.prog.follows .mixedOrders=true:=by kernel_rfl
 have TS:(fun w':World=>w'.cell? ⟨CB,0,none⟩=some (.int .i64 c.n)/\w'.cell? ⟨CB,1,none⟩=some (.slice lp c.ls.length lc)/\w'.cell? ⟨CB,2,none⟩=some (.int .i64 c.t)/\w'.cell? ⟨CB,3,none⟩=some (.slice mp c.ms.length mc)/\w'.cell? ⟨CB,4,none⟩=some (.int .i64 c.cap)) W2.drew:=by
  obtain ⟨k0,k1,k2,k3,k4⟩:=CW.out _ D4.out
  exact ⟨k0,k1,k2,k3,k4⟩
 have T6:(fun w':World=>w'.cell? ⟨CB,0,none⟩=some (.int .i64 c.n)/\w'.cell? ⟨CB,1,none⟩=some (.slice lp c.ls.length lc)/\w'.cell? ⟨CB,2,none⟩=some (.int .i64 c.t)/\w'.cell? ⟨CB,3,none⟩=some (.slice mp c.ms.length mc)/\w'.cell? ⟨CB,4,none⟩=some (.int .i64 c.cap)) w6:=by
  obtain ⟨k0,k1,k2,k3,k4⟩:=CW.out _ B6.out
  exact ⟨k0,k1,k2,k3,k4⟩
 have K7:=end_yes c lp mp lc mc 4 2 p6 N c6 l HN.out h300 HC.out.1 HC.out.2.1 HC.out.2.2.2 (fun _=>by rw [HC.out.2.2.1];omega) HWF.out w6 (IW.out _ B6.out) (HTB.out _ (BW.out _ B6.out)) HH6.out
 clear hrun6 sp6 hh6
 refine AnyBut.begin (fun w':World=>w'.cell? ⟨CB,0,none⟩=some (.int .i64 c.n)/\w'.cell? ⟨CB,1,none⟩=some (.slice lp c.ls.length lc)/\w'.cell? ⟨CB,2,none⟩=some (.int .i64 c.t)/\w'.cell? ⟨CB,3,none⟩=some (.slice mp c.ms.length mc)/\w'.cell? ⟨CB,4,none⟩=some (.int .i64 c.cap)) 12 mixed ?_
 refine AnyBut.take 0 (cfV c (.slice lp c.ls.length lc) (.slice mp c.ms.length mc)) rfl (by kernel_rfl) (by kernel_rfl) (by kernel_rfl) (by kernel_rfl) (fun _ _ _ h=>h) TS (by rfl) (fun w' hS=>?_) ?_
 ·(obtain ⟨q0,q1,q2,q3,q4⟩:=hS;go_simp)
 (try simp only [Act.put,List.setIfInBounds_toArray,List.set_cons_zero,List.set_cons_succ])
 refine AnyBut.take 1 (.slice p N cap) rfl (by kernel_rfl) (by kernel_rfl) (by kernel_rfl) (by kernel_rfl) (fun _ _ _ h=>h) TS (by rfl) (fun w' hS=>?_) ?_
 ·(go_simp)
 (try simp only [Act.put,List.setIfInBounds_toArray,List.set_cons_zero,List.set_cons_succ])
 refine AnyBut.one 2 (by kernel_rfl) rfl (by rfl) (fun K hK=>?_)
 refine wp_appO _ _ 27 rfl 27 rfl (.slice none 0 0) (.slice p N cap) (by simp [Act.eval]) (by simp [Act.eval]) RUN6.out ?_
 refine hK.out _ _ (fun _=>T6) ?_
 clear hK K
 (try simp only [Act.put,List.setIfInBounds_toArray,List.set_cons_zero,List.set_cons_succ])
 refine AnyBut.one 3 (by kernel_rfl) rfl (by rfl) (fun K hK=>?_)
 go_simp
 refine K7.mono ?_
 rintro e w7 ⟨rp,rc,pp,pc,spp,sc,w0,P,G,rfl,b7,en⟩
 have B7:=hid (show Below W2.heap.size W2 w7 from B6.out.trans (b7.mono B6.out.size))
 rw [HC.out.2.2.1] at en
 have EN:=hid en
 have T7:(fun w':World=>w'.cell? ⟨CB,0,none⟩=some (.int .i64 c.n)/\w'.cell? ⟨CB,1,none⟩=some (.slice lp c.ls.length lc)/\w'.cell? ⟨CB,2,none⟩=some (.int .i64 c.t)/\w'.cell? ⟨CB,3,none⟩=some (.slice mp c.ms.length mc)/\w'.cell? ⟨CB,4,none⟩=some (.int .i64 c.cap)) w7:=by
  obtain ⟨k0,k1,k2,k3,k4⟩:=CW.out _ B7.out
  exact ⟨k0,k1,k2,k3,k4⟩
 refine hK.out _ _ (fun _=>T7) ?_
 clear hK K K7 b7 en T6 TS RUN6 HH6
 (try simp only [Act.put,List.setIfInBounds_toArray,List.set_cons_zero,List.set_cons_succ])
 refine AnyBut.one 4 (by kernel_rfl) rfl (by rfl) (fun K hK=>?_)
 go_simp
 refine hK.out _ _ (fun _=>T7) ?_
 clear hK K
 (try simp only [Act.put,List.setIfInBounds_toArray,List.set_cons_zero,List.set_cons_succ])
 refine AnyBut.take 5 (.slice rp 2 rc) rfl (by kernel_rfl) (by kernel_rfl) (by kernel_rfl) (by kernel_rfl) (fun _ _ _ h=>h) T7 (by rfl) (fun w' hS=>?_) ?_
 ·(go_simp)
 (try simp only [Act.put,List.setIfInBounds_toArray,List.set_cons_zero,List.set_cons_succ])
 refine AnyBut.take 6 (.slice pp 4 pc) rfl (by kernel_rfl) (by kernel_rfl) (by kernel_rfl) (by kernel_rfl) (fun _ _ _ h=>h) T7 (by rfl) (fun w' hS=>?_) ?_
 ·(go_simp)
 (try simp only [Act.put,List.setIfInBounds_toArray,List.set_cons_zero,List.set_cons_succ])
 refine AnyBut.take 7 (.slice spp 4 sc) rfl (by kernel_rfl) (by kernel_rfl) (by kernel_rfl) (by kernel_rfl) (fun _ _ _ h=>h) T7 (by rfl) (fun w' hS=>?_) ?_
 ·(go_simp)
 (try simp only [Act.put,List.setIfInBounds_toArray,List.set_cons_zero,List.set_cons_succ])
 refine AnyBut.take 8 (.int .i64 0) rfl (by kernel_rfl) (by kernel_rfl) (by kernel_rfl) (by kernel_rfl) (fun _ _ _ h=>h) T7 (by rfl) (fun w' hS=>?_) ?_
 ·(go_simp)
 (try simp only [Act.put,List.setIfInBounds_toArray,List.set_cons_zero,List.set_cons_succ])
 refine AnyBut.take 9 (.slice rp 2 rc) rfl (by kernel_rfl) (by kernel_rfl) (by kernel_rfl) (by kernel_rfl) (fun _ _ _ h=>h) T7 (by rfl) (fun w' hS=>?_) ?_
 ·(go_simp)
 (try simp only [Act.put,List.setIfInBounds_toArray,List.set_cons_zero,List.set_cons_succ])
 refine AnyBut.take 10 (.slice pp 4 pc) rfl (by kernel_rfl) (by kernel_rfl) (by kernel_rfl) (by kernel_rfl) (fun _ _ _ h=>h) T7 (by rfl) (fun w' hS=>?_) ?_
 ·(go_simp)
 (try simp only [Act.put,List.setIfInBounds_toArray,List.set_cons_zero,List.set_cons_succ])
 refine AnyBut.take 11 (.slice spp 4 sc) rfl (by kernel_rfl) (by kernel_rfl) (by kernel_rfl) (by kernel_rfl) (fun _ _ _ h=>h) T7 (by rfl) (fun w' hS=>?_) ?_
 ·(go_simp)
 (try simp only [Act.put,List.setIfInBounds_toArray,List.set_cons_zero,List.set_cons_succ])
 refine AnyBut.one 12 (by kernel_rfl) rfl (by rfl) (fun K hK=>?_)
 go_simp
 refine hK.out _ _ (fun h=>absurd rfl h) ?_
 clear hK K
 refine AnyBut.done (by kernel_rfl) ?_
 clear T7
 obtain ⟨pb,po,epp,pcl⟩:=EN.out.purse (by omega)
 obtain ⟨sb,so,esp,scl⟩:=EN.out.stores (by omega)
 subst epp
 subst esp
 have PCL:=hid pcl
 have SCL:=hid scl
 have F7:=hid (BW.out _ B7.out)
 clear pcl scl
 go_wp2
 go_loopg [12] 4 (fun gg s12 wx=>∃ j:Nat,j<=4/\4-j<=gg/\s12=.int .i64 j/\wx=w7)
 case atStart=>exact ⟨0,Nat.zero_le _,by omega,rfl,rfl⟩
 case round =>
  obtain ⟨j,hj,hg,rfl,hw⟩:=hrel
  have hy:=hw.symm
  clear hw
  subst hy
  by_cases hlt:j<4
  ·have hltz:(j:Int)<4:=by omega
   have hjn:¬ (j:Int)<0:=by omega
   have pj:=PCL.out j hlt
   have sj:=SCL.out j hlt
   go_wp2
   go_roundg (4-(j+1))
   case measure=>omega
   case rel=>exact ⟨j+1,by omega,by omega,by go_num,rfl⟩
  ·have hltz:¬ (j:Int)<4:=by omega
   go_wp2
   (try simp only [Exit.inBlock,Exit.then])
   refine bodyPost_ret (results_four rfl _ _ _) rfl ?_
   exact ⟨rp,rc,_,pc,_,sc,w0,P,G,rfl,F7.out,EN.out⟩
end Go.Proofs.YtlohgiichckjmaaGreatDoor
namespace Go.Proofs.YtlohgiichckjmaaGreatDoor
set_option maxHeartbeats 16000000
set_option maxRecDepth 100000
namespace Plain
def dstF (f:Nat):Nat:=if f%4-1<f/4 then f%4-1 else f%4
theorem tickP_low {c:Cf} {W:Wo} (hn:c.n=4) {j:Nat} (hj:j<16):(tickP c W)[j]?=some (if j%4=0 then asksP c W (j/4) else rumP c W (j/4) (dstF j)):=by
 unfold tickP sends dstF
 rw [hn]
 have:j=0\/j=1\/j=2\/j=3\/j=4\/j=5\/j=6\/j=7\/j=8\/j=9\/j=10\/j=11\/j=12\/j=13\/j=14\/j=15:=by omega
 rcases this with rfl|rfl|rfl|rfl|rfl|rfl|rfl|rfl|rfl|rfl|rfl|rfl|rfl|rfl|rfl|rfl<;>rfl
theorem Cmg.come {c:Cf} {m K b:Nat} {W D:Wo} {j:Nat} (hc:mayC c=true) (hn:c.n=4) (hw:Wok c 4 m K W) (hb:Wob W) (hlo:Wlo W) (hbp:W.off.posted.length=b) (h:Cmg c m b (tickW c W) D j) (hj:j<20) :
  stW c D (delS (b+j))=comeW c { D with off:={ D.off with opened:=D.off.opened++[b+j] } } (D.off.at (b+j))/\∀ p,(tickP c W)[j]?=some p->D.off.at (b+j)=p:=by
 have h20:(tickP c W).length=20:=by rw [<- shape_len hn,<- tick_shape hc hn hw hb,List.length_map]
 have hpl:D.off.posted.length=b+20:=by
  rw [h.po]
  show (W.off.posted++tickP c W).length=_
  rw [List.length_append,hbp,h20]
 have hid:(delS (b+j)).id=((b+j:Nat):Int):=rfl
 have hfind:findE D ((b+j:Nat):Int)=0:=by
  have e1:Se.Plain.seenE D.off ((b+j:Nat):Int)=0:=by unfold Se.Plain.seenE;rw [if_neg (by rw [hpl];omega)]
  have e2:¬ ((b+j:Nat):Int)∈D.lost:=fun x=>by
   rw [h.lo] at x
   have:=hlo _ x
   omega
  have e3:Se.Plain.oldO D.off ((b+j:Nat):Int).toNat≠true:=fun x=>by
   rw [Int.toNat_natCast] at x
   unfold Se.Plain.oldO at x
   obtain ⟨k,hk,hd⟩:=List.any_eq_true.1 x
   have hd:=(of_decide_eq_true hd).1
   rw [h.op] at hk
   rcases List.mem_append.1 hk with hk|hk
   ·have:k<W.off.posted.length:=hw.gd.op k hk
    omega
   ·obtain ⟨i,hi,rfl⟩:=List.mem_map.1 hk
    have:=List.mem_range.1 hi
    omega
  unfold findE
  rw [if_neg (fun y=>y e1),if_neg (fun y=>y.elim e2 e3)]
 refine ⟨?_,fun p hp=>?_⟩
 ·unfold stW
  rw [if_neg (by show ¬ (10:Int)=9;omega),if_pos (show (delS (b+j)).kind=10 from rfl),hid]
  unfold delW
  rw [if_neg (fun y=>y hfind),Int.toNat_natCast]
 ·unfold Se.Plain.Off.at
  rw [h.po]
  show (W.off.posted++tickP c W).getD _ _=_
  rw [List.getD_eq_getElem?_getD,List.getElem?_append_right (by omega),hbp,show b+j-b=j by omega,hp]
  rfl
end Plain
end Go.Proofs.YtlohgiichckjmaaGreatDoor
namespace Go.Proofs.YtlohgiichckjmaaGreatDoor
set_option maxHeartbeats 16000000
set_option maxRecDepth 100000
open Go.RowKit Go.Shelf Go.Sort
theorem Plain.full_ids {l:List Plain.Sp} (h:∀ s,s∈l->0<=s.id/\s.id<=100000) (hl:l.length<=1000):∀ s,s∈Plain.fullF l->0<=s.id/\s.id<=100000:=fun s hs=>by
 unfold Plain.fullF Plain.comeL at hs
 rcases List.mem_append.1 hs with y|y
 ·exact h s y
 ·rcases List.mem_cons.1 y with rfl|y
  ·exact ⟨Int.le_refl _,by decide⟩
  ·obtain ⟨i,hi,rfl⟩:=List.mem_map.1 y
   have h1:=List.mem_range.1 hi
   have h2:=Plain.ticksN_le l
   exact ⟨Int.natCast_nonneg _,by show ((20*Plain.ticksN l+i:Nat):Int)<=100000;omega⟩
theorem SpR.both {w0 w:World} {q:Option Addr} {N k:Nat} {L:List Plain.Sp} (h:SpR w0 w (.slice q N k) L):encSp.Holds w q L/\(q=none->k=0):=by
 obtain ⟨p',c',e',hh,hn'⟩:=h.form
 injection e' with e1 _ e3
 rw [e1,e3];exact ⟨hh,hn'⟩
end Go.Proofs.YtlohgiichckjmaaGreatDoor
