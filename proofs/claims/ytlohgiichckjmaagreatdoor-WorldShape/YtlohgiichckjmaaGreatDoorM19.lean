/-
 Laid together: what the law asks of these.
-/
import Derived.Deep.LoopGhost
import Derived.Test.YtlohgiichckjmaaGreatDoorM10
import Derived.Test.YtlohgiichckjmaaGreatDoorM17
import Derived.Test.YtlohgiichckjmaaGreatDoorM18
namespace Go.Proofs.YtlohgiichckjmaaGreatDoor
set_option maxHeartbeats 16000000
set_option maxRecDepth 100000
namespace Plain
def Wob (W:Wo):Prop:=∀ k,Bo.Plain.Ok (W.bk k)
theorem Wob.start {c:Cf} (hc:mayC c=true):Wob (Wo.start c):=fun k=>by
 have hm:=may_all hc
 have h0:Bo.Plain.Ok (Bo.Plain.Bk.new c.n.toNat c.cap c.t.toNat):=Bo.Plain.Ok.new hm.2.2.2.2.2.2 (by omega)
 show Bo.Plain.Ok (bk0 c k)
 unfold bk0
 split
 ·exact h0.step _
 ·exact h0
theorem Wob.step {c:Cf} {W:Wo} (h:Wob W) (s:Sp):Wob (stW c W s):=by
 unfold stW
 split
 ·exact fun k=>(h k).round
 split
 ·unfold delW
  split
  ·exact h
  ·unfold comeW
   split
   ·intro k
    show Bo.Plain.Ok (if k<_ then _ else _)
    split
    ·exact (h k).step _
    ·exact h k
   split
   ·exact h
   ·exact h
 split
 ·unfold losW
  split<;>exact h
 split
 ·exact h
 split
 ·exact h
 ·intro k
  rw [(brW_keep c W s.who.toNat s).1]
  exact h k
theorem Wob.run {c:Cf} {W:Wo} (h:Wob W) (l:List Sp):Wob (runW c W l):=by
 induction l generalizing W with
 | nil=>exact h
 | cons s l ih=>exact ih (h.step s)
def look3 (p:Se.Plain.Po):Int × Int × Nat:=(p.frm,p.«to»,p.data.length)
def asksZ (c:Cf):Nat:=(21*c.ms.length+7)/8
def shapeB (c:Cf) (i:Nat):List (Int × Int × Nat):=((i:Int),c.n,asksZ c) :: ((List.range c.n.toNat).filter fun j=>j≠i).map fun j:Nat=>((i:Int),(j:Int),34*comN c i j)
def shape (c:Cf):List (Int × Int × Nat):=(List.range c.n.toNat).flatMap (shapeB c)++(List.range c.n.toNat).map fun i:Nat=>(c.n,(i:Int),asksZ c)
theorem mapN_all {m:Nat} {f:Nat->Int} (h:∀ k,k<m->0<=f k/\f k<=1048576):(Bo.Plain.mapN m f).all cntB=true:=by
 rw [List.all_eq_true]
 intro x hx
 unfold Bo.Plain.mapN at hx
 obtain ⟨k,hk,rfl⟩:=List.mem_map.1 hx
 have:=h k (List.mem_range.1 hk)
 unfold cntB
 exact (inR_iff _ _ _).2 this
theorem asks_z {c:Cf} (hc:mayC c=true) {f:Nat->Int} (h:∀ k,k<c.ms.length->0<=f k/\f k<=1048576):(byI (asksB c (Bo.Plain.mapN c.ms.length f))).length=asksZ c:=by
 rw [byI_len]
 have hl:(Bo.Plain.mapN c.ms.length f).length=c.ms.length:=Bo.Plain.mapN_len _ _
 have:=(asks_back hc hl (mapN_all h)).2.2.2
 rw [this,hl]
 rfl
theorem rum_z {c:Cf} (hc:mayC c=true) {Z:Int} {s:Nat->List En} (hs:Sok Z s) {i j:Nat} (hi:(i:Int)<c.n) (hj:(j:Int)<c.n):(byI (rumB c i j (stL s c.ls.length))).length=34*comN c i j:=by
 rw [byI_len]
 have hst:(stL s c.ls.length).length=c.ls.length:=by simp [stL]
 have hr:refE c i j=0:=by unfold refE;rw [if_pos hc,if_pos (by omega)]
 exact (told_heard hr hst
  (List.all_eq_true.2 fun l hl=>by obtain ⟨t,_,rfl⟩:=List.mem_map.1 hl;exact hs.mayL t)
  (fun l hl=>by
   obtain ⟨t,_,rfl⟩:=List.mem_map.1 hl
   exact List.all_eq_true.2 fun e he=>by
    have:=hs.may t e he
    unfold fitE
    simp only [Bool.and_eq_true,decide_eq_true_eq]
    exact ⟨this.2.1.2,this.2.2.2⟩)).2.2.2
theorem flatMap_congr' {α β:Type} {l:List α} {f g:α->List β} (h:∀ a,a∈l->f a=g a):l.flatMap f=l.flatMap g:=by
 induction l with
 | nil=>rfl
 | cons a l ih=>rw [List.flatMap_cons,List.flatMap_cons,h a List.mem_cons_self,ih fun b hb=>h b (List.mem_cons_of_mem _ hb)]
theorem map_flatMap' {α β γ:Type} (l:List α) (f:α->List β) (g:β->γ):(l.flatMap f).map g=l.flatMap fun a=>(f a).map g:=by
 induction l with
 | nil=>rfl
 | cons a l ih=>rw [List.flatMap_cons,List.map_append,List.flatMap_cons,ih]
theorem tick_shape {c:Cf} {n m K:Nat} {W:Wo} (hc:mayC c=true) (hn:c.n=n) (h:Wok c n m K W) (hb:Wob W):(tickP c W).map look3=shape c:=by
 unfold tickP shape
 rw [List.map_append,map_flatMap']
 congr 1
 ·refine flatMap_congr' fun i hi=>?_
  have hi:=List.mem_range.1 hi
  unfold sends shapeB
  rw [List.map_cons,List.map_map]
  congr 1
  ·show ((i:Int),c.n,(byI (asksB c (Bo.Plain.mapN c.ms.length (W.ask i)))).length)=_
   rw [asks_z hc fun k _=>h.ask i k]
  ·refine List.map_congr_left fun j hj=>?_
   have hj:=List.mem_range.1 (List.mem_filter.1 hj).1
   show ((i:Int),(j:Int),(byI (rumB c i j (stL (W.st i) c.ls.length))).length)=_
   rw [rum_z hc (h.st i) (by omega) (by omega)]
 ·rw [List.map_map]
  refine List.map_congr_left fun i hi=>?_
  have hi:=List.mem_range.1 hi
  show (c.n,(i:Int),(byI (asksB c (Bo.Plain.mapN c.ms.length fun k=>(Bo.Plain.roundB (W.bk k)).given.getD i 0))).length)=_
  rw [asks_z hc fun k _=>by
   have o:=(hb k).round
   have hi2:i<(Bo.Plain.roundB (W.bk k)).n:=by rw [Bo.Plain.roundB_n,h.bn];omega
   have a:=o.gi i hi2
   have b:=o.wa i hi2
   omega]
def ticksN (l:List Sp):Nat:=(l.filter fun s=>decide (s.kind=9)).length
theorem ticksN_snoc (l:List Sp) (s:Sp):ticksN (l++[s])=ticksN l+if s.kind=9 then 1 else 0:=by
 unfold ticksN
 rw [List.filter_append,List.length_append]
 by_cases h:s.kind=9
 ·simp [h]
 ·simp [h]
theorem posted_step (c:Cf) (W:Wo) (s:Sp):(stW c W s).off.posted=if s.kind=9 then W.off.posted++tickP c W else W.off.posted:=by
 unfold stW
 by_cases h9:s.kind=9
 ·rw [if_pos h9,if_pos h9];rfl
 rw [if_neg h9,if_neg h9]
 split
 ·unfold delW
  split
  ·rfl
  ·unfold comeW
   split
   ·rfl
   split<;>rfl
 split
 ·unfold losW
  split<;>rfl
 split
 ·rfl
 split
 ·rfl
 ·rw [(brW_keep c W s.who.toNat s).2.1]
theorem wok_all {c:Cf} {n m:Nat} (hc:mayC c=true) (hn:c.n=n) (hm:c.ms.length=m) (l:List Sp) (hl:l.length<=300):Wok c n m l.length (runW c (Wo.start c) l)/\Wob (runW c (Wo.start c) l):=by
 refine ⟨?_,(Wob.start hc).run l⟩
 have:=wok_run hc hn hm l hl l.length (Nat.le_refl _)
 rw [List.take_length] at this
 exact this
theorem posted_len {c:Cf} {n m:Nat} (hc:mayC c=true) (hn:c.n=n) (hm:c.ms.length=m):∀ (k:Nat) (l:List Sp),l.length=k->k<=300->(runW c (Wo.start c) l).off.posted.length=(shape c).length*ticksN l:=by
 intro k
 induction k with
 | zero =>
  intro l hl _
  have:l=[]:=List.length_eq_zero_iff.1 hl
  subst this
  rfl
 | succ k ih =>
  intro l hl hk
  have hne:l≠[]:=by intro e;subst e;simp at hl
  obtain ⟨i,s,rfl⟩:∃ i s,l=i++[s]:=⟨l.dropLast,l.getLast hne,(List.dropLast_concat_getLast hne).symm⟩
  rw [List.length_append,List.length_singleton] at hl
  have hi:=ih i (by omega) (by omega)
  have ok:=wok_all hc hn hm i (by omega)
  rw [runW_app]
  show (stW c (runW c (Wo.start c) i) s).off.posted.length=_
  rw [posted_step,ticksN_snoc]
  by_cases h9:s.kind=9
  ·rw [if_pos h9,if_pos h9,List.length_append,hi,Nat.mul_add,Nat.mul_one]
   have:=congrArg List.length (tick_shape hc hn ok.1 ok.2)
   rw [List.length_map] at this
   rw [this]
  ·rw [if_neg h9,if_neg h9,hi,Nat.add_zero]
theorem evs_look (l:List Se.Plain.Po):∀ (b k:Nat),k<l.length->∃ p,l[k]?=some p/\(evsF b l)[k]?=some ⟨((b+k:Nat):Int),p.frm,p.«to»,(p.data.length:Int)⟩:=by
 induction l with
 | nil=>intro b k hk;simp at hk
 | cons p l ih =>
  intro b k hk
  cases k with
  | zero=>exact ⟨p,rfl,rfl⟩
  | succ k =>
   obtain ⟨q,h1,h2⟩:=ih (b+1) k (by simpa using hk)
   refine ⟨q,h1,?_⟩
   show (evsF (b+1) l)[k]?=_
   rw [h2,show b+1+k=b+(k+1) by omega]
end Plain
end Go.Proofs.YtlohgiichckjmaaGreatDoor
namespace Go.Proofs.YtlohgiichckjmaaGreatDoor
set_option maxHeartbeats 16000000
set_option maxRecDepth 100000
namespace Plain
theorem shape_len {c:Cf} (hn:c.n=4):(shape c).length=20:=by
 unfold shape shapeB
 simp only [hn]
 rfl
theorem tls_at (c:Cf):∀ (l:List Sp) (W:Wo) (i:Nat),(tlsF c W l)[i]?=(l[i]?).map (stT c (runW c W (l.take i))):=by
 intro l
 induction l with
 | nil=>intro W i;simp [tlsF]
 | cons s l ih =>
  intro W i
  cases i with
  | zero=>rfl
  | succ i=>exact ih (stW c W s) i
def shEv (c:Cf) (b k:Nat):Se.Plain.Ev:=⟨((b+k:Nat):Int),((shape c).getD k (0,0,0)).1,((shape c).getD k (0,0,0)).2.1,((((shape c).getD k (0,0,0)).2.2:Nat):Int)⟩
theorem tick_sent {c:Cf} {n m K:Nat} {W:Wo} (hc:mayC c=true) (hn:c.n=n) (h:Wok c n m K W) (hb:Wob W):(tickT c W).sent.length=(shape c).length/\∀ k,k<(shape c).length->(tickT c W).sent[k]?=some (shEv c W.off.posted.length k):=by
 have hs:=tick_shape hc hn h hb
 have hl:(tickP c W).length=(shape c).length:=by rw [<- hs,List.length_map]
 refine ⟨?_,fun k hk=>?_⟩
 ·show (evsF _ _).length=_
  rw [evsF_len',hl]
 ·obtain ⟨p,h1,h2⟩:=evs_look (tickP c W) W.off.posted.length k (by omega)
  show (evsF _ _)[k]?=_
  rw [h2]
  have e:(shape c)[k]?=some (look3 p):=by rw [<- hs,List.getElem?_map,h1];rfl
  unfold shEv
  rw [List.getD_eq_getElem?_getD,e]
  rfl
theorem other_sent {c:Cf} {W:Wo} {s:Sp} (h9:s.kind≠9):(stT c W s).sent=[]:=by
 unfold stT
 rw [if_neg h9]
 split
 ·unfold delT
  split<;>rfl
 split
 ·rfl
 split
 ·rfl
 split
 ·rfl
 ·exact (brT_none c W s.who.toNat s).1
theorem told_sent {c:Cf} {n m:Nat} (hc:mayC c=true) (hn:c.n=n) (hm:c.ms.length=m) (l:List Sp) (hl:l.length<=300) (i:Nat) (s:Sp) (hi:l[i]?=some s) :
  ∃ t,(tlsF c (Wo.start c) l)[i]?=some t/\(s.kind≠9->t.sent=[])/\(s.kind=9->t.sent.length=(shape c).length/\∀ k,k<(shape c).length->t.sent[k]?=some (shEv c ((shape c).length*ticksN (l.take i)) k)):=by
 have hil:i<l.length:=(List.getElem?_eq_some_iff.1 hi).1
 have hlt:(l.take i).length=i:=by rw [List.length_take];omega
 refine ⟨stT c (runW c (Wo.start c) (l.take i)) s,by rw [tls_at,hi];rfl,other_sent,fun h9=>?_⟩
 have ok:=wok_all hc hn hm (l.take i) (by omega)
 have e:stT c (runW c (Wo.start c) (l.take i)) s=tickT c (runW c (Wo.start c) (l.take i)):=by unfold stT;rw [if_pos h9]
 rw [e,<- posted_len hc hn hm i (l.take i) hlt (by omega)]
 exact tick_sent hc hn ok.1 ok.2
theorem ticksN_take (l:List Sp) (i:Nat) (s:Sp) (hi:l[i]?=some s):ticksN (l.take (i+1))=ticksN (l.take i)+if s.kind=9 then 1 else 0:=by
 rw [List.take_add_one,hi]
 exact ticksN_snoc _ _
theorem ticksN_le (l:List Sp):ticksN l<=l.length:=List.length_filter_le _ _
end Plain
end Go.Proofs.YtlohgiichckjmaaGreatDoor
namespace Go.Proofs.YtlohgiichckjmaaGreatDoor
set_option maxHeartbeats 16000000
set_option maxRecDepth 100000
namespace Plain
def tickS:Sp:=⟨9,0,0,0,0,0,0,0⟩
end Plain
end Go.Proofs.YtlohgiichckjmaaGreatDoor
namespace Go.Proofs.YtlohgiichckjmaaGreatDoor
set_option maxHeartbeats 16000000
set_option maxRecDepth 100000
open Go.RowKit Go.Shelf Go.Sort
def shF (c:Plain.Cf) (j:Nat):Int:=((Plain.shape c).getD j (0,0,0)).1
def shG (c:Plain.Cf) (j:Nat):Int:=((Plain.shape c).getD j (0,0,0)).2.1
def shH (c:Plain.Cf) (j:Nat):Int:=(((Plain.shape c).getD j (0,0,0)).2.2:Nat)
def SentI (w:World) (c:Plain.Cf) (TB k base:Nat):Prop :=
 ∃ b off cs,w.cell? ⟨TB,k*11+8,none⟩=some (.slice (some ⟨b,off,none⟩) 20 cs)/\b<w.heap.size/\∀ j,j<20 ->
  w.cell? ⟨b,off+j*4,none⟩=some (.int .i64 ((base+j:Nat):Int))/\w.cell? ⟨b,off+j*4+1,none⟩=some (.int .i64 (shF c j))/\w.cell? ⟨b,off+j*4+2,none⟩=some (.int .i64 (shG c j))/\w.cell? ⟨b,off+j*4+3,none⟩=some (.int .i64 (shH c j))
theorem SentI.grow {w w':World} {c:Plain.Cf} {TB k base:Nat} (h:SentI w c TB k base) (g:Below w.heap.size w w'):SentI w' c TB k base:=by
 obtain ⟨b,off,cs,h1,h2,h3⟩:=h
 have hT:=World.block_lt_of_cell? (w:=w) (h:=h1)
 refine ⟨b,off,cs,(g.cell (p:=⟨TB,k*11+8,none⟩) hT).trans h1,Nat.lt_of_lt_of_le h2 g.size,fun j hj=>?_⟩
 obtain ⟨c0,c1,c2,c3⟩:=h3 j hj
 exact ⟨(g.cell (p:=⟨b,off+j*4,none⟩) h2).trans c0,(g.cell (p:=⟨b,off+j*4+1,none⟩) h2).trans c1,(g.cell (p:=⟨b,off+j*4+2,none⟩) h2).trans c2,(g.cell (p:=⟨b,off+j*4+3,none⟩) h2).trans c3⟩
theorem sent_read {c:Plain.Cf} {m:Nat} (hc:Plain.mayC c=true) (hn:c.n=4) (hm:c.ms.length=m) (l:List Plain.Sp) (hl:l.length<=300) {R:List Vi.RT} (hx:R.map (·.x)=(Plain.tlsF c (Plain.Wo.start c) l).map toTd) {w:World} {TB:Nat} (h:Vi.OutT w (some ⟨TB,0,none⟩) R) {k:Nat} (hk:k<l.length) :
  ((l.getD k default).kind≠9->∃ ps cs,w.cell? ⟨TB,k*11+8,none⟩=some (.slice ps 0 cs))/\((l.getD k default).kind=9->SentI w c TB k (20*Plain.ticksN (l.take k))):=by
 have hR:R.length=l.length:=by have:=congrArg List.length hx;rwa [List.length_map,List.length_map,Plain.tlsF_len] at this
 have hlk:l[k]?=some (l.getD k default):=by rw [List.getD_eq_getElem?_getD,List.getElem?_eq_getElem hk];rfl
 obtain ⟨t,ht,h0,h9⟩:=Plain.told_sent hc (n:=4) hn hm l hl k _ hlk
 rw [Plain.shape_len hn] at h9
 obtain ⟨bT,oT,eT,lT,gT⟩:=Vi.holdsT h.hd (by omega)
 have eT1:=Option.some.inj eT
 have ebT:TB=bT:=congrArg Addr.block eT1
 have eoT:0=oT:=congrArg Addr.off eT1
 subst ebT
 subst eoT
 have kR:k<R.length:=by omega
 have mR:R.getD k default∈R:=by rw [List.getD_eq_getElem?_getD,List.getElem?_eq_getElem kR];exact List.getElem_mem _
 have td:=h.td _ mR
 have hxr:(R.getD k default).x=toTd t:=by
  have e:=congrArg (·[k]?) hx
  simp only [List.getElem?_map,ht,Option.map_some] at e
  rw [List.getElem?_eq_getElem kR,Option.map_some] at e
  rw [List.getD_eq_getElem?_getD,List.getElem?_eq_getElem kR]
  exact Option.some.inj e
 have g8:=gT k kR 8 (by decide)
 change w.cell? ⟨TB,0+(k*11+8),none⟩=some (.slice (R.getD k default).ps (R.getD k default).x.sent.length (R.getD k default).cs) at g8
 rw [Nat.zero_add] at g8
 generalize R.getD k default=r at *
 have hs:r.x.sent=t.sent.map toEv:=by rw [hxr];rfl
 have hsl:r.x.sent.length=t.sent.length:=by rw [hs,List.length_map]
 refine ⟨fun hne=>⟨r.ps,r.cs,?_⟩,fun he=>?_⟩
 ·rw [g8,hsl,h0 hne];rfl
 ·obtain ⟨h20,hat⟩:=h9 he
  have hsl2:r.x.sent.length=20:=by omega
  obtain ⟨b,off,e,hb,_,hcell⟩:=td.s.hd (by omega)
  rw [e,hsl2] at g8
  refine ⟨b,off,r.cs,g8,hb,fun j hj=>?_⟩
  have hj2:r.x.sent.getD j default=toEv (Plain.shEv c (20*Plain.ticksN (l.take k)) j):=by
   rw [List.getD_eq_getElem?_getD,hs,List.getElem?_map,hat j hj];rfl
  have f:∀ i u,i<4->(Vi.encV.enc (r.x.sent.getD j default))[i]?=some u->w.cell? ⟨b,off+j*4+i,none⟩=some u:=fun i u hi hu=>by
   have e2:=Vi.encV.vals_at default r.x.sent j i (by omega) hi
   have e3:=hcell _ u (e2.trans hu)
   rwa [show off+(j*Vi.encV.n+i)=off+j*4+i by show off+(j*4+i)=_;omega] at e3
  rw [hj2] at f
  exact ⟨f 0 _ (by decide) rfl,f 1 _ (by decide) rfl,f 2 _ (by decide) rfl,f 3 _ (by decide) rfl⟩
end Go.Proofs.YtlohgiichckjmaaGreatDoor
namespace Go.Proofs.YtlohgiichckjmaaGreatDoor
set_option maxHeartbeats 16000000
set_option maxRecDepth 100000
open Go.RowKit Go.Shelf Go.Sort
theorem worldShape_c (p:Option Addr) (n cap:Nat) (ls:List Int) (hbig:n<=9223372036854775807) (hn:ls.length=n) (hwf:∀ x,x∈ls->In64 x) (ti mi mo:Int) (hti:In64 ti) (hmi:In64 mi) (hmo:In64 mo) (p2:Option Addr) (n2 cap2:Nat) (ds:List Plain.Sp) (hn2:ds.length=n2) (hbig2:n2<=9223372036854775807) (hd:∀ d,d∈ds->InX d)
  (w:World) (htb:∀ k,2<=k->k<=6->w.cell? ⟨0,k,none⟩=some (.int .i64 (k:Nat))) (hp:NumsQ w p ls) (hp2:encSp.Holds w p2 ds) :
  Calls Tryz.prog 3 #[.slice p n cap,.int .i64 ti,.int .i64 mi,.int .i64 mo,.slice p2 n2 cap2] w fun e w'=>e=.returned (.bool true)/\Below w.heap.size w w':=by
 have hb0:0<w.heap.size:=World.block_lt_of_cell? (w:=w) (h:=htb 2 (by omega) (by omega))
 have HTB:=hid (fun X (bx:Below w.heap.size w X) k (h2:2<=k) (h6:k<=6)=>(bx.cell (p:=⟨0,k,none⟩) hb0).trans (htb k h2 h6))
 have KC:=cfg_c ti mi mo hti hmi hmo p n cap ls hbig hn hwf w hp
 have KS:=hid (fun X (bx:Below w.heap.size w X)=>stepsOf_c p2 n2 cap2 120 ds hn2 hbig2 (by omega) hd X (hp2.grow bx))
 clear hp hp2 hwf hd htb hb0 hti hmi hmo
 go_enter Tryz.func3,Tryz.ntmps3
 go_wp2_with fail
 refine KC.mono ?_
 rintro e w1 ⟨c,lp,lc,mp,mc,hm,hc4,hc3,hc2,hcc,rfl,hI,b1⟩
 clear hcc
 have HC:=hid (And.intro hm (And.intro hc4 (And.intro hc3 hc2)))
 obtain ⟨W2,hW2⟩:∃ W2,W2=w1.alloc (boxC c (.slice lp c.ls.length lc) (.slice mp c.ms.length mc)):=⟨_,rfl⟩
 have b2:Below w1.heap.size w1 W2:=by rw [hW2];exact (Below.refl _ _).alloc (Nat.le_refl _) _
 have B2:=hid (show Below w.heap.size w W2 from b1.trans (b2.mono b1.size))
 have C2:=hid (show CellC W2 w1.heap.size c (.slice lp c.ls.length lc) (.slice mp c.ms.length mc) by rw [hW2];exact CellC.start w1 c (.slice lp c.ls.length lc) (.slice mp c.ms.length mc))
 have I2:=hid (hI.grow b2)
 clear KC hm hc4 hc3 hc2 hI b1 b2
 go_upto_region 2 with fail
 rw [<- hW2]
 obtain ⟨CB,hCB⟩:∃ CB,CB=w1.heap.size:=⟨_,rfl⟩
 rw [<- hCB] at C2 ⊢
 clear hW2 hCB
 have CW:=hid (fun X (bx:Below W2.heap.size W2 X)=>(C2.out.below bx C2.out.lt:CellC X CB c (.slice lp c.ls.length lc) (.slice mp c.ms.length mc)))
 have IW:=hid (fun X (bx:Below W2.heap.size W2 X)=>I2.out.grow bx)
 have BW:=hid (fun X (bx:Below W2.heap.size W2 X)=>B2.out.trans (bx.mono B2.out.size))
 clear C2 I2
 have K3:=KS.out W2 (BW.out _ (Below.refl _ _))
 go_wp2_with fail
 refine K3.mono ?_
 rintro e w3 ⟨q,kc,L0,rfl,sp,hL,hid5⟩
 obtain ⟨p4,c4,w4,hrun,sp4⟩:=sp.snoc (by omega) Plain.tickS
 have RUN:=hid hrun
 have HL:=hid hL
 have HI5:=hid (show ∀ s,s∈L0++[Plain.tickS]->0<=s.id/\s.id<=100000 from fun s hs=>by
  rcases List.mem_append.1 hs with y|y
  ·exact hid5 s y
  ·rw [List.mem_singleton.1 y];exact ⟨Int.le_refl _,by decide⟩)
 have SP4:=hid sp4
 clear K3 KS sp hrun sp4 hid5 hL
 go_upto_region 3 with (first|(at_builtin;refine wpList_app _ _ 27 RUN.out (by rfl) (by rfl) (by rfl) (by rfl) (by rfl) ?_)|fail)
 obtain ⟨N,hN⟩:∃ N,N=L0.length+1:=⟨_,rfl⟩
 obtain ⟨L,hLL⟩:∃ L,L=L0++[Plain.tickS]:=⟨_,rfl⟩
 have hNL:L.length=N:=by rw [hLL,hN,List.length_append];rfl
 have hN1:N<=121:=by have:=HL.out;omega
 have HNL:=hid hNL
 rw [<- hN] at SP4
 rw [<- hLL] at SP4 HI5
 rw [<- hN]
 clear hN hLL HL RUN
 have B4:=hid (show Below W2.heap.size W2 w4 from SP4.out.be)
 have D4:=hid (show Below w4.heap.size w4 w4.drew from (Below.refl _ _).drew)
 have HO4:=hid (show encSp.Holds w4 p4 L by have h:=SP4.out;rw [<- hNL] at h;exact h.hold)
 have HP4:=hid (show p4=none->c4=0 by
  obtain ⟨p',c',e',_,hn'⟩:=SP4.out.form
  injection e' with e1 _ e3
  rw [e1,e3];exact hn')
 obtain ⟨v6,w6,hrun6,sp6,_⟩:=(SpR.nil w4.drew).app (Nat.zero_le _) (p:=p4) (c:=c4) (HO4.out.grow D4.out) HP4.out (by omega)
 obtain ⟨p6,c6,rfl,hh6,_⟩:=sp6.form
 rw [List.nil_append,hNL] at hrun6
 rw [List.nil_append] at hh6
 have RUN6:=hid hrun6
 have HH6:=hid hh6
 have B6:=hid (show Below W2.heap.size W2 w6 from B4.out.trans ((D4.out.trans (sp6.be.mono D4.out.size)).mono B4.out.size))
 have G6:=hid (show Below w4.drew.heap.size w4.drew w6 from sp6.be)
 have mixed:Tryz.prog.follows .mixedOrders=true:=by kernel_rfl
 have TS:(fun w':World=>w'.cell? ⟨CB,0,none⟩=some (.int .i64 c.n)/\w'.cell? ⟨CB,1,none⟩=some (.slice lp c.ls.length lc)/\w'.cell? ⟨CB,2,none⟩=some (.int .i64 c.t)/\w'.cell? ⟨CB,3,none⟩=some (.slice mp c.ms.length mc)/\w'.cell? ⟨CB,4,none⟩=some (.int .i64 c.cap)) w4.drew:=by
  obtain ⟨k0,k1,k2,k3,k4⟩:=CW.out _ (B4.out.trans (D4.out.mono B4.out.size))
  exact ⟨k0,k1,k2,k3,k4⟩
 have T6:(fun w':World=>w'.cell? ⟨CB,0,none⟩=some (.int .i64 c.n)/\w'.cell? ⟨CB,1,none⟩=some (.slice lp c.ls.length lc)/\w'.cell? ⟨CB,2,none⟩=some (.int .i64 c.t)/\w'.cell? ⟨CB,3,none⟩=some (.slice mp c.ms.length mc)/\w'.cell? ⟨CB,4,none⟩=some (.int .i64 c.cap)) w6:=by
  obtain ⟨k0,k1,k2,k3,k4⟩:=CW.out _ B6.out
  exact ⟨k0,k1,k2,k3,k4⟩
 have K7:=wplay_yes c lp mp lc mc 4 2 p6 N c6 L HNL.out (by omega) HC.out.1 HC.out.2.1 HC.out.2.2.2 (fun _=>by rw [HC.out.2.2.1];omega) (fun s hs=>wf_small (HI5.out s hs)) w6 (IW.out _ B6.out) (HTB.out _ (BW.out _ B6.out)) HH6.out
 clear hrun6 sp6 hh6 hNL
 refine AnyBut.begin (fun w':World=>w'.cell? ⟨CB,0,none⟩=some (.int .i64 c.n)/\w'.cell? ⟨CB,1,none⟩=some (.slice lp c.ls.length lc)/\w'.cell? ⟨CB,2,none⟩=some (.int .i64 c.t)/\w'.cell? ⟨CB,3,none⟩=some (.slice mp c.ms.length mc)/\w'.cell? ⟨CB,4,none⟩=some (.int .i64 c.cap)) 8 mixed ?_
 refine AnyBut.take 0 (cfV c (.slice lp c.ls.length lc) (.slice mp c.ms.length mc)) rfl (by kernel_rfl) (by kernel_rfl) (by kernel_rfl) (by kernel_rfl) (fun _ _ _ h=>h) TS (by rfl) (fun w' hS=>?_) ?_
 ·(obtain ⟨q0,q1,q2,q3,q4⟩:=hS;go_simp)
 (try simp only [Act.put,List.setIfInBounds_toArray,List.set_cons_zero,List.set_cons_succ])
 refine AnyBut.take 1 (.slice p4 N c4) rfl (by kernel_rfl) (by kernel_rfl) (by kernel_rfl) (by kernel_rfl) (fun _ _ _ h=>h) TS (by rfl) (fun w' hS=>?_) ?_
 ·(go_simp)
 (try simp only [Act.put,List.setIfInBounds_toArray,List.set_cons_zero,List.set_cons_succ])
 refine AnyBut.one 2 (by kernel_rfl) rfl (by rfl) (fun K hK=>?_)
 refine wp_appO _ _ 27 rfl 27 rfl (.slice none 0 0) (.slice p4 N c4) (by simp [Act.eval]) (by simp [Act.eval]) RUN6.out ?_
 refine hK.out _ _ (fun _=>T6) ?_
 clear hK K
 (try simp only [Act.put,List.setIfInBounds_toArray,List.set_cons_zero,List.set_cons_succ])
 refine AnyBut.one 3 (by kernel_rfl) rfl (by rfl) (fun K hK=>?_)
 go_simp
 refine K7.mono ?_
 rintro e w7 ⟨TB,R,rfl,hR,hx,ho,_,b7⟩
 have B7:=hid (show Below W2.heap.size W2 w7 from B6.out.trans (b7.mono B6.out.size))
 have G7:=hid (show Below w4.heap.size w4 w7 from (D4.out.trans (G6.out.mono D4.out.size)).trans (b7.mono (Nat.le_trans D4.out.size G6.out.size)))
 have T7:(fun w':World=>w'.cell? ⟨CB,0,none⟩=some (.int .i64 c.n)/\w'.cell? ⟨CB,1,none⟩=some (.slice lp c.ls.length lc)/\w'.cell? ⟨CB,2,none⟩=some (.int .i64 c.t)/\w'.cell? ⟨CB,3,none⟩=some (.slice mp c.ms.length mc)/\w'.cell? ⟨CB,4,none⟩=some (.int .i64 c.cap)) w7:=by
  obtain ⟨k0,k1,k2,k3,k4⟩:=CW.out _ B7.out
  exact ⟨k0,k1,k2,k3,k4⟩
 have HX:=hid hx
 have HO:=hid ho
 refine hK.out _ _ (fun _=>T7) ?_
 clear hK K K7 hR hx ho b7 T6 TS RUN6 HH6
 (try simp only [Act.put,List.setIfInBounds_toArray,List.set_cons_zero,List.set_cons_succ])
 refine AnyBut.one 4 (by kernel_rfl) rfl (by rfl) (fun K hK=>?_)
 go_simp
 refine hK.out _ _ (fun _=>T7) ?_
 clear hK K
 (try simp only [Act.put,List.setIfInBounds_toArray,List.set_cons_zero,List.set_cons_succ])
 refine AnyBut.take 5 (.slice (some ⟨TB,0,none⟩) N N) rfl (by kernel_rfl) (by kernel_rfl) (by kernel_rfl) (by kernel_rfl) (fun _ _ _ h=>h) T7 (by rfl) (fun w' hS=>?_) ?_
 ·(go_simp)
 (try simp only [Act.put,List.setIfInBounds_toArray,List.set_cons_zero,List.set_cons_succ])
 refine AnyBut.take 6 (.int .i64 0) rfl (by kernel_rfl) (by kernel_rfl) (by kernel_rfl) (by kernel_rfl) (fun _ _ _ h=>h) T7 (by rfl) (fun w' hS=>?_) ?_
 ·(go_simp)
 (try simp only [Act.put,List.setIfInBounds_toArray,List.set_cons_zero,List.set_cons_succ])
 refine AnyBut.take 7 (.slice (some ⟨TB,0,none⟩) N N) rfl (by kernel_rfl) (by kernel_rfl) (by kernel_rfl) (by kernel_rfl) (fun _ _ _ h=>h) T7 (by rfl) (fun w' hS=>?_) ?_
 ·(go_simp)
 (try simp only [Act.put,List.setIfInBounds_toArray,List.set_cons_zero,List.set_cons_succ])
 refine AnyBut.one 8 (by kernel_rfl) rfl (by rfl) (fun K hK=>?_)
 go_simp
 refine hK.out _ _ (fun h=>absurd rfl h) ?_
 clear hK K
 refine AnyBut.done (by kernel_rfl) ?_
 obtain ⟨e0,e1,e2,e3,e4⟩:=T7
 have bA:=hid (show Below w7.heap.size w7 (w7.alloc (boxX Plain.tickS)) from (Below.refl _ _).alloc (Nat.le_refl _) _)
 have BA:=hid (show Below W2.heap.size W2 (w7.alloc (boxX Plain.tickS)) from B7.out.trans (bA.out.mono B7.out.size))
 have K8:=wplay_yes c lp mp lc mc 4 2 (some ⟨w7.heap.size,0,none⟩) 1 1 [Plain.tickS] rfl (by omega) HC.out.1 HC.out.2.1 HC.out.2.2.2 (fun _=>by rw [HC.out.2.2.1];omega) (fun s hs=>by rw [List.mem_singleton.1 hs];rfl) (w7.alloc (boxX Plain.tickS)) (IW.out _ BA.out) (HTB.out _ (BW.out _ BA.out)) (encSp.one_holds w7 Plain.tickS 30)
 go_wp2_with fail
 refine K8.mono ?_
 rintro e w8 ⟨TB1,R1,rfl,hR1,hx1,ho1,_,b8⟩
 have B8:=hid (show Below W2.heap.size W2 w8 from BA.out.trans (b8.mono BA.out.size))
 have G8:=hid (show Below w7.heap.size w7 w8 from bA.out.trans (b8.mono bA.out.size))
 have S1:=hid (show SentI w8 c TB1 0 0 from (sent_read HC.out.1 HC.out.2.1 HC.out.2.2.2 [Plain.tickS] (by simp) hx1 ho1 (k:=0) (by simp)).2 rfl)
 have HOT:=hid (HO.out.grow G8.out)
 have HSP:=hid (HO4.out.grow (G7.out.trans (G8.out.mono G7.out.size)))
 clear K8 hR1 hx1 ho1 b8 e0 e1 e2 e3 e4 HO G7 G8 B6 B4 D4 G6 HO4 HP4 SP4 bA BA
 obtain ⟨b1,o1,s1,f1,l1,g1⟩:=S1.out
 rw [show 0*11+8=8 from rfl] at f1
 have hNN:((N:Int) != (N:Int))=false:=by simp
 go_wp2
 clear f1 l1 g1
 go_loopg [17,18,19,20,21] N (fun gg s17 s18 _ _ _ wx=>∃ k:Nat,k<=N/\N-k<=gg/\s18=.int .i64 k/\s17=.int .i64 ((20*Plain.ticksN (L.take k):Nat):Int)/\Aside (Below w8.heap.size w8 wx))
 case atStart=>exact ⟨0,Nat.zero_le _,by omega,rfl,rfl,(show Aside _ from Below.refl _ _)⟩
 case round =>
  obtain ⟨k,hk,hg,rfl,rfl,A⟩:=hrel
  by_cases hlt:k<N
  ·have hltz:(k:Int)<(N:Int):=by omega
   have hkL:k<L.length:=by have:=HNL.out;omega
   obtain ⟨bs,os,eS,lS,gS⟩:=holdsSp (HSP.out.grow A.out) (by omega)
   obtain ⟨c0,_,_,_,_,_,_,_⟩:=gS k hkL
   subst eS
   have hrd:=sent_read HC.out.1 HC.out.2.1 HC.out.2.2.2 L (by have:=HNL.out;omega) HX.out (HOT.out.grow A.out) hkL
   have hTk:Plain.ticksN (L.take k)<=121:=by have:=Plain.ticksN_le (L.take k);rw [List.length_take] at this;omega
   have hTn:=hid (Plain.ticksN_take L k (L.getD k default) (by rw [List.getD_eq_getElem?_getD,List.getElem?_eq_getElem hkL];rfl))
   generalize hkd:(L.getD k default).kind=kd at c0 hrd hTn
   generalize Plain.ticksN (L.take k)=T at hrd hTk hTn ⊢
   clear gS hkd
   by_cases h9:kd=9
   ·subst h9
    have H2:=hid (hrd.2 rfl)
    obtain ⟨b2,o2,s2,f2,l2,g2⟩:=hrd.2 rfl
    clear hrd l2 g2
    have h20:((20:Int) != 20)=false:=by decide
    have hTA:=hid hTn.out
    go_wp2
    clear c0 f2
    go_loopg [17,19,20,21] 20 (fun gg s17 s19 _ _ wx=>∃ j:Nat,j<=20/\20-j<=gg/\s19=.int .i64 j/\s17=.int .i64 ((20*T+j:Nat):Int)/\Aside (Below wr.heap.size wr wx))
    case atStart=>exact ⟨0,Nat.zero_le _,by omega,rfl,rfl,(show Aside _ from Below.refl _ _)⟩
    case round =>
     obtain ⟨j,hj,hgj,rfl,rfl,A2⟩:=hrel
     by_cases hlj:j<20
     ·have hljz:(j:Int)<20:=by omega
      have hjn:¬ (j:Int)<0:=by omega
      obtain ⟨b3,o3,s3,f3,l3,g3⟩:=H2.out.grow A2.out
      obtain ⟨x0,x1,x2,x3⟩:=g3 j hlj
      obtain ⟨v,hv⟩:∃ v,v=((20*T+j:Nat):Int):=⟨_,rfl⟩
      rw [<- hv] at x0 ⊢
      have hv2:0<=v/\v<=2440:=by omega
      have HVV:=hid hv
      clear hv
      obtain ⟨W5,hW5⟩:∃ W5,W5=wr.alloc (Se.boxV ⟨v,shF c j,shG c j,shH c j⟩):=⟨_,rfl⟩
      have B5:=hid (show Below wr.heap.size wr W5 by rw [hW5];exact (Below.refl _ _).alloc (Nat.le_refl _) _)
      have R5:=hid (show W5.rowIs wr.heap.size 42 4 (Se.evF ⟨v,shF c j,shG c j,shH c j⟩) by rw [hW5];exact Se.rowV_new wr _)
      have G5:=hid ((A.out.trans (A2.out.mono A.out.size)).trans (B5.out.mono (Nat.le_trans A.out.size A2.out.size)))
      obtain ⟨b4,o4,s4,f4,l4,g4⟩:=S1.out.grow G5.out
      obtain ⟨y0,y1,y2,y3⟩:=g4 j hlj
      rw [show 0*11+8=8 from rfl] at f4
      rw [Nat.zero_add] at y0
      obtain ⟨W6,hW6⟩:∃ W6,W6=W5.alloc (Se.boxV ⟨(j:Int),shF c j,shG c j,shH c j⟩):=⟨_,rfl⟩
      have B6:=hid (show Below W5.heap.size W5 W6 by rw [hW6];exact (Below.refl _ _).alloc (Nat.le_refl _) _)
      have R6:=hid (show W6.rowIs W5.heap.size 42 4 (Se.evF ⟨(j:Int),shF c j,shG c j,shH c j⟩) by rw [hW6];exact Se.rowV_new W5 _)
      have R7:=hid (R5.out.of_block (B6.out.block _ R5.out.lt))
      generalize shF c j=F at x1 y1 hW5 hW6 R5 R6 R7
      generalize shG c j=G at x2 y2 hW5 hW6 R5 R6 R7
      generalize shH c j=Z at x3 y3 hW5 hW6 R5 R6 R7
      have r0:W6.cell? ⟨wr.heap.size,0,none⟩=some (.int .i64 v):=R7.out.cell (i:=0) (by decide)
      have r1:W6.cell? ⟨wr.heap.size,1,none⟩=some (.int .i64 F):=R7.out.cell (i:=1) (by decide)
      have r2:W6.cell? ⟨wr.heap.size,2,none⟩=some (.int .i64 G):=R7.out.cell (i:=2) (by decide)
      have r3:W6.cell? ⟨wr.heap.size,3,none⟩=some (.int .i64 Z):=R7.out.cell (i:=3) (by decide)
      have q1:W6.cell? ⟨W5.heap.size,1,none⟩=some (.int .i64 F):=R6.out.cell (i:=1) (by decide)
      have q2:W6.cell? ⟨W5.heap.size,2,none⟩=some (.int .i64 G):=R6.out.cell (i:=2) (by decide)
      have q3:W6.cell? ⟨W5.heap.size,3,none⟩=some (.int .i64 Z):=R6.out.cell (i:=3) (by decide)
      have hFF:(F != F)=false:=by simp
      have hGG:(G != G)=false:=by simp
      have hZZ:(Z != Z)=false:=by simp
      have NX:=hid (show Below _ _ W6 from A2.out.trans ((B5.out.trans (B6.out.mono B5.out.size)).mono A2.out.size))
      clear g3 g4 l3 l4 R5 R6 R7 G5 B5 B6
      go_upto_region 20 with fail
      rw [<- hW5]
      clear hW5 x0 x1 x2 x3 f3
      go_upto_region 21 with fail
      rw [<- hW6]
      clear hW6 y0 y1 y2 y3 f4
      have hbb:(v != v)=false:=by simp
      go_wp2
      go_roundg (20-(j+1))
      case measure=>omega
      case rel=>exact ⟨j+1,by omega,by omega,by go_num,by (try have e:=HVV.out);go_num,(show Aside _ from NX.out)⟩
     ·have hljz:¬ (j:Int)<20:=by omega
      have ej:j=20:=by omega
      subst ej
      go_wp2
      go_roundg (N-(k+1))
      case measure=>omega
      case rel=>exact ⟨k+1,by omega,by omega,by go_num,by have e:=hTA.out;rw [if_pos trivial] at e;rw [e];exact congrArg (Value.int .i64) (by omega),(show Aside _ from A.out.trans (A2.out.mono A.out.size))⟩
   ·obtain ⟨ps,cs,f2⟩:=hrd.1 h9
    have h9b:(kd != 9)=true:=by simp [h9]
    go_wp2
    go_roundg (N-(k+1))
    case measure=>omega
    case rel=>exact ⟨k+1,by omega,by omega,by go_num,by rw [hTn.out,if_neg h9];rfl,A⟩
  ·have hltz:¬ (k:Int)<(N:Int):=by omega
   go_wp2
   go_ret
   exact ⟨rfl,BW.out _ (B8.out.trans (A.out.mono B8.out.size))⟩
end Go.Proofs.YtlohgiichckjmaaGreatDoor
