/- Laid together. -/
import Derived.Test.YtleaknfjbbccgaaGreatDoorMs10
import Derived.Test.YtleaknfjbbccgaaGreatDoorMs14
namespace Go.Proofs.YtleaknfjbbccgaaGreatDoor
open Plain
set_option maxHeartbeats 16000000
set_option maxRecDepth 100000
open Go.RowKit Go.Shelf Go.Sort
theorem yZ1 (W:Wo) (id:Int) (v:Value):aggL (tlOf (delT W id) nilS v nilS)=.agg #[.int .i64 ((delT W id).code:Nat),.int .i64 (delT W id).who,.int .i64 0,.int .i64 0,.int .i64 0,.int .i64 0,.int .i64 0,.int .i64 0,.slice none 0 0,v,.slice none 0 0]:=by
 unfold delT;split<;>rfl
theorem qH0 (W:Wo) (id:Int) (v:Value) (j:Nat) (hj:j<11):tlOf (delT W id) nilS v nilS j=[.int .i64 ((delT W id).code:Nat),.int .i64 (delT W id).who,.int .i64 0,.int .i64 0,.int .i64 0,.int .i64 0,.int .i64 0,.int .i64 0,.slice none 0 0,v,.slice none 0 0].getD j undef:=by
 have:j=0\/j=1\/j=2\/j=3\/j=4\/j=5\/j=6\/j=7\/j=8\/j=9\/j=10:=by omega
 unfold delT;rcases this with rfl|rfl|rfl|rfl|rfl|rfl|rfl|rfl|rfl|rfl|rfl<;>split<;>rfl
theorem qH1 (B:Nat) (M:Mm) (c:Cf) (n m:Nat) (W:Wo) (T S T' S':Nat) (s:Sp) (hk:s.kind=10) (w:World) (h:WI B M w c n m W T S)
  (KD:∀ X,WI B M X c n m W T S->Calls Tryz.prog 50 #[.pointer (some ⟨M.R,0,none⟩),.int .i64 s.id] X (DlP B M c n m W T' S' s.id X)) :
  Calls Tryz.prog 35 #[.pointer (some ⟨M.R,0,none⟩),aggX s] w (DlP B M c n m W T' S' s.id w):=by
 obtain ⟨WA,hWA⟩:∃ WA,WA=(w.alloc (boxX s)).alloc boxZ:=⟨_,rfl⟩;have BA:=hid (show Below w.heap.size w WA by rw [hWA];exact (yO.alloc yN _).alloc (by simp) _);have RA:=hid (show WA.rowIs (w.heap.size+1) 42 11 qH by
  have:=rowZ (w.alloc (boxX s));rw [show (w.alloc (boxX s)).heap.size=w.heap.size+1 by simp] at this;rw [hWA];exact this)
 have HA:=hid (h.grow BA.out);have HB:=hid h.bw;have K:=KD WA HA.out;unfold DlP at K ⊢;have DA:=hid (fun v=>yZ1 W s.id v);simp only [yZ1] at K;generalize hcode:(delT W s.id).code=E at K DA;generalize hwho:(delT W s.id).who=wh at K DA;rw [hWA] at K;generalize delW c W s.id=WL at K ⊢;have HT:=hid (fun v j hj=>qH0 W s.id v j hj);rw [hcode,hwho] at HT;clear h KD hcode hwho;generalize delT W s.id=DT at K HT DA ⊢;obtain ⟨kd,who,it,cnt,life,id',la,ke⟩:=s;dsimp only at hk K;subst hk;generalize hfl:DT.frame.length=fl at K;have HFL:=hid hfl;clear hfl;go_enter Tryz.func35,Tryz.ntmps35
 go_wp2_with fail
 refine K.mono ?_;rintro e w3 ⟨p,k,M3,rfl,hR3,y3,i3,f3⟩;rw [<- hWA] at f3;have I3:=hid i3;have F3:=hid ((Fr.of_below BA.out).trans f3);have R3:=hid (f3.u.rowIs RA.out (HA.out.free (yQ RA.out) (by decide) (by decide) (by decide) (by decide) (by decide) (by decide) (by decide) (by decide)));have Y3:=hid y3;clear K hWA i3 f3 HA RA y3;have y0:=R3.out.cell (i:=0) (by decide);have z0:=R3.out.frozen 0;have y1:=R3.out.cell (i:=1) (by decide);have z1:=R3.out.frozen 1;have y2:=R3.out.cell (i:=2) (by decide);have z2:=R3.out.frozen 2;have y3:=R3.out.cell (i:=3) (by decide);have z3:=R3.out.frozen 3;have y4:=R3.out.cell (i:=4) (by decide);have z4:=R3.out.frozen 4;have y5:=R3.out.cell (i:=5) (by decide);have z5:=R3.out.frozen 5;have y6:=R3.out.cell (i:=6) (by decide);have z6:=R3.out.frozen 6;have y7:=R3.out.cell (i:=7) (by decide);have z7:=R3.out.frozen 7;have y8:=R3.out.cell (i:=8) (by decide);have z8:=R3.out.frozen 8;have y9:=R3.out.cell (i:=9) (by decide);have z9:=R3.out.frozen 9;have y10:=R3.out.cell (i:=10) (by decide);have z10:=R3.out.frozen 10;obtain ⟨W6,hW6⟩:∃ W6,W6=(((((((((((w3.setCell ⟨w.heap.size+1,0,none⟩ (.int .i64 (E:Nat))).setCell ⟨w.heap.size+1,1,none⟩ (.int .i64 wh)).setCell ⟨w.heap.size+1,2,none⟩ (.int .i64 0)).setCell ⟨w.heap.size+1,3,none⟩ (.int .i64 0)).setCell ⟨w.heap.size+1,4,none⟩ (.int .i64 0)).setCell ⟨w.heap.size+1,5,none⟩ (.int .i64 0)).setCell ⟨w.heap.size+1,6,none⟩ (.int .i64 0)).setCell ⟨w.heap.size+1,7,none⟩ (.int .i64 0)).setCell ⟨w.heap.size+1,8,none⟩ (.slice none 0 0)).setCell ⟨w.heap.size+1,9,none⟩ (.slice p fl k)).setCell ⟨w.heap.size+1,10,none⟩ (.slice none 0 0)):=⟨_,rfl⟩;go_wp2;rw [<- hW6];obtain ⟨FF,hFF⟩:∃ FF:Nat->Value,FF=fun j=>[.int .i64 (E:Nat),.int .i64 wh,.int .i64 0,.int .i64 0,.int .i64 0,.int .i64 0,.int .i64 0,.int .i64 0,.slice none 0 0,.slice p fl k,.slice none 0 0].getD j undef:=⟨_,rfl⟩;have h6:W6=putL w3 (w.heap.size+1) FF:=by rw [hFF];exact hW6
 have ha:aggL FF=.agg #[.int .i64 (E:Nat),.int .i64 wh,.int .i64 0,.int .i64 0,.int .i64 0,.int .i64 0,.int .i64 0,.int .i64 0,.slice none 0 0,.slice p fl k,.slice none 0 0]:=by rw [hFF];rfl
 clear hW6 hFF y0 z0 y1 z1 y2 z2 y3 z3 y4 z4 y5 z5 y6 z6 y7 z7 y8 z8 y9 z9 y10 z10;have F6:W6.rowIs (w.heap.size+1) 42 11 FF:=by rw [h6];exact xL R3.out _
 have V6:Uw (fun b=>b=w.heap.size+1) w3 W6:=by rw [h6];exact xK w3 _ _
 clear h6;have nk:¬ own M3 n m (w.heap.size+1):=I3.out.free (yQ R3.out) (by decide) (by decide) (by decide) (by decide) (by decide) (by decide) (by decide) (by decide);have y6:Se.By 0 W6 p k DT.frame:=⟨Y3.out.le,Y3.out.cm,Y3.out.nl,fun h0=>by
  obtain ⟨b,off,e,hb,ht,hc⟩:=Y3.out.cl h0;obtain ⟨cs,fr,ht⟩:=ht.resolve_left (yE _);have ne:¬ b=w.heap.size+1:=fun e=>by
   have t1:=qQ ht;rw [e,yQ R3.out] at t1;exact absurd (Option.some.inj t1) (by decide)
  exact ⟨b,off,e,zF hb V6.size,.inr ⟨cs,fr,(V6.block b hb ne).trans ht⟩,fun j hj=>(V6.cell b (off+j) hb ne).trans (hc j hj)⟩⟩
 exact yV rfl (w.heap.size+1) FF rfl F6 rfl ⟨p,k,M3,by rw [DA.out,ha],hR3,y6,I3.out.box R3.out (by have:=HB.out;omega) nk (by decide) (by decide) V6,F3.out.box (by omega) V6⟩
theorem EvR.base {w0 w1 w:World} {v:Value} {l:List Se.Plain.Ev} (h:EvR w1 w v l) (hb:w0.heap.size<=w1.heap.size):EvR w0 w v l:=by
 refine ⟨h.1,?_⟩;rcases h.2 with x|⟨g,c,cur,e,hg,r⟩
 ·exact .inl x
 ·exact .inr ⟨g,c,cur,e,zI hb hg,r⟩
theorem EvR.form {w0 w:World} {v:Value} {l:List Se.Plain.Ev} (h:EvR w0 w v l):∃ p c,v=.slice p l.length c:=by
 obtain ⟨p,c,rfl,_⟩:=zP4.owns h rfl;exact ⟨p,c,rfl⟩
theorem NumR.form {w0 w:World} {v:Value} {l:List Int} (h:NumR w0 w v l):∃ p c,v=.slice p l.length c:=h.seg.2.2
theorem EvR.box {w0 w w':World} {v:Value} {l:List Se.Plain.Ev} (h:EvR w0 w v l) {b t k:Nat} {f:Nat->Value} (hr:w.rowIs b t k f) (ht:t≠98) (u:Uw (fun x=>x=b) w w'):EvR w0 w' v l :=
 Hd.zB8 h fun x hx=>u.block x (qP h hx) (fun e=>by
  have t1:=xC h hx;rw [show x=b from e,yQ hr] at t1;exact ht (Option.some.inj t1))
theorem NumR.box {w0 w w':World} {v:Value} {l:List Int} (h:NumR w0 w v l) {b t k:Nat} {f:Nat->Value} (hr:w.rowIs b t k f) (ht:t≠3) (u:Uw (fun x=>x=b) w w'):NumR w0 w' v l :=
 h.keep fun x hx=>u.block x (h.lt hx).1 (fun e=>by
  have t1:=h.tag hx;rw [show x=b from e,yQ hr] at t1;exact ht (Option.some.inj t1))
theorem xK4 (c:Cf) (W:Wo) (sv rv:Value):aggL (tlOf (zC5 c W) sv nilS rv)=.agg #[.int .i64 0,.int .i64 0,.int .i64 0,.int .i64 0,.int .i64 0,.int .i64 0,.int .i64 0,.int .i64 0,sv,.slice none 0 0,rv]:=rfl
theorem zX6 (B:Nat) (M:Mm) (c:Cf) (n m:Nat) (W:Wo) (T S:Nat) (s:Sp) (hk:s.kind=9) (w:World) (h:WI B M w c n m W T S)
  (KD:∀ X,WI B M X c n m W T S->Calls Tryz.prog 49 #[.pointer (some ⟨M.R,0,none⟩)] X (TkP B M c n m W T S X)) :
  Calls Tryz.prog 35 #[.pointer (some ⟨M.R,0,none⟩),aggX s] w (TkP B M c n m W T S w):=by
 obtain ⟨WA,hWA⟩:∃ WA,WA=(w.alloc (boxX s)).alloc boxZ:=⟨_,rfl⟩;have BA:=hid (show Below w.heap.size w WA by rw [hWA];exact (yO.alloc yN _).alloc (by simp) _);have RA:=hid (show WA.rowIs (w.heap.size+1) 42 11 qH by
  have:=rowZ (w.alloc (boxX s));rw [show (w.alloc (boxX s)).heap.size=w.heap.size+1 by simp] at this;rw [hWA];exact this)
 have HA:=hid (h.grow BA.out);have HB:=hid h.bw;have K:=KD WA HA.out;unfold TkP at K ⊢;simp only [xK4] at K ⊢;generalize (zC5 c W).sent=SL at K ⊢;generalize (zC5 c W).report=RL at K ⊢;rw [hWA] at K;generalize zD8 c W=WL at K ⊢;clear h KD;obtain ⟨kd,who,it,cnt,life,id',la,ke⟩:=s;dsimp only at hk;subst hk;go_enter Tryz.func35,Tryz.ntmps35
 go_wp2_with fail
 refine K.mono ?_;rintro e w3 ⟨sv,rv,M3,rfl,hR3,ev3,nu3,no3,i3,f3⟩;rw [<- hWA] at f3 ev3 nu3;obtain ⟨sp,sc,rfl⟩:=ev3.form;obtain ⟨rp,rc,rfl⟩:=nu3.form;have I3:=hid i3;have F3:=hid ((Fr.of_below BA.out).trans f3);have R3:=hid (f3.u.rowIs RA.out (HA.out.free (yQ RA.out) (by decide) (by decide) (by decide) (by decide) (by decide) (by decide) (by decide) (by decide)));have E3:=hid (ev3.base BA.out.size);have N3:=hid (nu3.base BA.out.size);have O3:=hid no3;clear K hWA i3 f3 HA RA ev3 nu3 no3;have y0:=R3.out.cell (i:=0) (by decide);have z0:=R3.out.frozen 0;have y1:=R3.out.cell (i:=1) (by decide);have z1:=R3.out.frozen 1;have y2:=R3.out.cell (i:=2) (by decide);have z2:=R3.out.frozen 2;have y3:=R3.out.cell (i:=3) (by decide);have z3:=R3.out.frozen 3;have y4:=R3.out.cell (i:=4) (by decide);have z4:=R3.out.frozen 4;have y5:=R3.out.cell (i:=5) (by decide);have z5:=R3.out.frozen 5;have y6:=R3.out.cell (i:=6) (by decide);have z6:=R3.out.frozen 6;have y7:=R3.out.cell (i:=7) (by decide);have z7:=R3.out.frozen 7;have y8:=R3.out.cell (i:=8) (by decide);have z8:=R3.out.frozen 8;have y9:=R3.out.cell (i:=9) (by decide);have z9:=R3.out.frozen 9;have y10:=R3.out.cell (i:=10) (by decide);have z10:=R3.out.frozen 10;obtain ⟨W6,hW6⟩:∃ W6,W6=(((((((((((w3.setCell ⟨w.heap.size+1,0,none⟩ (.int .i64 0)).setCell ⟨w.heap.size+1,1,none⟩ (.int .i64 0)).setCell ⟨w.heap.size+1,2,none⟩ (.int .i64 0)).setCell ⟨w.heap.size+1,3,none⟩ (.int .i64 0)).setCell ⟨w.heap.size+1,4,none⟩ (.int .i64 0)).setCell ⟨w.heap.size+1,5,none⟩ (.int .i64 0)).setCell ⟨w.heap.size+1,6,none⟩ (.int .i64 0)).setCell ⟨w.heap.size+1,7,none⟩ (.int .i64 0)).setCell ⟨w.heap.size+1,8,none⟩ (.slice sp SL.length sc)).setCell ⟨w.heap.size+1,9,none⟩ (.slice none 0 0)).setCell ⟨w.heap.size+1,10,none⟩ (.slice rp RL.length rc)):=⟨_,rfl⟩;go_wp2;rw [<- hW6];obtain ⟨FF,hFF⟩:∃ FF:Nat->Value,FF=fun j=>[.int .i64 0,.int .i64 0,.int .i64 0,.int .i64 0,.int .i64 0,.int .i64 0,.int .i64 0,.int .i64 0,.slice sp SL.length sc,.slice none 0 0,.slice rp RL.length rc].getD j undef:=⟨_,rfl⟩;have h6:W6=putL w3 (w.heap.size+1) FF:=by rw [hFF];exact hW6
 have ha:aggL FF=.agg #[.int .i64 0,.int .i64 0,.int .i64 0,.int .i64 0,.int .i64 0,.int .i64 0,.int .i64 0,.int .i64 0,.slice sp SL.length sc,.slice none 0 0,.slice rp RL.length rc]:=by rw [hFF];rfl
 clear hW6 hFF y0 z0 y1 z1 y2 z2 y3 z3 y4 z4 y5 z5 y6 z6 y7 z7 y8 z8 y9 z9 y10 z10;have F6:W6.rowIs (w.heap.size+1) 42 11 FF:=by rw [h6];exact xL R3.out _
 have V6:Uw (fun b=>b=w.heap.size+1) w3 W6:=by rw [h6];exact xK w3 _ _
 clear h6;have nk:¬ own M3 n m (w.heap.size+1):=I3.out.free (yQ R3.out) (by decide) (by decide) (by decide) (by decide) (by decide) (by decide) (by decide) (by decide);exact yV rfl (w.heap.size+1) FF rfl F6 rfl ⟨_,_,M3,by rw [ha],hR3,E3.out.box R3.out (by decide) V6,N3.out.box R3.out (by decide) V6,O3.out,I3.out.box R3.out (by have:=HB.out;omega) nk (by decide) (by decide) V6,F3.out.box (by omega) V6⟩
namespace Plain
theorem FrOk.mono {c:Cf} {n m:Nat} {Z Z':Int} {p:Se.Plain.Po} (h:FrOk c n m Z p) (hz:Z<=Z'):FrOk c n m Z' p:=by
 obtain ⟨bl,h1,h2,h3,h4⟩:=h;refine ⟨bl,h1,h2,h3,h4.imp id (fun x=>x.imp id ?_)⟩;rintro ⟨i,j,a,b,d,e,f,g,k⟩;exact ⟨i,j,a,b,d,e,f,⟨g.srt,fun t x hx=>by have:=g.may t x hx;exact ⟨this.1,this.2.1,by omega,this.2.2.2⟩⟩,k⟩
theorem Sok.mono {Z Z':Int} {s:Nat->List En} (h:Sok Z s) (hz:Z<=Z'):Sok Z' s:=⟨h.srt,fun j e he=>by have:=h.may j e he;exact ⟨this.1,this.2.1,by omega,this.2.2.2⟩⟩
theorem Sok.nil (Z:Int):Sok Z (fun _=>[]):=⟨fun _=>List.Pairwise.nil,fun _ _ h=>(nomatch h)⟩
theorem zQ1 (c:Cf) (bl:List Nat):(askV c bl).length<=c.ms.length/\∀ k,(askV c bl).getD k 0<=1048576:=by
 unfold askV
 repeat' split
 all_goals try exact ⟨zG _,fun k=>by simp⟩
 next h1 h2 h3 =>
  constructor
  ·unfold yW kM
   rw [if_pos h2,zL,vals_len,zL,yA];exact yN
  ·intro k
   by_cases hk:k<(yW (List.replicate c.ms.length 21) bl).length
   ·have:=zT.1 h3 _ (zH hk)
    rw [zA,zB hk];unfold cntB inR at this;simp only [Bool.and_eq_true,decide_eq_true_eq] at this;exact this.2
   ·rw [zA,zN (by omega)]
    decide
theorem xK5 {c:Cf} (hc:mayC c=true) {n m:Nat} (hn:c.n=n) {Z:Int} {s:Nat->List En} (hs:Sok Z s) {i j:Nat} (hi:i<n) (hj:j<n) (hij:i≠j) :
  FrOk c n m Z ⟨(j:Int),(i:Int),byI (rumB c j i (stL s c.ls.length))⟩:=by
 have hl:=(xJ hc).2.1;have hst:(stL s c.ls.length).length=c.ls.length:=by simp [stL]
 have hr:refE c j i=0:=by unfold refE;rw [if_pos hc,if_pos (by omega)]
 obtain ⟨_,_,h3,_⟩:=zL4 hr hst
  (zT.2 fun l hl=>by obtain ⟨t,_,rfl⟩:=zZ.1 hl;exact hs.mayL t)
  (fun l hl=>by
   obtain ⟨t,_,rfl⟩:=zZ.1 hl;exact zT.2 fun e he=>by
    have:=hs.may t e he;unfold fitE;simp only [Bool.and_eq_true,decide_eq_true_eq];exact ⟨this.2.1.2,this.2.2.2⟩)
 refine ⟨_,rfl,zP3 c j i _ hl,xV9 c j i _,.inr (.inr ⟨i,j,hi,hj,hij,rfl,rfl,?_,?_⟩)⟩
 ·have e:(fun t=>(heaV c j i (rumB c j i (stL s c.ls.length))).getD t [])=fun t=>if t<c.ls.length/\both (c.ls.getD t 0) j i=true then s t else []:=by
   funext t
   rw [h3];by_cases ht:t<c.ls.length
   ·rw [zA,zV,yH ht]
    dsimp only [Option.map_some,Option.getD_some];by_cases hb:both (c.ls.getD t 0) j i=true
    ·rw [if_pos hb,if_pos ⟨ht,hb⟩]
     unfold stL;rw [zA,zV,yH ht];rfl
    ·rw [if_neg hb,if_neg (fun x=>hb x.2)]
   ·rw [zA,zN (by simp;omega),if_neg (fun x=>ht x.1)];rfl
  rw [e];refine ⟨fun t=>?_,fun t e he=>?_⟩
  ·show Srt (if _ then s t else [])
   split
   ·exact hs.srt t
   ·exact List.Pairwise.nil
  ·change e∈(if _ then s t else []) at he
   split at he
   ·exact hs.may t e he
   ·cases he
 ·rw [h3];simp
structure Wok (c:Cf) (n m K:Nat) (W:Wo):Prop where
 ask:∀ i k,0<=W.ask i k/\W.ask i k<=1048576
 gai:∀ i k,0<=W.gain i k
 rk:∀ i k,(∃ g,Hd.Plain.Hv (W.rk i k) g)/\(W.rk i k).cs.length<=K
 bn:∀ k,(W.bk k).n=n
 st:∀ i,Sok (K:Int) (W.st i)
 gd:Se.Plain.Good W.off
 pl:W.off.posted.length<=80*K
 fr:∀ p∈W.off.posted,FrOk c n m (K:Int) p
theorem qH2 (b:Bo.Plain.Bk) (x:Bo.Plain.Ca):(Bo.Plain.caB b x).n=b.n:=by
 unfold Bo.Plain.caB
 repeat' split
 all_goals first|rfl|exact Bo.Plain.roundB_n b
theorem zQ2 (r:Hd.Plain.Rk) (o:Hd.Plain.Or):(Hd.Plain.yH6 r o).cs.length<=r.cs.length+1:=by
 unfold Hd.Plain.yH6 Hd.Plain.ordR
 repeat' split
 all_goals simp
theorem Wok.start {c:Cf} {n m:Nat} (hn:c.n=n):Wok c n m 0 (Wo.start c):=by
 refine ⟨fun _ _=>⟨Int.le_refl _,by show (0:Int)<=1048576;omega⟩,fun _ _=>Int.le_refl _,fun _ _=>⟨⟨0,Hd.Plain.Hv.nil⟩,yN⟩,fun k=>?_,fun i=>Sok.nil _,Se.Plain.Good.nil,yN,fun p hp=>(nomatch hp)⟩;show (bk0 c k).n=n;have e:(Bo.Plain.Bk.new c.n.toNat c.cap c.t.toNat).n=n:=by show c.n.toNat=n;omega
 unfold bk0;split
 ·rw [qH2];exact e
 ·exact e
theorem Wok.up {c:Cf} {n m K:Nat} {W:Wo} (h:Wok c n m K W):Wok c n m (K+1) W :=
 ⟨h.ask,h.gai,fun i k=>⟨(h.rk i k).1,by have:=(h.rk i k).2;omega⟩,h.bn,fun i=>(h.st i).mono (by omega),h.gd,by have:=h.pl;omega,fun p hp=>(h.fr p hp).mono (by omega)⟩
theorem yZ2 {c:Cf} {W:Wo} {p:Se.Plain.Po} (h:p∈qS c W):(∃ i,i<c.n.toNat/\p=vL c W i)\/(∃ i j,i<c.n.toNat/\j<c.n.toNat/\j≠i/\p=rumP c W i j)\/∃ i,i<c.n.toNat/\p=givP c W i:=by
 unfold qS at h;rcases yL.1 h with h|h
 ·obtain ⟨i,hi,h⟩:=List.mem_flatMap.1 h
  have hi':=zY.1 hi;unfold sends at h;rcases List.mem_cons.1 h with rfl|h
  ·exact .inl ⟨i,hi',rfl⟩
  ·obtain ⟨j,hj,rfl⟩:=zZ.1 h
   have hj':=List.mem_filter.1 hj;exact .inr (.inl ⟨i,j,hi',zY.1 hj'.1,by simpa using hj'.2,rfl⟩)
 ·obtain ⟨i,hi,rfl⟩:=zZ.1 h
  exact .inr (.inr ⟨i,zY.1 hi,rfl⟩)
theorem xK6 {α:Type} (f:Nat->List α) (B:Nat) (hf:∀ i,(f i).length<=B) (n:Nat):((List.range n).flatMap f).length<=n*B:=by
 induction n with
 | zero=>exact zG _
 | succ n ih =>
  rw [List.range_succ,List.flatMap_append,zD,Nat.succ_mul];have:=hf n;simp only [List.flatMap_cons,List.flatMap_nil,List.append_nil];omega
theorem zF7 (c:Cf) (W:Wo) (h:c.n.toNat<=8):(qS c W).length<=80:=by
 unfold qS;rw [zD,zL,List.length_range];have:=xK6 (sends c W) 9 (fun i=>by
  unfold sends;rw [List.length_cons,zL];have:=List.length_filter_le (fun j=>decide (j≠i)) (List.range c.n.toNat);rw [List.length_range] at this;omega) c.n.toNat
 omega
theorem Wok.step {c:Cf} {n m K:Nat} {W:Wo} (h:Wok c n m K W) (hc:mayC c=true) (hn:c.n=n) (hm:c.ms.length=m) (hK:K<1000) (s:Sp):Wok c n m (K+1) (stW c W s):=by
 have hn8:n<=8:=by have:=(xJ hc).1;omega
 unfold stW;by_cases h9:s.kind=9
 ·rw [if_pos h9]
  have mem:∀ p,p∈qS c W->FrOk c n m ((K+1:Nat):Int) p/\(0<=p.frm/\p.frm<=8)/\(0<=p.«to»/\p.«to»<=8)/\p.data.length<=256:=fun p hp=>by
   rcases yZ2 hp with ⟨i,hi,rfl⟩|⟨i,j,hi,hj,hij,rfl⟩|⟨i,hi,rfl⟩
   ·refine ⟨⟨_,rfl,kI c _,yG2 c _,.inl ⟨hn,by have:=(zQ1 c (xV c (Bo.Plain.mapN c.ms.length (W.ask i)))).1;omega⟩⟩,?_,?_,?_⟩
    ·exact ⟨show (0:Int)<=(i:Int) by omega,show (i:Int)<=8 by omega⟩
    ·exact ⟨show (0:Int)<=c.n by omega,show c.n<=8 by omega⟩
    ·show (byI _).length<=256;rw [xG];exact kI c _
   ·refine ⟨xK5 hc hn ((h.st i).mono (by omega)) (by omega) (by omega) (by omega),?_,?_,?_⟩
    ·exact ⟨show (0:Int)<=(i:Int) by omega,show (i:Int)<=8 by omega⟩
    ·exact ⟨show (0:Int)<=(j:Int) by omega,show (j:Int)<=8 by omega⟩
    ·show (byI _).length<=256;rw [xG];exact zP3 c i j _ (xJ hc).2.1
   ·refine ⟨⟨_,rfl,kI c _,yG2 c _,.inr (.inl ⟨i,by omega,rfl,hn,by have:=(zQ1 c (xV c (Bo.Plain.mapN c.ms.length fun k=>(Bo.Plain.zT7 (W.bk k)).given.getD i 0))).1;omega,fun k _=>by have:=(zQ1 c (xV c (Bo.Plain.mapN c.ms.length fun k=>(Bo.Plain.zT7 (W.bk k)).given.getD i 0))).2 k;omega⟩)⟩,?_,?_,?_⟩
    ·exact ⟨show (0:Int)<=c.n by omega,show c.n<=8 by omega⟩
    ·exact ⟨show (0:Int)<=(i:Int) by omega,show (i:Int)<=8 by omega⟩
    ·show (byI _).length<=256;rw [xG];exact kI c _
  refine ⟨h.ask,h.gai,fun i k=>?_,fun k=>(Bo.Plain.roundB_n _).trans (h.bn k),fun i=>(h.st i).mono (by omega),kB (W:=W) h.gd (fun p hp=>(mem p hp).2),?_,fun p hp=>?_⟩
  ·obtain ⟨⟨g,hg⟩,hl⟩:=h.rk i k
   show (∃ g,Hd.Plain.Hv (Hd.Plain.yH6 (W.rk i k) ⟨7,0,0,0⟩) g)/\(Hd.Plain.yH6 (W.rk i k) ⟨7,0,0,0⟩).cs.length<=K+1;exact ⟨⟨_,hg.step _⟩,zI (zQ2 _ _) (by omega)⟩
  ·show (W.off.posted++qS c W).length<=80*(K+1)
   rw [zD];have:=zF7 c W (by omega);have:=h.pl;omega
  ·rcases yL.1 hp with hp|hp
   ·exact (h.fr p hp).mono (by omega)
   ·exact (mem p hp).1
 rw [if_neg h9];by_cases h10:s.kind=10
 ·rw [if_pos h10]
  unfold delW;by_cases hf:xN W s.id≠0
  ·rw [if_pos hf];exact h.up
  rw [if_neg hf];have hs:¬ (s.id<0\/(W.off.posted.length:Int)<=s.id):=fun x=>hf (by
   have e:Se.Plain.seenE W.off s.id≠0:=by unfold Se.Plain.seenE;rw [if_pos x];decide
   unfold xN;rw [if_pos e];decide)
  have hlt:s.id.toNat<W.off.posted.length:=by omega
  have hmem:W.off.at s.id.toNat∈W.off.posted:=by
   unfold Se.Plain.Off.at
   rw [zA,zB hlt];exact zH hlt
  have hg2:Se.Plain.Good { W.off with opened:=W.off.opened++[s.id.toNat] }:=⟨fun k hk=>by
   rcases yL.1 hk with hk|hk
   ·exact h.gd.op k hk
   ·have:k=s.id.toNat:=by simpa using hk
    rw [this];exact hlt,h.gd.fr,h.gd.to,h.gd.sz⟩
  have h2:Wok c n m (K+1) { W with off:={ W.off with opened:=W.off.opened++[s.id.toNat] } } :=
   ⟨h.up.ask,h.up.gai,h.up.rk,h.up.bn,h.up.st,hg2,h.up.pl,h.up.fr⟩
  obtain ⟨bl,hbl,_,hb2,hx⟩:=h.fr _ hmem;have hnl:natL (W.off.at s.id.toNat).data=bl:=by rw [hbl];exact zE5 bl
  unfold qM;rw [hnl];rcases hx with ⟨hto,hal⟩|⟨i,hi,hto,hfr,hal,hle⟩|⟨i,j,hi,hj,hij,hto,hfr,hU,hhl⟩
  ·rw [if_pos (by rw [hto,hn])]
   exact ⟨h2.ask,h2.gai,h2.rk,fun k=>by
    show (if k<_ then _ else _:Bo.Plain.Bk).n=n;split
    ·rw [qH2];exact h.bn k
    ·exact h.bn k,h2.st,h2.gd,h2.pl,h2.fr⟩
  ·rw [if_neg (by rw [hto,hn];omega),if_pos (by rw [hfr,hn])]
   refine ⟨h2.ask,fun a k=>?_,fun a k=>?_,h2.bn,h2.st,h2.gd,h2.pl,h2.fr⟩
   ·show 0<=(if _ then _ else _:Int)
    split
    next e=>have:=h.gai a k;have e3:W.gain a k<(askV c bl).getD k 0:=e.2.2;omega
    next e=>exact h.gai a k
   ·unfold zO7
    dsimp only;split
    ·obtain ⟨⟨g,hg⟩,hl⟩:=h.rk a k
     exact ⟨⟨_,hg.step _⟩,zI (zQ2 _ _) (by omega)⟩
    ·exact h2.rk a k
  ·rw [if_neg (by rw [hto,hn];omega),if_neg (by rw [hfr,hn];omega)]
   refine ⟨h2.ask,h2.gai,h2.rk,h2.bn,fun a=>?_,h2.gd,h2.pl,h2.fr⟩;show Sok _ (if _ then _ else _);split
   ·rw [hto,hfr]
    refine Sok.hear (h2.st _) ?_ _ _ _ _;exact Sok.mono hU (by omega)
   ·exact h2.st a
 rw [if_neg h10];by_cases h11:s.kind=11
 ·rw [if_pos h11]
  unfold losW;split
  ·exact h.up
  ·exact ⟨h.up.ask,h.up.gai,h.up.rk,h.up.bn,h.up.st,h.up.gd,h.up.pl,h.up.fr⟩
 rw [if_neg h11];by_cases hk:s.kind<1\/8<s.kind
 ·rw [if_pos hk];exact h.up
 rw [if_neg hk];by_cases hw:s.who<0\/c.n<=s.who
 ·rw [if_pos hw];exact h.up
 rw [if_neg hw];unfold brW;by_cases h7:s.kind=7
 ·rw [if_pos h7]
  refine ⟨h.up.ask,h.up.gai,h.up.rk,h.up.bn,fun a=>?_,h.up.gd,h.up.pl,h.up.fr⟩;show Sok _ (if _ then _ else _);split
  ·unfold wrS
   split
   ·exact h.up.st _
   ·next e =>
    have e0:wrE c.ls s.who.toNat s.label s.key s.count=0:=Classical.not_not.1 e;unfold wrE at e0;have e1:¬ (s.count<0\/255<s.count):=fun x=>by rw [if_pos x] at e0;cases e0
    rw [if_neg e1] at e0;unfold rfS at e0;have e2:¬ ((s.label<0\/(c.ls.length:Int)<=s.label)\/(s.key<0\/7<s.key)):=fun x=>by rw [if_pos x] at e0;cases e0
    exact Sok.put (h.st _) ⟨by omega,by omega⟩ (by omega) ⟨by omega,by omega⟩ ⟨by omega,by omega⟩ (fun x=>by cases x) _
  ·exact h.up.st a
 rw [if_neg h7];by_cases h8:s.kind=8
 ·rw [if_pos h8];exact h.up
 rw [if_neg h8];by_cases hi:s.item<0\/(c.ms.length:Int)<=s.item
 ·rw [if_pos hi];exact h.up
 rw [if_neg hi];by_cases h1:s.kind=1
 ·rw [if_pos h1]
  split
  next e =>
   refine ⟨fun a k=>?_,h.up.gai,h.up.rk,h.up.bn,h.up.st,h.up.gd,h.up.pl,h.up.fr⟩;show 0<=up2 W.ask _ _ _ a k/\up2 W.ask _ _ _ a k<=1048576;unfold up2;have ha:=h.ask s.who.toNat s.item.toNat;unfold afE at e;split
   ·have e1:¬ (s.count<1\/1048576<s.count):=fun x=>by rw [if_pos x] at e;cases e
    rw [if_neg e1] at e;have e2:¬ 1048576<W.ask s.who.toNat s.item.toNat+s.count:=fun x=>by rw [if_pos x] at e;cases e
    exact ⟨by omega,by omega⟩
   ·exact h.ask a k
  ·exact h.up
 ·rw [if_neg h1]
  refine ⟨h.up.ask,h.up.gai,fun a k=>?_,h.up.bn,h.up.st,h.up.gd,h.up.pl,h.up.fr⟩;show (∃ g,Hd.Plain.Hv (up2 W.rk _ _ _ a k) g)/\(up2 W.rk _ _ _ a k).cs.length<=K+1;unfold up2;split
  ·obtain ⟨⟨g,hg⟩,hl⟩:=h.rk s.who.toNat s.item.toNat
   exact ⟨⟨_,hg.step _⟩,zI (zQ2 _ _) (by omega)⟩
  ·exact h.up.rk a k
end Plain
structure DbI (B:Nat) (M:Mm) (c:Cf) (n m:Nat) (W:Wo) (T S:Nat) (s:Sp) (w wx:World) (sb:Nat) (TT:Tl):Prop where
 row:wx.rowIs sb 42 11 (tlOf TT nilS nilS nilS)
 bx:BxI w wx s qH
 wi:∃ M',M'.R=M.R/\WI B M' wx c n m W T S/\Fr M M' n m w wx
 lt:w.heap.size+2<=sb
theorem DbI.made {B:Nat} {M M':Mm} {c:Cf} {n m:Nat} {W:Wo} {T S:Nat} {s:Sp} {w wx:World} {TT:Tl} (bx:BxI w wx s qH) (hR:M'.R=M.R) (wi:WI B M' wx c n m W T S) (f:Fr M M' n m w wx) (hl:w.heap.size+2<=wx.heap.size) :
  DbI B M c n m W T S s w (wx.alloc (.cells #[.int .i64 (TT.code:Nat),.int .i64 TT.who,.int .i64 (TT.sk.code:Nat),.int .i64 TT.sk.id,.int .i64 TT.sk.free,.int .i64 TT.sk.held,.int .i64 TT.sk.used,.int .i64 TT.value,.slice none 0 0,.slice none 0 0,.slice none 0 0] 42)) wx.heap.size TT:=by
 have b:Below wx.heap.size wx (wx.alloc (.cells #[.int .i64 (TT.code:Nat),.int .i64 TT.who,.int .i64 (TT.sk.code:Nat),.int .i64 TT.sk.id,.int .i64 TT.sk.free,.int .i64 TT.sk.held,.int .i64 TT.sk.used,.int .i64 TT.value,.slice none 0 0,.slice none 0 0,.slice none 0 0] 42)):=yO.alloc yN _;exact ⟨zO9 wx (tlOf TT nilS nilS nilS),bx.grow b,⟨M',hR,wi.grow b,f.trans (Fr.of_below b)⟩,hl⟩
theorem DbI.chain {B:Nat} {M M':Mm} {c:Cf} {n m:Nat} {W:Wo} {T S:Nat} {s:Sp} {w wx:World} {TT:Tl} {sb:Nat} (hr:wx.rowIs sb 42 11 qH) (bx:BxI w wx s qH) (hR:M'.R=M.R) (hB:B<=w.heap.size) (wi:WI B M' wx c n m W T S) (f:Fr M M' n m w wx) (hl:w.heap.size+2<=sb) :
  DbI B M c n m W T S s w ((((((((((((wx.setCell ⟨sb,0,none⟩ (.int .i64 (TT.code:Nat))).setCell ⟨sb,1,none⟩ (.int .i64 TT.who)).setCell ⟨sb,2,none⟩ (.int .i64 (TT.sk.code:Nat))).setCell ⟨sb,3,none⟩ (.int .i64 TT.sk.id)).setCell ⟨sb,4,none⟩ (.int .i64 TT.sk.free)).setCell ⟨sb,5,none⟩ (.int .i64 TT.sk.held)).setCell ⟨sb,6,none⟩ (.int .i64 TT.sk.used)).setCell ⟨sb,7,none⟩ (.int .i64 TT.value)).setCell ⟨sb,8,none⟩ (.slice none 0 0)).setCell ⟨sb,9,none⟩ (.slice none 0 0)).setCell ⟨sb,10,none⟩ (.slice none 0 0))) sb TT:=by
 have us:Uw (fun b=>b=sb) wx ((((((((((((wx.setCell ⟨sb,0,none⟩ (.int .i64 (TT.code:Nat))).setCell ⟨sb,1,none⟩ (.int .i64 TT.who)).setCell ⟨sb,2,none⟩ (.int .i64 (TT.sk.code:Nat))).setCell ⟨sb,3,none⟩ (.int .i64 TT.sk.id)).setCell ⟨sb,4,none⟩ (.int .i64 TT.sk.free)).setCell ⟨sb,5,none⟩ (.int .i64 TT.sk.held)).setCell ⟨sb,6,none⟩ (.int .i64 TT.sk.used)).setCell ⟨sb,7,none⟩ (.int .i64 TT.value)).setCell ⟨sb,8,none⟩ (.slice none 0 0)).setCell ⟨sb,9,none⟩ (.slice none 0 0)).setCell ⟨sb,10,none⟩ (.slice none 0 0))):=xK wx sb (tlOf TT nilS nilS nilS);have ur:((((((((((((wx.setCell ⟨sb,0,none⟩ (.int .i64 (TT.code:Nat))).setCell ⟨sb,1,none⟩ (.int .i64 TT.who)).setCell ⟨sb,2,none⟩ (.int .i64 (TT.sk.code:Nat))).setCell ⟨sb,3,none⟩ (.int .i64 TT.sk.id)).setCell ⟨sb,4,none⟩ (.int .i64 TT.sk.free)).setCell ⟨sb,5,none⟩ (.int .i64 TT.sk.held)).setCell ⟨sb,6,none⟩ (.int .i64 TT.sk.used)).setCell ⟨sb,7,none⟩ (.int .i64 TT.value)).setCell ⟨sb,8,none⟩ (.slice none 0 0)).setCell ⟨sb,9,none⟩ (.slice none 0 0)).setCell ⟨sb,10,none⟩ (.slice none 0 0))).rowIs sb 42 11 (tlOf TT nilS nilS nilS):=xL hr (tlOf TT nilS nilS nilS);generalize (((((((((((wx.setCell ⟨sb,0,none⟩ (.int .i64 (TT.code:Nat))).setCell ⟨sb,1,none⟩ (.int .i64 TT.who)).setCell ⟨sb,2,none⟩ (.int .i64 (TT.sk.code:Nat))).setCell ⟨sb,3,none⟩ (.int .i64 TT.sk.id)).setCell ⟨sb,4,none⟩ (.int .i64 TT.sk.free)).setCell ⟨sb,5,none⟩ (.int .i64 TT.sk.held)).setCell ⟨sb,6,none⟩ (.int .i64 TT.sk.used)).setCell ⟨sb,7,none⟩ (.int .i64 TT.value)).setCell ⟨sb,8,none⟩ (.slice none 0 0)).setCell ⟨sb,9,none⟩ (.slice none 0 0)).setCell ⟨sb,10,none⟩ (.slice none 0 0))=wy at us ur ⊢;have nk:¬ own M' n m sb:=wi.free (yQ hr) (by decide) (by decide) (by decide) (by decide) (by decide) (by decide) (by decide) (by decide);exact ⟨ur,bx.un us (fun e=>by have e':w.heap.size=sb:=e;omega) (fun e=>by have e':w.heap.size+1=sb:=e;omega),⟨M',hR,wi.box hr (by omega) nk (by decide) (by decide) us,f.box (by omega) us⟩,hl⟩
theorem qH3 (TT:Tl) (x:Int) (j:Nat) (hj:j<11):(if j=1 then .int .i64 x else tlOf TT nilS nilS nilS j)=tlOf { TT with who:=x } nilS nilS nilS j:=by
 have:j=0\/j=1\/j=2\/j=3\/j=4\/j=5\/j=6\/j=7\/j=8\/j=9\/j=10:=by omega
 rcases this with rfl|rfl|rfl|rfl|rfl|rfl|rfl|rfl|rfl|rfl|rfl<;>rfl
theorem yZ3 (B:Nat) (M:Mm) (c:Cf) (n m:Nat) (W:Wo) (T S:Nat) (s:Sp) (hn:c.n=n) (hk:1<=s.kind/\s.kind<=8) (i:Nat) (hwi:s.who=(i:Int)) (hi:i<n) (w:World) (h:WI B M w c n m W T S)
  (KD:∀ X,WI B M X c n m W T S->Calls Tryz.prog 53 #[.pointer (some ⟨M.EB,i*4,none⟩),aggX s] X (BwP B M c n m W T S i s X)) :
  Calls Tryz.prog 35 #[.pointer (some ⟨M.R,0,none⟩),aggX s] w (LsP B M c n m (stW c W s) T S (stT c W s) w):=by
 have e1:stT c W s={ brT c W i s with who:=(i:Int) }:=by unfold stT;rw [if_neg (by omega),if_neg (by omega),if_neg (by omega),if_neg (by omega),if_neg (by rw [hn];omega),hwi,zK]
 have e2:stW c W s=brW c W i s:=by unfold stW;rw [if_neg (by omega),if_neg (by omega),if_neg (by omega),if_neg (by omega),if_neg (by rw [hn];omega),hwi,zK]
 rw [e1,e2];clear e1 e2;have K:=fun X=>zP0 (x:=s.who) (k:=(n:Int)) ⟨by omega,by omega⟩ X;obtain ⟨WA,hWA⟩:∃ WA,WA=(w.alloc (boxX s)).alloc boxZ:=⟨_,rfl⟩;have BA:=hid (show Below w.heap.size w WA by rw [hWA];exact (yO.alloc yN _).alloc (by simp) _);have XA:=hid (show BxI w WA s qH by rw [hWA];exact BxI.start w s);have x3:WA.cell? ⟨M.R,0,none⟩=some (.int .i64 (n:Int)):=by rw [<- hn];exact (h.grow BA.out).cell (j:=0) (by omega)
 rw [hWA] at x3;have HI:=hid h;have NG:=hid (fun x (hx:own M n m x)=>(h.own_lt hx:x<w.heap.size));have hRl:M.R<w.heap.size:=h.own_lt (.inl rfl);have hiz:(i:Int)<(n:Int):=by omega
 unfold BwP at KD;generalize brT c W i s=TT at KD ⊢;generalize brW c W i s=W2 at KD ⊢;clear h hn;obtain ⟨kd,who,it,cnt,life,id',la,ke⟩:=s;dsimp only at hk hwi K KD;subst hwi;have n9:(kd==9)=false:=by rw [beq_eq_false_iff_ne];omega
 have n10:(kd==10)=false:=by rw [beq_eq_false_iff_ne];omega
 have n11:(kd==11)=false:=by rw [beq_eq_false_iff_ne];omega
 have k3:¬ kd<1:=by omega
 have k8:¬ 8<kd:=by omega
 clear hk;go_enter Tryz.func35,Tryz.ntmps35
 go_wp2
 go_quiet ((go_at_call 52;exact Calls.quiet_of_same (K _)))
 rw [<- hWA];clear hWA x3 K;obtain ⟨WQ,hWQ⟩:∃ WQ,WQ=WA.drewN nq:=⟨_,rfl⟩;rw [<- hWQ];have BQ:=hid (show Below w.heap.size w WQ by rw [hWQ];exact below_drewN BA.out nq);have XQ:=hid (show BxI w WQ ⟨kd,(i:Int),it,cnt,life,id',la,ke⟩ qH by rw [hWQ];exact XA.out.grow (below_drewN yO nq));clear hWQ BA XA n9 n10 n11 k3 k8;have c0:WQ.cell? ⟨w.heap.size,0,none⟩=some (.int .i64 kd):=XQ.out.x.cell (i:=0) (by omega);have c1:WQ.cell? ⟨w.heap.size,1,none⟩=some (.int .i64 (i:Int)):=XQ.out.x.cell (i:=1) (by omega);have c2:WQ.cell? ⟨w.heap.size,2,none⟩=some (.int .i64 it):=XQ.out.x.cell (i:=2) (by omega);have c3:WQ.cell? ⟨w.heap.size,3,none⟩=some (.int .i64 cnt):=XQ.out.x.cell (i:=3) (by omega);have c4:WQ.cell? ⟨w.heap.size,4,none⟩=some (.int .i64 life):=XQ.out.x.cell (i:=4) (by omega);have c5:WQ.cell? ⟨w.heap.size,5,none⟩=some (.int .i64 id'):=XQ.out.x.cell (i:=5) (by omega);have c6:WQ.cell? ⟨w.heap.size,6,none⟩=some (.int .i64 la):=XQ.out.x.cell (i:=6) (by omega);have c7:WQ.cell? ⟨w.heap.size,7,none⟩=some (.int .i64 ke):=XQ.out.x.cell (i:=7) (by omega);have c8:WQ.cell? ⟨M.R,7,none⟩=some (.slice (some ⟨M.EB,0,none⟩) n M.ce):=(HI.out.grow BQ.out).cell (j:=7) (by omega);have hsQ:w.heap.size+2<=WQ.heap.size:=XQ.out.t.lt;have neA:¬ WQ.heap.size=w.heap.size:=by omega
 have neB:¬ WQ.heap.size=M.R:=by omega
 have KT:∀ X,Below WQ.heap.size WQ X->Calls Tryz.prog 53 #[.pointer (some ⟨M.EB,i*4,none⟩),aggX ⟨kd,(i:Int),it,cnt,life,id',la,ke⟩] X (fun e w'=>e=.returned (.agg #[.int .i64 (TT.code:Nat),.int .i64 TT.who,.int .i64 (TT.sk.code:Nat),.int .i64 TT.sk.id,.int .i64 TT.sk.free,.int .i64 TT.sk.held,.int .i64 TT.sk.used,.int .i64 TT.value,.slice none 0 0,.slice none 0 0,.slice none 0 0])/\∃ M',M'.R=M.R/\M'.EB=M.EB/\M'.ce=M.ce/\WI B M' w' c n m W2 T S/\Fr M M' n m X w'):=fun X bx=>KD X ((HI.out.grow BQ.out).grow bx);clear KD;have bA:=hid (show Below WQ.heap.size WQ WQ.drew from yO.drew);have bB:=hid (show Below WQ.heap.size WQ (WQ.alloc boxZ).drew from (yO.alloc yN _).drew);have HBW:=hid HI.out.bw;go_wp2
 go_cut [5] (fun sa wx=>∃ sb,sa=.pointer (some ⟨sb,0,none⟩)/\DbI B M c n m W2 T S ⟨kd,(i:Int),it,cnt,life,id',la,ke⟩ w wx sb TT)
 case first =>
  go_region_held3 (fun w'=>w'.cell? ⟨M.R,7,none⟩=some (.slice (some ⟨M.EB,0,none⟩) n M.ce)/\w'.cell? ⟨w.heap.size,0,none⟩=some (.int .i64 kd)/\w'.cell? ⟨w.heap.size,1,none⟩=some (.int .i64 (i:Int))/\w'.cell? ⟨w.heap.size,2,none⟩=some (.int .i64 it)/\w'.cell? ⟨w.heap.size,3,none⟩=some (.int .i64 cnt)/\w'.cell? ⟨w.heap.size,4,none⟩=some (.int .i64 life)/\w'.cell? ⟨w.heap.size,5,none⟩=some (.int .i64 id')/\w'.cell? ⟨w.heap.size,6,none⟩=some (.int .i64 la)/\w'.cell? ⟨w.heap.size,7,none⟩=some (.int .i64 ke)) (go_keep)
   ((
    go_at_call 53;first
    | (refine (KT _ bA.out).mono ?_;rintro e w3 ⟨rfl,M3,hR3,hE3,hC3,i3,f3⟩;have I3:=hid i3;have F3:=hid (show Fr M M3 n m w w3 from (Fr.of_below (BQ.out.trans (bA.out.mono BQ.out.size))).trans f3);have X3:=hid ((XQ.out.grow bA.out).un f3.u (fun x=>by have:=NG.out _ x;omega) (fun x=>by have:=NG.out _ x;omega));have hs3:=f3.u.size;have d8:w3.cell? ⟨M.R,7,none⟩=some (.slice (some ⟨M.EB,0,none⟩) n M.ce):=(by rw [<- hR3,<- hE3,<- hC3];exact i3.cell (j:=7) (by omega));have d0:w3.cell? ⟨w.heap.size,0,none⟩=some (.int .i64 kd):=X3.out.x.cell (i:=0) (by omega);have d1:w3.cell? ⟨w.heap.size,1,none⟩=some (.int .i64 (i:Int)):=X3.out.x.cell (i:=1) (by omega);have d2:w3.cell? ⟨w.heap.size,2,none⟩=some (.int .i64 it):=X3.out.x.cell (i:=2) (by omega);have d3:w3.cell? ⟨w.heap.size,3,none⟩=some (.int .i64 cnt):=X3.out.x.cell (i:=3) (by omega);have d4:w3.cell? ⟨w.heap.size,4,none⟩=some (.int .i64 life):=X3.out.x.cell (i:=4) (by omega);have d5:w3.cell? ⟨w.heap.size,5,none⟩=some (.int .i64 id'):=X3.out.x.cell (i:=5) (by omega);have d6:w3.cell? ⟨w.heap.size,6,none⟩=some (.int .i64 la):=X3.out.x.cell (i:=6) (by omega);have d7:w3.cell? ⟨w.heap.size,7,none⟩=some (.int .i64 ke):=X3.out.x.cell (i:=7) (by omega);have neC:¬ w3.heap.size=w.heap.size:=(by have:WQ.heap.size<=w3.heap.size:=hs3;omega);have neD:¬ w3.heap.size=M.R:=(by have:WQ.heap.size<=w3.heap.size:=hs3;omega);have hl3:w.heap.size+2<=w3.heap.size:=(by have:WQ.heap.size<=w3.heap.size:=hs3;omega);clear i3 f3 hs3)
    | (refine (KT _ bB.out).mono ?_;rintro e w3 ⟨rfl,M3,hR3,hE3,hC3,i3,f3⟩;have I3:=hid i3;have F3:=hid (show Fr M M3 n m w w3 from (Fr.of_below (BQ.out.trans (bB.out.mono BQ.out.size))).trans f3);have X3:=hid ((XQ.out.grow bB.out).un f3.u (fun x=>by have:=NG.out _ x;omega) (fun x=>by have:=NG.out _ x;omega));have hs3:=f3.u.size;have d8:w3.cell? ⟨M.R,7,none⟩=some (.slice (some ⟨M.EB,0,none⟩) n M.ce):=(by rw [<- hR3,<- hE3,<- hC3];exact i3.cell (j:=7) (by omega));have d0:w3.cell? ⟨w.heap.size,0,none⟩=some (.int .i64 kd):=X3.out.x.cell (i:=0) (by omega);have d1:w3.cell? ⟨w.heap.size,1,none⟩=some (.int .i64 (i:Int)):=X3.out.x.cell (i:=1) (by omega);have d2:w3.cell? ⟨w.heap.size,2,none⟩=some (.int .i64 it):=X3.out.x.cell (i:=2) (by omega);have d3:w3.cell? ⟨w.heap.size,3,none⟩=some (.int .i64 cnt):=X3.out.x.cell (i:=3) (by omega);have d4:w3.cell? ⟨w.heap.size,4,none⟩=some (.int .i64 life):=X3.out.x.cell (i:=4) (by omega);have d5:w3.cell? ⟨w.heap.size,5,none⟩=some (.int .i64 id'):=X3.out.x.cell (i:=5) (by omega);have d6:w3.cell? ⟨w.heap.size,6,none⟩=some (.int .i64 la):=X3.out.x.cell (i:=6) (by omega);have d7:w3.cell? ⟨w.heap.size,7,none⟩=some (.int .i64 ke):=X3.out.x.cell (i:=7) (by omega);have RZ:=hid (f3.u.rowIs (show (WQ.alloc boxZ).drew.rowIs WQ.heap.size 42 11 qH from rowZ WQ) (fun x=>by have:=NG.out _ x;omega));have y0:=RZ.out.cell (i:=0) (by decide);have z0:=RZ.out.frozen 0;have y1:=RZ.out.cell (i:=1) (by decide);have z1:=RZ.out.frozen 1;have y2:=RZ.out.cell (i:=2) (by decide);have z2:=RZ.out.frozen 2;have y3:=RZ.out.cell (i:=3) (by decide);have z3:=RZ.out.frozen 3;have y4:=RZ.out.cell (i:=4) (by decide);have z4:=RZ.out.frozen 4;have y5:=RZ.out.cell (i:=5) (by decide);have z5:=RZ.out.frozen 5;have y6:=RZ.out.cell (i:=6) (by decide);have z6:=RZ.out.frozen 6;have y7:=RZ.out.cell (i:=7) (by decide);have z7:=RZ.out.frozen 7;have y8:=RZ.out.cell (i:=8) (by decide);have z8:=RZ.out.frozen 8;have y9:=RZ.out.cell (i:=9) (by decide);have z9:=RZ.out.frozen 9;have y10:=RZ.out.cell (i:=10) (by decide);have z10:=RZ.out.frozen 10;clear i3 f3 hs3)))
  all_goals (try go_wp2_with fail)
  all_goals go_meet
  ·exact ⟨_,rfl,DbI.made X3.out hR3 I3.out F3.out hl3⟩
  ·exact ⟨_,rfl,DbI.chain RZ.out X3.out hR3 HBW.out I3.out F3.out hsQ⟩
 case rest =>
  obtain ⟨sb,rfl,hor⟩:=hcut;have HOR:=hid hor;have hsb:w.heap.size+2<=sb:=hor.lt;clear hor KT bA bB c0 c1 c2 c3 c4 c5 c6 c7 c8 neA neB hsQ;have s1:wc.cell? ⟨w.heap.size,1,none⟩=some (.int .i64 (i:Int)):=HOR.out.bx.x.cell (i:=1) (by omega);have r1:=HOR.out.row.cell (i:=1) (by decide);have q1:=HOR.out.row.frozen 1;obtain ⟨WT,hWT⟩:∃ WT,WT=wc.setCell ⟨sb,1,none⟩ (.int .i64 (i:Int)):=⟨_,rfl⟩
  go_upto_region 14 with fail
  rw [<- hWT];have VT:=hid (show Uw (fun b=>b=sb) wc WT by rw [hWT];exact (Uw.refl (fun b=>b=sb) wc).set (b:=sb) (.inl rfl) 1 _);have RT:=hid (show WT.rowIs sb 42 11 (tlOf { TT with who:=(i:Int) } nilS nilS nilS) by rw [hWT];exact (HOR.out.row.set 1 _).congr fun j hj=>qH3 TT (i:Int) j hj);clear hWT s1 r1 q1;have XT:=hid (HOR.out.bx.un VT.out (fun e=>by have e':w.heap.size=sb:=e;omega) (fun e=>by have e':w.heap.size+1=sb:=e;omega));have t0:WT.cell? ⟨sb,0,none⟩=some (.int .i64 (TT.code:Nat)):=RT.out.cell (i:=0) (by decide);have t1:WT.cell? ⟨sb,1,none⟩=some (.int .i64 (i:Int)):=RT.out.cell (i:=1) (by decide);have t2:WT.cell? ⟨sb,2,none⟩=some (.int .i64 (TT.sk.code:Nat)):=RT.out.cell (i:=2) (by decide);have t3:WT.cell? ⟨sb,3,none⟩=some (.int .i64 TT.sk.id):=RT.out.cell (i:=3) (by decide);have t4:WT.cell? ⟨sb,4,none⟩=some (.int .i64 TT.sk.free):=RT.out.cell (i:=4) (by decide);have t5:WT.cell? ⟨sb,5,none⟩=some (.int .i64 TT.sk.held):=RT.out.cell (i:=5) (by decide);have t6:WT.cell? ⟨sb,6,none⟩=some (.int .i64 TT.sk.used):=RT.out.cell (i:=6) (by decide);have t7:WT.cell? ⟨sb,7,none⟩=some (.int .i64 TT.value):=RT.out.cell (i:=7) (by decide);have t8:WT.cell? ⟨sb,8,none⟩=some (.slice none 0 0):=RT.out.cell (i:=8) (by decide);have t9:WT.cell? ⟨sb,9,none⟩=some (.slice none 0 0):=RT.out.cell (i:=9) (by decide);have t10:WT.cell? ⟨sb,10,none⟩=some (.slice none 0 0):=RT.out.cell (i:=10) (by decide);have y0:=XT.out.t.cell (i:=0) (by decide);have z0:=XT.out.t.frozen 0;have y1:=XT.out.t.cell (i:=1) (by decide);have z1:=XT.out.t.frozen 1;have y2:=XT.out.t.cell (i:=2) (by decide);have z2:=XT.out.t.frozen 2;have y3:=XT.out.t.cell (i:=3) (by decide);have z3:=XT.out.t.frozen 3;have y4:=XT.out.t.cell (i:=4) (by decide);have z4:=XT.out.t.frozen 4;have y5:=XT.out.t.cell (i:=5) (by decide);have z5:=XT.out.t.frozen 5;have y6:=XT.out.t.cell (i:=6) (by decide);have z6:=XT.out.t.frozen 6;have y7:=XT.out.t.cell (i:=7) (by decide);have z7:=XT.out.t.frozen 7;have y8:=XT.out.t.cell (i:=8) (by decide);have z8:=XT.out.t.frozen 8;have y9:=XT.out.t.cell (i:=9) (by decide);have z9:=XT.out.t.frozen 9;have y10:=XT.out.t.cell (i:=10) (by decide);have z10:=XT.out.t.frozen 10;obtain ⟨W6,hW6⟩:∃ W6,W6=(((((((((((WT.setCell ⟨w.heap.size+1,0,none⟩ (.int .i64 (TT.code:Nat))).setCell ⟨w.heap.size+1,1,none⟩ (.int .i64 (i:Int))).setCell ⟨w.heap.size+1,2,none⟩ (.int .i64 (TT.sk.code:Nat))).setCell ⟨w.heap.size+1,3,none⟩ (.int .i64 TT.sk.id)).setCell ⟨w.heap.size+1,4,none⟩ (.int .i64 TT.sk.free)).setCell ⟨w.heap.size+1,5,none⟩ (.int .i64 TT.sk.held)).setCell ⟨w.heap.size+1,6,none⟩ (.int .i64 TT.sk.used)).setCell ⟨w.heap.size+1,7,none⟩ (.int .i64 TT.value)).setCell ⟨w.heap.size+1,8,none⟩ (.slice none 0 0)).setCell ⟨w.heap.size+1,9,none⟩ (.slice none 0 0)).setCell ⟨w.heap.size+1,10,none⟩ (.slice none 0 0)):=⟨_,rfl⟩;go_wp2;rw [<- hW6];have h6:W6=putL WT (w.heap.size+1) (tlOf { TT with who:=(i:Int) } nilS nilS nilS):=hW6;clear hW6 t0 y0 z0 t1 y1 z1 t2 y2 z2 t3 y3 z3 t4 y4 z4 t5 y5 z5 t6 y6 z6 t7 y7 z7 t8 y8 z8 t9 y9 z9 t10 y10 z10;have F6:W6.rowIs (w.heap.size+1) 42 11 (tlOf { TT with who:=(i:Int) } nilS nilS nilS):=by rw [h6];exact xL XT.out.t _
  have V6:Uw (fun b=>b=w.heap.size+1) WT W6:=by rw [h6];exact xK WT _ _
  clear h6;obtain ⟨M3,hR3,i3,f3⟩:=HOR.out.wi;have nk:¬ own M3 n m sb:=i3.free (yQ HOR.out.row) (by decide) (by decide) (by decide) (by decide) (by decide) (by decide) (by decide) (by decide);have i4:=i3.box HOR.out.row (by have:=HBW.out;omega) nk (by decide) (by decide) VT.out;have nk2:¬ own M3 n m (w.heap.size+1):=i4.free (yQ XT.out.t) (by decide) (by decide) (by decide) (by decide) (by decide) (by decide) (by decide) (by decide);exact yV rfl (w.heap.size+1) (tlOf { TT with who:=(i:Int) } nilS nilS nilS) rfl F6 rfl ⟨rfl,M3,hR3,i4.box XT.out.t (by have:=HBW.out;omega) nk2 (by decide) (by decide) V6,(f3.box (by omega) VT.out).box (by omega) V6⟩
theorem qH4 {B:Nat} {M M':Mm} {w w':World} {c:Cf} {n m:Nat} {W:Wo} {T S:Nat} {p:Option Addr} {k:Nat} {l:List Int} (h:Se.By 0 w p k l) (wi:WI B M w c n m W T S) (f:Fr M M' n m w w'):Se.By 0 w' p k l :=
 h.keep ⟨f.u.os,f.u.tape,f.u.output,f.u.size,fun k hk hp=>f.u.block k hk (fun q=>by
  rcases hp with x|⟨cs,fr,x⟩
  ·omega
  ·exact wi.free (qQ x) (by decide) (by decide) (by decide) (by decide) (by decide) (by decide) (by decide) (by decide) q)⟩
structure TdI (M:Mm) (n m:Nat) (w0 w:World) (t:Tl) (sv fv rv:Value):Prop where
 ev:EvR w0 w sv t.sent
 fr:∃ p k,fv=.slice p t.frame.length k/\Se.By 0 w p k t.frame
 nu:NumR w0 w rv t.report
 no:∀ x,rv.ownBlock=some x->¬ own M n m x
theorem TdI.keep {B:Nat} {M M':Mm} {w0 w w':World} {c:Cf} {n m:Nat} {W:Wo} {T S:Nat} {t:Tl} {sv fv rv:Value} (h:TdI M n m w0 w t sv fv rv) (wi:WI B M w c n m W T S) (f:Fr M M' n m w w'):TdI M' n m w0 w' t sv fv rv:=by
 obtain ⟨p,k,e,hb⟩:=h.fr;exact ⟨h.ev.fr wi f,⟨p,k,e,qH4 hb wi f⟩,h.nu.keep fun b hb=>(f.keep (h.nu.lt hb).1 (h.no b hb)).1,fun x hx=>(f.keep (h.nu.lt hx).1 (h.no x hx)).2⟩
theorem TdI.base {M:Mm} {w0 w1 w:World} {n m:Nat} {t:Tl} {sv fv rv:Value} (h:TdI M n m w1 w t sv fv rv) (hb:w0.heap.size<=w1.heap.size):TdI M n m w0 w t sv fv rv:=⟨h.ev.base hb,h.fr,h.nu.base hb,h.no⟩
theorem TdI.no3 (M:Mm) (w0 w:World) (n m:Nat) (t:Tl) (h1:t.sent=[]) (h2:t.frame=[]) (h3:t.report=[]):TdI M n m w0 w t nilS nilS nilS:=by
 refine ⟨by rw [h1];exact EvR.nil _ _,⟨none,0,by rw [h2];rfl,by rw [h2];exact Se.By.nil _ _⟩,by rw [h3];exact NumR.nil _ _,fun x hx=>by simp [Value.ownBlock] at hx⟩
def DoP (B:Nat) (M:Mm) (c:Cf) (n m:Nat) (W:Wo) (T S:Nat) (s:Sp) (w:World) (e:Ending) (w':World):Prop :=
 ∃ sv fv rv M',e=.returned (aggL (tlOf (stT c W s) sv fv rv))/\M'.R=M.R/\TdI M' n m w w' (stT c W s) sv fv rv/\WI B M' w' c n m (stW c W s) T S/\Fr M M' n m w w'
theorem LsP.do {B:Nat} {M:Mm} {c:Cf} {n m:Nat} {W:Wo} {T S T' S':Nat} {s:Sp} {w w':World} {e:Ending} (h:LsP B M c n m (stW c W s) T S (stT c W s) w e w') (hT:T<=T') (hS:S<=S') (h1:(stT c W s).sent=[]) (h2:(stT c W s).frame=[]) (h3:(stT c W s).report=[]):DoP B M c n m W T' S' s w e w':=by
 obtain ⟨e1,M',hR,wi,f⟩:=h;exact ⟨nilS,nilS,nilS,M',e1,hR,TdI.no3 M' w w' n m _ h1 h2 h3,wi.later hT hS,f⟩
theorem Plain.brT_none (c:Cf) (W:Wo) (i:Nat) (s:Sp):(brT c W i s).sent=[]/\(brT c W i s).frame=[]/\(brT c W i s).report=[]:=by
 unfold brT
 repeat' split
 all_goals exact ⟨rfl,rfl,rfl⟩
theorem Plain.lab_bd {c:Cf} (hc:mayC c=true):∀ x,x∈c.ls->0<=x/\x<256:=fun x hx=>by
 obtain ⟨hn,_,hl,_⟩:=xJ hc;have:=zT.1 hl x hx;unfold labB at this;simp only [Bool.and_eq_true,decide_eq_true_eq] at this;have h8:(2:Int)^c.n.toNat<=256:=by
  have:c.n.toNat<=8:=by omega
  have h2:(2:Nat)^c.n.toNat<=2^8:=Nat.pow_le_pow_right (by decide) this;have h3:((2^c.n.toNat:Nat):Int)=(2:Int)^c.n.toNat:=by rw [Int.natCast_pow];rfl
  omega
 omega
theorem wdo_c (B:Nat) (M:Mm) (c:Cf) (n m K:Nat) (W:Wo) (T S:Nat) (hc:mayC c=true) (hn:c.n=n) (hm:c.ms.length=m) (hL0:2<=n->0<c.ls.length) (hK:K<=300) (hT:T+m<=1000) (hS:S<=30000) (hW:Wok c n m K W) (s:Sp) (hwf:(Lit.int .i64 s.id).wf=true) (w:World) (h:WI B M w c n m W T S) :
  Calls Tryz.prog 35 #[.pointer (some ⟨M.R,0,none⟩),aggX s] w (DoP B M c n m W (T+m) (S+100) s w):=by
 obtain ⟨hn18,hL4,_,_,hm13,_,_⟩:=xJ hc;have hLx:=lab_bd hc;have hpl:=hW.pl;have hrk:∀ i k,i<n->k<m->(∃ gg,Hd.Plain.Hv (W.rk i k) gg)/\(W.rk i k).cs.length<=1000:=fun i k _ _=>⟨(hW.rk i k).1,by have:=(hW.rk i k).2;omega⟩;by_cases h9:s.kind=9
 ·refine (zX6 B M c n m W T S s h9 w h fun X hX=>qG4 B M c n m W T S (K:Int) hn (by omega) (by omega) hm (by omega) (by omega) hL4 hT (fun k _=>hW.bn k) hrk (fun i _=>hW.st i) hW.gd (by omega) X hX).mono ?_
  rintro e w' ⟨sv,rv,M',rfl,hR,ev,nu,no,wi,f⟩;have e1:stT c W s=zC5 c W:=by unfold stT;rw [if_pos h9]
  have e2:stW c W s=zD8 c W:=by unfold stW;rw [if_pos h9]
  unfold DoP;rw [e1,e2];exact ⟨sv,nilS,rv,M',rfl,hR,⟨ev,⟨none,0,rfl,Se.By.nil _ _⟩,nu,no⟩,wi,f⟩
 by_cases h10:s.kind=10
 ·refine (qH1 B M c n m W T S (T+m) (S+1) s h10 w h fun X hX=>yY8 B M c n m W T S s.id hwf hW.gd (by omega) (by omega) hn (by omega) (by omega) hL0 hL4 hLx hT (fun i k _ _=>hW.gai i k) hrk (K:Int) (fun i _=>hW.st i) (fun hf=>?_) X hX).mono ?_
  ·refine hW.fr _ ?_
   have hs:¬ (s.id<0\/(W.off.posted.length:Int)<=s.id):=fun x=>by
    have e:Se.Plain.seenE W.off s.id≠0:=by unfold Se.Plain.seenE;rw [if_pos x];decide
    unfold xN at hf;rw [if_pos e] at hf;cases hf
   have hlt:s.id.toNat<W.off.posted.length:=by omega
   unfold Se.Plain.Off.at
   rw [zA,zB hlt];exact zH hlt
  ·rintro e w' ⟨p,k,M',rfl,hR,hy,wi,f⟩
   have e1:stT c W s=delT W s.id:=by unfold stT;rw [if_neg h9,if_pos h10]
   have e2:stW c W s=delW c W s.id:=by unfold stW;rw [if_neg h9,if_pos h10]
   unfold DoP;rw [e1,e2];refine ⟨nilS,_,nilS,M',rfl,hR,⟨?_,⟨p,k,rfl,hy⟩,?_,fun x hx=>by simp [Value.ownBlock] at hx⟩,wi.later yN (by omega),f⟩
   ·rw [show (delT W s.id).sent=[] by unfold delT;split<;>rfl];exact EvR.nil _ _
   ·rw [show (delT W s.id).report=[] by unfold delT;split<;>rfl];exact NumR.nil _ _
 by_cases h11:s.kind=11
 ·have e1:stT c W s=tlE (xN W s.id):=by unfold stT;rw [if_neg h9,if_neg h10,if_pos h11]
  exact (xX7 B M c n m W T S s hwf hW.gd (by omega) (by omega) h11 w h).mono fun e w' p=>p.do (by omega) (by omega) (by rw [e1];rfl) (by rw [e1];rfl) (by rw [e1];rfl)
 by_cases hk:s.kind<1\/8<s.kind
 ·have e1:stT c W s=tlE 3:=by unfold stT;rw [if_neg h9,if_neg h10,if_neg h11,if_pos hk]
  exact (zF8 B M c n m W T S s (by omega) w h).mono fun e w' p=>p.do (by omega) (by omega) (by rw [e1];rfl) (by rw [e1];rfl) (by rw [e1];rfl)
 by_cases hw:0<=s.who/\s.who<(n:Int)
 ·have e1:stT c W s={ brT c W s.who.toNat s with who:=s.who }:=by unfold stT;rw [if_neg h9,if_neg h10,if_neg h11,if_neg hk,if_neg (by omega)]
  have hb:=brT_none c W s.who.toNat s;exact (yZ3 B M c n m W T S s hn (by omega) s.who.toNat (by omega) (by omega) w h fun X hX=>wbd_c B M c n m W T S s.who.toNat s (by omega) (by omega) hm hL4 hLx (by omega) (K:Int) (by omega) (hW.st _) (fun k _=>hW.ask _ k) (fun k hk=>hrk _ k (by omega) hk) X hX).mono fun e w' p=>p.do (by omega) (by omega) (by rw [e1];exact hb.1) (by rw [e1];exact hb.2.1) (by rw [e1];exact hb.2.2)
 ·have e1:stT c W s=tlE 2:=by unfold stT;rw [if_neg h9,if_neg h10,if_neg h11,if_neg hk,if_pos (by omega)]
  exact (qG9 B M c n m W T S s hn (by omega) hw w h).mono fun e w' p=>p.do (by omega) (by omega) (by rw [e1];rfl) (by rw [e1];rfl) (by rw [e1];rfl)
def yB5 (lp:Option Addr) (lc L m:Nat):Enc (Nat × Nat × Nat):=⟨4,fun r=>[.int .i64 (r.1:Nat),.slice lp L lc,.slice (some ⟨r.2.1,0,none⟩) L L,.slice (some ⟨r.2.2,0,none⟩) m m],fun _=>rfl,fun r u hu=>by
 simp only [List.mem_cons,List.not_mem_nil,or_false] at hu;rcases hu with rfl|rfl|rfl|rfl<;>rfl,by decide⟩
structure RB where
 A:Nat
 G:Nat
 p:Option Addr
 l:Nat
 c:Nat
 b:Bo.Plain.Bk
 N:Nat
abbrev RB.vl (r:RB):Value:=.slice r.p r.l r.c
def zI1:Enc RB:=⟨8,fun r=>[.int .i64 r.b.cap,.int .i64 (r.b.ticks:Nat),.int .i64 r.b.reserve,.int .i64 r.b.ever,.slice (some ⟨r.A,0,none⟩) r.b.n r.b.n,.slice (some ⟨r.G,0,none⟩) r.b.n r.b.n,.slice r.p r.l r.c,.int .i64 (r.N:Nat)],fun _=>rfl,fun r u hu=>by
 simp only [List.mem_cons,List.not_mem_nil,or_false] at hu;rcases hu with rfl|rfl|rfl|rfl|rfl|rfl|rfl|rfl<;>rfl,by decide⟩
theorem xK7 (r:RB) (j:Nat) (hj:j<8):(zI1.enc r)[j]?=some (Bo.bkR r.A r.G r.vl r.b r.N j):=by
 have:j=0\/j=1\/j=2\/j=3\/j=4\/j=5\/j=6\/j=7:=by omega
 rcases this with rfl|rfl|rfl|rfl|rfl|rfl|rfl|rfl<;>rfl
structure BkJ (B:Nat) (w:World) (r:RB):Prop where
 ra:RowI w r.A r.b.wants
 rg:RowI w r.G r.b.given
 ok:Bo.Plain.Ok r.b
 n1:1<=r.b.n
 n8:r.b.n<=8
 rd:r.b.rounds=r.N%r.b.ticks
 lv:(r.N=0/\r.vl=.slice none 0 0)\/∃ L,r.vl=.slice (some ⟨L,0,none⟩) r.b.n r.b.n/\RowI w L (Bo.Plain.yQ7 r.b)/\B<=L/\L≠r.A/\L≠r.G
 hA:B<=r.A
 hG:B<=r.G
 AG:r.A≠r.G
 tk:r.b.ticks<=8
 hN:r.N<=1
def rbO (r:RB) (x:Nat):Prop:=x=r.A\/x=r.G\/r.vl.ownBlock=some x
theorem BkJ.rows {B:Nat} {w:World} {r:RB} (h:BkJ B w r) {x:Nat} (hx:rbO r x):(∃ l,RowI w x l)/\B<=x:=by
 rcases hx with rfl|rfl|e
 ·exact ⟨⟨_,h.ra⟩,h.hA⟩
 ·exact ⟨⟨_,h.rg⟩,h.hG⟩
 ·rcases h.lv with ⟨_,e2⟩|⟨L,e2,r2,hL,_⟩
  ·rw [e2] at e;simp [Value.ownBlock] at e
  ·rw [e2] at e
   simp only [Value.ownBlock,Option.some.injEq] at e;subst e;exact ⟨⟨_,r2⟩,hL⟩
theorem BkJ.keep {B:Nat} {w w':World} {r:RB} (h:BkJ B w r) (e:∀ x,x<w.heap.size->tag w x=some 3->w'.heap[x]?=w.heap[x]?):BkJ B w' r :=
 ⟨h.ra.of_block (e _ h.ra.lt (zB2 h.ra)),h.rg.of_block (e _ h.rg.lt (zB2 h.rg)),h.ok,h.n1,h.n8,h.rd,h.lv.imp id (fun ⟨L,e1,r2,x⟩=>⟨L,e1,r2.of_block (e _ r2.lt (zB2 r2)),x⟩),h.hA,h.hG,h.AG,h.tk,h.hN⟩
theorem BkJ.bk {B:Nat} {w:World} {r:RB} (h:BkJ B w r) {R oo:Nat} {XX:Win} (row:w.rowIs R XX.t XX.n (XX.f oo 8 (Bo.bkR r.A r.G r.vl r.b r.N))) (le:oo+8<=XX.n) (hR:B<=R) (ht:XX.t≠3):Bo.BkI B R oo XX r.A r.G w r.vl r.b r.N:=by
 have ne:∀ x,(∃ l,RowI w x l)->R≠x:=fun x ⟨l,hl⟩ e=>by
  have t1:=zB2 hl;rw [<- e,yQ row] at t1;exact ht (Option.some.inj t1)
 exact ⟨row,h.ra,h.rg,h.ok,h.n1,h.n8,h.rd,h.lv.imp id (fun ⟨L,e1,r2,x1,x2,x3⟩=>⟨L,e1,r2,x1,fun e=>ne L ⟨_,r2⟩ e.symm,x2,x3⟩),hR,h.hA,h.hG,ne _ ⟨_,h.ra⟩,ne _ ⟨_,h.rg⟩,h.AG,h.tk,le⟩
def brL (H D:Nat->Nat) (a:Nat):List (Nat × Nat × Nat):=(List.range a).map fun i=>(i,H i,D i)
theorem yB6 (H D:Nat->Nat) (a:Nat):(brL H D a).length=a:=by simp [brL]
theorem xK8 (H D:Nat->Nat) (a h d:Nat):brL (up1 H a h) (up1 D a d) (a+1)=brL H D a++[(a,h,d)]:=by
 unfold brL;rw [List.range_succ,List.map_append];congr 1
 ·refine List.map_congr_left fun i hi=>?_
  have:=zY.1 hi;rw [yY H a h (by omega),yY D a d (by omega)]
 ·simp [yR]
def bgF (c:Cf) (lv mv:Value) (LB:Nat) (v vb:Value):Nat->Value
 | 0=>.int .i64 c.n
 | 1=>lv
 | 2=>.int .i64 c.t
 | 3=>mv
 | 4=>.int .i64 c.cap
 | 5=>.slice none 0 0
 | 6=>.map none
 | 7=>v
 | 8=>vb
 | _=>.map (some LB)
def cfF (c:Cf) (lv mv:Value):Nat->Value
 | 0=>.int .i64 c.n
 | 1=>lv
 | 2=>.int .i64 c.t
 | 3=>mv
 | _=>.int .i64 c.cap
abbrev zGd:Nat->Value:=gdF (fun _=>0) (fun _=>0) (fun _=>Hd.Plain.Rk.nil) (fun _=>.slice none 0 0)
structure BgI (w0 w:World) (c:Cf) (lp:Option Addr) (lc:Nat) (mv:Value) (m R CB LB a:Nat) (H D:Nat->Nat) (bs:List RB) (v vb:Value):Prop where
 bx:w.rowIs R 86 10 (bgF c (.slice lp c.ls.length lc) mv LB v vb)
 cb:w.rowIs CB 25 5 (cfF c (.slice lp c.ls.length lc) mv)
 lo:SetI w LB 0 []
 eo:w.ownsRow w0.heap.size 94 4 v a ((yB5 lp lc c.ls.length m).vals (brL H D a))
 hs:∀ i,i<a->w.rowIs (H i) 56 c.ls.length (fun _=>.slice none 0 0)
 dg:∀ i,i<a->w.rowIs (D i) 114 (m*6) zGd
 iH:∀ i j,i<a->j<a->H i=H j->i=j
 iD:∀ i j,i<a->j<a->D i=D j->i=j
 gH:∀ i,i<a->w0.heap.size<=H i
 gD:∀ i,i<a->w0.heap.size<=D i
 bo:w.ownsRow w0.heap.size 88 8 vb bs.length (zI1.vals bs)
 bj:∀ r,r∈bs->BkJ w0.heap.size w r
 ap:bs.Pairwise (fun r r'=>∀ x,rbO r x->¬ rbO r' x)
 pl:bs.map RB.b=(List.range bs.length).map (bk0 c)
 gR:w0.heap.size<=R
 gC:w0.heap.size<=CB
 gL:w0.heap.size<=LB
 be:Below w0.heap.size w0 w
namespace BgI
variable {w0 w w':World} {c:Plain.Cf} {lp:Option Addr} {lc:Nat} {mv:Value} {m R CB LB a:Nat} {H D:Nat->Nat} {bs:List RB} {v vb:Value}
theorem grow (h:BgI w0 w c lp lc mv m R CB LB a H D bs v vb) (b:Below w.heap.size w w'):BgI w0 w' c lp lc mv m R CB LB a H D bs v vb :=
 ⟨h.bx.of_block (b.block _ h.bx.lt),h.cb.of_block (b.block _ h.cb.lt),h.lo.of_block (b.block _ h.lo.lt),Hd.zB8 h.eo fun x hx=>b.block x (qP h.eo hx),fun i hi=>(h.hs i hi).of_block (b.block _ (h.hs i hi).lt),fun i hi=>(h.dg i hi).of_block (b.block _ (h.dg i hi).lt),h.iH,h.iD,h.gH,h.gD,
  Hd.zB8 h.bo fun x hx=>b.block x (qP h.bo hx),fun r hr=>(h.bj r hr).keep fun x hx _=>b.block x hx,h.ap,h.pl,h.gR,h.gC,h.gL,h.be.trans (b.mono h.be.size)⟩
theorem cell (h:BgI w0 w c lp lc mv m R CB LB a H D bs v vb) {j:Nat} (hj:j<10):w.cell? ⟨R,j,none⟩=some (bgF c (.slice lp c.ls.length lc) mv LB v vb j):=h.bx.cell hj
theorem snoc (h:BgI w0 w c lp lc mv m R CB LB a H D bs v vb) (ha:a<=8) {w5:World} (b:Below w.heap.size w w5) {h' d':Nat} (hr:w5.rowIs h' 56 c.ls.length (fun _=>.slice none 0 0)) (dr:w5.rowIs d' 114 (m*6) zGd) (hh:w.heap.size<=h') (hd:w.heap.size<=d') :
  ∃ p k U,(Builtin.append_ #[82,82] 82 #[v,.slice (some ⟨w5.heap.size,0,none⟩) 1 1]).run Tryz.prog (w5.alloc (.cells #[.int .i64 (a:Nat),.slice lp c.ls.length lc,.slice (some ⟨h',0,none⟩) c.ls.length c.ls.length,.slice (some ⟨d',0,none⟩) m m] 94))=.ok (.slice p (a+1) k) U /\
   U.cell? ⟨R,7,none⟩=some v/\U.frozen? ⟨R,7,none⟩=false/\U.rowIs CB 25 5 (cfF c (.slice lp c.ls.length lc) mv)/\BgI w0 (U.setCell ⟨R,7,none⟩ (.slice p (a+1) k)) c lp lc mv m R CB LB (a+1) (up1 H a h') (up1 D a d') bs (.slice p (a+1) k) vb:=by
 have g5:=h.grow b;obtain ⟨wA,hwA⟩:∃ wA,wA=w5.alloc (.cells #[.int .i64 (a:Nat),.slice lp c.ls.length lc,.slice (some ⟨h',0,none⟩) c.ls.length c.ls.length,.slice (some ⟨d',0,none⟩) m m] 94):=⟨_,rfl⟩;have bA:Below w5.heap.size w5 wA:=by rw [hwA];exact yO.alloc yN _
 have gA:=g5.grow bA;have hq:(yB5 lp lc c.ls.length m).Holds wA (some ⟨w5.heap.size,0,none⟩) [(a,h',d')]:=by rw [hwA];exact (yB5 lp lc c.ls.length m).one_holds w5 (a,h',d') 94
 obtain ⟨i0,hi,hz0,hz1,hz2⟩:=info_parts (show (Tryz.prog.info? 94).map (fun i=>(i.zero,i.size,i.bytes))=some (some (.agg #[.int .i64 0,.slice none 0 0,.slice none 0 0,.slice none 0 0]),4,80) by kernel_rfl);obtain ⟨v',U,h1,h2,h3,h4⟩:=Enc.appW (E:=yB5 lp lc c.ls.length m) (w:=wA) (B:=w0.heap.size) (c:=1) (m:=1) (q:=[(a,h',d')]) Tryz.underlying82 hi hz0 hz1 hz2 rfl gA.eo hq rfl (fun e=>by cases e) (by omega) (by omega) (by have:=gA.be.size;omega);rw [<- xK8] at h2;obtain ⟨p,k,rfl,_⟩:=Enc.owns (E:=yB5 lp lc c.ls.length m) h2 (yB6 _ _ _);have nt:∀ x,x<wA.heap.size->tag wA x≠some 94->U.heap[x]?=wA.heap[x]?:=fun x hx ht=>h3.block x hx (fun e=>ht (xC gA.eo e.symm));have hRU:U.heap[R]?=wA.heap[R]?:=nt R gA.bx.lt (by rw [yQ gA.bx];decide);have bxU:=gA.bx.of_block hRU;have kp:∀ x,x<wA.heap.size->tag wA x≠some 94->tag wA x≠some 86->(U.setCell ⟨R,7,none⟩ (.slice p (a+1) k)).heap[x]?=wA.heap[x]?:=fun x hx t1 t2 =>
  (zE U ⟨R,7,none⟩ _ x (fun e=>by have e':x=R:=e;rw [e',yQ gA.bx] at t2;exact t2 rfl)).trans (nt x hx t1)
 have hrA:=hr.of_block (bA.block _ hr.lt);have drA:=dr.of_block (bA.block _ dr.lt);refine ⟨p,k,U,by rw [<- hwA];exact h1,bxU.cell (i:=7) (by decide),bxU.frozen 7,gA.cb.of_block (nt _ gA.cb.lt (by rw [yQ gA.cb];decide)),⟨?_,gA.cb.of_block (kp _ gA.cb.lt (by rw [yQ gA.cb];decide) (by rw [yQ gA.cb];decide)),?_,?_,fun i hi=>?_,fun i hi=>?_,fun i j hi hj e=>?_,fun i j hi hj e=>?_,fun i hi=>?_,fun i hi=>?_,?_,fun r hr=>?_,h.ap,h.pl,h.gR,h.gC,h.gL,?_⟩⟩
 ·refine (bxU.set 7 (.slice p (a+1) k)).congr fun j hj=>?_
  have:j=0\/j=1\/j=2\/j=3\/j=4\/j=5\/j=6\/j=7\/j=8\/j=9:=by omega
  rcases this with rfl|rfl|rfl|rfl|rfl|rfl|rfl|rfl|rfl|rfl<;>simp [bgF]
 ·have tl:=zP2 gA.lo.is_map
  exact gA.lo.of_block (kp _ gA.lo.lt (by rw [tl];decide) (by rw [tl];decide))
 ·refine Hd.zB8 h2 fun x hx=>zE U ⟨R,7,none⟩ _ x (fun e=>?_)
  have e':x=R:=e;have t1:=xC h2 hx;rw [e',yQ bxU] at t1;exact absurd (Option.some.inj t1) (by decide)
 ·by_cases e:i=a
  ·rw [e,yR]
   exact hrA.of_block (kp _ hrA.lt (by rw [yQ hrA];decide) (by rw [yQ hrA];decide))
  ·rw [yY H a h' e]
   have r0:=gA.hs i (by omega);exact r0.of_block (kp _ r0.lt (by rw [yQ r0];decide) (by rw [yQ r0];decide))
 ·by_cases e:i=a
  ·rw [e,yR]
   exact drA.of_block (kp _ drA.lt (by rw [yQ drA];decide) (by rw [yQ drA];decide))
  ·rw [yY D a d' e]
   have r0:=gA.dg i (by omega);exact r0.of_block (kp _ r0.lt (by rw [yQ r0];decide) (by rw [yQ r0];decide))
 ·by_cases ei:i=a
  ·by_cases ej:j=a
   ·omega
   ·rw [ei,yR,yY H a h' ej] at e
    have:=(h.hs j (by omega)).lt;omega
  ·by_cases ej:j=a
   ·rw [ej,yR,yY H a h' ei] at e
    have:=(h.hs i (by omega)).lt;omega
   ·rw [yY H a h' ei,yY H a h' ej] at e
    exact h.iH i j (by omega) (by omega) e
 ·by_cases ei:i=a
  ·by_cases ej:j=a
   ·omega
   ·rw [ei,yR,yY D a d' ej] at e
    have:=(h.dg j (by omega)).lt;omega
  ·by_cases ej:j=a
   ·rw [ej,yR,yY D a d' ei] at e
    have:=(h.dg i (by omega)).lt;omega
   ·rw [yY D a d' ei,yY D a d' ej] at e
    exact h.iD i j (by omega) (by omega) e
 ·by_cases e:i=a
  ·rw [e,yR];have:=h.be.size;omega
  ·rw [yY H a h' e];exact h.gH i (by omega)
 ·by_cases e:i=a
  ·rw [e,yR];have:=h.be.size;omega
  ·rw [yY D a d' e];exact h.gD i (by omega)
 ·refine Hd.zB8 gA.bo fun x hx=>kp x (qP gA.bo hx) ?_ ?_
  ·rw [xC gA.bo hx];decide
  ·rw [xC gA.bo hx];decide
 ·exact (gA.bj r hr).keep fun x hx ht=>kp x hx (by rw [ht];decide) (by rw [ht];decide)
 ·refine Below.setCell (p:=⟨R,7,none⟩) ⟨h3.os.trans gA.be.os,h3.tape.trans gA.be.tape,h3.output.trans gA.be.output,zI gA.be.size h3.size,fun x hx=>?_⟩ h.gR _
  refine (h3.block x (zF hx gA.be.size) (fun e=>?_)).trans (gA.be.block x hx);rcases gA.eo.2 with ⟨rfl,_⟩|⟨g,cc,cur,rfl,hg,_⟩
  ·simp [Value.ownBlock] at e
  ·simp only [Value.ownBlock,Option.some.injEq] at e
   omega
theorem snocB (h:BgI w0 w c lp lc mv m R CB LB a H D bs v vb) (ha:bs.length<=3) {w5:World} (os5:Below w.heap.size w w5) {r:RB} (jr:BkJ w0.heap.size w5 r) (hn:∀ x,rbO r x->w.heap.size<=x) (hb:r.b=Plain.bk0 c bs.length) :
  ∃ p k U,(Builtin.append_ #[83,83] 83 #[vb,.slice (some ⟨w5.heap.size,0,none⟩) 1 1]).run Tryz.prog (w5.alloc (.cells (zI1.enc r).toArray 88))=.ok (.slice p (bs.length+1) k) U /\
   U.cell? ⟨R,8,none⟩=some vb/\U.frozen? ⟨R,8,none⟩=false/\U.rowIs CB 25 5 (cfF c (.slice lp c.ls.length lc) mv)/\(∀ x,w.heap.size<=x->x<w5.heap.size->U.heap[x]?=w5.heap[x]?)/\BgI w0 (U.setCell ⟨R,8,none⟩ (.slice p (bs.length+1) k)) c lp lc mv m R CB LB a H D (bs++[r]) v (.slice p (bs.length+1) k):=by
 have g5:=h.grow os5;obtain ⟨wA,hwA⟩:∃ wA,wA=w5.alloc (.cells (zI1.enc r).toArray 88):=⟨_,rfl⟩;have bA:Below w5.heap.size w5 wA:=by rw [hwA];exact yO.alloc yN _
 have gA:=g5.grow bA;have jA:=jr.keep (w':=wA) fun x hx _=>bA.block x hx;have hq:zI1.Holds wA (some ⟨w5.heap.size,0,none⟩) [r]:=by rw [hwA];exact zI1.one_holds w5 r 88
 obtain ⟨i0,hi,hz0,hz1,hz2⟩:=info_parts (show (Tryz.prog.info? 88).map (fun i=>(i.zero,i.size,i.bytes))=some (some (.agg #[.int .i64 0,.int .i64 0,.int .i64 0,.int .i64 0,.slice none 0 0,.slice none 0 0,.slice none 0 0,.int .i64 0]),8,112) by kernel_rfl);obtain ⟨v',U,h1,h2,h3,h4⟩:=Enc.appW (E:=zI1) (w:=wA) (B:=w0.heap.size) (c:=1) (m:=1) (q:=[r]) Tryz.underlying83 hi hz0 hz1 hz2 rfl gA.bo hq rfl (fun e=>by cases e) (by omega) (by omega) (by have:=gA.be.size;omega);obtain ⟨p,k,rfl,_⟩:=Enc.owns (E:=zI1) h2 (by simp);have nt:∀ x,x<wA.heap.size->tag wA x≠some 88->U.heap[x]?=wA.heap[x]?:=fun x hx ht=>h3.block x hx (fun e=>ht (xC gA.bo e.symm));have hRU:U.heap[R]?=wA.heap[R]?:=nt R gA.bx.lt (by rw [yQ gA.bx];decide);have bxU:=gA.bx.of_block hRU;have kp:∀ x,x<wA.heap.size->tag wA x≠some 88->tag wA x≠some 86->(U.setCell ⟨R,8,none⟩ (.slice p (bs.length+1) k)).heap[x]?=wA.heap[x]?:=fun x hx t1 t2 =>
  (zE U ⟨R,8,none⟩ _ x (fun e=>by have e':x=R:=e;rw [e',yQ gA.bx] at t2;exact t2 rfl)).trans (nt x hx t1)
 refine ⟨p,k,U,by rw [<- hwA];exact h1,bxU.cell (i:=8) (by decide),bxU.frozen 8,gA.cb.of_block (nt _ gA.cb.lt (by rw [yQ gA.cb];decide)),fun x h1 h2=>(h3.block x (zF h2 bA.size) (fun e=>by have:=qP h.bo e.symm;omega)).trans (bA.block x h2),⟨?_,gA.cb.of_block (kp _ gA.cb.lt (by rw [yQ gA.cb];decide) (by rw [yQ gA.cb];decide)),?_,?_,fun i hi=>?_,fun i hi=>?_,h.iH,h.iD,h.gH,h.gD,?_,fun r' hr'=>?_,?_,?_,h.gR,h.gC,h.gL,?_⟩⟩
 ·refine (bxU.set 8 (.slice p (bs.length+1) k)).congr fun j hj=>?_
  have:j=0\/j=1\/j=2\/j=3\/j=4\/j=5\/j=6\/j=7\/j=8\/j=9:=by omega
  rcases this with rfl|rfl|rfl|rfl|rfl|rfl|rfl|rfl|rfl|rfl<;>simp [bgF]
 ·have tl:=zP2 gA.lo.is_map
  exact gA.lo.of_block (kp _ gA.lo.lt (by rw [tl];decide) (by rw [tl];decide))
 ·refine Hd.zB8 gA.eo fun x hx=>kp x (qP gA.eo hx) ?_ ?_
  ·rw [xC gA.eo hx];decide
  ·rw [xC gA.eo hx];decide
 ·have r0:=gA.hs i hi
  exact r0.of_block (kp _ r0.lt (by rw [yQ r0];decide) (by rw [yQ r0];decide))
 ·have r0:=gA.dg i hi
  exact r0.of_block (kp _ r0.lt (by rw [yQ r0];decide) (by rw [yQ r0];decide))
 ·have h2':U.ownsRow w0.heap.size 88 8 (.slice p (bs.length+1) k) (bs++[r]).length (zI1.vals (bs++[r])):=by rw [zD];exact h2
  refine Hd.zB8 h2' fun x hx=>zE U ⟨R,8,none⟩ _ x (fun e=>?_);have e':x=R:=e;have t1:=xC h2' hx;rw [e',yQ bxU] at t1;exact absurd (Option.some.inj t1) (by decide)
 ·rcases yL.1 hr' with y|y
  ·exact (gA.bj r' y).keep fun x hx ht=>kp x hx (by rw [ht];decide) (by rw [ht];decide)
  ·have e:r'=r:=by simpa using y
   rw [e];exact jA.keep fun x hx ht=>kp x hx (by rw [ht];decide) (by rw [ht];decide)
 ·refine List.pairwise_append.2 ⟨h.ap,List.pairwise_singleton _ _,fun r1 hr1 r2 hr2 x hx1 hx2=>?_⟩
  have e:r2=r:=by simpa using hr2
  rw [e] at hx2;have y1:=hn x hx2;obtain ⟨⟨l,hl⟩,_⟩:=(h.bj r1 hr1).rows hx1;have:=hl.lt;omega
 ·rw [List.map_append,zD,List.length_singleton,List.range_succ,List.map_append,h.pl]
  simp [hb]
 ·refine Below.setCell (p:=⟨R,8,none⟩) ⟨h3.os.trans gA.be.os,h3.tape.trans gA.be.tape,h3.output.trans gA.be.output,zI gA.be.size h3.size,fun x hx=>?_⟩ h.gR _
  refine (h3.block x (zF hx gA.be.size) (fun e=>?_)).trans (gA.be.block x hx);rcases gA.bo.2 with ⟨rfl,_⟩|⟨g,cc,cur,rfl,hg,_⟩
  ·simp [Value.ownBlock] at e
  ·simp only [Value.ownBlock,Option.some.injEq] at e
   omega
end BgI
theorem zL8 {w:World} {B e s n:Nat} {v:Value} {xs:List Value} (h:w.ownsRow B e s v n xs) (hn:1<=n) :
  ∃ g cap F,v=.slice (some ⟨g,0,none⟩) n cap/\B<=g/\w.rowIs g e (cap*s) F/\n*s<=cap*s/\∀ j,j<n*s->some (F j)=xs[j]?:=by
 rcases h.2 with ⟨_,h0⟩|⟨g,cap,cur,rfl,hg,hb,h1,_,h3,h4⟩
 ·omega
 ·refine ⟨g,cap,fun j=>cur.getD j undef,rfl,hg,⟨cur,hb,h3,fun i hi=>?_⟩,Nat.mul_le_mul_right s h1,fun j hj=>?_⟩
  ·have hi':i<cur.size:=by omega
   show cur[i]?=some (cur.getD i undef);rw [Array.getElem?_eq_getElem hi'];simp [Array.getD,hi']
  ·have hc:j<cur.size:=zF hj (by rw [h3];exact Nat.mul_le_mul_right s h1)
   rw [<- h4,List.getElem?_take_of_lt hj,Array.getElem?_toList,Array.getElem?_eq_getElem hc];simp [Array.getD,hc]
theorem zE6 {w:World} {lp:Option Addr} {lc:Nat} {l:List Int} (h:Seg w (.slice lp l.length lc) l) (hl:Lies w.heap.size (.slice lp l.length lc)):Nums w lp l:=fun h0=>by
 rcases h with ⟨rfl,_⟩|⟨b,off,cap,e,hc⟩
 ·simp at h0
 ·injection e with e1 _ _
  exact ⟨b,off,e1,hl ⟨b,off,none⟩ _ _ (by rw [e1]) h0,hc⟩
theorem BgI.made {w0 w:World} {c:Cf} {lp mp:Option Addr} {lc mc n m R CB LB:Nat} {H D:Nat->Nat} {bs:List RB} {v vb:Value} (h:BgI w0 w c lp lc (.slice mp c.ms.length mc) m R CB LB n H D bs v vb) (hn1:1<=n) (hbs:bs.length=m) (hm1:1<=m)
  (hcf:CfI w0 c (.slice lp c.ls.length lc) (.slice mp c.ms.length mc)) (htb:∀ k,2<=k->k<=6->w0.cell? ⟨0,k,none⟩=some (.int .i64 (k:Nat))) :
  ∃ M:Mm,M.R=R/\WI w0.heap.size M w c n m (Wo.start c) 1 0:=by
 have hb0:0<w0.heap.size:=zC (w:=w0) (h:=htb 2 (by omega) (by omega));obtain ⟨EB,ce,F,rfl,hE,rE,hNE,hFE⟩:=zL8 h.eo hn1;obtain ⟨BB,cb,FB,rfl,hBB,rB,hNB,hFB⟩:=zL8 h.bo (by omega);obtain ⟨r0,hr0⟩:∃ r0,r0∈bs:=by
  cases bs with
  | nil=>simp at hbs;omega
  | cons r l=>exact ⟨r,yD⟩
 have hmem:∀ k,k<m->bs.getD k r0∈bs:=fun k hk=>by
  rw [zA,zB (by omega)];exact zH _
 have hcw:=hcf.grow h.be;have hFE':∀ j,j<n*4->F j=eaF lp lc c.ls.length H D m j:=fun j hj=>by
  have e:=hFE j hj;obtain ⟨a,k,ha,hk,rfl⟩:∃ a k,a<n/\k<4/\j=a*4+k:=⟨j/4,j%4,by omega,by omega,by omega⟩;have e2:=(yB5 lp lc c.ls.length m).vals_at (0,0,0) (brL H D n) a k (by rw [yB6];exact ha) hk;have e3:(brL H D n).getD a (0,0,0)=(a,H a,D a):=by
   unfold brL;rw [zA,zV,yH ha];rfl
  rw [e3] at e2;have e4:=e.trans e2;unfold eaF stoF;rw [show (a*4+k)/4=a by omega,show (a*4+k)%4=k by omega];have:k=0\/k=1\/k=2\/k=3:=by omega
  rcases this with rfl|rfl|rfl|rfl
  all_goals exact Option.some.inj e4
 have hpl:∀ k,k<m->(bs.getD k r0).b=bk0 c k:=fun k hk=>by
  have e:=congrArg (fun l:List Bo.Plain.Bk=>l[k]?) h.pl;simp only [List.getElem?_map] at e;rw [yH (by omega),zB (by omega)] at e;rw [zA,zB (by omega)];exact Option.some.inj e
 have hFB':∀ j,j<m*8->FB j=bkC (fun k=>(bs.getD k r0).A) (fun k=>(bs.getD k r0).G) (fun k=>(bs.getD k r0).vl) (bk0 c) (fun k=>(bs.getD k r0).N) j:=fun j hj=>by
  obtain ⟨a,k,ha,hk,rfl⟩:∃ a k,a<m/\k<8/\j=a*8+k:=⟨j/8,j%8,by omega,by omega,by omega⟩;have e:=hFB (a*8+k) (by rw [hbs];exact hj);have e2:=zI1.vals_at r0 bs a k (by omega) hk;have e4:=e.trans (e2.trans (xK7 _ k hk));unfold bkC;rw [show (a*8+k)/8=a by omega,show (a*8+k)%8=k by omega,<- hpl a ha];exact Option.some.inj e4
 have hap:∀ k l x,k<m->l<m->rbO (bs.getD k r0) x->rbO (bs.getD l r0) x->k=l:=fun k l x hk hl h1 h2=>by
  have gk:bs.getD k r0=bs[k]'(by omega):=by rw [zA,zB (by omega)];rfl
  have gl:bs.getD l r0=bs[l]'(by omega):=by rw [zA,zB (by omega)];rfl
  have hp:=List.pairwise_iff_getElem.1 h.ap;rcases Nat.lt_trichotomy k l with x1|x1|x1
  ·exact absurd (by rw [<- gl];exact h2) (hp k l (by omega) (by omega) x1 x (by rw [<- gk];exact h1))
  ·exact x1
  ·exact absurd (by rw [<- gk];exact h1) (hp l k (by omega) (by omega) x1 x (by rw [<- gl];exact h2))
 have hge:∀ k x,k<m->rbO (bs.getD k r0) x->w0.heap.size<=x:=fun k x hk hx=>((h.bj _ (hmem k hk)).rows hx).2;refine ⟨{ R:=R,EB:=EB,NC:=ce*4,F:=F,H:=H,D:=D,vo:=fun _ _=>.slice none 0 0,ce:=ce,BB:=BB,NB:=cb*8,FB:=FB,A:=fun k=>(bs.getD k r0).A,G:=fun k=>(bs.getD k r0).G,vl:=fun k=>(bs.getD k r0).vl,N:=fun k=>(bs.getD k r0).N,cb:=cb,po:=.slice none 0 0,vm:=.map none,P:=[],LB:=LB,lp:=lp,lc:=lc,mp:=mp,mc:=mc },rfl,?_⟩;have isb:∀ x,isB H D (fun _ _=>.slice none 0 0) n m x->w0.heap.size<=x:=fun x hx=>by
  rcases hx with (⟨i,hi,rfl⟩|⟨i,k,_,e⟩)|⟨i,hi,rfl⟩
  ·exact h.gD i hi
  ·simp [Value.ownBlock] at e
  ·exact h.gH i hi
 refine ⟨⟨⟨rE,hFE',hNE,fun i hi=>⟨fun _=>.slice none 0 0,h.hs i hi,fun j _=>⟨SegN.nil w,yT _ _ _⟩,fun j _=>TyE.nil _ _ _⟩,h.iH,zE6 hcw.sl hcw.ll⟩,⟨fun i hi=>h.dg i hi,fun i k _ _=>World.ownsRow_nil _ _ _ _,h.iD,fun i k j l b _ _ _ _ e _=>by simp [Value.ownBlock] at e⟩,fun h0 b o e x=>?_⟩,
  ⟨rB,hFB',by rw [<- hbs];exact hNB,fun k hk=>?_,fun k l x hk hl h1 h2=>hap k l x hk hl h1 h2,fun k hk=>(h.bj _ (hmem k hk)).hN⟩,
  ⟨h.bx.congr fun j hj=>?_,World.ownsRow_nil _ _ _ _,fun r hr=>(nomatch hr),rfl,.inl ⟨rfl,fun _ _=>rfl⟩,by show (86:Nat)≠181;decide,by show (86:Nat)≠5;decide,by show 5+2<=10;omega⟩,
  h.lo,fun x hx=>?_,(fun e=>by cases e),hcw,hcf.ll,hcf.lm,fun k h2 h6=>(h.be.cell (p:=⟨0,k,none⟩) hb0).trans (htb k h2 h6),hb0,h.be.size⟩
 ·have:=isb b x
  have e2:lp=some ⟨b,o,none⟩:=e;have e':b<w0.heap.size:=hcf.ll ⟨b,o,none⟩ c.ls.length lc (by rw [e2]) h0;omega
 ·have jb:=h.bj _ (hmem k hk)
  have hb:=jb.bk (R:=BB) (oo:=k*8) (XX:=⟨88,cb*8,FB⟩) (rB.congr fun j hj=>?_) (by show k*8+8<=cb*8;have:=hNB;omega) hBB (by show (88:Nat)≠3;decide)
  ·have hb2:Bo.BkI w0.heap.size BB (k*8) ⟨88,cb*8,FB⟩ (bs.getD k r0).A (bs.getD k r0).G w (bs.getD k r0).vl (bk0 c k) (bs.getD k r0).N:=by rw [<- hpl k hk];exact hb
   exact hb2
  ·unfold Win.f
   by_cases hw:k*8<=j/\j<k*8+8
   ·rw [if_pos hw]
    have e1:=hFB' j (by omega);unfold bkC at e1;rw [show j/8=k by omega,show j%8=j-k*8 by omega,<- hpl k hk] at e1;exact e1
   ·rw [if_neg hw]
 ·have:j=0\/j=1\/j=2\/j=3\/j=4\/j=5\/j=6\/j=7\/j=8\/j=9:=by omega
  rcases this with rfl|rfl|rfl|rfl|rfl|rfl|rfl|rfl|rfl|rfl
  all_goals first|rfl|(rw [hbs];rfl)
 ·rcases hx with rfl|rfl|hx|hx|hx|rfl
  ·exact h.gR
  ·exact hE
  ·exact isb x hx
  ·rcases hx with rfl|⟨k,hk,hx⟩
   ·exact hBB
   ·exact hge k x hk hx
  ·rcases hx with e|e
   ·simp [Value.ownBlock] at e
   ·cases e
  ·exact h.gL
section
variable {P:Program} {ops:Array Oper} {Q:Exit->Act->World->Prop} {md:Region.Mode} {S:World->Prop} {x:Nat}
theorem yP.two (i j:Nat) {d d':Option Tmp} {op op':Op} {ty ty':TypeId} {pos pos':String} {aft aft':Array Edge} {g g':Option (Nat × Bool)} {n:Nat} {listed:Array Bool} {a:Act} {w:World} (hr:Region.ready md ops listed=[i,j])
  (hi:ops[i]?=some ⟨d,op,ty,pos,aft,g⟩) (hw:Region.wanted ⟨d,op,ty,pos,aft,g⟩ (yielded ops a.tmps)=true) (hj:ops[j]?=some ⟨d',op',ty',pos',aft',g'⟩) (hw':Region.wanted ⟨d',op',ty',pos',aft',g'⟩ (yielded ops a.tmps)=true)
  (h:∀ K:Act->World->Prop,Shut (∀ b u,(i≠x->S u)->yP P md ops Q S x n (listed.setIfInBounds i true) b u->K b u)->Oper.wp P ⟨d,op,ty,pos,aft,g⟩ a w K Q)
  (h':∀ K:Act->World->Prop,Shut (∀ b u,(j≠x->S u)->yP P md ops Q S x n (listed.setIfInBounds j true) b u->K b u)->Oper.wp P ⟨d',op',ty',pos',aft',g'⟩ a w K Q):yP P md ops Q S x (n+1) listed a w:=by
 refine ⟨fun h0=>(by rw [hr] at h0;cases h0),fun k hk=>?_⟩;rw [hr] at hk;have hk2:k=i\/k=j:=by simpa using hk
 rcases hk2 with rfl|rfl
 ·refine wpOp_step hi fun K hK=>?_
  rw [if_pos hw];exact h K fun b u h1 h2=>hK b u ⟨h1,h2⟩
 ·refine wpOp_step hj fun K hK=>?_
  rw [if_pos hw'];exact h' K fun b u h1 h2=>hK b u ⟨h1,h2⟩
end
abbrev zGo:Array Value:=#[.int .i64 0,.int .i64 0,.int .i64 0,.int .i64 0,.slice none 0 0,.int .i64 0]
theorem qH5 (W:World) (m:Nat):(W.alloc (.cells (madeCells zGo (m*6)) 114)).rowIs W.heap.size 114 (m*6) zGd:=by
 refine ⟨_,yF _ _,size_madeCells _ _,fun i hi=>?_⟩;have:i%6=0\/i%6=1\/i%6=2\/i%6=3\/i%6=4\/i%6=5:=by omega
 rcases this with e|e|e|e|e|e<;>simp [madeCells,hi,e,gdF,Hd.brF,Hd.Plain.Rk.nil]
theorem xX8 (m:Nat) (hm:m<=3) (W:World):(Instr.makeSlice 92 (.int .i64 (m:Int)) (.int .i64 (m:Int))).run Tryz.prog W=.ok (.slice (some ⟨W.heap.size,0,none⟩) m m) (W.alloc (.cells (madeCells zGo (m*6)) 114)):=by
 obtain ⟨i0,hi,hz0,hz1,hz2⟩:=info_parts (show (Tryz.prog.info? 114).map (fun i=>(i.zero,i.size,i.bytes))=some (some (.agg zGo),6,64) by kernel_rfl);have:=run_make (P:=Tryz.prog) W 92 114 i0 _ Tryz.underlying92 hi hz0 .i64 .i64 (m:Int) (m:Int) (by omega) (Int.le_refl _) (by rw [hz2];omega) (by omega);rw [hz1,show (Value.agg zGo).cells=zGo from rfl] at this;simpa using this
theorem BgI.start (w:World) (c:Cf) (lp:Option Addr) (lc:Nat) (mv:Value) (m:Nat) (H D:Nat->Nat) :
  BgI w (((w.alloc (boxC c (.slice lp c.ls.length lc) mv)).alloc (.map #[] 0)).alloc (.cells #[.int .i64 c.n,(.slice lp c.ls.length lc),.int .i64 c.t,mv,.int .i64 c.cap,.slice none 0 0,.map none,.slice none 0 0,.slice none 0 0,.map (some (w.heap.size+1))] 86)) c lp lc mv m (w.heap.size+1+1) w.heap.size (w.heap.size+1) 0 H D [] (.slice none 0 0) (.slice none 0 0):=by
 obtain ⟨w1,hw1⟩:∃ w1,w1=w.alloc (boxC c (.slice lp c.ls.length lc) mv):=⟨_,rfl⟩;obtain ⟨w2,hw2⟩:∃ w2,w2=w1.alloc (.map #[] 0):=⟨_,rfl⟩;have s1:w1.heap.size=w.heap.size+1:=by rw [hw1];simp
 have s2:w2.heap.size=w.heap.size+1+1:=by rw [hw2];simp [s1]
 have b1:Below w.heap.size w w1:=by rw [hw1];exact yO.alloc yN _
 have b2:Below w1.heap.size w1 w2:=by rw [hw2];exact yO.alloc yN _
 have c1:w1.rowIs w.heap.size 25 5 (cfF c (.slice lp c.ls.length lc) mv):=by
  rw [hw1];refine yK w _ 25 _ fun j hi=>?_;have hi5:j<5:=hi;have:j=0\/j=1\/j=2\/j=3\/j=4:=by omega
  rcases this with rfl|rfl|rfl|rfl|rfl<;>rfl
 have l2:SetI w2 (w.heap.size+1) 0 []:=by rw [hw2,<- s1];exact SetI.made w1
 rw [<- hw1,<- hw2];obtain ⟨w3,hw3⟩:∃ w3,w3=w2.alloc (.cells #[.int .i64 c.n,(.slice lp c.ls.length lc),.int .i64 c.t,mv,.int .i64 c.cap,.slice none 0 0,.map none,.slice none 0 0,.slice none 0 0,.map (some (w.heap.size+1))] 86):=⟨_,rfl⟩;have b3:Below w2.heap.size w2 w3:=by rw [hw3];exact yO.alloc yN _
 have r3:w3.rowIs (w.heap.size+1+1) 86 10 (bgF c (.slice lp c.ls.length lc) mv (w.heap.size+1) (.slice none 0 0) (.slice none 0 0)):=by
  rw [hw3,<- s2];refine yK w2 _ 86 _ fun j hi=>?_;have hi5:j<10:=hi;have:j=0\/j=1\/j=2\/j=3\/j=4\/j=5\/j=6\/j=7\/j=8\/j=9:=by omega
  rcases this with rfl|rfl|rfl|rfl|rfl|rfl|rfl|rfl|rfl|rfl<;>rfl
 rw [<- hw3];have c2:=c1.of_block (b2.block _ c1.lt);exact ⟨r3,c2.of_block (b3.block _ c2.lt),l2.of_block (b3.block _ l2.lt),World.ownsRow_nil _ _ _ _,fun i hi=>absurd hi (yE _),fun i hi=>absurd hi (yE _),fun i j hi=>absurd hi (yE _),fun i j hi=>absurd hi (yE _),fun i hi=>absurd hi (yE _),fun i hi=>absurd hi (yE _),World.ownsRow_nil _ _ _ _,fun r hr=>(nomatch hr),List.Pairwise.nil,rfl,by omega,yN,by omega,(b1.trans (b2.mono b1.size)).trans (b3.mono (by omega))⟩
end Go.Proofs.YtleaknfjbbccgaaGreatDoor
