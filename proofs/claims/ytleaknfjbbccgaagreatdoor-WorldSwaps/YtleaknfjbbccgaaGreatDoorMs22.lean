/- Laid together. -/
import Derived.Test.YtleaknfjbbccgaaGreatDoorMs16
import Derived.Test.YtleaknfjbbccgaaGreatDoorMs21
namespace Go.Proofs.YtleaknfjbbccgaaGreatDoor
open Plain
set_option maxHeartbeats 16000000
set_option maxRecDepth 100000
open Go.RowKit Go.Shelf Go.Sort
theorem EnI.weq {w0 w:World} {m L:Nat} {W V:Wo} {rv pv sv:Value} {rl:List Int} {kp ks:Nat} {P G:Nat->Nat} (h:EnI w0 w m L V rv pv sv rl kp ks P G) (e:Weq W V):EnI w0 w m L W rv pv sv rl kp ks P G :=
 ⟨h.be,h.re,h.po,h.so,fun i hi=>by have:=h.pr i hi;unfold puW at this ⊢;rw [e.ask,e.rk];exact this,fun i hi=>by obtain ⟨f,hf⟩:=h.gr i hi;exact ⟨f,by rw [e.st];exact hf⟩⟩
theorem zQ8 {c:Cf} {l:List Sp} {R:List Vi.RT} (hx:R.map (·.x)=(tlsF c (Wo.start c) l).map toTd) {w:World} {TB:Nat} (h:Vi.OutT w (some ⟨TB,0,none⟩) R) {k:Nat} {t:Tl} (ht:(tlsF c (Wo.start c) l)[k]?=some t) :
  ∃ pf cf,w.cell? ⟨TB,k*11+9,none⟩=some (.slice pf t.frame.length cf)/\Vi.encB.Holds w pf t.frame:=by
 have hR:R.length=(tlsF c (Wo.start c) l).length:=by have:=congrArg List.length hx;rwa [zL,zL] at this
 have hk:k<(tlsF c (Wo.start c) l).length:=(List.getElem?_eq_some_iff.1 ht).1;obtain ⟨bT,oT,eT,lT,gT⟩:=Vi.holdsT h.hd (by omega);have eT1:=Option.some.inj eT;have ebT:TB=bT:=congrArg Addr.block eT1;have eoT:0=oT:=congrArg Addr.off eT1;subst ebT;subst eoT;have kR:k<R.length:=by omega
 have hxr:(R.getD k default).x=toTd t:=by
  have e:=congrArg (·[k]?) hx;simp only [List.getElem?_map,ht,Option.map_some] at e;rw [zB kR,Option.map_some] at e;rw [zA,zB kR];exact Option.some.inj e
 have g9:=gT k kR 9 (by decide);change w.cell? ⟨TB,0+(k*11+9),none⟩=some (.slice (R.getD k default).pf (R.getD k default).x.frame.length (R.getD k default).cf) at g9;have hf:=(h.td _ (show R.getD k default∈R by rw [zA,zB kR];exact zH _)).f.holds;rw [Nat.zero_add] at g9;rw [hxr] at g9 hf;exact ⟨_,_,g9,hf⟩
abbrev box2 (x y:Sp):Obj:=.cells #[.int .i64 x.kind,.int .i64 x.who,.int .i64 x.item,.int .i64 x.count,.int .i64 x.life,.int .i64 x.id,.int .i64 x.label,.int .i64 x.key,.int .i64 y.kind,.int .i64 y.who,.int .i64 y.item,.int .i64 y.count,.int .i64 y.life,.int .i64 y.id,.int .i64 y.label,.int .i64 y.key] 32
theorem xA9 (w:World) (x y:Sp):(Instr.buildSlice 28 2 #[(0,aggX x),(1,aggX y)]).run Tryz.prog w=.ok (.slice (some ⟨w.heap.size,0,none⟩) 2 2) (w.alloc (box2 x y)):=by
 kernel_rfl
theorem jE {o:Oper} {a:Act} {w:World} {K:Act->World->Prop} {Q:Exit->Act->World->Prop} (s t:Operand) (ho:o.op=.buildSlice 28 2 #[(0,s),(1,t)]) (x y:Sp)
  (hs:a.eval s=aggX x) (ht:a.eval t=aggX y) (h:K (a.put o.dst (.slice (some ⟨w.heap.size,0,none⟩) 2 2)) (w.alloc (box2 x y))):o.wp Tryz.prog a w K Q:=by
 unfold Oper.wp execOp;simp only [ho,Sem.run_bind,Sem.run_pure,List.map_toArray,List.map_cons,List.map_nil,hs,ht,xA9,Result.andThen_ok];exact h
theorem box2_holds (w:World) (x y:Sp):qA.Holds (w.alloc (box2 x y)) (some ⟨w.heap.size,0,none⟩) [x,y]:=list_holds qA w [x,y] 32
theorem zQ9 {w:World} {p:Option Addr} {N c:Nat} {L:List Sp} (hN:L.length=N) (hl:N<=1000) (hp:qA.Holds w p L) (hp0:p=none->c=0) (x y:Sp) :
  ∃ p6 c6 w6 p8 c8 w8,(Builtin.append_ #[28,28] 28 #[.slice none 0 0,.slice p N c]).run Tryz.prog w=.ok (.slice p6 N c6) w6 /\
   (Builtin.append_ #[28,28] 28 #[.slice p6 N c6,.slice (some ⟨w6.heap.size,0,none⟩) 2 2]).run Tryz.prog (w6.alloc (box2 x y))=.ok (.slice p8 (N+2) c8) w8/\Below w.heap.size w w6/\Below w.heap.size w (w6.alloc (box2 x y))/\SpR w w8 (.slice p8 (N+2) c8) (L++[x,y]):=by
 obtain ⟨v6,w6,hr6,sp6,_⟩:=(SpR.nil w).app (zG _) (p:=p) (c:=c) hp hp0 (by omega);obtain ⟨p6,c6,rfl,_,_⟩:=sp6.form;rw [List.nil_append] at hr6 sp6;have bA:Below w6.heap.size w6 (w6.alloc (box2 x y)):=yO.alloc yN _;obtain ⟨v8,w8,hr8,sp8,_⟩:=(sp6.grow bA).app (by omega) (q:=[x,y]) (c:=2) (box2_holds w6 x y) (fun e=>by cases e) (by simp);obtain ⟨p8,c8,rfl,_,_⟩:=sp8.form;rw [hN] at hr6 hr8;have e:(L++[x,y]).length=N+2:=by rw [zD,hN];rfl
 rw [e] at hr8 sp8;exact ⟨p6,c6,w6,p8,c8,w8,hr6,hr8,sp6.be,sp6.be.trans (bA.mono sp6.be.size),sp8⟩
theorem zE8 {w:World} {p:Option Addr} {N c:Nat} {L:List Sp} (hN:L.length=N) (hl:N<=1000) (hp:qA.Holds w p L) (hp0:p=none->c=0) (x y:Sp) :
  ∃ p6 c6 w6 p8 c8 w8,(Builtin.append_ #[28,28] 28 #[.slice none 0 0,.slice p N c]).run Tryz.prog (w.alloc (box2 x y))=.ok (.slice p6 N c6) w6 /\
   (Builtin.append_ #[28,28] 28 #[.slice p6 N c6,.slice (some ⟨w.heap.size,0,none⟩) 2 2]).run Tryz.prog w6=.ok (.slice p8 (N+2) c8) w8/\Below w.heap.size w w6/\Below w.heap.size w (w.alloc (box2 x y))/\SpR w w8 (.slice p8 (N+2) c8) (L++[x,y]):=by
 have bA:Below w.heap.size w (w.alloc (box2 x y)):=yO.alloc yN _;obtain ⟨v6,w6,hr6,sp6,_⟩:=(SpR.nil (w.alloc (box2 x y))).app (zG _) (p:=p) (c:=c) (hp.grow bA) hp0 (by omega);obtain ⟨p6,c6,rfl,_,_⟩:=sp6.form;rw [List.nil_append] at hr6 sp6;have hb:=(box2_holds w x y).grow (sp6.be.mono yN);obtain ⟨v8,w8,hr8,sp8,_⟩:=sp6.app (by omega) (q:=[x,y]) (c:=2) hb (fun e=>by cases e) (by simp);obtain ⟨p8,c8,rfl,_,_⟩:=sp8.form;rw [hN] at hr6 hr8;have e:(L++[x,y]).length=N+2:=by rw [zD,hN];rfl
 rw [e] at hr8 sp8;exact ⟨p6,c6,w6,p8,c8,w8,hr6,hr8,bA.trans (sp6.be.mono bA.size),bA,⟨⟨sp8.ow.1,sp8.ow.2.imp id fun ⟨g,cp,cu,e1,hg,r⟩=>⟨g,cp,cu,e1,zI bA.size hg,r⟩⟩,bA.trans (sp8.be.mono bA.size)⟩⟩
namespace Plain
abbrev delI (a:Int):Sp:=⟨10,0,0,0,0,a,0,0⟩
theorem zX1 (c:Cf) (W:Wo) (a:Int):stW c W (delI a)=delW c W a/\stT c W (delI a)=delT W a:=by
 unfold stW stT;rw [if_neg (show ¬ (10:Int)=9 by decide),if_pos (show (10:Int)=10 from rfl),if_neg (show ¬ (10:Int)=9 by decide),if_pos (show (10:Int)=10 from rfl)];exact ⟨rfl,rfl⟩
theorem yH2 (c:Cf) (l:List Sp) (a b:Int):(tlsF c (Wo.start c) (l++[delI a,delI b]))[l.length]?=some (delT (runW c (Wo.start c) l) a)/\(tlsF c (Wo.start c) (l++[delI a,delI b]))[l.length+1]?=some (delT (delW c (runW c (Wo.start c) l) a) b):=by
 constructor
 ·rw [xP1,zR yN,List.take_append_of_le_length yN,yB yN,Nat.sub_self]
  show some (stT c _ (delI a))=_;rw [(zX1 c _ a).2]
 ·rw [xP1,zR (by omega),show l.length+1-l.length=1 by omega]
  show some (stT c (runW c (Wo.start c) ((l++[delI a,delI b]).take (l.length+1))) (delI b))=_;rw [show (l++[delI a,delI b]).take (l.length+1)=l++[delI a] by rw [List.take_append,yB (by omega),show l.length+1-l.length=1 by omega];rfl,zB1];show some (stT c (stW c _ (delI a)) (delI b))=_;rw [(zX1 c _ b).2,(zX1 c _ a).1]
theorem xB0 (c:Cf) (l r:List Sp) (a b:Int):runW c (Wo.start c) ((l++[delI a,delI b])++r)=runW c (delW c (delW c (runW c (Wo.start c) l) a) b) r:=by
 rw [zB1,zB1];show runW c (stW c (stW c _ (delI a)) (delI b)) r=_;rw [(zX1 c _ b).1,(zX1 c _ a).1]
end Plain
theorem zD6 (p:Option Addr) (n cap:Nat) (ls:List Int) (hbig:n<=9223372036854775807) (hn:ls.length=n) (hwf:∀ x,x∈ls->In64 x) (ti mi mo:Int) (hti:In64 ti) (hmi:In64 mi) (hmo:In64 mo) (p2:Option Addr) (n2 cap2:Nat) (ds:List Sp) (hn2:ds.length=n2) (hbig2:n2<=9223372036854775807) (hd:∀ d,d∈ds->InX d) (aa ab:Int) (haa:In64 aa) (hab:In64 ab) (p3:Option Addr) (n3 cap3:Nat) (os:List Sp) (hn3:os.length=n3) (hbig3:n3<=9223372036854775807) (ho:∀ d,d∈os->InX d)
  (w:World) (htb:∀ k,2<=k->k<=6->w.cell? ⟨0,k,none⟩=some (.int .i64 (k:Nat))) (hp:yC0 w p ls) (hp2:qA.Holds w p2 ds) (hp3:qA.Holds w p3 os) :
  Calls Tryz.prog 4 #[.slice p n cap,.int .i64 ti,.int .i64 mi,.int .i64 mo,.slice p2 n2 cap2,.int .i64 aa,.int .i64 ab,.slice p3 n3 cap3] w fun e w'=>e=.returned (.bool true)/\Below w.heap.size w w':=by
 have hb0:0<w.heap.size:=zC (w:=w) (h:=htb 2 (by omega) (by omega));have HTB:=hid (fun X (bx:Below w.heap.size w X) k (h2:2<=k) (h6:k<=6)=>(bx.cell (p:=⟨0,k,none⟩) hb0).trans (htb k h2 h6));have KC:=cfg_c ti mi mo hti hmi hmo p n cap ls hbig hn hwf w hp;have KS:=hid (fun X (bx:Below w.heap.size w X)=>zW8 p2 n2 cap2 80 ds hn2 hbig2 (by omega) hd X (hp2.grow bx));have KR:=hid (fun X (bx:Below w.heap.size w X)=>zW8 p3 n3 cap3 40 os hn3 hbig3 (by omega) ho X (hp3.grow bx));clear hp hp2 hp3 hwf hd ho htb hb0 hti hmi hmo;go_enter Tryz.func4,Tryz.ntmps4
 go_wp2_with fail
 refine KC.mono ?_;rintro e w1 ⟨c,lp,lc,mp,mc,hm,hc4,hc3,hc2,hcc,rfl,hI,b1⟩;clear hcc;have HC:=hid (And.intro hm (And.intro hc4 (And.intro hc3 hc2)));obtain ⟨W1,hW1⟩:∃ W1,W1=w1.alloc (boxC c (.slice lp c.ls.length lc) (.slice mp c.ms.length mc)):=⟨_,rfl⟩;have b2:Below w1.heap.size w1 W1:=by rw [hW1];exact yO.alloc yN _
 have B1:=hid (show Below w.heap.size w W1 from b1.trans (b2.mono b1.size));have C1:=hid (show qY W1 w1.heap.size c (.slice lp c.ls.length lc) (.slice mp c.ms.length mc) by rw [hW1];exact qY.start w1 c (.slice lp c.ls.length lc) (.slice mp c.ms.length mc));have I1:=hid (hI.grow b2);clear KC hm hc4 hc3 hc2 hI b1 b2
 go_upto_region 2 with fail
 rw [<- hW1];obtain ⟨CB,hCB⟩:∃ CB,CB=w1.heap.size:=⟨_,rfl⟩;rw [<- hCB] at C1 ⊢;clear hW1 hCB;have K3:=KS.out W1 B1.out
 go_wp2_with fail
 refine K3.mono ?_;rintro e w3 ⟨q,kc,L0,rfl,sp,hL,hid5⟩;obtain ⟨p4,c4,w4,hrun,sp4⟩:=sp.snoc (by omega) xM4;have RUN:=hid hrun;have HL:=hid hL;have HI5:=hid (show ∀ s,s∈L0++[xM4]->0<=s.id/\s.id<=100000 from fun s hs=>by
  rcases yL.1 hs with y|y
  ·exact hid5 s y
  ·rw [List.mem_singleton.1 y];exact ⟨Int.le_refl _,by decide⟩)
 have SP4:=hid sp4;clear K3 KS sp hrun sp4 hid5 hL
 go_upto_region 3 with (first|(at_builtin;refine xE _ _ 28 RUN.out (by rfl) (by rfl) (by rfl) (by rfl) (by rfl) ?_)|fail)
 obtain ⟨N,hN⟩:∃ N,N=L0.length+1:=⟨_,rfl⟩;obtain ⟨L,hLL⟩:∃ L,L=L0++[xM4]:=⟨_,rfl⟩;have hNL:L.length=N:=by rw [hLL,hN,zD];rfl
 have hN1:N<=81:=by have:=HL.out;omega
 have HNL:=hid hNL;have HTK:=hid (show 0<kC L by rw [hLL,vV,if_pos (show xM4.kind=9 from rfl)];omega);rw [<- hN] at SP4;rw [<- hLL] at SP4 HI5;rw [<- hN];clear hN hLL HL RUN;have B4:=hid (show Below W1.heap.size W1 w4 from SP4.out.be);have HP4:=hid SP4.out.both.2;have KF:=xM6 p4 N c4 L hNL (by omega) w4 SP4.out.both.1;obtain ⟨fn,hfn⟩:∃ fn:Nat,fn=20*kC L:=⟨_,rfl⟩;rw [<- hfn] at KF;have hf0:0<fn:=by have:=HTK.out;omega
 have hf1:fn<=2000:=by have:=zX0 L;omega
 have HFN:=hid hfn;clear hfn hNL
 go_wp2_with fail
 refine KF.mono ?_;rintro e wx ⟨rfl,hx⟩;have hy:=hx.symm;clear hx KF;subst hy;have KA:=fun X=>xD aa (fn:Int) haa.1 haa.2 (by omega) (by omega) X;have KB:=fun X=>xD ab (fn:Int) hab.1 hab.2 (by omega) (by omega) X;have ha:0<=aa%(fn:Int)/\aa%(fn:Int)<(fn:Int):=⟨Int.emod_nonneg _ (by omega),Int.emod_lt_of_pos _ (by omega)⟩;have hb:0<=ab%(fn:Int)/\ab%(fn:Int)<(fn:Int):=⟨Int.emod_nonneg _ (by omega),Int.emod_lt_of_pos _ (by omega)⟩;generalize aa%(fn:Int)=a at KA ha;generalize ab%(fn:Int)=b at KB hb;have HA:=hid ha;have HB:=hid hb;clear ha hb haa hab;obtain ⟨WX,hWX⟩:∃ WX,WX=w4.alloc (boxX ⟨10,0,0,0,0,a,0,0⟩):=⟨_,rfl⟩;have bX:=hid (show Below w4.heap.size w4 WX by rw [hWX];exact yO.alloc yN _);have RX:=hid (show WX.rowIs w4.heap.size 32 8 (spF ⟨10,0,0,0,0,a,0,0⟩) by rw [hWX];exact rowX w4 _);obtain ⟨W2,hW2⟩:∃ W2,W2=WX.alloc (boxX ⟨10,0,0,0,0,b,0,0⟩):=⟨_,rfl⟩;have bY:=hid (show Below WX.heap.size WX W2 by rw [hW2];exact yO.alloc yN _);have RY:=hid (show W2.rowIs WX.heap.size 32 8 (spF ⟨10,0,0,0,0,b,0,0⟩) by rw [hW2];exact rowX WX _);have RX2:=hid (RX.out.of_block (bY.out.block _ RX.out.lt))
 go_wp2_with fail
 refine (KA _).mono ?_;rintro e w9 ⟨rfl,hx9⟩;have hy9:=hx9.symm;clear hx9 KA;subst hy9
 go_upto_region 5 with fail
 rw [<- hWX];obtain ⟨XB,hXB⟩:∃ XB,XB=w4.heap.size:=⟨_,rfl⟩;rw [<- hXB] at RX2 ⊢;clear hWX hXB RX
 go_wp2_with fail
 refine (KB _).mono ?_;rintro e w9 ⟨rfl,hx9⟩;have hy9:=hx9.symm;clear hx9 KB;subst hy9
 go_upto_region 6 with fail
 rw [<- hW2];obtain ⟨YB,hYB⟩:∃ YB,YB=WX.heap.size:=⟨_,rfl⟩;rw [<- hYB] at RY ⊢;have b42:=hid (show Below w4.heap.size w4 W2 from bX.out.trans (bY.out.mono bX.out.size));have B12:=hid (show Below W1.heap.size W1 W2 from B4.out.trans (b42.out.mono B4.out.size));have HW4:=hid SP4.out.both.1;clear hYB hW2 bX bY;have SW:=hid (fun X (bx:Below W2.heap.size W2 X)=>show (fun w':World=>(w'.cell? ⟨CB,0,none⟩=some (.int .i64 c.n)/\w'.cell? ⟨CB,1,none⟩=some (.slice lp c.ls.length lc)/\w'.cell? ⟨CB,2,none⟩=some (.int .i64 c.t)/\w'.cell? ⟨CB,3,none⟩=some (.slice mp c.ms.length mc)/\w'.cell? ⟨CB,4,none⟩=some (.int .i64 c.cap))/\(w'.cell? ⟨XB,0,none⟩=some (.int .i64 10)/\w'.cell? ⟨XB,1,none⟩=some (.int .i64 0)/\w'.cell? ⟨XB,2,none⟩=some (.int .i64 0)/\w'.cell? ⟨XB,3,none⟩=some (.int .i64 0)/\w'.cell? ⟨XB,4,none⟩=some (.int .i64 0)/\w'.cell? ⟨XB,5,none⟩=some (.int .i64 a)/\w'.cell? ⟨XB,6,none⟩=some (.int .i64 0)/\w'.cell? ⟨XB,7,none⟩=some (.int .i64 0))/\(w'.cell? ⟨YB,0,none⟩=some (.int .i64 10)/\w'.cell? ⟨YB,1,none⟩=some (.int .i64 0)/\w'.cell? ⟨YB,2,none⟩=some (.int .i64 0)/\w'.cell? ⟨YB,3,none⟩=some (.int .i64 0)/\w'.cell? ⟨YB,4,none⟩=some (.int .i64 0)/\w'.cell? ⟨YB,5,none⟩=some (.int .i64 b)/\w'.cell? ⟨YB,6,none⟩=some (.int .i64 0)/\w'.cell? ⟨YB,7,none⟩=some (.int .i64 0))) X from by
  have bx1:=B12.out.trans (bx.mono B12.out.size);obtain ⟨k0,k1,k2,k3,k4⟩:=C1.out.below bx1 C1.out.lt;have rx:=RX2.out.of_block (bx.block _ RX2.out.lt);have ry:=RY.out.of_block (bx.block _ RY.out.lt);exact ⟨⟨k0,k1,k2,k3,k4⟩,⟨rx.cell (i:=0) (by decide),rx.cell (i:=1) (by decide),rx.cell (i:=2) (by decide),rx.cell (i:=3) (by decide),rx.cell (i:=4) (by decide),rx.cell (i:=5) (by decide),rx.cell (i:=6) (by decide),rx.cell (i:=7) (by decide)⟩,⟨ry.cell (i:=0) (by decide),ry.cell (i:=1) (by decide),ry.cell (i:=2) (by decide),ry.cell (i:=3) (by decide),ry.cell (i:=4) (by decide),ry.cell (i:=5) (by decide),ry.cell (i:=6) (by decide),ry.cell (i:=7) (by decide)⟩⟩)
 have IW:=hid (fun X (bx:Below W2.heap.size W2 X)=>I1.out.grow (B12.out.trans (bx.mono B12.out.size)));have BW:=hid (fun X (bx:Below W2.heap.size W2 X)=>B1.out.trans ((B12.out.trans (bx.mono B12.out.size)).mono B1.out.size));have HOL:=hid (fun X (bx:Below W2.heap.size W2 X)=>show qA.Holds X p4 L from HW4.out.grow (b42.out.trans (bx.mono b42.out.size)));clear C1 I1 B1 B12 b42 RX2 RY HW4 SP4 B4;obtain ⟨N2,hN2⟩:∃ N2,N2=N+2:=⟨_,rfl⟩;have HN2:=hid hN2;have hN21:N2<=83:=by omega
 clear hN2;have HLPa:=hid (show (L++[delI a,delI b]).length=N2 by rw [zD,HNL.out,HN2.out];rfl);have HLPb:=hid (show (L++[delI b,delI a]).length=N2 by rw [zD,HNL.out,HN2.out];rfl);have mem2:∀ u v:Int,0<=u/\u<(fn:Int)->0<=v/\v<(fn:Int)->∀ s,s∈L++[delI u,delI v]->0<=s.id/\s.id<=100000:=fun u v hu hv s hs=>by
  rcases yL.1 hs with y|y
  ·exact HI5.out s y
  ·simp only [List.mem_cons,List.not_mem_nil,or_false] at y
   rcases y with rfl|rfl
   ·exact ⟨hu.1,(show u<=100000 by omega)⟩
   ·exact ⟨hv.1,(show v<=100000 by omega)⟩
 have HIPa:=hid (mem2 a b HA.out HB.out);have HIPb:=hid (mem2 b a HB.out HA.out);clear mem2;have B0:=hid (Below.refl W2.heap.size W2)
 go_cut [22,23] (fun sa sb wx=>∃ TB R,sa=.slice (some ⟨TB,0,none⟩) N2 N2/\sb=.int .i64 0/\Aside (Below W2.heap.size W2 wx/\Below W2.heap.size W2 wx/\R.map (·.x)=(tlsF c (Wo.start c) (L++[⟨10,0,0,0,0,a,0,0⟩,⟨10,0,0,0,0,b,0,0⟩])).map toTd/\Vi.OutT wx (some ⟨TB,0,none⟩) R))
 case first =>
  as_aux_lemma =>
   have D4:=hid (show Below W2.heap.size W2 W2.drew from yO.drew);have BD:=hid (show Below W2.heap.size W2 W2.drew from B0.out.trans (D4.out.mono B0.out.size));have mixed:Tryz.prog.follows .mixedOrders=true:=by kernel_rfl
   have TS:=SW.out _ BD.out;refine yP.begin (fun w':World=>(w'.cell? ⟨CB,0,none⟩=some (.int .i64 c.n)/\w'.cell? ⟨CB,1,none⟩=some (.slice lp c.ls.length lc)/\w'.cell? ⟨CB,2,none⟩=some (.int .i64 c.t)/\w'.cell? ⟨CB,3,none⟩=some (.slice mp c.ms.length mc)/\w'.cell? ⟨CB,4,none⟩=some (.int .i64 c.cap))/\(w'.cell? ⟨XB,0,none⟩=some (.int .i64 10)/\w'.cell? ⟨XB,1,none⟩=some (.int .i64 0)/\w'.cell? ⟨XB,2,none⟩=some (.int .i64 0)/\w'.cell? ⟨XB,3,none⟩=some (.int .i64 0)/\w'.cell? ⟨XB,4,none⟩=some (.int .i64 0)/\w'.cell? ⟨XB,5,none⟩=some (.int .i64 a)/\w'.cell? ⟨XB,6,none⟩=some (.int .i64 0)/\w'.cell? ⟨XB,7,none⟩=some (.int .i64 0))/\(w'.cell? ⟨YB,0,none⟩=some (.int .i64 10)/\w'.cell? ⟨YB,1,none⟩=some (.int .i64 0)/\w'.cell? ⟨YB,2,none⟩=some (.int .i64 0)/\w'.cell? ⟨YB,3,none⟩=some (.int .i64 0)/\w'.cell? ⟨YB,4,none⟩=some (.int .i64 0)/\w'.cell? ⟨YB,5,none⟩=some (.int .i64 b)/\w'.cell? ⟨YB,6,none⟩=some (.int .i64 0)/\w'.cell? ⟨YB,7,none⟩=some (.int .i64 0))) 12 mixed ?_;refine yP.take 0 (cfV c (.slice lp c.ls.length lc) (.slice mp c.ms.length mc)) rfl (by kernel_rfl) (by kernel_rfl) (by kernel_rfl) (by kernel_rfl) (fun _ _ _ h=>h) TS (by rfl) (fun w' hS=>?_) ?_
   ·(obtain ⟨⟨q0,q1,q2,q3,q4⟩,_,_⟩:=hS;go_simp)
   (try simp only [Act.put,List.setIfInBounds_toArray,List.set_cons_zero,List.set_cons_succ])
   refine yP.take 1 (.slice p4 N c4) rfl (by kernel_rfl) (by kernel_rfl) (by kernel_rfl) (by kernel_rfl) (fun _ _ _ h=>h) TS (by rfl) (fun w' hS=>?_) ?_
   ·(go_simp)
   (try simp only [Act.put,List.setIfInBounds_toArray,List.set_cons_zero,List.set_cons_succ])
   refine yP.take 3 (aggX ⟨10,0,0,0,0,a,0,0⟩) rfl (by kernel_rfl) (by kernel_rfl) (by kernel_rfl) (by kernel_rfl) (fun _ _ _ h=>h) TS (by rfl) (fun w' hS=>?_) ?_
   ·(obtain ⟨_,⟨q0,q1,q2,q3,q4,q5,q6,q7⟩,_⟩:=hS;go_simp)
   (try simp only [Act.put,List.setIfInBounds_toArray,List.set_cons_zero,List.set_cons_succ])
   refine yP.take 4 (aggX ⟨10,0,0,0,0,b,0,0⟩) rfl (by kernel_rfl) (by kernel_rfl) (by kernel_rfl) (by kernel_rfl) (fun _ _ _ h=>h) TS (by rfl) (fun w' hS=>?_) ?_
   ·(obtain ⟨_,_,⟨q0,q1,q2,q3,q4,q5,q6,q7⟩⟩:=hS;go_simp)
   (try simp only [Act.put,List.setIfInBounds_toArray,List.set_cons_zero,List.set_cons_succ])
   refine yP.two 2 5 (by kernel_rfl) rfl (by rfl) rfl (by rfl) (fun K hK=>?_) (fun K hK=>?_)
   ·obtain ⟨p6,c6,w6,p8,c8,w8,hr6,hr8,b6,b68,sp8⟩:=zQ9 HNL.out (by omega) (HOL.out _ BD.out) HP4.out ⟨10,0,0,0,0,a,0,0⟩ ⟨10,0,0,0,0,b,0,0⟩
    rw [<- HN2.out] at hr8 sp8;have RUN6:=hid hr6;have RUN8:=hid hr8;have SP8:=hid sp8;have B6:=hid (show Below W2.heap.size W2 w6 from BD.out.trans (b6.mono BD.out.size));have BA:=hid (show Below W2.heap.size W2 (w6.alloc (box2 ⟨10,0,0,0,0,a,0,0⟩ ⟨10,0,0,0,0,b,0,0⟩)) from BD.out.trans (b68.mono BD.out.size));have B8:=hid (show Below W2.heap.size W2 w8 from BD.out.trans (sp8.be.mono BD.out.size));clear hr6 hr8 b6 b68 sp8;have T6:=SW.out _ B6.out;have TA:=SW.out _ BA.out;have T8:=SW.out _ B8.out;refine xF _ _ 28 rfl 28 rfl (.slice none 0 0) (.slice p4 N c4) (by simp [Act.eval]) (by simp [Act.eval]) RUN6.out ?_;refine hK.out _ _ (fun _=>T6) ?_;clear hK K
    (try simp only [Act.put,List.setIfInBounds_toArray,List.set_cons_zero,List.set_cons_succ])
    refine yP.one 5 (by kernel_rfl) rfl (by rfl) (fun K hK=>?_);refine jE _ _ rfl ⟨10,0,0,0,0,a,0,0⟩ ⟨10,0,0,0,0,b,0,0⟩ (by simp [Act.eval]) (by simp [Act.eval]) ?_;refine hK.out _ _ (fun _=>TA) ?_;clear hK K
    (try simp only [Act.put,List.setIfInBounds_toArray,List.set_cons_zero,List.set_cons_succ])
    refine yP.one 6 (by kernel_rfl) rfl (by rfl) (fun K hK=>?_);refine xF _ _ 28 rfl 28 rfl (.slice p6 N c6) (.slice (some ⟨w6.heap.size,0,none⟩) 2 2) (by simp [Act.eval]) (by simp [Act.eval]) RUN8.out ?_;refine hK.out _ _ (fun _=>T8) ?_;clear hK K
    (try simp only [Act.put,List.setIfInBounds_toArray,List.set_cons_zero,List.set_cons_succ])
    have K7:=kW c lp mp lc mc 4 2 p8 N2 c8 (L++[⟨10,0,0,0,0,a,0,0⟩,⟨10,0,0,0,0,b,0,0⟩]) HLPa.out (by omega) HC.out.1 HC.out.2.1 HC.out.2.2.2 (fun _=>by rw [HC.out.2.2.1];omega) (fun s hs=>jR (HIPa.out s hs)) w8 (IW.out _ B8.out) (HTB.out _ (BW.out _ B8.out)) SP8.out.both.1;refine yP.one 7 (by kernel_rfl) rfl (by rfl) (fun K hK=>?_);go_simp;refine K7.mono ?_;rintro e w7 ⟨TB,R,rfl,hR,hx,ho,_,b7⟩;have B7:=hid (show Below W2.heap.size W2 w7 from B8.out.trans (b7.mono B8.out.size));have G7:=hid (show Below W2.heap.size W2 w7 from (D4.out.trans (SP8.out.be.mono D4.out.size)).trans (b7.mono (zI D4.out.size SP8.out.be.size)));have HX:=hid hx;have HO:=hid ho;have T7:=SW.out _ B7.out;refine hK.out _ _ (fun _=>T7) ?_;clear hK K K7 hR hx ho b7 T6 TS TA T8 RUN6 RUN8
    (try simp only [Act.put,List.setIfInBounds_toArray,List.set_cons_zero,List.set_cons_succ])
    refine yP.one 8 (by kernel_rfl) rfl (by rfl) (fun K hK=>?_);go_simp;refine hK.out _ _ (fun _=>T7) ?_;clear hK K
    (try simp only [Act.put,List.setIfInBounds_toArray,List.set_cons_zero,List.set_cons_succ])
    refine yP.take 9 (.slice (some ⟨TB,0,none⟩) N2 N2) rfl (by kernel_rfl) (by kernel_rfl) (by kernel_rfl) (by kernel_rfl) (fun _ _ _ h=>h) T7 (by rfl) (fun w' hS=>?_) ?_
    ·(go_simp)
    (try simp only [Act.put,List.setIfInBounds_toArray,List.set_cons_zero,List.set_cons_succ])
    refine yP.take 10 (.int .i64 0) rfl (by kernel_rfl) (by kernel_rfl) (by kernel_rfl) (by kernel_rfl) (fun _ _ _ h=>h) T7 (by rfl) (fun w' hS=>?_) ?_
    ·(go_simp)
    (try simp only [Act.put,List.setIfInBounds_toArray,List.set_cons_zero,List.set_cons_succ])
    refine yP.take 11 (.slice (some ⟨TB,0,none⟩) N2 N2) rfl (by kernel_rfl) (by kernel_rfl) (by kernel_rfl) (by kernel_rfl) (fun _ _ _ h=>h) T7 (by rfl) (fun w' hS=>?_) ?_
    ·(go_simp)
    (try simp only [Act.put,List.setIfInBounds_toArray,List.set_cons_zero,List.set_cons_succ])
    refine yP.one 12 (by kernel_rfl) rfl (by rfl) (fun K hK=>?_);go_simp;refine hK.out _ _ (fun h=>absurd rfl h) ?_;clear hK K;refine yP.done (by kernel_rfl) ?_
    (try go_wp2_with fail)
    go_meet
    exact ⟨TB,R,rfl,rfl,(show Aside _ from ⟨B7.out,G7.out,HX.out,HO.out⟩)⟩
   ·obtain ⟨p6,c6,w6,p8,c8,w8,hr6,hr8,b6,b68,sp8⟩:=zE8 HNL.out (by omega) (HOL.out _ BD.out) HP4.out ⟨10,0,0,0,0,a,0,0⟩ ⟨10,0,0,0,0,b,0,0⟩
    rw [<- HN2.out] at hr8 sp8;have RUN6:=hid hr6;have RUN8:=hid hr8;have SP8:=hid sp8;have B6:=hid (show Below W2.heap.size W2 w6 from BD.out.trans (b6.mono BD.out.size));have BA:=hid (show Below W2.heap.size W2 (W2.drew.alloc (box2 ⟨10,0,0,0,0,a,0,0⟩ ⟨10,0,0,0,0,b,0,0⟩)) from BD.out.trans (b68.mono BD.out.size));have B8:=hid (show Below W2.heap.size W2 w8 from BD.out.trans (sp8.be.mono BD.out.size));clear hr6 hr8 b6 b68 sp8;have T6:=SW.out _ B6.out;have TA:=SW.out _ BA.out;have T8:=SW.out _ B8.out;refine jE _ _ rfl ⟨10,0,0,0,0,a,0,0⟩ ⟨10,0,0,0,0,b,0,0⟩ (by simp [Act.eval]) (by simp [Act.eval]) ?_;refine hK.out _ _ (fun _=>TA) ?_;clear hK K
    (try simp only [Act.put,List.setIfInBounds_toArray,List.set_cons_zero,List.set_cons_succ])
    refine yP.one 2 (by kernel_rfl) rfl (by rfl) (fun K hK=>?_);refine xF _ _ 28 rfl 28 rfl (.slice none 0 0) (.slice p4 N c4) (by simp [Act.eval]) (by simp [Act.eval]) RUN6.out ?_;refine hK.out _ _ (fun _=>T6) ?_;clear hK K
    (try simp only [Act.put,List.setIfInBounds_toArray,List.set_cons_zero,List.set_cons_succ])
    refine yP.one 6 (by kernel_rfl) rfl (by rfl) (fun K hK=>?_);refine xF _ _ 28 rfl 28 rfl (.slice p6 N c6) (.slice (some ⟨W2.drew.heap.size,0,none⟩) 2 2) (by simp [Act.eval]) (by simp [Act.eval]) RUN8.out ?_;refine hK.out _ _ (fun _=>T8) ?_;clear hK K
    (try simp only [Act.put,List.setIfInBounds_toArray,List.set_cons_zero,List.set_cons_succ])
    have K7:=kW c lp mp lc mc 4 2 p8 N2 c8 (L++[⟨10,0,0,0,0,a,0,0⟩,⟨10,0,0,0,0,b,0,0⟩]) HLPa.out (by omega) HC.out.1 HC.out.2.1 HC.out.2.2.2 (fun _=>by rw [HC.out.2.2.1];omega) (fun s hs=>jR (HIPa.out s hs)) w8 (IW.out _ B8.out) (HTB.out _ (BW.out _ B8.out)) SP8.out.both.1;refine yP.one 7 (by kernel_rfl) rfl (by rfl) (fun K hK=>?_);go_simp;refine K7.mono ?_;rintro e w7 ⟨TB,R,rfl,hR,hx,ho,_,b7⟩;have B7:=hid (show Below W2.heap.size W2 w7 from B8.out.trans (b7.mono B8.out.size));have G7:=hid (show Below W2.heap.size W2 w7 from (D4.out.trans (SP8.out.be.mono D4.out.size)).trans (b7.mono (zI D4.out.size SP8.out.be.size)));have HX:=hid hx;have HO:=hid ho;have T7:=SW.out _ B7.out;refine hK.out _ _ (fun _=>T7) ?_;clear hK K K7 hR hx ho b7 T6 TS TA T8 RUN6 RUN8
    (try simp only [Act.put,List.setIfInBounds_toArray,List.set_cons_zero,List.set_cons_succ])
    refine yP.one 8 (by kernel_rfl) rfl (by rfl) (fun K hK=>?_);go_simp;refine hK.out _ _ (fun _=>T7) ?_;clear hK K
    (try simp only [Act.put,List.setIfInBounds_toArray,List.set_cons_zero,List.set_cons_succ])
    refine yP.take 9 (.slice (some ⟨TB,0,none⟩) N2 N2) rfl (by kernel_rfl) (by kernel_rfl) (by kernel_rfl) (by kernel_rfl) (fun _ _ _ h=>h) T7 (by rfl) (fun w' hS=>?_) ?_
    ·(go_simp)
    (try simp only [Act.put,List.setIfInBounds_toArray,List.set_cons_zero,List.set_cons_succ])
    refine yP.take 10 (.int .i64 0) rfl (by kernel_rfl) (by kernel_rfl) (by kernel_rfl) (by kernel_rfl) (fun _ _ _ h=>h) T7 (by rfl) (fun w' hS=>?_) ?_
    ·(go_simp)
    (try simp only [Act.put,List.setIfInBounds_toArray,List.set_cons_zero,List.set_cons_succ])
    refine yP.take 11 (.slice (some ⟨TB,0,none⟩) N2 N2) rfl (by kernel_rfl) (by kernel_rfl) (by kernel_rfl) (by kernel_rfl) (fun _ _ _ h=>h) T7 (by rfl) (fun w' hS=>?_) ?_
    ·(go_simp)
    (try simp only [Act.put,List.setIfInBounds_toArray,List.set_cons_zero,List.set_cons_succ])
    refine yP.one 12 (by kernel_rfl) rfl (by rfl) (fun K hK=>?_);go_simp;refine hK.out _ _ (fun h=>absurd rfl h) ?_;clear hK K;refine yP.done (by kernel_rfl) ?_
    (try go_wp2_with fail)
    go_meet
    exact ⟨TB,R,rfl,rfl,(show Aside _ from ⟨B7.out,G7.out,HX.out,HO.out⟩)⟩
 case rest =>
  obtain ⟨TB10,R10,rfl,rfl,HCUT⟩:=hcut;obtain ⟨w10,hw10⟩:∃ w10,w10=wc:=⟨_,rfl⟩;rw [<- hw10] at HCUT ⊢;clear hw10;have B10:=hid HCUT.out.1;have F10:=hid HCUT.out.2.1;have HX10:=hid HCUT.out.2.2.1;have HO10:=hid HCUT.out.2.2.2;clear HCUT
  go_upto_region 7 with fail
  go_cut [24,25] (fun sa sb wx=>∃ TB R,sa=.slice (some ⟨TB,0,none⟩) N2 N2/\sb=.int .i64 0/\Aside (Below W2.heap.size W2 wx/\Below w10.heap.size w10 wx/\R.map (·.x)=(tlsF c (Wo.start c) (L++[⟨10,0,0,0,0,b,0,0⟩,⟨10,0,0,0,0,a,0,0⟩])).map toTd/\Vi.OutT wx (some ⟨TB,0,none⟩) R))
  case first =>
   as_aux_lemma =>
    have D4:=hid (show Below w10.heap.size w10 w10.drew from yO.drew);have BD:=hid (show Below W2.heap.size W2 w10.drew from B10.out.trans (D4.out.mono B10.out.size));have mixed:Tryz.prog.follows .mixedOrders=true:=by kernel_rfl
    have TS:=SW.out _ BD.out;refine yP.begin (fun w':World=>(w'.cell? ⟨CB,0,none⟩=some (.int .i64 c.n)/\w'.cell? ⟨CB,1,none⟩=some (.slice lp c.ls.length lc)/\w'.cell? ⟨CB,2,none⟩=some (.int .i64 c.t)/\w'.cell? ⟨CB,3,none⟩=some (.slice mp c.ms.length mc)/\w'.cell? ⟨CB,4,none⟩=some (.int .i64 c.cap))/\(w'.cell? ⟨XB,0,none⟩=some (.int .i64 10)/\w'.cell? ⟨XB,1,none⟩=some (.int .i64 0)/\w'.cell? ⟨XB,2,none⟩=some (.int .i64 0)/\w'.cell? ⟨XB,3,none⟩=some (.int .i64 0)/\w'.cell? ⟨XB,4,none⟩=some (.int .i64 0)/\w'.cell? ⟨XB,5,none⟩=some (.int .i64 a)/\w'.cell? ⟨XB,6,none⟩=some (.int .i64 0)/\w'.cell? ⟨XB,7,none⟩=some (.int .i64 0))/\(w'.cell? ⟨YB,0,none⟩=some (.int .i64 10)/\w'.cell? ⟨YB,1,none⟩=some (.int .i64 0)/\w'.cell? ⟨YB,2,none⟩=some (.int .i64 0)/\w'.cell? ⟨YB,3,none⟩=some (.int .i64 0)/\w'.cell? ⟨YB,4,none⟩=some (.int .i64 0)/\w'.cell? ⟨YB,5,none⟩=some (.int .i64 b)/\w'.cell? ⟨YB,6,none⟩=some (.int .i64 0)/\w'.cell? ⟨YB,7,none⟩=some (.int .i64 0))) 12 mixed ?_;refine yP.take 0 (cfV c (.slice lp c.ls.length lc) (.slice mp c.ms.length mc)) rfl (by kernel_rfl) (by kernel_rfl) (by kernel_rfl) (by kernel_rfl) (fun _ _ _ h=>h) TS (by rfl) (fun w' hS=>?_) ?_
    ·(obtain ⟨⟨q0,q1,q2,q3,q4⟩,_,_⟩:=hS;go_simp)
    (try simp only [Act.put,List.setIfInBounds_toArray,List.set_cons_zero,List.set_cons_succ])
    refine yP.take 1 (.slice p4 N c4) rfl (by kernel_rfl) (by kernel_rfl) (by kernel_rfl) (by kernel_rfl) (fun _ _ _ h=>h) TS (by rfl) (fun w' hS=>?_) ?_
    ·(go_simp)
    (try simp only [Act.put,List.setIfInBounds_toArray,List.set_cons_zero,List.set_cons_succ])
    refine yP.take 3 (aggX ⟨10,0,0,0,0,b,0,0⟩) rfl (by kernel_rfl) (by kernel_rfl) (by kernel_rfl) (by kernel_rfl) (fun _ _ _ h=>h) TS (by rfl) (fun w' hS=>?_) ?_
    ·(obtain ⟨_,_,⟨q0,q1,q2,q3,q4,q5,q6,q7⟩⟩:=hS;go_simp)
    (try simp only [Act.put,List.setIfInBounds_toArray,List.set_cons_zero,List.set_cons_succ])
    refine yP.take 4 (aggX ⟨10,0,0,0,0,a,0,0⟩) rfl (by kernel_rfl) (by kernel_rfl) (by kernel_rfl) (by kernel_rfl) (fun _ _ _ h=>h) TS (by rfl) (fun w' hS=>?_) ?_
    ·(obtain ⟨_,⟨q0,q1,q2,q3,q4,q5,q6,q7⟩,_⟩:=hS;go_simp)
    (try simp only [Act.put,List.setIfInBounds_toArray,List.set_cons_zero,List.set_cons_succ])
    refine yP.two 2 5 (by kernel_rfl) rfl (by rfl) rfl (by rfl) (fun K hK=>?_) (fun K hK=>?_)
    ·obtain ⟨p6,c6,w6,p8,c8,w8,hr6,hr8,b6,b68,sp8⟩:=zQ9 HNL.out (by omega) (HOL.out _ BD.out) HP4.out ⟨10,0,0,0,0,b,0,0⟩ ⟨10,0,0,0,0,a,0,0⟩
     rw [<- HN2.out] at hr8 sp8;have RUN6:=hid hr6;have RUN8:=hid hr8;have SP8:=hid sp8;have B6:=hid (show Below W2.heap.size W2 w6 from BD.out.trans (b6.mono BD.out.size));have BA:=hid (show Below W2.heap.size W2 (w6.alloc (box2 ⟨10,0,0,0,0,b,0,0⟩ ⟨10,0,0,0,0,a,0,0⟩)) from BD.out.trans (b68.mono BD.out.size));have B8:=hid (show Below W2.heap.size W2 w8 from BD.out.trans (sp8.be.mono BD.out.size));clear hr6 hr8 b6 b68 sp8;have T6:=SW.out _ B6.out;have TA:=SW.out _ BA.out;have T8:=SW.out _ B8.out;refine xF _ _ 28 rfl 28 rfl (.slice none 0 0) (.slice p4 N c4) (by simp [Act.eval]) (by simp [Act.eval]) RUN6.out ?_;refine hK.out _ _ (fun _=>T6) ?_;clear hK K
     (try simp only [Act.put,List.setIfInBounds_toArray,List.set_cons_zero,List.set_cons_succ])
     refine yP.one 5 (by kernel_rfl) rfl (by rfl) (fun K hK=>?_);refine jE _ _ rfl ⟨10,0,0,0,0,b,0,0⟩ ⟨10,0,0,0,0,a,0,0⟩ (by simp [Act.eval]) (by simp [Act.eval]) ?_;refine hK.out _ _ (fun _=>TA) ?_;clear hK K
     (try simp only [Act.put,List.setIfInBounds_toArray,List.set_cons_zero,List.set_cons_succ])
     refine yP.one 6 (by kernel_rfl) rfl (by rfl) (fun K hK=>?_);refine xF _ _ 28 rfl 28 rfl (.slice p6 N c6) (.slice (some ⟨w6.heap.size,0,none⟩) 2 2) (by simp [Act.eval]) (by simp [Act.eval]) RUN8.out ?_;refine hK.out _ _ (fun _=>T8) ?_;clear hK K
     (try simp only [Act.put,List.setIfInBounds_toArray,List.set_cons_zero,List.set_cons_succ])
     have K7:=kW c lp mp lc mc 4 2 p8 N2 c8 (L++[⟨10,0,0,0,0,b,0,0⟩,⟨10,0,0,0,0,a,0,0⟩]) HLPb.out (by omega) HC.out.1 HC.out.2.1 HC.out.2.2.2 (fun _=>by rw [HC.out.2.2.1];omega) (fun s hs=>jR (HIPb.out s hs)) w8 (IW.out _ B8.out) (HTB.out _ (BW.out _ B8.out)) SP8.out.both.1;refine yP.one 7 (by kernel_rfl) rfl (by rfl) (fun K hK=>?_);go_simp;refine K7.mono ?_;rintro e w7 ⟨TB,R,rfl,hR,hx,ho,_,b7⟩;have B7:=hid (show Below W2.heap.size W2 w7 from B8.out.trans (b7.mono B8.out.size));have G7:=hid (show Below w10.heap.size w10 w7 from (D4.out.trans (SP8.out.be.mono D4.out.size)).trans (b7.mono (zI D4.out.size SP8.out.be.size)));have HX:=hid hx;have HO:=hid ho;have T7:=SW.out _ B7.out;refine hK.out _ _ (fun _=>T7) ?_;clear hK K K7 hR hx ho b7 T6 TS TA T8 RUN6 RUN8
     (try simp only [Act.put,List.setIfInBounds_toArray,List.set_cons_zero,List.set_cons_succ])
     refine yP.one 8 (by kernel_rfl) rfl (by rfl) (fun K hK=>?_);go_simp;refine hK.out _ _ (fun _=>T7) ?_;clear hK K
     (try simp only [Act.put,List.setIfInBounds_toArray,List.set_cons_zero,List.set_cons_succ])
     refine yP.take 9 (.slice (some ⟨TB,0,none⟩) N2 N2) rfl (by kernel_rfl) (by kernel_rfl) (by kernel_rfl) (by kernel_rfl) (fun _ _ _ h=>h) T7 (by rfl) (fun w' hS=>?_) ?_
     ·(go_simp)
     (try simp only [Act.put,List.setIfInBounds_toArray,List.set_cons_zero,List.set_cons_succ])
     refine yP.take 10 (.int .i64 0) rfl (by kernel_rfl) (by kernel_rfl) (by kernel_rfl) (by kernel_rfl) (fun _ _ _ h=>h) T7 (by rfl) (fun w' hS=>?_) ?_
     ·(go_simp)
     (try simp only [Act.put,List.setIfInBounds_toArray,List.set_cons_zero,List.set_cons_succ])
     refine yP.take 11 (.slice (some ⟨TB,0,none⟩) N2 N2) rfl (by kernel_rfl) (by kernel_rfl) (by kernel_rfl) (by kernel_rfl) (fun _ _ _ h=>h) T7 (by rfl) (fun w' hS=>?_) ?_
     ·(go_simp)
     (try simp only [Act.put,List.setIfInBounds_toArray,List.set_cons_zero,List.set_cons_succ])
     refine yP.one 12 (by kernel_rfl) rfl (by rfl) (fun K hK=>?_);go_simp;refine hK.out _ _ (fun h=>absurd rfl h) ?_;clear hK K;refine yP.done (by kernel_rfl) ?_
     (try go_wp2_with fail)
     go_meet
     exact ⟨TB,R,rfl,rfl,(show Aside _ from ⟨B7.out,G7.out,HX.out,HO.out⟩)⟩
    ·obtain ⟨p6,c6,w6,p8,c8,w8,hr6,hr8,b6,b68,sp8⟩:=zE8 HNL.out (by omega) (HOL.out _ BD.out) HP4.out ⟨10,0,0,0,0,b,0,0⟩ ⟨10,0,0,0,0,a,0,0⟩
     rw [<- HN2.out] at hr8 sp8;have RUN6:=hid hr6;have RUN8:=hid hr8;have SP8:=hid sp8;have B6:=hid (show Below W2.heap.size W2 w6 from BD.out.trans (b6.mono BD.out.size));have BA:=hid (show Below W2.heap.size W2 (w10.drew.alloc (box2 ⟨10,0,0,0,0,b,0,0⟩ ⟨10,0,0,0,0,a,0,0⟩)) from BD.out.trans (b68.mono BD.out.size));have B8:=hid (show Below W2.heap.size W2 w8 from BD.out.trans (sp8.be.mono BD.out.size));clear hr6 hr8 b6 b68 sp8;have T6:=SW.out _ B6.out;have TA:=SW.out _ BA.out;have T8:=SW.out _ B8.out;refine jE _ _ rfl ⟨10,0,0,0,0,b,0,0⟩ ⟨10,0,0,0,0,a,0,0⟩ (by simp [Act.eval]) (by simp [Act.eval]) ?_;refine hK.out _ _ (fun _=>TA) ?_;clear hK K
     (try simp only [Act.put,List.setIfInBounds_toArray,List.set_cons_zero,List.set_cons_succ])
     refine yP.one 2 (by kernel_rfl) rfl (by rfl) (fun K hK=>?_);refine xF _ _ 28 rfl 28 rfl (.slice none 0 0) (.slice p4 N c4) (by simp [Act.eval]) (by simp [Act.eval]) RUN6.out ?_;refine hK.out _ _ (fun _=>T6) ?_;clear hK K
     (try simp only [Act.put,List.setIfInBounds_toArray,List.set_cons_zero,List.set_cons_succ])
     refine yP.one 6 (by kernel_rfl) rfl (by rfl) (fun K hK=>?_);refine xF _ _ 28 rfl 28 rfl (.slice p6 N c6) (.slice (some ⟨w10.drew.heap.size,0,none⟩) 2 2) (by simp [Act.eval]) (by simp [Act.eval]) RUN8.out ?_;refine hK.out _ _ (fun _=>T8) ?_;clear hK K
     (try simp only [Act.put,List.setIfInBounds_toArray,List.set_cons_zero,List.set_cons_succ])
     have K7:=kW c lp mp lc mc 4 2 p8 N2 c8 (L++[⟨10,0,0,0,0,b,0,0⟩,⟨10,0,0,0,0,a,0,0⟩]) HLPb.out (by omega) HC.out.1 HC.out.2.1 HC.out.2.2.2 (fun _=>by rw [HC.out.2.2.1];omega) (fun s hs=>jR (HIPb.out s hs)) w8 (IW.out _ B8.out) (HTB.out _ (BW.out _ B8.out)) SP8.out.both.1;refine yP.one 7 (by kernel_rfl) rfl (by rfl) (fun K hK=>?_);go_simp;refine K7.mono ?_;rintro e w7 ⟨TB,R,rfl,hR,hx,ho,_,b7⟩;have B7:=hid (show Below W2.heap.size W2 w7 from B8.out.trans (b7.mono B8.out.size));have G7:=hid (show Below w10.heap.size w10 w7 from (D4.out.trans (SP8.out.be.mono D4.out.size)).trans (b7.mono (zI D4.out.size SP8.out.be.size)));have HX:=hid hx;have HO:=hid ho;have T7:=SW.out _ B7.out;refine hK.out _ _ (fun _=>T7) ?_;clear hK K K7 hR hx ho b7 T6 TS TA T8 RUN6 RUN8
     (try simp only [Act.put,List.setIfInBounds_toArray,List.set_cons_zero,List.set_cons_succ])
     refine yP.one 8 (by kernel_rfl) rfl (by rfl) (fun K hK=>?_);go_simp;refine hK.out _ _ (fun _=>T7) ?_;clear hK K
     (try simp only [Act.put,List.setIfInBounds_toArray,List.set_cons_zero,List.set_cons_succ])
     refine yP.take 9 (.slice (some ⟨TB,0,none⟩) N2 N2) rfl (by kernel_rfl) (by kernel_rfl) (by kernel_rfl) (by kernel_rfl) (fun _ _ _ h=>h) T7 (by rfl) (fun w' hS=>?_) ?_
     ·(go_simp)
     (try simp only [Act.put,List.setIfInBounds_toArray,List.set_cons_zero,List.set_cons_succ])
     refine yP.take 10 (.int .i64 0) rfl (by kernel_rfl) (by kernel_rfl) (by kernel_rfl) (by kernel_rfl) (fun _ _ _ h=>h) T7 (by rfl) (fun w' hS=>?_) ?_
     ·(go_simp)
     (try simp only [Act.put,List.setIfInBounds_toArray,List.set_cons_zero,List.set_cons_succ])
     refine yP.take 11 (.slice (some ⟨TB,0,none⟩) N2 N2) rfl (by kernel_rfl) (by kernel_rfl) (by kernel_rfl) (by kernel_rfl) (fun _ _ _ h=>h) T7 (by rfl) (fun w' hS=>?_) ?_
     ·(go_simp)
     (try simp only [Act.put,List.setIfInBounds_toArray,List.set_cons_zero,List.set_cons_succ])
     refine yP.one 12 (by kernel_rfl) rfl (by rfl) (fun K hK=>?_);go_simp;refine hK.out _ _ (fun h=>absurd rfl h) ?_;clear hK K;refine yP.done (by kernel_rfl) ?_
     (try go_wp2_with fail)
     go_meet
     exact ⟨TB,R,rfl,rfl,(show Aside _ from ⟨B7.out,G7.out,HX.out,HO.out⟩)⟩
  case rest =>
   obtain ⟨TB11,R11,rfl,rfl,HCUT⟩:=hcut;obtain ⟨w11,hw11⟩:∃ w11,w11=wc:=⟨_,rfl⟩;rw [<- hw11] at HCUT ⊢;clear hw11;have B11:=hid HCUT.out.1;have F11:=hid HCUT.out.2.1;have HX11:=hid HCUT.out.2.2.1;have HO11:=hid HCUT.out.2.2.2;clear HCUT;have HV:=hid (yC2 HC.out.1 (n:=4) HC.out.2.1 HC.out.2.2.2 L (by rw [HNL.out];omega)).1;have HPL:=hid (show (runW c (Wo.start c) L).off.posted.length=fn by rw [yM0 HC.out.1 (n:=4) HC.out.2.1 HC.out.2.2.2 L.length L rfl (by rw [HNL.out];omega),xA4 HC.out.2.1,HFN.out]);have HT1:=hid (yH2 c L a b);have HT2:=hid (yH2 c L b a);have HRU:=hid (fun r=>And.intro (xB0 c L r a b) (xB0 c L r b a));rw [HNL.out] at HT1 HT2;generalize runW c (Wo.start c) L=V at HV HPL HT1 HT2 HRU;have hta:=xP2 HV.out (i:=a.toNat) (by have:=HA.out;have:=HPL.out;omega);have htb:=xP2 HV.out (i:=b.toNat) (by have:=HB.out;have:=HPL.out;omega);have hwa:=xA8 (W:=V) (a:=a) (by have:=HA.out;have:=HPL.out;omega);have hwb:(delT (delW c V a) b).who=(V.off.at b.toNat).«to»:=by
    have e:=xA8 (W:=delW c V a) (a:=b) (by rw [(qL c V a).1];have:=HB.out;have:=HPL.out;omega);rwa [zL9] at e
   have K12:=qI0 w11 (HTB.out _ (BW.out _ B11.out));have hNN:((N2:Int) != (N:Int)+2)=false:=by rw [HN2.out];simp
   have hn2a:(N:Int)<(N2:Int):=by rw [HN2.out];omega
   obtain ⟨N1,hN1x⟩:∃ N1,N1=N+1:=⟨_,rfl⟩;have hn2b:(N1:Int)<(N2:Int):=by rw [HN2.out];omega
   have hn0:¬ (N:Int)<0:=by omega
   have hn1:¬ (N1:Int)<0:=by omega
   have eN:(N:Int)+1=(N1:Int):=by omega
   have HN1:=hid hN1x;clear hN1x;have HWA:=hid (And.intro hwa hwb);have HTO:=hid (And.intro hta htb);clear hta htb hwa hwb
   go_wp2_with fail
   refine K12.mono ?_;rintro e w12 ⟨rfl,b12⟩;have B12:=hid (show Below W2.heap.size W2 w12 from B11.out.trans (b12.mono B11.out.size));have O10:=hid ((HO10.out.grow F11.out).grow b12);have O11:=hid (HO11.out.grow b12);clear K12 b12 HO10 HO11;have W1a:=hid (yH0 HX10.out O10.out HT1.out.1).1;have W1b:=hid (yH0 HX10.out O10.out HT1.out.2).1;rw [HWA.out.1] at W1a;rw [HWA.out.2] at W1b;have w1a:w12.cell? ⟨TB10,N*11+1,none⟩=some (.int .i64 (V.off.at a.toNat).«to»):=W1a.out;have w1b:w12.cell? ⟨TB10,N1*11+1,none⟩=some (.int .i64 (V.off.at b.toNat).«to»):=by rw [HN1.out];exact W1b.out
   clear W1a W1b;by_cases hto:(V.off.at a.toNat).«to»=(V.off.at b.toNat).«to»
   ·rw [hto] at w1a
    generalize (V.off.at b.toNat).«to»=z at w1a w1b;have hzz:(z==z)=true:=by simp
    have BF:=hid (BW.out _ B12.out);clear hto
    go_upto_region 11 with fail
    trace_state
    go_quiet (fail)
    go_wp2;go_ret
    exact ⟨rfl,⟨BF.out.os,BF.out.tape,BF.out.output,BF.out.size,BF.out.block⟩⟩
   ·as_aux_lemma =>
     have HSW:=hid (xM7 (c:=c) HTO.out.1 HTO.out.2 hto);have HTD1:=hid (yH1 (c:=c) (a:=a) (b:=b) hto);have HTD2:=hid (yH1 (c:=c) (a:=b) (b:=a) (Ne.symm hto));have hzz:((V.off.at a.toNat).«to»==(V.off.at b.toNat).«to»)=false:=by rw [beq_eq_false_iff_ne];exact hto
     generalize (V.off.at a.toNat).«to»=z1 at w1a hzz;generalize (V.off.at b.toNat).«to»=z2 at w1b hzz;clear hto HWA HTO
     go_upto_region 11 with fail
     go_quiet (fail)
     obtain ⟨w13,hw13⟩:∃ w13,w13=w12.drewN nq:=⟨_,rfl⟩;rw [<- hw13];have G13:=hid (show Below w12.heap.size w12 w13 by rw [hw13];exact ⟨rfl,rfl,rfl,yN,fun _ _=>rfl⟩);have B13:=hid (show Below W2.heap.size W2 w13 from B12.out.trans (G13.out.mono B12.out.size));clear hw13 w1a w1b;have K14:=KR.out w13 (BW.out _ B13.out)
     go_wp2_with fail
     refine K14.mono ?_;rintro e w14 ⟨p9,c9,L9,rfl,sp,hL9,hid9⟩;obtain ⟨M9,hM9⟩:∃ M9,M9=L9.length:=⟨_,rfl⟩;have hM91:M9<=40:=by omega
     rw [<- hM9] at sp ⊢;have HL9:=hid hM9.symm;have HP9:=hid sp.both.2;have H90:=hid sp.both.1;have F14:=hid (show Below w13.heap.size w13 w14 from sp.be);have B14:=hid (show Below W2.heap.size W2 w14 from B13.out.trans (sp.be.mono B13.out.size));have HI9:=hid hid9;obtain ⟨N9,hN9⟩:∃ N9,N9=N2+M9:=⟨_,rfl⟩;have HN9:=hid hN9;have hN91:N9<=123:=by omega
     have HLEa:=hid (show ((L++[delI a,delI b])++L9).length=N9 by rw [zD,HLPa.out,HL9.out,HN9.out]);have HLEb:=hid (show ((L++[delI b,delI a])++L9).length=N9 by rw [zD,HLPb.out,HL9.out,HN9.out]);have HIEa:=hid (show ∀ s,s∈(L++[delI a,delI b])++L9->0<=s.id/\s.id<=100000 from fun s hs=>by
      rcases yL.1 hs with y|y
      ·exact HIPa.out s y
      ·exact HI9.out s y)
     have HIEb:=hid (show ∀ s,s∈(L++[delI b,delI a])++L9->0<=s.id/\s.id<=100000 from fun s hs=>by
      rcases yL.1 hs with y|y
      ·exact HIPb.out s y
      ·exact HI9.out s y)
     have O10b:=hid ((O10.out.grow G13.out).grow F14.out);have O11b:=hid ((O11.out.grow G13.out).grow F14.out);clear K14 KR sp hL9 hid9 hM9 hN9 O10 O11 G13 B13 B12
     go_upto_region 14 with fail
     -- what lies behind w14
     have H9:=hid (fun X (bx:Below w14.heap.size w14 X)=>H90.out.grow bx)
     go_cut [28,29,30,31] (fun sa sb sc' sd wx=>∃ rp rc pp pc sq sc w0 P G,sa=.slice rp 2 rc/\sb=.slice pp 4 pc/\sc'=.slice sq 4 sc/\sd=.bool true/\Aside (Below W2.heap.size W2 wx/\Below w14.heap.size w14 wx/\EnI w0 wx 2 3 (runW c (Wo.start c) ((L++[⟨10,0,0,0,0,a,0,0⟩,⟨10,0,0,0,0,b,0,0⟩])++L9)) (.slice rp 2 rc) (.slice pp 4 pc) (.slice sq 4 sc) (Bo.Plain.mapN 2 fun k=>((runW c (Wo.start c) ((L++[⟨10,0,0,0,0,a,0,0⟩,⟨10,0,0,0,0,b,0,0⟩])++L9)).bk k).reserve) 4 4 P G))
     case first =>
      as_aux_lemma =>
       have D4:=hid (show Below w14.heap.size w14 w14.drew from yO.drew);have BD:=hid (show Below W2.heap.size W2 w14.drew from B14.out.trans (D4.out.mono B14.out.size));have mixed:Tryz.prog.follows .mixedOrders=true:=by kernel_rfl
       have TS:=SW.out _ BD.out;refine yP.begin (fun w':World=>(w'.cell? ⟨CB,0,none⟩=some (.int .i64 c.n)/\w'.cell? ⟨CB,1,none⟩=some (.slice lp c.ls.length lc)/\w'.cell? ⟨CB,2,none⟩=some (.int .i64 c.t)/\w'.cell? ⟨CB,3,none⟩=some (.slice mp c.ms.length mc)/\w'.cell? ⟨CB,4,none⟩=some (.int .i64 c.cap))/\(w'.cell? ⟨XB,0,none⟩=some (.int .i64 10)/\w'.cell? ⟨XB,1,none⟩=some (.int .i64 0)/\w'.cell? ⟨XB,2,none⟩=some (.int .i64 0)/\w'.cell? ⟨XB,3,none⟩=some (.int .i64 0)/\w'.cell? ⟨XB,4,none⟩=some (.int .i64 0)/\w'.cell? ⟨XB,5,none⟩=some (.int .i64 a)/\w'.cell? ⟨XB,6,none⟩=some (.int .i64 0)/\w'.cell? ⟨XB,7,none⟩=some (.int .i64 0))/\(w'.cell? ⟨YB,0,none⟩=some (.int .i64 10)/\w'.cell? ⟨YB,1,none⟩=some (.int .i64 0)/\w'.cell? ⟨YB,2,none⟩=some (.int .i64 0)/\w'.cell? ⟨YB,3,none⟩=some (.int .i64 0)/\w'.cell? ⟨YB,4,none⟩=some (.int .i64 0)/\w'.cell? ⟨YB,5,none⟩=some (.int .i64 b)/\w'.cell? ⟨YB,6,none⟩=some (.int .i64 0)/\w'.cell? ⟨YB,7,none⟩=some (.int .i64 0))) 18 mixed ?_;refine yP.take 0 (cfV c (.slice lp c.ls.length lc) (.slice mp c.ms.length mc)) rfl (by kernel_rfl) (by kernel_rfl) (by kernel_rfl) (by kernel_rfl) (fun _ _ _ h=>h) TS (by rfl) (fun w' hS=>?_) ?_
       ·(obtain ⟨⟨q0,q1,q2,q3,q4⟩,_,_⟩:=hS;go_simp)
       (try simp only [Act.put,List.setIfInBounds_toArray,List.set_cons_zero,List.set_cons_succ])
       refine yP.take 1 (.slice p4 N c4) rfl (by kernel_rfl) (by kernel_rfl) (by kernel_rfl) (by kernel_rfl) (fun _ _ _ h=>h) TS (by rfl) (fun w' hS=>?_) ?_
       ·(go_simp)
       (try simp only [Act.put,List.setIfInBounds_toArray,List.set_cons_zero,List.set_cons_succ])
       refine yP.take 3 (aggX ⟨10,0,0,0,0,a,0,0⟩) rfl (by kernel_rfl) (by kernel_rfl) (by kernel_rfl) (by kernel_rfl) (fun _ _ _ h=>h) TS (by rfl) (fun w' hS=>?_) ?_
       ·(obtain ⟨_,⟨q0,q1,q2,q3,q4,q5,q6,q7⟩,_⟩:=hS;go_simp)
       (try simp only [Act.put,List.setIfInBounds_toArray,List.set_cons_zero,List.set_cons_succ])
       refine yP.take 4 (aggX ⟨10,0,0,0,0,b,0,0⟩) rfl (by kernel_rfl) (by kernel_rfl) (by kernel_rfl) (by kernel_rfl) (fun _ _ _ h=>h) TS (by rfl) (fun w' hS=>?_) ?_
       ·(obtain ⟨_,_,⟨q0,q1,q2,q3,q4,q5,q6,q7⟩⟩:=hS;go_simp)
       (try simp only [Act.put,List.setIfInBounds_toArray,List.set_cons_zero,List.set_cons_succ])
       refine yP.take 7 (.slice p9 M9 c9) rfl (by kernel_rfl) (by kernel_rfl) (by kernel_rfl) (by kernel_rfl) (fun _ _ _ h=>h) TS (by rfl) (fun w' hS=>?_) ?_
       ·(go_simp)
       (try simp only [Act.put,List.setIfInBounds_toArray,List.set_cons_zero,List.set_cons_succ])
       refine yP.two 2 5 (by kernel_rfl) rfl (by rfl) rfl (by rfl) (fun K hK=>?_) (fun K hK=>?_)
       ·obtain ⟨p6,c6,w6,p8,c8,w8,hr6,hr8,b6,b68,sp8⟩:=zQ9 HNL.out (by omega) (HOL.out _ BD.out) HP4.out ⟨10,0,0,0,0,a,0,0⟩ ⟨10,0,0,0,0,b,0,0⟩
        rw [<- HN2.out] at hr8 sp8;have RUN6:=hid hr6;have RUN8:=hid hr8;have SP8:=hid sp8;have B6:=hid (show Below W2.heap.size W2 w6 from BD.out.trans (b6.mono BD.out.size));have BA:=hid (show Below W2.heap.size W2 (w6.alloc (box2 ⟨10,0,0,0,0,a,0,0⟩ ⟨10,0,0,0,0,b,0,0⟩)) from BD.out.trans (b68.mono BD.out.size));have B8:=hid (show Below W2.heap.size W2 w8 from BD.out.trans (sp8.be.mono BD.out.size));clear hr6 hr8 b6 b68 sp8;have T6:=SW.out _ B6.out;have TA:=SW.out _ BA.out;have T8:=SW.out _ B8.out;refine xF _ _ 28 rfl 28 rfl (.slice none 0 0) (.slice p4 N c4) (by simp [Act.eval]) (by simp [Act.eval]) RUN6.out ?_;refine hK.out _ _ (fun _=>T6) ?_;clear hK K
        (try simp only [Act.put,List.setIfInBounds_toArray,List.set_cons_zero,List.set_cons_succ])
        refine yP.one 5 (by kernel_rfl) rfl (by rfl) (fun K hK=>?_);refine jE _ _ rfl ⟨10,0,0,0,0,a,0,0⟩ ⟨10,0,0,0,0,b,0,0⟩ (by simp [Act.eval]) (by simp [Act.eval]) ?_;refine hK.out _ _ (fun _=>TA) ?_;clear hK K
        (try simp only [Act.put,List.setIfInBounds_toArray,List.set_cons_zero,List.set_cons_succ])
        refine yP.one 6 (by kernel_rfl) rfl (by rfl) (fun K hK=>?_);refine xF _ _ 28 rfl 28 rfl (.slice p6 N c6) (.slice (some ⟨w6.heap.size,0,none⟩) 2 2) (by simp [Act.eval]) (by simp [Act.eval]) RUN8.out ?_;refine hK.out _ _ (fun _=>T8) ?_;clear hK K
        (try simp only [Act.put,List.setIfInBounds_toArray,List.set_cons_zero,List.set_cons_succ])
        obtain ⟨v9,w9,hr9,sp9,_⟩:=SP8.out.app (by rw [HLPa.out];omega) (p:=p9) (c:=c9) (H9.out _ (D4.out.trans (SP8.out.be.mono D4.out.size))) HP9.out (by rw [HL9.out];omega);obtain ⟨pz,cz,rfl,hhz,hnz⟩:=sp9.form;rw [HL9.out] at hr9;rw [show ((L++[(⟨10,0,0,0,0,a,0,0⟩:Sp),(⟨10,0,0,0,0,b,0,0⟩:Sp)])++L9).length=N9 from HLEa.out] at hr9;have RUN9:=hid hr9;have HZ:=hid (And.intro hhz hnz);have B9:=hid (show Below W2.heap.size W2 w9 from BD.out.trans (sp9.be.mono BD.out.size));have G9:=hid (show Below w14.drew.heap.size w14.drew w9 from sp9.be);have T9:=SW.out _ B9.out;clear hr9 sp9 hhz hnz;have K7:=zQ4 c lp mp lc mc pz N9 cz ((L++[⟨10,0,0,0,0,a,0,0⟩,⟨10,0,0,0,0,b,0,0⟩])++L9) HLEa.out (by omega) HC.out.1 HC.out.2.1 HC.out.2.2.1 HC.out.2.2.2 (fun s hs=>jR (HIEa.out s hs)) HZ.out.2 w9 (IW.out _ B9.out) (HTB.out _ (BW.out _ B9.out)) HZ.out.1;refine yP.one 8 (by kernel_rfl) rfl (by rfl) (fun K hK=>?_);refine xF _ _ 28 rfl 28 rfl (.slice p8 N2 c8) (.slice p9 M9 c9) (by simp [Act.eval]) (by simp [Act.eval]) RUN9.out ?_;refine hK.out _ _ (fun _=>T9) ?_;clear hK K
        (try simp only [Act.put,List.setIfInBounds_toArray,List.set_cons_zero,List.set_cons_succ])
        refine yP.one 9 (by kernel_rfl) rfl (by rfl) (fun K hK=>?_);go_simp;refine K7.mono ?_;rintro e w7 ⟨rp,rc,pp,pc,sq,sc,w0,P,G,rfl,b7,en⟩;have B7:=hid (show Below W2.heap.size W2 w7 from B9.out.trans (b7.mono B9.out.size));have F7:=hid (show Below w14.heap.size w14 w7 from (D4.out.trans (G9.out.mono D4.out.size)).trans (b7.mono (zI D4.out.size G9.out.size)));have EN:=hid en;have T7:=SW.out _ B7.out;refine hK.out _ _ (fun _=>T7) ?_;clear hK K K7 b7 en T6 TS TA T8 T9 RUN6 RUN8 RUN9
        (try simp only [Act.put,List.setIfInBounds_toArray,List.set_cons_zero,List.set_cons_succ])
        refine yP.one 10 (by kernel_rfl) rfl (by rfl) (fun K hK=>?_);go_simp;refine hK.out _ _ (fun _=>T7) ?_;clear hK K
        (try simp only [Act.put,List.setIfInBounds_toArray,List.set_cons_zero,List.set_cons_succ])
        refine yP.take 11 (.slice rp 2 rc) rfl (by kernel_rfl) (by kernel_rfl) (by kernel_rfl) (by kernel_rfl) (fun _ _ _ h=>h) T7 (by rfl) (fun w' hS=>?_) ?_
        ·(go_simp)
        (try simp only [Act.put,List.setIfInBounds_toArray,List.set_cons_zero,List.set_cons_succ])
        refine yP.take 12 (.slice pp 4 pc) rfl (by kernel_rfl) (by kernel_rfl) (by kernel_rfl) (by kernel_rfl) (fun _ _ _ h=>h) T7 (by rfl) (fun w' hS=>?_) ?_
        ·(go_simp)
        (try simp only [Act.put,List.setIfInBounds_toArray,List.set_cons_zero,List.set_cons_succ])
        refine yP.take 13 (.slice sq 4 sc) rfl (by kernel_rfl) (by kernel_rfl) (by kernel_rfl) (by kernel_rfl) (fun _ _ _ h=>h) T7 (by rfl) (fun w' hS=>?_) ?_
        ·(go_simp)
        (try simp only [Act.put,List.setIfInBounds_toArray,List.set_cons_zero,List.set_cons_succ])
        refine yP.take 14 (.bool true) rfl (by kernel_rfl) (by kernel_rfl) (by kernel_rfl) (by kernel_rfl) (fun _ _ _ h=>h) T7 (by rfl) (fun w' hS=>?_) ?_
        ·(go_simp)
        (try simp only [Act.put,List.setIfInBounds_toArray,List.set_cons_zero,List.set_cons_succ])
        refine yP.take 15 (.slice rp 2 rc) rfl (by kernel_rfl) (by kernel_rfl) (by kernel_rfl) (by kernel_rfl) (fun _ _ _ h=>h) T7 (by rfl) (fun w' hS=>?_) ?_
        ·(go_simp)
        (try simp only [Act.put,List.setIfInBounds_toArray,List.set_cons_zero,List.set_cons_succ])
        refine yP.take 16 (.slice pp 4 pc) rfl (by kernel_rfl) (by kernel_rfl) (by kernel_rfl) (by kernel_rfl) (fun _ _ _ h=>h) T7 (by rfl) (fun w' hS=>?_) ?_
        ·(go_simp)
        (try simp only [Act.put,List.setIfInBounds_toArray,List.set_cons_zero,List.set_cons_succ])
        refine yP.take 17 (.slice sq 4 sc) rfl (by kernel_rfl) (by kernel_rfl) (by kernel_rfl) (by kernel_rfl) (fun _ _ _ h=>h) T7 (by rfl) (fun w' hS=>?_) ?_
        ·(go_simp)
        (try simp only [Act.put,List.setIfInBounds_toArray,List.set_cons_zero,List.set_cons_succ])
        refine yP.one 18 (by kernel_rfl) rfl (by rfl) (fun K hK=>?_);go_simp;refine hK.out _ _ (fun h=>absurd rfl h) ?_;clear hK K;refine yP.done (by kernel_rfl) ?_
        (try go_wp2_with fail)
        go_meet
        exact ⟨rp,rc,pp,pc,sq,sc,w0,P,G,rfl,rfl,rfl,rfl,(show Aside _ from ⟨B7.out,F7.out,EN.out⟩)⟩
       ·obtain ⟨p6,c6,w6,p8,c8,w8,hr6,hr8,b6,b68,sp8⟩:=zE8 HNL.out (by omega) (HOL.out _ BD.out) HP4.out ⟨10,0,0,0,0,a,0,0⟩ ⟨10,0,0,0,0,b,0,0⟩
        rw [<- HN2.out] at hr8 sp8;have RUN6:=hid hr6;have RUN8:=hid hr8;have SP8:=hid sp8;have B6:=hid (show Below W2.heap.size W2 w6 from BD.out.trans (b6.mono BD.out.size));have BA:=hid (show Below W2.heap.size W2 (w14.drew.alloc (box2 ⟨10,0,0,0,0,a,0,0⟩ ⟨10,0,0,0,0,b,0,0⟩)) from BD.out.trans (b68.mono BD.out.size));have B8:=hid (show Below W2.heap.size W2 w8 from BD.out.trans (sp8.be.mono BD.out.size));clear hr6 hr8 b6 b68 sp8;have T6:=SW.out _ B6.out;have TA:=SW.out _ BA.out;have T8:=SW.out _ B8.out;refine jE _ _ rfl ⟨10,0,0,0,0,a,0,0⟩ ⟨10,0,0,0,0,b,0,0⟩ (by simp [Act.eval]) (by simp [Act.eval]) ?_;refine hK.out _ _ (fun _=>TA) ?_;clear hK K
        (try simp only [Act.put,List.setIfInBounds_toArray,List.set_cons_zero,List.set_cons_succ])
        refine yP.one 2 (by kernel_rfl) rfl (by rfl) (fun K hK=>?_);refine xF _ _ 28 rfl 28 rfl (.slice none 0 0) (.slice p4 N c4) (by simp [Act.eval]) (by simp [Act.eval]) RUN6.out ?_;refine hK.out _ _ (fun _=>T6) ?_;clear hK K
        (try simp only [Act.put,List.setIfInBounds_toArray,List.set_cons_zero,List.set_cons_succ])
        refine yP.one 6 (by kernel_rfl) rfl (by rfl) (fun K hK=>?_);refine xF _ _ 28 rfl 28 rfl (.slice p6 N c6) (.slice (some ⟨w14.drew.heap.size,0,none⟩) 2 2) (by simp [Act.eval]) (by simp [Act.eval]) RUN8.out ?_;refine hK.out _ _ (fun _=>T8) ?_;clear hK K
        (try simp only [Act.put,List.setIfInBounds_toArray,List.set_cons_zero,List.set_cons_succ])
        obtain ⟨v9,w9,hr9,sp9,_⟩:=SP8.out.app (by rw [HLPa.out];omega) (p:=p9) (c:=c9) (H9.out _ (D4.out.trans (SP8.out.be.mono D4.out.size))) HP9.out (by rw [HL9.out];omega);obtain ⟨pz,cz,rfl,hhz,hnz⟩:=sp9.form;rw [HL9.out] at hr9;rw [show ((L++[(⟨10,0,0,0,0,a,0,0⟩:Sp),(⟨10,0,0,0,0,b,0,0⟩:Sp)])++L9).length=N9 from HLEa.out] at hr9;have RUN9:=hid hr9;have HZ:=hid (And.intro hhz hnz);have B9:=hid (show Below W2.heap.size W2 w9 from BD.out.trans (sp9.be.mono BD.out.size));have G9:=hid (show Below w14.drew.heap.size w14.drew w9 from sp9.be);have T9:=SW.out _ B9.out;clear hr9 sp9 hhz hnz;have K7:=zQ4 c lp mp lc mc pz N9 cz ((L++[⟨10,0,0,0,0,a,0,0⟩,⟨10,0,0,0,0,b,0,0⟩])++L9) HLEa.out (by omega) HC.out.1 HC.out.2.1 HC.out.2.2.1 HC.out.2.2.2 (fun s hs=>jR (HIEa.out s hs)) HZ.out.2 w9 (IW.out _ B9.out) (HTB.out _ (BW.out _ B9.out)) HZ.out.1;refine yP.one 8 (by kernel_rfl) rfl (by rfl) (fun K hK=>?_);refine xF _ _ 28 rfl 28 rfl (.slice p8 N2 c8) (.slice p9 M9 c9) (by simp [Act.eval]) (by simp [Act.eval]) RUN9.out ?_;refine hK.out _ _ (fun _=>T9) ?_;clear hK K
        (try simp only [Act.put,List.setIfInBounds_toArray,List.set_cons_zero,List.set_cons_succ])
        refine yP.one 9 (by kernel_rfl) rfl (by rfl) (fun K hK=>?_);go_simp;refine K7.mono ?_;rintro e w7 ⟨rp,rc,pp,pc,sq,sc,w0,P,G,rfl,b7,en⟩;have B7:=hid (show Below W2.heap.size W2 w7 from B9.out.trans (b7.mono B9.out.size));have F7:=hid (show Below w14.heap.size w14 w7 from (D4.out.trans (G9.out.mono D4.out.size)).trans (b7.mono (zI D4.out.size G9.out.size)));have EN:=hid en;have T7:=SW.out _ B7.out;refine hK.out _ _ (fun _=>T7) ?_;clear hK K K7 b7 en T6 TS TA T8 T9 RUN6 RUN8 RUN9
        (try simp only [Act.put,List.setIfInBounds_toArray,List.set_cons_zero,List.set_cons_succ])
        refine yP.one 10 (by kernel_rfl) rfl (by rfl) (fun K hK=>?_);go_simp;refine hK.out _ _ (fun _=>T7) ?_;clear hK K
        (try simp only [Act.put,List.setIfInBounds_toArray,List.set_cons_zero,List.set_cons_succ])
        refine yP.take 11 (.slice rp 2 rc) rfl (by kernel_rfl) (by kernel_rfl) (by kernel_rfl) (by kernel_rfl) (fun _ _ _ h=>h) T7 (by rfl) (fun w' hS=>?_) ?_
        ·(go_simp)
        (try simp only [Act.put,List.setIfInBounds_toArray,List.set_cons_zero,List.set_cons_succ])
        refine yP.take 12 (.slice pp 4 pc) rfl (by kernel_rfl) (by kernel_rfl) (by kernel_rfl) (by kernel_rfl) (fun _ _ _ h=>h) T7 (by rfl) (fun w' hS=>?_) ?_
        ·(go_simp)
        (try simp only [Act.put,List.setIfInBounds_toArray,List.set_cons_zero,List.set_cons_succ])
        refine yP.take 13 (.slice sq 4 sc) rfl (by kernel_rfl) (by kernel_rfl) (by kernel_rfl) (by kernel_rfl) (fun _ _ _ h=>h) T7 (by rfl) (fun w' hS=>?_) ?_
        ·(go_simp)
        (try simp only [Act.put,List.setIfInBounds_toArray,List.set_cons_zero,List.set_cons_succ])
        refine yP.take 14 (.bool true) rfl (by kernel_rfl) (by kernel_rfl) (by kernel_rfl) (by kernel_rfl) (fun _ _ _ h=>h) T7 (by rfl) (fun w' hS=>?_) ?_
        ·(go_simp)
        (try simp only [Act.put,List.setIfInBounds_toArray,List.set_cons_zero,List.set_cons_succ])
        refine yP.take 15 (.slice rp 2 rc) rfl (by kernel_rfl) (by kernel_rfl) (by kernel_rfl) (by kernel_rfl) (fun _ _ _ h=>h) T7 (by rfl) (fun w' hS=>?_) ?_
        ·(go_simp)
        (try simp only [Act.put,List.setIfInBounds_toArray,List.set_cons_zero,List.set_cons_succ])
        refine yP.take 16 (.slice pp 4 pc) rfl (by kernel_rfl) (by kernel_rfl) (by kernel_rfl) (by kernel_rfl) (fun _ _ _ h=>h) T7 (by rfl) (fun w' hS=>?_) ?_
        ·(go_simp)
        (try simp only [Act.put,List.setIfInBounds_toArray,List.set_cons_zero,List.set_cons_succ])
        refine yP.take 17 (.slice sq 4 sc) rfl (by kernel_rfl) (by kernel_rfl) (by kernel_rfl) (by kernel_rfl) (fun _ _ _ h=>h) T7 (by rfl) (fun w' hS=>?_) ?_
        ·(go_simp)
        (try simp only [Act.put,List.setIfInBounds_toArray,List.set_cons_zero,List.set_cons_succ])
        refine yP.one 18 (by kernel_rfl) rfl (by rfl) (fun K hK=>?_);go_simp;refine hK.out _ _ (fun h=>absurd rfl h) ?_;clear hK K;refine yP.done (by kernel_rfl) ?_
        (try go_wp2_with fail)
        go_meet
        exact ⟨rp,rc,pp,pc,sq,sc,w0,P,G,rfl,rfl,rfl,rfl,(show Aside _ from ⟨B7.out,F7.out,EN.out⟩)⟩
     case rest =>
      obtain ⟨rp20,rc20,pp20,pc20,sq20,sc20,w020,P20,G20,rfl,rfl,rfl,rfl,HCUT⟩:=hcut;obtain ⟨w20,hw20⟩:∃ w20,w20=wc:=⟨_,rfl⟩;rw [<- hw20] at HCUT ⊢;clear hw20;have B20:=hid HCUT.out.1;have F20:=hid HCUT.out.2.1;have EN20:=hid HCUT.out.2.2;clear HCUT
      go_upto_region 15 with fail
      go_cut [32,33,34,35] (fun sa sb sc' sd wx=>∃ rp rc pp pc sq sc w0 P G,sa=.slice rp 2 rc/\sb=.slice pp 4 pc/\sc'=.slice sq 4 sc/\sd=.bool true/\Aside (Below W2.heap.size W2 wx/\Below w20.heap.size w20 wx/\EnI w0 wx 2 3 (runW c (Wo.start c) ((L++[⟨10,0,0,0,0,b,0,0⟩,⟨10,0,0,0,0,a,0,0⟩])++L9)) (.slice rp 2 rc) (.slice pp 4 pc) (.slice sq 4 sc) (Bo.Plain.mapN 2 fun k=>((runW c (Wo.start c) ((L++[⟨10,0,0,0,0,b,0,0⟩,⟨10,0,0,0,0,a,0,0⟩])++L9)).bk k).reserve) 4 4 P G))
      case first =>
       as_aux_lemma =>
        have D4:=hid (show Below w20.heap.size w20 w20.drew from yO.drew);have BD:=hid (show Below W2.heap.size W2 w20.drew from B20.out.trans (D4.out.mono B20.out.size));have mixed:Tryz.prog.follows .mixedOrders=true:=by kernel_rfl
        have TS:=SW.out _ BD.out;refine yP.begin (fun w':World=>(w'.cell? ⟨CB,0,none⟩=some (.int .i64 c.n)/\w'.cell? ⟨CB,1,none⟩=some (.slice lp c.ls.length lc)/\w'.cell? ⟨CB,2,none⟩=some (.int .i64 c.t)/\w'.cell? ⟨CB,3,none⟩=some (.slice mp c.ms.length mc)/\w'.cell? ⟨CB,4,none⟩=some (.int .i64 c.cap))/\(w'.cell? ⟨XB,0,none⟩=some (.int .i64 10)/\w'.cell? ⟨XB,1,none⟩=some (.int .i64 0)/\w'.cell? ⟨XB,2,none⟩=some (.int .i64 0)/\w'.cell? ⟨XB,3,none⟩=some (.int .i64 0)/\w'.cell? ⟨XB,4,none⟩=some (.int .i64 0)/\w'.cell? ⟨XB,5,none⟩=some (.int .i64 a)/\w'.cell? ⟨XB,6,none⟩=some (.int .i64 0)/\w'.cell? ⟨XB,7,none⟩=some (.int .i64 0))/\(w'.cell? ⟨YB,0,none⟩=some (.int .i64 10)/\w'.cell? ⟨YB,1,none⟩=some (.int .i64 0)/\w'.cell? ⟨YB,2,none⟩=some (.int .i64 0)/\w'.cell? ⟨YB,3,none⟩=some (.int .i64 0)/\w'.cell? ⟨YB,4,none⟩=some (.int .i64 0)/\w'.cell? ⟨YB,5,none⟩=some (.int .i64 b)/\w'.cell? ⟨YB,6,none⟩=some (.int .i64 0)/\w'.cell? ⟨YB,7,none⟩=some (.int .i64 0))) 18 mixed ?_;refine yP.take 0 (cfV c (.slice lp c.ls.length lc) (.slice mp c.ms.length mc)) rfl (by kernel_rfl) (by kernel_rfl) (by kernel_rfl) (by kernel_rfl) (fun _ _ _ h=>h) TS (by rfl) (fun w' hS=>?_) ?_
        ·(obtain ⟨⟨q0,q1,q2,q3,q4⟩,_,_⟩:=hS;go_simp)
        (try simp only [Act.put,List.setIfInBounds_toArray,List.set_cons_zero,List.set_cons_succ])
        refine yP.take 1 (.slice p4 N c4) rfl (by kernel_rfl) (by kernel_rfl) (by kernel_rfl) (by kernel_rfl) (fun _ _ _ h=>h) TS (by rfl) (fun w' hS=>?_) ?_
        ·(go_simp)
        (try simp only [Act.put,List.setIfInBounds_toArray,List.set_cons_zero,List.set_cons_succ])
        refine yP.take 3 (aggX ⟨10,0,0,0,0,b,0,0⟩) rfl (by kernel_rfl) (by kernel_rfl) (by kernel_rfl) (by kernel_rfl) (fun _ _ _ h=>h) TS (by rfl) (fun w' hS=>?_) ?_
        ·(obtain ⟨_,_,⟨q0,q1,q2,q3,q4,q5,q6,q7⟩⟩:=hS;go_simp)
        (try simp only [Act.put,List.setIfInBounds_toArray,List.set_cons_zero,List.set_cons_succ])
        refine yP.take 4 (aggX ⟨10,0,0,0,0,a,0,0⟩) rfl (by kernel_rfl) (by kernel_rfl) (by kernel_rfl) (by kernel_rfl) (fun _ _ _ h=>h) TS (by rfl) (fun w' hS=>?_) ?_
        ·(obtain ⟨_,⟨q0,q1,q2,q3,q4,q5,q6,q7⟩,_⟩:=hS;go_simp)
        (try simp only [Act.put,List.setIfInBounds_toArray,List.set_cons_zero,List.set_cons_succ])
        refine yP.take 7 (.slice p9 M9 c9) rfl (by kernel_rfl) (by kernel_rfl) (by kernel_rfl) (by kernel_rfl) (fun _ _ _ h=>h) TS (by rfl) (fun w' hS=>?_) ?_
        ·(go_simp)
        (try simp only [Act.put,List.setIfInBounds_toArray,List.set_cons_zero,List.set_cons_succ])
        refine yP.two 2 5 (by kernel_rfl) rfl (by rfl) rfl (by rfl) (fun K hK=>?_) (fun K hK=>?_)
        ·obtain ⟨p6,c6,w6,p8,c8,w8,hr6,hr8,b6,b68,sp8⟩:=zQ9 HNL.out (by omega) (HOL.out _ BD.out) HP4.out ⟨10,0,0,0,0,b,0,0⟩ ⟨10,0,0,0,0,a,0,0⟩
         rw [<- HN2.out] at hr8 sp8;have RUN6:=hid hr6;have RUN8:=hid hr8;have SP8:=hid sp8;have B6:=hid (show Below W2.heap.size W2 w6 from BD.out.trans (b6.mono BD.out.size));have BA:=hid (show Below W2.heap.size W2 (w6.alloc (box2 ⟨10,0,0,0,0,b,0,0⟩ ⟨10,0,0,0,0,a,0,0⟩)) from BD.out.trans (b68.mono BD.out.size));have B8:=hid (show Below W2.heap.size W2 w8 from BD.out.trans (sp8.be.mono BD.out.size));clear hr6 hr8 b6 b68 sp8;have T6:=SW.out _ B6.out;have TA:=SW.out _ BA.out;have T8:=SW.out _ B8.out;refine xF _ _ 28 rfl 28 rfl (.slice none 0 0) (.slice p4 N c4) (by simp [Act.eval]) (by simp [Act.eval]) RUN6.out ?_;refine hK.out _ _ (fun _=>T6) ?_;clear hK K
         (try simp only [Act.put,List.setIfInBounds_toArray,List.set_cons_zero,List.set_cons_succ])
         refine yP.one 5 (by kernel_rfl) rfl (by rfl) (fun K hK=>?_);refine jE _ _ rfl ⟨10,0,0,0,0,b,0,0⟩ ⟨10,0,0,0,0,a,0,0⟩ (by simp [Act.eval]) (by simp [Act.eval]) ?_;refine hK.out _ _ (fun _=>TA) ?_;clear hK K
         (try simp only [Act.put,List.setIfInBounds_toArray,List.set_cons_zero,List.set_cons_succ])
         refine yP.one 6 (by kernel_rfl) rfl (by rfl) (fun K hK=>?_);refine xF _ _ 28 rfl 28 rfl (.slice p6 N c6) (.slice (some ⟨w6.heap.size,0,none⟩) 2 2) (by simp [Act.eval]) (by simp [Act.eval]) RUN8.out ?_;refine hK.out _ _ (fun _=>T8) ?_;clear hK K
         (try simp only [Act.put,List.setIfInBounds_toArray,List.set_cons_zero,List.set_cons_succ])
         obtain ⟨v9,w9,hr9,sp9,_⟩:=SP8.out.app (by rw [HLPb.out];omega) (p:=p9) (c:=c9) (H9.out _ (F20.out.trans ((D4.out.trans (SP8.out.be.mono D4.out.size)).mono F20.out.size))) HP9.out (by rw [HL9.out];omega);obtain ⟨pz,cz,rfl,hhz,hnz⟩:=sp9.form;rw [HL9.out] at hr9;rw [show ((L++[(⟨10,0,0,0,0,b,0,0⟩:Sp),(⟨10,0,0,0,0,a,0,0⟩:Sp)])++L9).length=N9 from HLEb.out] at hr9;have RUN9:=hid hr9;have HZ:=hid (And.intro hhz hnz);have B9:=hid (show Below W2.heap.size W2 w9 from BD.out.trans (sp9.be.mono BD.out.size));have G9:=hid (show Below w20.drew.heap.size w20.drew w9 from sp9.be);have T9:=SW.out _ B9.out;clear hr9 sp9 hhz hnz;have K7:=zQ4 c lp mp lc mc pz N9 cz ((L++[⟨10,0,0,0,0,b,0,0⟩,⟨10,0,0,0,0,a,0,0⟩])++L9) HLEb.out (by omega) HC.out.1 HC.out.2.1 HC.out.2.2.1 HC.out.2.2.2 (fun s hs=>jR (HIEb.out s hs)) HZ.out.2 w9 (IW.out _ B9.out) (HTB.out _ (BW.out _ B9.out)) HZ.out.1;refine yP.one 8 (by kernel_rfl) rfl (by rfl) (fun K hK=>?_);refine xF _ _ 28 rfl 28 rfl (.slice p8 N2 c8) (.slice p9 M9 c9) (by simp [Act.eval]) (by simp [Act.eval]) RUN9.out ?_;refine hK.out _ _ (fun _=>T9) ?_;clear hK K
         (try simp only [Act.put,List.setIfInBounds_toArray,List.set_cons_zero,List.set_cons_succ])
         refine yP.one 9 (by kernel_rfl) rfl (by rfl) (fun K hK=>?_);go_simp;refine K7.mono ?_;rintro e w7 ⟨rp,rc,pp,pc,sq,sc,w0,P,G,rfl,b7,en⟩;have B7:=hid (show Below W2.heap.size W2 w7 from B9.out.trans (b7.mono B9.out.size));have F7:=hid (show Below w20.heap.size w20 w7 from (D4.out.trans (G9.out.mono D4.out.size)).trans (b7.mono (zI D4.out.size G9.out.size)));have EN:=hid en;have T7:=SW.out _ B7.out;refine hK.out _ _ (fun _=>T7) ?_;clear hK K K7 b7 en T6 TS TA T8 T9 RUN6 RUN8 RUN9
         (try simp only [Act.put,List.setIfInBounds_toArray,List.set_cons_zero,List.set_cons_succ])
         refine yP.one 10 (by kernel_rfl) rfl (by rfl) (fun K hK=>?_);go_simp;refine hK.out _ _ (fun _=>T7) ?_;clear hK K
         (try simp only [Act.put,List.setIfInBounds_toArray,List.set_cons_zero,List.set_cons_succ])
         refine yP.take 11 (.slice rp 2 rc) rfl (by kernel_rfl) (by kernel_rfl) (by kernel_rfl) (by kernel_rfl) (fun _ _ _ h=>h) T7 (by rfl) (fun w' hS=>?_) ?_
         ·(go_simp)
         (try simp only [Act.put,List.setIfInBounds_toArray,List.set_cons_zero,List.set_cons_succ])
         refine yP.take 12 (.slice pp 4 pc) rfl (by kernel_rfl) (by kernel_rfl) (by kernel_rfl) (by kernel_rfl) (fun _ _ _ h=>h) T7 (by rfl) (fun w' hS=>?_) ?_
         ·(go_simp)
         (try simp only [Act.put,List.setIfInBounds_toArray,List.set_cons_zero,List.set_cons_succ])
         refine yP.take 13 (.slice sq 4 sc) rfl (by kernel_rfl) (by kernel_rfl) (by kernel_rfl) (by kernel_rfl) (fun _ _ _ h=>h) T7 (by rfl) (fun w' hS=>?_) ?_
         ·(go_simp)
         (try simp only [Act.put,List.setIfInBounds_toArray,List.set_cons_zero,List.set_cons_succ])
         refine yP.take 14 (.bool true) rfl (by kernel_rfl) (by kernel_rfl) (by kernel_rfl) (by kernel_rfl) (fun _ _ _ h=>h) T7 (by rfl) (fun w' hS=>?_) ?_
         ·(go_simp)
         (try simp only [Act.put,List.setIfInBounds_toArray,List.set_cons_zero,List.set_cons_succ])
         refine yP.take 15 (.slice rp 2 rc) rfl (by kernel_rfl) (by kernel_rfl) (by kernel_rfl) (by kernel_rfl) (fun _ _ _ h=>h) T7 (by rfl) (fun w' hS=>?_) ?_
         ·(go_simp)
         (try simp only [Act.put,List.setIfInBounds_toArray,List.set_cons_zero,List.set_cons_succ])
         refine yP.take 16 (.slice pp 4 pc) rfl (by kernel_rfl) (by kernel_rfl) (by kernel_rfl) (by kernel_rfl) (fun _ _ _ h=>h) T7 (by rfl) (fun w' hS=>?_) ?_
         ·(go_simp)
         (try simp only [Act.put,List.setIfInBounds_toArray,List.set_cons_zero,List.set_cons_succ])
         refine yP.take 17 (.slice sq 4 sc) rfl (by kernel_rfl) (by kernel_rfl) (by kernel_rfl) (by kernel_rfl) (fun _ _ _ h=>h) T7 (by rfl) (fun w' hS=>?_) ?_
         ·(go_simp)
         (try simp only [Act.put,List.setIfInBounds_toArray,List.set_cons_zero,List.set_cons_succ])
         refine yP.one 18 (by kernel_rfl) rfl (by rfl) (fun K hK=>?_);go_simp;refine hK.out _ _ (fun h=>absurd rfl h) ?_;clear hK K;refine yP.done (by kernel_rfl) ?_
         (try go_wp2_with fail)
         go_meet
         exact ⟨rp,rc,pp,pc,sq,sc,w0,P,G,rfl,rfl,rfl,rfl,(show Aside _ from ⟨B7.out,F7.out,EN.out⟩)⟩
        ·obtain ⟨p6,c6,w6,p8,c8,w8,hr6,hr8,b6,b68,sp8⟩:=zE8 HNL.out (by omega) (HOL.out _ BD.out) HP4.out ⟨10,0,0,0,0,b,0,0⟩ ⟨10,0,0,0,0,a,0,0⟩
         rw [<- HN2.out] at hr8 sp8;have RUN6:=hid hr6;have RUN8:=hid hr8;have SP8:=hid sp8;have B6:=hid (show Below W2.heap.size W2 w6 from BD.out.trans (b6.mono BD.out.size));have BA:=hid (show Below W2.heap.size W2 (w20.drew.alloc (box2 ⟨10,0,0,0,0,b,0,0⟩ ⟨10,0,0,0,0,a,0,0⟩)) from BD.out.trans (b68.mono BD.out.size));have B8:=hid (show Below W2.heap.size W2 w8 from BD.out.trans (sp8.be.mono BD.out.size));clear hr6 hr8 b6 b68 sp8;have T6:=SW.out _ B6.out;have TA:=SW.out _ BA.out;have T8:=SW.out _ B8.out;refine jE _ _ rfl ⟨10,0,0,0,0,b,0,0⟩ ⟨10,0,0,0,0,a,0,0⟩ (by simp [Act.eval]) (by simp [Act.eval]) ?_;refine hK.out _ _ (fun _=>TA) ?_;clear hK K
         (try simp only [Act.put,List.setIfInBounds_toArray,List.set_cons_zero,List.set_cons_succ])
         refine yP.one 2 (by kernel_rfl) rfl (by rfl) (fun K hK=>?_);refine xF _ _ 28 rfl 28 rfl (.slice none 0 0) (.slice p4 N c4) (by simp [Act.eval]) (by simp [Act.eval]) RUN6.out ?_;refine hK.out _ _ (fun _=>T6) ?_;clear hK K
         (try simp only [Act.put,List.setIfInBounds_toArray,List.set_cons_zero,List.set_cons_succ])
         refine yP.one 6 (by kernel_rfl) rfl (by rfl) (fun K hK=>?_);refine xF _ _ 28 rfl 28 rfl (.slice p6 N c6) (.slice (some ⟨w20.drew.heap.size,0,none⟩) 2 2) (by simp [Act.eval]) (by simp [Act.eval]) RUN8.out ?_;refine hK.out _ _ (fun _=>T8) ?_;clear hK K
         (try simp only [Act.put,List.setIfInBounds_toArray,List.set_cons_zero,List.set_cons_succ])
         obtain ⟨v9,w9,hr9,sp9,_⟩:=SP8.out.app (by rw [HLPb.out];omega) (p:=p9) (c:=c9) (H9.out _ (F20.out.trans ((D4.out.trans (SP8.out.be.mono D4.out.size)).mono F20.out.size))) HP9.out (by rw [HL9.out];omega);obtain ⟨pz,cz,rfl,hhz,hnz⟩:=sp9.form;rw [HL9.out] at hr9;rw [show ((L++[(⟨10,0,0,0,0,b,0,0⟩:Sp),(⟨10,0,0,0,0,a,0,0⟩:Sp)])++L9).length=N9 from HLEb.out] at hr9;have RUN9:=hid hr9;have HZ:=hid (And.intro hhz hnz);have B9:=hid (show Below W2.heap.size W2 w9 from BD.out.trans (sp9.be.mono BD.out.size));have G9:=hid (show Below w20.drew.heap.size w20.drew w9 from sp9.be);have T9:=SW.out _ B9.out;clear hr9 sp9 hhz hnz;have K7:=zQ4 c lp mp lc mc pz N9 cz ((L++[⟨10,0,0,0,0,b,0,0⟩,⟨10,0,0,0,0,a,0,0⟩])++L9) HLEb.out (by omega) HC.out.1 HC.out.2.1 HC.out.2.2.1 HC.out.2.2.2 (fun s hs=>jR (HIEb.out s hs)) HZ.out.2 w9 (IW.out _ B9.out) (HTB.out _ (BW.out _ B9.out)) HZ.out.1;refine yP.one 8 (by kernel_rfl) rfl (by rfl) (fun K hK=>?_);refine xF _ _ 28 rfl 28 rfl (.slice p8 N2 c8) (.slice p9 M9 c9) (by simp [Act.eval]) (by simp [Act.eval]) RUN9.out ?_;refine hK.out _ _ (fun _=>T9) ?_;clear hK K
         (try simp only [Act.put,List.setIfInBounds_toArray,List.set_cons_zero,List.set_cons_succ])
         refine yP.one 9 (by kernel_rfl) rfl (by rfl) (fun K hK=>?_);go_simp;refine K7.mono ?_;rintro e w7 ⟨rp,rc,pp,pc,sq,sc,w0,P,G,rfl,b7,en⟩;have B7:=hid (show Below W2.heap.size W2 w7 from B9.out.trans (b7.mono B9.out.size));have F7:=hid (show Below w20.heap.size w20 w7 from (D4.out.trans (G9.out.mono D4.out.size)).trans (b7.mono (zI D4.out.size G9.out.size)));have EN:=hid en;have T7:=SW.out _ B7.out;refine hK.out _ _ (fun _=>T7) ?_;clear hK K K7 b7 en T6 TS TA T8 T9 RUN6 RUN8 RUN9
         (try simp only [Act.put,List.setIfInBounds_toArray,List.set_cons_zero,List.set_cons_succ])
         refine yP.one 10 (by kernel_rfl) rfl (by rfl) (fun K hK=>?_);go_simp;refine hK.out _ _ (fun _=>T7) ?_;clear hK K
         (try simp only [Act.put,List.setIfInBounds_toArray,List.set_cons_zero,List.set_cons_succ])
         refine yP.take 11 (.slice rp 2 rc) rfl (by kernel_rfl) (by kernel_rfl) (by kernel_rfl) (by kernel_rfl) (fun _ _ _ h=>h) T7 (by rfl) (fun w' hS=>?_) ?_
         ·(go_simp)
         (try simp only [Act.put,List.setIfInBounds_toArray,List.set_cons_zero,List.set_cons_succ])
         refine yP.take 12 (.slice pp 4 pc) rfl (by kernel_rfl) (by kernel_rfl) (by kernel_rfl) (by kernel_rfl) (fun _ _ _ h=>h) T7 (by rfl) (fun w' hS=>?_) ?_
         ·(go_simp)
         (try simp only [Act.put,List.setIfInBounds_toArray,List.set_cons_zero,List.set_cons_succ])
         refine yP.take 13 (.slice sq 4 sc) rfl (by kernel_rfl) (by kernel_rfl) (by kernel_rfl) (by kernel_rfl) (fun _ _ _ h=>h) T7 (by rfl) (fun w' hS=>?_) ?_
         ·(go_simp)
         (try simp only [Act.put,List.setIfInBounds_toArray,List.set_cons_zero,List.set_cons_succ])
         refine yP.take 14 (.bool true) rfl (by kernel_rfl) (by kernel_rfl) (by kernel_rfl) (by kernel_rfl) (fun _ _ _ h=>h) T7 (by rfl) (fun w' hS=>?_) ?_
         ·(go_simp)
         (try simp only [Act.put,List.setIfInBounds_toArray,List.set_cons_zero,List.set_cons_succ])
         refine yP.take 15 (.slice rp 2 rc) rfl (by kernel_rfl) (by kernel_rfl) (by kernel_rfl) (by kernel_rfl) (fun _ _ _ h=>h) T7 (by rfl) (fun w' hS=>?_) ?_
         ·(go_simp)
         (try simp only [Act.put,List.setIfInBounds_toArray,List.set_cons_zero,List.set_cons_succ])
         refine yP.take 16 (.slice pp 4 pc) rfl (by kernel_rfl) (by kernel_rfl) (by kernel_rfl) (by kernel_rfl) (fun _ _ _ h=>h) T7 (by rfl) (fun w' hS=>?_) ?_
         ·(go_simp)
         (try simp only [Act.put,List.setIfInBounds_toArray,List.set_cons_zero,List.set_cons_succ])
         refine yP.take 17 (.slice sq 4 sc) rfl (by kernel_rfl) (by kernel_rfl) (by kernel_rfl) (by kernel_rfl) (fun _ _ _ h=>h) T7 (by rfl) (fun w' hS=>?_) ?_
         ·(go_simp)
         (try simp only [Act.put,List.setIfInBounds_toArray,List.set_cons_zero,List.set_cons_succ])
         refine yP.one 18 (by kernel_rfl) rfl (by rfl) (fun K hK=>?_);go_simp;refine hK.out _ _ (fun h=>absurd rfl h) ?_;clear hK K;refine yP.done (by kernel_rfl) ?_
         (try go_wp2_with fail)
         go_meet
         exact ⟨rp,rc,pp,pc,sq,sc,w0,P,G,rfl,rfl,rfl,rfl,(show Aside _ from ⟨B7.out,F7.out,EN.out⟩)⟩
      case rest =>
       obtain ⟨rp21,rc21,pp21,pc21,sq21,sc21,w021,P21,G21,rfl,rfl,rfl,rfl,HCUT⟩:=hcut;obtain ⟨w21,hw21⟩:∃ w21,w21=wc:=⟨_,rfl⟩;rw [<- hw21] at HCUT ⊢;clear hw21;have B21:=hid HCUT.out.1;have F21:=hid HCUT.out.2.1;have EN21:=hid HCUT.out.2.2;clear HCUT;have hW:=HRU.out L9;have HS0:=(yC2 HC.out.1 (n:=4) HC.out.2.1 HC.out.2.2.2 ((L++[delI a,delI b])++L9) (by rw [HLEa.out];omega)).1.st;have e20:=EN20.out;have e21:=EN21.out;change EnI w020 w20 2 3 (runW c (Wo.start c) ((L++[delI a,delI b])++L9)) _ _ _ (Bo.Plain.mapN 2 fun k=>((runW c (Wo.start c) ((L++[delI a,delI b])++L9)).bk k).reserve) 4 4 P20 G20 at e20;change EnI w021 w21 2 3 (runW c (Wo.start c) ((L++[delI b,delI a])++L9)) _ _ _ (Bo.Plain.mapN 2 fun k=>((runW c (Wo.start c) ((L++[delI b,delI a])++L9)).bk k).reserve) 4 4 P21 G21 at e21;rw [hW.1] at e20 HS0;rw [hW.2] at e21;have eq:=Weq.run (c:=c) L9 HSW.out;generalize runW c (delW c (delW c V a) b) L9=W at e20 eq HS0;generalize runW c (delW c (delW c V b) a) L9=U at e21 eq;have e22:=e21.weq eq;rw [show (fun k=>(U.bk k).reserve)=(fun k=>(W.bk k).reserve) from by rw [eq.bk]] at e22;have HS:=hid HS0;have E21:=hid (e20.grow F21.out);have E22:=hid e22;clear EN20 EN21 e20 e21 e22 eq HS0 hW HSW HRU;have OA:=hid ((O10b.out.grow F20.out).grow F21.out);have OB:=hid ((O11b.out.grow F20.out).grow F21.out);have hc1:=(zQ5 HX10.out OA.out HT1.out.1).1;have hc2:=(zQ5 HX10.out OA.out HT1.out.2).1;have hd1:=(zQ5 HX11.out OB.out HT2.out.1).1;have hd2:=(zQ5 HX11.out OB.out HT2.out.2).1;obtain ⟨pf1,cf1,f1,hf1⟩:=zQ8 HX10.out OA.out HT1.out.1;obtain ⟨pf2,cf2,f2,hf2⟩:=zQ8 HX10.out OA.out HT1.out.2;obtain ⟨pg1,cg1,g1,hg1⟩:=zQ8 HX11.out OB.out HT2.out.1;obtain ⟨pg2,cg2,g2,hg2⟩:=zQ8 HX11.out OB.out HT2.out.2;rw [<- HN1.out] at hc2 hd2 f2 g2;rw [HTD1.out] at hc2 f2 hf2;rw [HTD2.out] at hd2 g2 hg2;have hfa:(delT V a).frame.length<=1000:=by
        have:=(tls_bd (n:=4) (m:=2) HC.out.1 HC.out.2.1 HC.out.2.2.2 (L++[delI a,delI b]) 0 (Wo.start c) (Wok.start HC.out.2.1) (by rw [HLPa.out];omega) _ (List.mem_of_getElem? HT1.out.1)).f;omega
       have hfb:(delT V b).frame.length<=1000:=by
        have:=(tls_bd (n:=4) (m:=2) HC.out.1 HC.out.2.1 HC.out.2.2.2 (L++[delI b,delI a]) 0 (Wo.start c) (Wok.start HC.out.2.1) (by rw [HLPb.out];omega) _ (List.mem_of_getElem? HT2.out.1)).f;omega
       generalize ((delT V a).code:Nat)=ca at hc1 hd2;generalize ((delT V b).code:Nat)=cb at hc2 hd1;generalize (delT V a).frame=fa at f1 hf1 g2 hg2 hfa;generalize (delT V b).frame=fb at f2 hf2 g1 hg1 hfb;have hca:((ca:Int) != (ca:Int))=false:=by simp
       have hcb:((cb:Int) != (cb:Int))=false:=by simp
       have bq:=hid (fun (X:World) (q:Nat)=>(show Below X.heap.size X (X.drewN q) from ⟨rfl,rfl,rfl,yN,fun _ _=>rfl⟩));obtain ⟨rb,ro,erp,rcl⟩:=E21.out.re.cells rfl (by omega);obtain ⟨qb,qo,eqp,qcl⟩:=E22.out.re.cells rfl (by omega);subst erp;subst eqp;have KI:=hid (fun q=>Vi.yZ5 rb ro rc20 qb qo rc21 2 _ (by rfl) (by omega) (w21.drewN q) (fun j hj=>rcl j hj) (fun j hj=>qcl j hj));have KFa:=hid (fun q=>Vi.qH7 (c1:=cf1) (c2:=cg2) (w21.drewN q) rfl (by omega) (hf1.grow (bq.out w21 q)) (hg2.grow (bq.out w21 q)));have KFb:=hid (fun q=>Vi.qH7 (c1:=cf2) (c2:=cg1) (w21.drewN q) rfl (by omega) (hf2.grow (bq.out w21 q)) (hg1.grow (bq.out w21 q)));generalize fa.length=na at f1 g2 KFa;generalize fb.length=nb at f2 g1 KFb;clear hfa hfb hf1 hf2 hg1 hg2 rcl qcl HTD1 HTD2;have hwr:IntKind.i64.wrap ((N:Int)+1)=(N1:Int):=by rw [IntKind.wrap_i64];have:=HN1.out;omega
       clear eN;have BQ:=hid (fun m=>show Below w21.heap.size w21 (w21.drewN m) from bq.out w21 m)
       go_upto_region 16 with fail
       go_cut [222] (fun sa wx=>sa=.bool false/\Aside (Below w21.heap.size w21 wx))
       case first =>
        as_aux_lemma =>
         go_quiet ((first|(go_at_call 16;exact Calls.quiet_of (KI.out _))|(go_at_call_of 17 (Value.slice pf1 na cf1);exact Calls.quiet_of (KFa.out _))|(go_at_call_of 17 (Value.slice pf2 nb cf2);exact Calls.quiet_of (KFb.out _))))
         (try go_wp2_with fail)
         go_meet
         exact ⟨rfl,(show Aside _ from BQ.out _)⟩
       case rest =>
        obtain ⟨rfl,HCUT⟩:=hcut;obtain ⟨w25,hw25⟩:∃ w25,w25=wc:=⟨_,rfl⟩;rw [<- hw25] at HCUT ⊢;clear hw25;have G25:=hid HCUT.out;have E25:=hid (E21.out.grow G25.out);have F25:=hid (E22.out.grow G25.out);have B25:=hid (show Below W2.heap.size W2 w25 from B21.out.trans (G25.out.mono B21.out.size));clear HCUT hc1 hc2 hd1 hd2 f1 f2 g1 g2 KI KFa KFb E21 E22 hwr BQ bq OA OB;obtain ⟨pb,po,epp,pcl⟩:=E25.out.purse (by omega);obtain ⟨ob,oo,eop,ocl⟩:=F25.out.purse (by omega);obtain ⟨sb,so,esp,scl⟩:=E25.out.stores (by omega);obtain ⟨ub,uo,eup,ucl⟩:=F25.out.stores (by omega);subst epp;subst eop;subst esp;subst eup;clear pcl ocl scl ucl;go_wp2
        go_loopg [36,37,38] 4 (fun gg s30 _ _ wx=>∃ i:Nat,i<=4/\4-i<=gg/\s30=.int .i64 i/\Aside (Below w25.heap.size w25 wx))
        case atStart=>exact ⟨0,zG _,by omega,rfl,(show Aside _ from yO)⟩
        case round =>
         obtain ⟨i,hi,hg,rfl,A⟩:=hrel;by_cases hlt:i<4
         ·have hltz:(i:Int)<4:=by omega
          have hin:¬ (i:Int)<0:=by omega
          go_wp2
          go_loopg [37] 2 (fun gg s31 wx=>∃ k:Nat,k<=2/\2-k<=gg/\s31=.int .i64 k/\Aside (Below w25.heap.size w25 wx))
          case atStart=>exact ⟨0,zG _,by omega,rfl,A⟩
          case round =>
           obtain ⟨k,hk,hgk,rfl,A2⟩:=hrel;by_cases hlk:k<2
           ·have hlkz:(k:Int)<2:=by omega
            have hkn:¬ (k:Int)<0:=by omega
            have E9:=E25.out.grow A2.out;have F9:=F25.out.grow A2.out;obtain ⟨pb',po',e9,pcl⟩:=E9.purse (by omega);have ep:=Option.some.inj e9;have ep1:pb=pb':=congrArg Addr.block ep;have ep2:po=po':=congrArg Addr.off ep;subst ep1;subst ep2;have cj:=pcl i hlt;obtain ⟨x0,x1,x2,x3,x4,x5⟩:=E9.pcells (i:=i) (k:=k) hlt hlk;obtain ⟨ob',oo',f9,ocl⟩:=F9.purse (by omega);have fp:=Option.some.inj f9;have fp1:ob=ob':=congrArg Addr.block fp;have fp2:oo=oo':=congrArg Addr.off fp;subst fp1;subst fp2;have dj:=ocl i hlt;obtain ⟨y0,y1,y2,y3,y4,y5⟩:=F9.pcells (i:=i) (k:=k) hlt hlk;have hne:=fun w=>neqP (W.ask i k) (W.rk i k).free (W.rk i k).held (W.rk i k).used w;generalize W.ask i k=ak at x0 y0 hne;generalize (W.rk i k).free=fr at x3 y3 hne;generalize (W.rk i k).held=he at x4 y4 hne;generalize (W.rk i k).used=us at x5 y5 hne;have gd:=Tryz.guardPurse;have NX:=hid A2.out;clear e9 ep pcl E9 F9 f9 fp ocl A2 A;go_wp2
            go_quiet (fail)
            go_wp2
            go_roundg (2-(k+1))
            case measure=>omega
            case rel=>exact ⟨k+1,by omega,by omega,by go_num,(show Aside _ from ⟨NX.out.os,NX.out.tape,NX.out.output,NX.out.size,NX.out.block⟩)⟩
           ·have hlkz:¬ (k:Int)<2:=by omega
            clear A;go_wp2
            go_loopg [38] 3 (fun gg s32 wx=>∃ k:Nat,k<=3/\3-k<=gg/\s32=.int .i64 k/\Aside (Below w25.heap.size w25 wx))
            case atStart=>exact ⟨0,zG _,by omega,rfl,A2⟩
            case round =>
             clear A2;obtain ⟨j,hj,hgj,rfl,A3⟩:=hrel;by_cases hlj:j<3
             ·have hljz:(j:Int)<3:=by omega
              have hjn:¬ (j:Int)<0:=by omega
              have E9:=E25.out.grow A3.out;have F9:=F25.out.grow A3.out;obtain ⟨pb',po',e9,pcl⟩:=E9.stores (by omega);have ep:=Option.some.inj e9;have ep1:sb=pb':=congrArg Addr.block ep;have ep2:so=po':=congrArg Addr.off ep;subst ep1;subst ep2;have cj:=pcl i hlt;obtain ⟨ob',oo',f9,ocl⟩:=F9.stores (by omega);have fp:=Option.some.inj f9;have fp1:ub=ob':=congrArg Addr.block fp;have fp2:uo=oo':=congrArg Addr.off fp;subst fp1;subst fp2;have dj:=ocl i hlt;obtain ⟨f,hf⟩:=E9.gr i hlt;obtain ⟨g,hgg⟩:=F9.gr i hlt;have x0:wr.cell? ⟨G20 i,j,none⟩=some (f j):=hf.row.cell (i:=j) hlj;have y0:wr.cell? ⟨G21 i,j,none⟩=some (g j):=hgg.row.cell (i:=j) hlj;have bq:=fun q=>(show Below wr.heap.size wr (wr.drewN q) from ⟨rfl,rfl,rfl,yN,fun _ _=>rfl⟩);have K:=hid (fun q=>keep.same_any (f j) (g j) (W.st i j) (by have:=(HS.out i).len j;omega) (wr.drewN q) ((hf.sg j hlj).1.below (bq q) (hf.sg j hlj).2) ((hgg.sg j hlj).1.below (bq q) (hgg.sg j hlj).2));obtain ⟨fp,fn,fc,ef⟩:=hf.slices j hlj;obtain ⟨gp,gn,gc,eg⟩:=hgg.slices j hlj;rw [ef] at x0 K;rw [eg] at y0 K;have NX:=hid A3.out;clear e9 ep pcl E9 F9 f9 ocl A3 hf hgg ef eg bq;go_wp2
              go_quiet ((go_at_call 18;exact Calls.quiet_of (K.out _)))
              go_wp2
              go_roundg (3-(j+1))
              case measure=>omega
              case rel=>exact ⟨j+1,by omega,by omega,by go_num,(show Aside _ from ⟨NX.out.os,NX.out.tape,NX.out.output,NX.out.size,NX.out.block⟩)⟩
             ·have hljz:¬ (j:Int)<3:=by omega
              go_wp2
              go_roundg (4-(i+1))
              case measure=>omega
              case rel=>exact ⟨i+1,by omega,by omega,by go_num,A3⟩
         ·have hltz:¬ (i:Int)<4:=by omega
          go_wp2;go_ret
          exact ⟨rfl,BW.out _ (B25.out.trans (A.out.mono B25.out.size))⟩
end Go.Proofs.YtleaknfjbbccgaaGreatDoor
