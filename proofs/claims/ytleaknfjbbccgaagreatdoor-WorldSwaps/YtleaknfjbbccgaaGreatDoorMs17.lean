/- Laid together. -/
import Derived.Test.YtleaknfjbbccgaaGreatDoorMs15
import Derived.Test.YtleaknfjbbccgaaGreatDoorMs16
namespace Go.Proofs.YtleaknfjbbccgaaGreatDoor
open Plain
set_option maxHeartbeats 16000000
set_option maxRecDepth 100000
open Go.RowKit Go.Shelf Go.Sort
structure BnI (w0 wr W:World) (BX:Nat) (r:RB):Prop where
 bk:Bo.BkI w0.heap.size BX 0 (Win.all 88 8) r.A r.G W r.vl r.b r.N
 hN:r.N<=1
 be:Below wr.heap.size wr W
 ne:∀ x,rbO r x->wr.heap.size<=x
 gx:wr.heap.size<=BX
namespace BnI
variable {w0 wr W W':World} {BX:Nat} {r:RB}
theorem row (h:BnI w0 wr W BX r):W.rowIs BX 88 8 (Bo.bkR r.A r.G r.vl r.b r.N):=Win.to_all h.bk.row
theorem jb (h:BnI w0 wr W BX r):BkJ w0.heap.size W r :=
 ⟨h.bk.ra,h.bk.rg,h.bk.ok,h.bk.n1,h.bk.n8,h.bk.rd,h.bk.lv.imp id (fun ⟨L,e,r,x1,_,x2,x3⟩=>⟨L,e,r,x1,x2,x3⟩),h.bk.hA,h.bk.hG,h.bk.AG,h.bk.tk,h.hN⟩
theorem fresh {n tk A G:Nat} {cap:Int} (hw:w0.heap.size<=wr.heap.size) (hn:1<=n/\n<=8) (hc:0<=cap/\cap<=1048576) (ht:1<=tk/\tk<=8) (b:Below wr.heap.size wr W) (hA:W.rowIs A 3 n (fun _=>.int .i64 0)) (hG:W.rowIs G 3 n (fun _=>.int .i64 0)) (gA:wr.heap.size<=A) (gG:wr.heap.size<=G) (ne:A≠G) :
  BnI w0 wr (W.alloc (.cells (Bo.xN6 cap tk A G n) 88)) W.heap.size ⟨A,G,none,0,0,Bo.Plain.Bk.new n cap tk,0⟩:=by
 have b1:Below W.heap.size W (W.alloc (.cells (Bo.xN6 cap tk A G n) 88)):=yO.alloc yN _;have hAl:=hA.lt;have hGl:=hG.lt;have hs:=b.size;have f1:w0.heap.size<=A:=by omega
 have f2:w0.heap.size<=G:=by omega
 have f3:W.heap.size≠A:=by omega
 have f4:W.heap.size≠G:=by omega
 refine ⟨Bo.BkI.fresh hn.1 hn.2 hc ht.1 ht.2 (Win.of_all ⟨_,yF _ _,rfl,Bo.qD3 cap tk A G n⟩) (hA.of_block (b1.block _ hAl)) (hG.of_block (b1.block _ hGl)) (by omega) f1 f2 f3 f4 ne (by show 0+8<=8;omega),zG _,b.trans (b1.mono hs),fun x hx=>?_,hs⟩;rcases hx with e|e|e
 ·rw [e];exact gA
 ·rw [e];exact gG
 ·simp [Value.ownBlock] at e
theorem grow (h:BnI w0 wr W BX r) (b:Below W.heap.size W W'):BnI w0 wr W' BX r:=⟨h.bk.grow b,h.hN,h.be.trans (b.mono h.be.size),h.ne,h.gx⟩
theorem call (h:BnI w0 wr W BX r) {vl':Value} {b':Bo.Plain.Bk} {N':Nat} (hv:∃ p l c,vl'=.slice p l c) (bk:Bo.BkI w0.heap.size BX 0 (Win.all 88 8) r.A r.G W' vl' b' N') (hN:N'<=1) (un:Bo.Un (Bo.Fb BX r.A r.G r.vl) W W') (hf:∀ k,k<W.heap.size->Bo.Fb BX r.A r.G vl' k->Bo.Fb BX r.A r.G r.vl k) :
  ∃ r',r'.b=b'/\BnI w0 wr W' BX r':=by
 obtain ⟨p,l,c,rfl⟩:=hv;have ge:∀ k,Bo.Fb BX r.A r.G r.vl k->wr.heap.size<=k:=fun k hk=>by
  rcases hk with e|e|e|e
  ·rw [e];exact h.gx
  ·rw [e];exact h.ne _ (.inl rfl)
  ·rw [e];exact h.ne _ (.inr (.inl rfl))
  ·exact h.ne k (.inr (.inr e))
 refine ⟨⟨r.A,r.G,p,l,c,b',N'⟩,rfl,⟨bk,hN,h.be.trans ⟨un.os,un.tape,un.output,un.size,fun k hk=>un.block k (zF hk h.be.size) (fun x=>by have:=ge k x;omega)⟩,fun x hx=>?_,h.gx⟩⟩;rcases Nat.lt_or_ge x W.heap.size with hlt|hge
 ·refine ge x (hf x hlt ?_)
  rcases hx with e|e|e
  ·exact .inr (.inl e)
  ·exact .inr (.inr (.inl e))
  ·exact .inr (.inr (.inr e))
 ·exact zI h.be.size hge
end BnI
theorem xY0 {B R oo A G N:Nat} {XX:Win} {W:World} {vl:Value} {b:Bo.Plain.Bk} (h:Bo.BkI B R oo XX A G W vl b N):∃ p l c,vl=.slice p l c:=by
 rcases h.lv with ⟨_,e⟩|⟨L,e,_⟩
 ·exact ⟨_,_,_,e⟩
 ·exact ⟨_,_,_,e⟩
theorem xY1 (c:Cf) (lp mp:Option Addr) (lc mc n m:Nat) (hc:mayC c=true) (hn:c.n=n) (hm:c.ms.length=m) (w:World) (hI:CfI w c (.slice lp c.ls.length lc) (.slice mp c.ms.length mc)) (htb:∀ k,2<=k->k<=6->w.cell? ⟨0,k,none⟩=some (.int .i64 (k:Nat))) :
  Calls Tryz.prog 34 #[cfV c (.slice lp c.ls.length lc) (.slice mp c.ms.length mc)] w fun e w'=>∃ M,e=.returned (.pointer (some ⟨M.R,0,none⟩))/\WI w.heap.size M w' c n m (Wo.start c) 1 0/\Below w.heap.size w w':=by
 subst hm;obtain ⟨hn18,hL4,_,ht18,hm13,hms,hcap⟩:=xJ hc;have n18:1<=n/\n<=8:=by omega
 obtain ⟨mb,mo,rfl,hmb,hmc⟩:=zE6 hI.sm hI.lm (by omega);have HM:=hid (And.intro hmb hmc);clear hmb hmc;obtain ⟨WA,hWA⟩:∃ WA,WA=(((w.alloc (boxC c (.slice lp c.ls.length lc) (.slice (some ⟨mb,mo,none⟩) c.ms.length mc))).alloc (.map #[] 0)).alloc (.cells #[.int .i64 c.n,(.slice lp c.ls.length lc),.int .i64 c.t,(.slice (some ⟨mb,mo,none⟩) c.ms.length mc),.int .i64 c.cap,.slice none 0 0,.map none,.slice none 0 0,.slice none 0 0,.map (some (w.heap.size+1))] 86)):=⟨_,rfl⟩;have B0:=hid (show BgI w WA c lp lc (.slice (some ⟨mb,mo,none⟩) c.ms.length mc) c.ms.length (w.heap.size+1+1) w.heap.size (w.heap.size+1) 0 (fun _=>0) (fun _=>0) [] (.slice none 0 0) (.slice none 0 0) by rw [hWA];exact BgI.start w c lp lc (.slice (some ⟨mb,mo,none⟩) c.ms.length mc) c.ms.length _ _);have x0:WA.cell? ⟨w.heap.size,0,none⟩=some (.int .i64 (n:Int)):=by rw [<- hn];exact B0.out.cb.cell (i:=0) (by decide)
 have HI:=hid (And.intro hI htb);have HC:=hid (And.intro hn (And.intro hc (And.intro ht18 (And.intro hms hcap))));clear hI htb hn hc ht18 hms hcap hn18;have hmm:∀ W:World,(Instr.makeMap 84 none).run Tryz.prog W=.ok (.map (some W.heap.size)) (W.alloc (.map #[] 0)):=fun W=>run_makeMap 84 W;go_enter Tryz.func34,Tryz.ntmps34
 go_upto_region 2 with fail
 rw [<- hWA];clear hWA hmm;go_wp2;clear x0;obtain ⟨R,hR⟩:∃ R,R=w.heap.size+1+1:=⟨_,rfl⟩;rw [<- hR] at B0 ⊢;obtain ⟨LB,hLB⟩:∃ LB,LB=w.heap.size+1:=⟨_,rfl⟩;rw [<- hLB] at B0;obtain ⟨CB,hCB⟩:∃ CB,CB=w.heap.size:=⟨_,rfl⟩;have B1:=hid (show BgI w WA c lp lc (.slice (some ⟨mb,mo,none⟩) c.ms.length mc) c.ms.length R CB LB 0 (fun _=>0) (fun _=>0) [] (.slice none 0 0) (.slice none 0 0) by rw [hCB];exact B0.out);rw [<- hCB];clear B0 hR hLB hCB
 go_loopg [4,15] n (fun gg _ s15 wx=>∃ k:Nat,k<=n/\n-k<=gg/\s15=.int .i64 k/\Aside (∃ H D v,BgI w wx c lp lc (.slice (some ⟨mb,mo,none⟩) c.ms.length mc) c.ms.length R CB LB k H D [] v (.slice none 0 0)))
 case atStart=>exact ⟨0,zG _,by omega,rfl,(show Aside _ from ⟨_,_,_,B1.out⟩)⟩
 case round =>
  obtain ⟨k,hk,hg,rfl,A⟩:=hrel;clear B1;obtain ⟨H,D,v,hG⟩:=A.out;have HG:=hid hG;obtain ⟨pv,cv,rfl,_⟩:=Enc.owns (E:=yB5 lp lc c.ls.length c.ms.length) hG.eo (yB6 _ _ _);clear hG A;by_cases hlt:k<n
  ·have hltz:(k:Int)<(n:Int):=by omega
   have KN:=fun X=>yK4 k lp c.ls.length lc hL4 X;have mk:=xX8 c.ms.length hm13.2;have mixed:Tryz.prog.follows .mixedOrders=true:=by kernel_rfl
   have TS:(fun w':World=>w'.cell? ⟨R,7,none⟩=some (.slice pv k cv)/\w'.cell? ⟨CB,1,none⟩=some (.slice lp c.ls.length lc)/\w'.cell? ⟨CB,3,none⟩=some (.slice (some ⟨mb,mo,none⟩) c.ms.length mc)) wr.drew:=⟨HG.out.cell (j:=7) (by decide),HG.out.cb.cell (i:=1) (by decide),HG.out.cb.cell (i:=3) (by decide)⟩;have bD:=hid (show Below wr.heap.size wr wr.drew from yO.drew)
   go_upto_region 5 with fail
   refine yP.begin (fun w':World=>w'.cell? ⟨R,7,none⟩=some (.slice pv k cv)/\w'.cell? ⟨CB,1,none⟩=some (.slice lp c.ls.length lc)/\w'.cell? ⟨CB,3,none⟩=some (.slice (some ⟨mb,mo,none⟩) c.ms.length mc)) 18 mixed ?_;refine yP.take 0 (.pointer (some ⟨R,0,none⟩)) rfl (by kernel_rfl) (by kernel_rfl) (by kernel_rfl) (by kernel_rfl) (fun _ _ _ h=>h) TS (by rfl) (fun w' hS=>?_) ?_
   ·(obtain ⟨q1,q2,q3⟩:=hS;go_simp)
   simp only [Act.put,List.setIfInBounds_toArray,List.set_cons_zero,List.set_cons_succ];refine yP.take 1 (.pointer (some ⟨R,0,none⟩)) rfl (by kernel_rfl) (by kernel_rfl) (by kernel_rfl) (by kernel_rfl) (fun _ _ _ h=>h) TS (by rfl) (fun w' hS=>?_) ?_
   ·(obtain ⟨q1,q2,q3⟩:=hS;go_simp)
   simp only [Act.put,List.setIfInBounds_toArray,List.set_cons_zero,List.set_cons_succ];refine yP.take 2 (.pointer (some ⟨R,0,none⟩)) rfl (by kernel_rfl) (by kernel_rfl) (by kernel_rfl) (by kernel_rfl) (fun _ _ _ h=>h) TS (by rfl) (fun w' hS=>?_) ?_
   ·(obtain ⟨q1,q2,q3⟩:=hS;go_simp)
   simp only [Act.put,List.setIfInBounds_toArray,List.set_cons_zero,List.set_cons_succ];refine yP.take 3 (.pointer (some ⟨R,7,none⟩)) rfl (by kernel_rfl) (by kernel_rfl) (by kernel_rfl) (by kernel_rfl) (fun _ _ _ h=>h) TS (by rfl) (fun w' hS=>?_) ?_
   ·(obtain ⟨q1,q2,q3⟩:=hS;go_simp)
   simp only [Act.put,List.setIfInBounds_toArray,List.set_cons_zero,List.set_cons_succ];refine yP.take 4 (.slice pv k cv) rfl (by kernel_rfl) (by kernel_rfl) (by kernel_rfl) (by kernel_rfl) (fun _ _ _ h=>h) TS (by rfl) (fun w' hS=>?_) ?_
   ·(obtain ⟨q1,q2,q3⟩:=hS;go_simp)
   simp only [Act.put,List.setIfInBounds_toArray,List.set_cons_zero,List.set_cons_succ];refine yP.take 5 (.int .i64 (k:Int)) rfl (by kernel_rfl) (by kernel_rfl) (by kernel_rfl) (by kernel_rfl) (fun _ _ _ h=>h) TS (by rfl) (fun w' hS=>?_) ?_
   ·(obtain ⟨q1,q2,q3⟩:=hS;go_simp)
   simp only [Act.put,List.setIfInBounds_toArray,List.set_cons_zero,List.set_cons_succ];refine yP.take 6 (.pointer (some ⟨CB,1,none⟩)) rfl (by kernel_rfl) (by kernel_rfl) (by kernel_rfl) (by kernel_rfl) (fun _ _ _ h=>h) TS (by rfl) (fun w' hS=>?_) ?_
   ·(obtain ⟨q1,q2,q3⟩:=hS;go_simp)
   simp only [Act.put,List.setIfInBounds_toArray,List.set_cons_zero,List.set_cons_succ];refine yP.take 7 (.slice lp c.ls.length lc) rfl (by kernel_rfl) (by kernel_rfl) (by kernel_rfl) (by kernel_rfl) (fun _ _ _ h=>h) TS (by rfl) (fun w' hS=>?_) ?_
   ·(obtain ⟨q1,q2,q3⟩:=hS;go_simp)
   simp only [Act.put,List.setIfInBounds_toArray,List.set_cons_zero,List.set_cons_succ];refine yP.take 9 (.pointer (some ⟨CB,3,none⟩)) rfl (by kernel_rfl) (by kernel_rfl) (by kernel_rfl) (by kernel_rfl) (fun _ _ _ h=>h) TS (by rfl) (fun w' hS=>?_) ?_
   ·(obtain ⟨q1,q2,q3⟩:=hS;go_simp)
   simp only [Act.put,List.setIfInBounds_toArray,List.set_cons_zero,List.set_cons_succ];refine yP.take 10 (.slice (some ⟨mb,mo,none⟩) c.ms.length mc) rfl (by kernel_rfl) (by kernel_rfl) (by kernel_rfl) (by kernel_rfl) (fun _ _ _ h=>h) TS (by rfl) (fun w' hS=>?_) ?_
   ·(obtain ⟨q1,q2,q3⟩:=hS;go_simp)
   simp only [Act.put,List.setIfInBounds_toArray,List.set_cons_zero,List.set_cons_succ];refine yP.take 11 (.int .i64 (c.ms.length:Int)) rfl (by kernel_rfl) (by kernel_rfl) (by kernel_rfl) (by kernel_rfl) (fun _ _ _ h=>h) TS (by rfl) (fun w' hS=>?_) ?_
   ·(obtain ⟨q1,q2,q3⟩:=hS;go_simp)
   simp only [Act.put,List.setIfInBounds_toArray,List.set_cons_zero,List.set_cons_succ];refine yP.two 8 12 (by kernel_rfl) rfl (by rfl) rfl (by rfl) (fun K hK=>?_) (fun K hK=>?_)
   ·go_simp
    refine (KN _).mono ?_;rintro e w3 ⟨H1,rfl,hr1,hh1,b1⟩;have T3:(fun w':World=>w'.cell? ⟨R,7,none⟩=some (.slice pv k cv)/\w'.cell? ⟨CB,1,none⟩=some (.slice lp c.ls.length lc)/\w'.cell? ⟨CB,3,none⟩=some (.slice (some ⟨mb,mo,none⟩) c.ms.length mc)) w3:=⟨(b1.cell (p:=⟨R,7,none⟩) (zC (w:=wr.drew) (h:=TS.1))).trans TS.1,(b1.cell (p:=⟨CB,1,none⟩) (zC (w:=wr.drew) (h:=TS.2.1))).trans TS.2.1,(b1.cell (p:=⟨CB,3,none⟩) (zC (w:=wr.drew) (h:=TS.2.2))).trans TS.2.2⟩;refine hK.out _ _ (fun _=>T3) ?_;clear hK K
    (try simp only [Act.put,List.setIfInBounds_toArray,List.set_cons_zero,List.set_cons_succ])
    refine yP.one 12 (by kernel_rfl) rfl (by rfl) (fun K hK=>?_);go_simp;obtain ⟨W5,hW5⟩:∃ W5,W5=w3.alloc (.cells (madeCells zGo (c.ms.length*6)) 114):=⟨_,rfl⟩;obtain ⟨D1,hD1⟩:∃ D1,D1=w3.heap.size:=⟨_,rfl⟩;rw [<- hW5,<- hD1];have b5:Below w3.heap.size w3 W5:=by rw [hW5];exact yO.alloc yN _
    have dr5:W5.rowIs D1 114 (c.ms.length*6) zGd:=by rw [hW5,hD1];exact qH5 w3 c.ms.length
    have hr5:=hr1.of_block (b5.block _ hr1.lt);have bb5:Below wr.heap.size wr W5:=(bD.out.trans b1).trans (b5.mono b1.size);have hd5:wr.heap.size<=D1:=by rw [hD1];exact b1.size
    clear hW5 hD1;have T5:(fun w':World=>w'.cell? ⟨R,7,none⟩=some (.slice pv k cv)/\w'.cell? ⟨CB,1,none⟩=some (.slice lp c.ls.length lc)/\w'.cell? ⟨CB,3,none⟩=some (.slice (some ⟨mb,mo,none⟩) c.ms.length mc)) W5:=⟨(b5.cell (p:=⟨R,7,none⟩) (zC (w:=w3) (h:=T3.1))).trans T3.1,(b5.cell (p:=⟨CB,1,none⟩) (zC (w:=w3) (h:=T3.2.1))).trans T3.2.1,(b5.cell (p:=⟨CB,3,none⟩) (zC (w:=w3) (h:=T3.2.2))).trans T3.2.2⟩;clear T3;obtain ⟨pu,cu,U,hrun,u7,uf,ucb,bU⟩:=HG.out.snoc (by omega) bb5 hr5 dr5 hh1 hd5;have RUN:=hid hrun;have BU:=hid bU;clear hrun bU;refine hK.out _ _ (fun _=>T5) ?_;clear hK K
    (try simp only [Act.put,List.setIfInBounds_toArray,List.set_cons_zero,List.set_cons_succ])
    refine yP.take 13 (.agg #[.int .i64 (k:Int),.slice lp c.ls.length lc,.slice (some ⟨H1,0,none⟩) c.ls.length c.ls.length,.slice (some ⟨D1,0,none⟩) c.ms.length c.ms.length]) rfl (by kernel_rfl) (by kernel_rfl) (by kernel_rfl) (by kernel_rfl) (fun _ _ _ h=>h) T5 (by rfl) (fun w' hS=>?_) ?_
    ·(go_simp)
    (try simp only [Act.put,List.setIfInBounds_toArray,List.set_cons_zero,List.set_cons_succ])
    refine yP.one 14 (by kernel_rfl) rfl (by rfl) (fun K hK=>?_);go_simp;have T6:(fun w':World=>w'.cell? ⟨R,7,none⟩=some (.slice pv k cv)/\w'.cell? ⟨CB,1,none⟩=some (.slice lp c.ls.length lc)/\w'.cell? ⟨CB,3,none⟩=some (.slice (some ⟨mb,mo,none⟩) c.ms.length mc)) (W5.alloc (.cells #[.int .i64 (k:Int),.slice lp c.ls.length lc,.slice (some ⟨H1,0,none⟩) c.ls.length c.ls.length,.slice (some ⟨D1,0,none⟩) c.ms.length c.ms.length] 94)):=by
     refine ⟨?_,?_,?_⟩
     ·rw [yJ _ _ _ (zC (w:=W5) (h:=T5.1))];exact T5.1
     ·rw [yJ _ _ _ (zC (w:=W5) (h:=T5.2.1))];exact T5.2.1
     ·rw [yJ _ _ _ (zC (w:=W5) (h:=T5.2.2))];exact T5.2.2
    refine hK.out _ _ (fun _=>T6) ?_;clear hK K
    (try simp only [Act.put,List.setIfInBounds_toArray,List.set_cons_zero,List.set_cons_succ])
    refine yP.one 15 (by kernel_rfl) rfl (by rfl) (fun K hK=>?_);refine xF _ _ 82 rfl 82 rfl (.slice pv k cv) (.slice (some ⟨W5.heap.size,0,none⟩) 1 1) (by simp [Act.eval]) (by simp [Act.eval]) RUN.out ?_;have T7:(fun w':World=>w'.cell? ⟨R,7,none⟩=some (.slice pv k cv)/\w'.cell? ⟨CB,1,none⟩=some (.slice lp c.ls.length lc)/\w'.cell? ⟨CB,3,none⟩=some (.slice (some ⟨mb,mo,none⟩) c.ms.length mc)) U:=⟨u7,ucb.cell (i:=1) (by decide),ucb.cell (i:=3) (by decide)⟩;refine hK.out _ _ (fun _=>T7) ?_;clear hK K
    (try simp only [Act.put,List.setIfInBounds_toArray,List.set_cons_zero,List.set_cons_succ])
    refine yP.one 16 (by kernel_rfl) rfl (by rfl) (fun K hK=>?_);go_simp;refine hK.out _ _ (fun _=>T7) ?_;clear hK K;refine yP.one 17 (by kernel_rfl) rfl (by rfl) (fun K hK=>?_);go_simp;refine hK.out _ _ (fun _=>T7) ?_;clear hK K;refine yP.one 18 (by kernel_rfl) rfl (by rfl) (fun K hK=>?_);go_simp;refine hK.out _ _ (fun h=>absurd rfl h) ?_;clear hK K;refine yP.done (by kernel_rfl) ?_;obtain ⟨W9,hW9⟩:∃ W9,W9=U.setCell ⟨R,7,none⟩ (.slice pu (k+1) cu):=⟨_,rfl⟩;rw [<- hW9] at BU ⊢;clear hW9 u7 uf ucb RUN T5 T6 T7 TS;go_wp2
    go_roundg (n-(k+1))
    case measure=>omega
    case rel=>exact ⟨k+1,by omega,by omega,by go_num,(show Aside _ from ⟨_,_,_,BU.out⟩)⟩
   ·go_simp
    obtain ⟨W3,hW3⟩:∃ W3,W3=(wr.alloc (.cells (madeCells zGo (c.ms.length*6)) 114)).drew:=⟨_,rfl⟩;have b3:Below wr.heap.size wr W3:=by rw [hW3];exact (yO.alloc yN _).drew
    have dr3:W3.rowIs wr.heap.size 114 (c.ms.length*6) zGd:=by rw [hW3];exact (qH5 wr c.ms.length).of_block rfl
    obtain ⟨D1,hD1⟩:∃ D1,D1=wr.heap.size:=⟨_,rfl⟩;have dr3':W3.rowIs D1 114 (c.ms.length*6) zGd:=by rw [hD1];exact dr3
    have hd5:wr.heap.size<=D1:=by rw [hD1];exact yN
    rw [<- hW3];rw [<- hD1];clear hW3 dr3 hD1;have T3:(fun w':World=>w'.cell? ⟨R,7,none⟩=some (.slice pv k cv)/\w'.cell? ⟨CB,1,none⟩=some (.slice lp c.ls.length lc)/\w'.cell? ⟨CB,3,none⟩=some (.slice (some ⟨mb,mo,none⟩) c.ms.length mc)) W3:=⟨(b3.cell (p:=⟨R,7,none⟩) (zC (w:=wr) (h:=TS.1))).trans TS.1,(b3.cell (p:=⟨CB,1,none⟩) (zC (w:=wr) (h:=TS.2.1))).trans TS.2.1,(b3.cell (p:=⟨CB,3,none⟩) (zC (w:=wr) (h:=TS.2.2))).trans TS.2.2⟩;refine hK.out _ _ (fun _=>T3) ?_;clear hK K
    (try simp only [Act.put,List.setIfInBounds_toArray,List.set_cons_zero,List.set_cons_succ])
    refine yP.one 8 (by kernel_rfl) rfl (by rfl) (fun K hK=>?_);go_simp;refine (KN _).mono ?_;rintro e W5 ⟨H1,rfl,hr5,hh5,b5⟩;have dr5:=dr3'.of_block (b5.block _ dr3'.lt);have bb5:Below wr.heap.size wr W5:=b3.trans (b5.mono b3.size);have hh1:wr.heap.size<=H1:=zI b3.size hh5;have T5:(fun w':World=>w'.cell? ⟨R,7,none⟩=some (.slice pv k cv)/\w'.cell? ⟨CB,1,none⟩=some (.slice lp c.ls.length lc)/\w'.cell? ⟨CB,3,none⟩=some (.slice (some ⟨mb,mo,none⟩) c.ms.length mc)) W5:=⟨(b5.cell (p:=⟨R,7,none⟩) (zC (w:=W3) (h:=T3.1))).trans T3.1,(b5.cell (p:=⟨CB,1,none⟩) (zC (w:=W3) (h:=T3.2.1))).trans T3.2.1,(b5.cell (p:=⟨CB,3,none⟩) (zC (w:=W3) (h:=T3.2.2))).trans T3.2.2⟩;clear T3;obtain ⟨pu,cu,U,hrun,u7,uf,ucb,bU⟩:=HG.out.snoc (by omega) bb5 hr5 dr5 hh1 hd5;have RUN:=hid hrun;have BU:=hid bU;clear hrun bU;refine hK.out _ _ (fun _=>T5) ?_;clear hK K
    (try simp only [Act.put,List.setIfInBounds_toArray,List.set_cons_zero,List.set_cons_succ])
    refine yP.take 13 (.agg #[.int .i64 (k:Int),.slice lp c.ls.length lc,.slice (some ⟨H1,0,none⟩) c.ls.length c.ls.length,.slice (some ⟨D1,0,none⟩) c.ms.length c.ms.length]) rfl (by kernel_rfl) (by kernel_rfl) (by kernel_rfl) (by kernel_rfl) (fun _ _ _ h=>h) T5 (by rfl) (fun w' hS=>?_) ?_
    ·(go_simp)
    (try simp only [Act.put,List.setIfInBounds_toArray,List.set_cons_zero,List.set_cons_succ])
    refine yP.one 14 (by kernel_rfl) rfl (by rfl) (fun K hK=>?_);go_simp;have T6:(fun w':World=>w'.cell? ⟨R,7,none⟩=some (.slice pv k cv)/\w'.cell? ⟨CB,1,none⟩=some (.slice lp c.ls.length lc)/\w'.cell? ⟨CB,3,none⟩=some (.slice (some ⟨mb,mo,none⟩) c.ms.length mc)) (W5.alloc (.cells #[.int .i64 (k:Int),.slice lp c.ls.length lc,.slice (some ⟨H1,0,none⟩) c.ls.length c.ls.length,.slice (some ⟨D1,0,none⟩) c.ms.length c.ms.length] 94)):=by
     refine ⟨?_,?_,?_⟩
     ·rw [yJ _ _ _ (zC (w:=W5) (h:=T5.1))];exact T5.1
     ·rw [yJ _ _ _ (zC (w:=W5) (h:=T5.2.1))];exact T5.2.1
     ·rw [yJ _ _ _ (zC (w:=W5) (h:=T5.2.2))];exact T5.2.2
    refine hK.out _ _ (fun _=>T6) ?_;clear hK K
    (try simp only [Act.put,List.setIfInBounds_toArray,List.set_cons_zero,List.set_cons_succ])
    refine yP.one 15 (by kernel_rfl) rfl (by rfl) (fun K hK=>?_);refine xF _ _ 82 rfl 82 rfl (.slice pv k cv) (.slice (some ⟨W5.heap.size,0,none⟩) 1 1) (by simp [Act.eval]) (by simp [Act.eval]) RUN.out ?_;have T7:(fun w':World=>w'.cell? ⟨R,7,none⟩=some (.slice pv k cv)/\w'.cell? ⟨CB,1,none⟩=some (.slice lp c.ls.length lc)/\w'.cell? ⟨CB,3,none⟩=some (.slice (some ⟨mb,mo,none⟩) c.ms.length mc)) U:=⟨u7,ucb.cell (i:=1) (by decide),ucb.cell (i:=3) (by decide)⟩;refine hK.out _ _ (fun _=>T7) ?_;clear hK K
    (try simp only [Act.put,List.setIfInBounds_toArray,List.set_cons_zero,List.set_cons_succ])
    refine yP.one 16 (by kernel_rfl) rfl (by rfl) (fun K hK=>?_);go_simp;refine hK.out _ _ (fun _=>T7) ?_;clear hK K;refine yP.one 17 (by kernel_rfl) rfl (by rfl) (fun K hK=>?_);go_simp;refine hK.out _ _ (fun _=>T7) ?_;clear hK K;refine yP.one 18 (by kernel_rfl) rfl (by rfl) (fun K hK=>?_);go_simp;refine hK.out _ _ (fun h=>absurd rfl h) ?_;clear hK K;refine yP.done (by kernel_rfl) ?_;obtain ⟨W9,hW9⟩:∃ W9,W9=U.setCell ⟨R,7,none⟩ (.slice pu (k+1) cu):=⟨_,rfl⟩;rw [<- hW9] at BU ⊢;clear hW9 u7 uf ucb RUN T5 T6 T7 TS;go_wp2
    go_roundg (n-(k+1))
    case measure=>omega
    case rel=>exact ⟨k+1,by omega,by omega,by go_num,(show Aside _ from ⟨_,_,_,BU.out⟩)⟩
  ·have hltz:¬ (k:Int)<(n:Int):=by omega
   have ek:k=n:=by omega
   have HB0:=hid (show BgI w wr c lp lc (.slice (some ⟨mb,mo,none⟩) c.ms.length mc) c.ms.length R CB LB n H D [] (.slice pv n cv) (.slice none 0 0) by rw [<- ek];exact HG.out);clear HG;have x3:wr.cell? ⟨CB,3,none⟩=some (.slice (some ⟨mb,mo,none⟩) c.ms.length mc):=HB0.out.cb.cell (i:=3) (by decide);go_wp2;clear x3;obtain ⟨tk,htk⟩:∃ tk:Nat,c.t=(tk:Int):=⟨c.t.toNat,by have:=HC.out.2.2.1;omega⟩;have HTK:=hid htk;clear htk
   go_loopg [6,7,8,40] c.ms.length (fun gg _ _ _ s40 wx=>∃ j:Nat,j<=c.ms.length/\c.ms.length-j<=gg/\s40=.int .i64 j/\Aside (∃ bs vb,bs.length=j/\BgI w wx c lp lc (.slice (some ⟨mb,mo,none⟩) c.ms.length mc) c.ms.length R CB LB n H D bs (.slice pv n cv) vb))
   case atStart=>exact ⟨0,zG _,by omega,rfl,(show Aside _ from ⟨[],_,rfl,HB0.out⟩)⟩
   case round =>
    obtain ⟨j,hj,hgj,rfl,AJ⟩:=hrel;clear HB0;obtain ⟨bs,vb,hbs,hG⟩:=AJ.out;have HB:=hid hG;have HBS:=hid hbs;obtain ⟨pb,cb,hvb,_⟩:=Enc.owns (E:=zI1) hG.bo rfl;rw [hbs] at hvb;subst hvb;clear hG hbs AJ;by_cases hlj:j<c.ms.length
    ·have hljz:(j:Int)<(c.ms.length:Int):=by omega
     have xm:wr.cell? ⟨mb,mo+j,none⟩=some (.int .i64 (c.ms.getD j 0)):=(HB.out.be.cell (p:=⟨mb,mo+j,none⟩) HM.out.1).trans (HM.out.2 j hlj);have y0:wr.cell? ⟨CB,0,none⟩=some (.int .i64 (n:Int)):=by rw [<- HC.out.1];exact HB.out.cb.cell (i:=0) (by decide)
     have y4:wr.cell? ⟨CB,4,none⟩=some (.int .i64 c.cap):=HB.out.cb.cell (i:=4) (by decide);have y2:wr.cell? ⟨CB,2,none⟩=some (.int .i64 (tk:Int)):=by rw [<- HTK.out];exact HB.out.cb.cell (i:=2) (by decide)
     have ht18:1<=tk/\tk<=8:=by have:=HC.out.2.2.1;have:=HTK.out;omega
     have hcap:=HC.out.2.2.2.2;have K:=Bo.new_yes n tk c.cap (by omega) hcap (by omega) wr;have hx1:0<=c.ms.getD j 0/\c.ms.getD j 0<=1048576:=by
      have:=zT.1 HC.out.2.2.2.1 _ (zH hlj);unfold cntB inR at this;simp only [Bool.and_eq_true,decide_eq_true_eq] at this;rw [zA,zB hlj];exact this
     have BK0:=hid (show bk0 c j=if c.ms.getD j 0≠0 then Bo.Plain.caB (Bo.Plain.Bk.new n c.cap tk) ⟨1,0,c.ms.getD j 0⟩ else Bo.Plain.Bk.new n c.cap tk by
      unfold bk0;rw [show c.n.toNat=n by have:=HC.out.1;omega,show c.t.toNat=tk by have:=HTK.out;omega])
     generalize c.ms.getD j 0=x at xm hx1 BK0
     go_wp2_with fail
     refine K.mono ?_;rintro e w2 ⟨A0,G0,rfl,hA,hG,gA,gG,ne,b2⟩;have BN0:=hid (BnI.fresh HB.out.be.size (by omega) hcap ht18 b2 hA hG gA gG ne);obtain ⟨BX,hBX⟩:∃ BX,BX=w2.heap.size:=⟨_,rfl⟩;obtain ⟨W3,hW3⟩:∃ W3,W3=w2.alloc (.cells (Bo.xN6 c.cap tk A0 G0 n) 88):=⟨_,rfl⟩;rw [<- hW3,<- hBX] at BN0;clear K hA hG gA gG ne b2 y0 y4 y2 xm;by_cases hx:x=0
     ·have hxb:(x != 0)=false:=by rw [hx];rfl
      go_upto_region 11 with fail
      rw [<- hW3,<- hBX];obtain ⟨W6,hW6⟩:∃ W6,W6=W3:=⟨_,rfl⟩;obtain ⟨rr,hrr⟩:∃ rr:RB,rr=⟨A0,G0,none,0,0,Bo.Plain.Bk.new n c.cap tk,0⟩:=⟨_,rfl⟩;have BN:=hid (show BnI w wr W6 BX rr by rw [hW6,hrr];exact BN0.out);have BPL:=hid (show rr.b=bk0 c bs.length by rw [HBS.out,BK0.out,if_neg (by rw [hx];exact fun h=>h rfl),hrr]);rw [<- hW6];clear hW6 hrr hW3 hBX BN0;obtain ⟨A,G,p,l,cc,b,N⟩:=rr;obtain ⟨pu,cu,U,hrun,u8,uf,ucb,uke,bU⟩:=HB.out.snocB (w5:=W6.drew) (by have:=HBS.out;omega) BN.out.be.drew (BN.out.jb.keep (w':=W6.drew) fun _ _ _=>rfl) BN.out.ne BPL.out;rw [HBS.out] at hrun;have RUN:=hid (show (Builtin.append_ #[83,83] 83 #[.slice pb j cb,.slice (some ⟨W6.heap.size,0,none⟩) 1 1]).run Tryz.prog (W6.alloc (.cells #[.int .i64 b.cap,.int .i64 (b.ticks:Nat),.int .i64 b.reserve,.int .i64 b.ever,.slice (some ⟨A,0,none⟩) b.n b.n,.slice (some ⟨G,0,none⟩) b.n b.n,.slice p l cc,.int .i64 (N:Nat)] 88)).drew=.ok (.slice pu (j+1) cu) U from hrun);rw [HBS.out] at bU;have BU:=hid bU;have UR:=hid (show U.rowIs BX 88 8 (Bo.bkR A G (.slice p l cc) b N) from BN.out.row.of_block (uke BX BN.out.gx BN.out.row.lt));clear hrun bU;have mixed:Tryz.prog.follows .mixedOrders=true:=by kernel_rfl
      have TS:(fun w':World=>w'.cell? ⟨R,8,none⟩=some (.slice pb j cb)/\w'.cell? ⟨BX,0,none⟩=some (.int .i64 b.cap)/\w'.cell? ⟨BX,1,none⟩=some (.int .i64 (b.ticks:Nat))/\w'.cell? ⟨BX,2,none⟩=some (.int .i64 b.reserve)/\w'.cell? ⟨BX,3,none⟩=some (.int .i64 b.ever)/\w'.cell? ⟨BX,4,none⟩=some (.slice (some ⟨A,0,none⟩) b.n b.n)/\w'.cell? ⟨BX,5,none⟩=some (.slice (some ⟨G,0,none⟩) b.n b.n)/\w'.cell? ⟨BX,6,none⟩=some (.slice p l cc)/\w'.cell? ⟨BX,7,none⟩=some (.int .i64 (N:Nat))) W6.drew:=⟨(HB.out.grow BN.out.be).cell (j:=8) (by decide),BN.out.row.cell (i:=0) (by decide),BN.out.row.cell (i:=1) (by decide),BN.out.row.cell (i:=2) (by decide),BN.out.row.cell (i:=3) (by decide),BN.out.row.cell (i:=4) (by decide),BN.out.row.cell (i:=5) (by decide),BN.out.row.cell (i:=6) (by decide),BN.out.row.cell (i:=7) (by decide)⟩;have NRX:R≠BX:=fun e=>by
       have t1:=yQ (HB.out.grow BN.out.be).bx;rw [e,yQ BN.out.row] at t1;exact absurd (Option.some.inj t1) (by decide)
      have HB2:=HB;have BNg:∀ {X:World},Below W6.heap.size W6 X->BnI w wr X BX ⟨A,G,p,l,cc,b,N⟩:=fun bb=>BN.out.grow bb;clear HB
      go_upto_region 13 with fail
      refine yP.begin (fun w':World=>w'.cell? ⟨R,8,none⟩=some (.slice pb j cb)/\w'.cell? ⟨BX,0,none⟩=some (.int .i64 b.cap)/\w'.cell? ⟨BX,1,none⟩=some (.int .i64 (b.ticks:Nat))/\w'.cell? ⟨BX,2,none⟩=some (.int .i64 b.reserve)/\w'.cell? ⟨BX,3,none⟩=some (.int .i64 b.ever)/\w'.cell? ⟨BX,4,none⟩=some (.slice (some ⟨A,0,none⟩) b.n b.n)/\w'.cell? ⟨BX,5,none⟩=some (.slice (some ⟨G,0,none⟩) b.n b.n)/\w'.cell? ⟨BX,6,none⟩=some (.slice p l cc)/\w'.cell? ⟨BX,7,none⟩=some (.int .i64 (N:Nat))) 10 mixed ?_;refine yP.take 0 (.pointer (some ⟨R,0,none⟩)) rfl (by kernel_rfl) (by kernel_rfl) (by kernel_rfl) (by kernel_rfl) (fun _ _ _ h=>h) TS (by rfl) (fun w' hS=>?_) ?_
      ·(obtain ⟨q0,q1,q2,q3,q4,q5,q6,q7,q8⟩:=hS;go_simp)
      (try simp only [Act.put,List.setIfInBounds_toArray,List.set_cons_zero,List.set_cons_succ])
      refine yP.take 1 (.pointer (some ⟨R,0,none⟩)) rfl (by kernel_rfl) (by kernel_rfl) (by kernel_rfl) (by kernel_rfl) (fun _ _ _ h=>h) TS (by rfl) (fun w' hS=>?_) ?_
      ·(obtain ⟨q0,q1,q2,q3,q4,q5,q6,q7,q8⟩:=hS;go_simp)
      (try simp only [Act.put,List.setIfInBounds_toArray,List.set_cons_zero,List.set_cons_succ])
      refine yP.take 2 (.pointer (some ⟨R,0,none⟩)) rfl (by kernel_rfl) (by kernel_rfl) (by kernel_rfl) (by kernel_rfl) (fun _ _ _ h=>h) TS (by rfl) (fun w' hS=>?_) ?_
      ·(obtain ⟨q0,q1,q2,q3,q4,q5,q6,q7,q8⟩:=hS;go_simp)
      (try simp only [Act.put,List.setIfInBounds_toArray,List.set_cons_zero,List.set_cons_succ])
      refine yP.take 3 (.pointer (some ⟨R,8,none⟩)) rfl (by kernel_rfl) (by kernel_rfl) (by kernel_rfl) (by kernel_rfl) (fun _ _ _ h=>h) TS (by rfl) (fun w' hS=>?_) ?_
      ·(obtain ⟨q0,q1,q2,q3,q4,q5,q6,q7,q8⟩:=hS;go_simp)
      (try simp only [Act.put,List.setIfInBounds_toArray,List.set_cons_zero,List.set_cons_succ])
      refine yP.take 4 (.slice pb j cb) rfl (by kernel_rfl) (by kernel_rfl) (by kernel_rfl) (by kernel_rfl) (fun _ _ _ h=>h) TS (by rfl) (fun w' hS=>?_) ?_
      ·(obtain ⟨q0,q1,q2,q3,q4,q5,q6,q7,q8⟩:=hS;go_simp)
      (try simp only [Act.put,List.setIfInBounds_toArray,List.set_cons_zero,List.set_cons_succ])
      refine yP.take 5 (.agg #[.int .i64 b.cap,.int .i64 (b.ticks:Nat),.int .i64 b.reserve,.int .i64 b.ever,.slice (some ⟨A,0,none⟩) b.n b.n,.slice (some ⟨G,0,none⟩) b.n b.n,.slice p l cc,.int .i64 (N:Nat)]) rfl (by kernel_rfl) (by kernel_rfl) (by kernel_rfl) (by kernel_rfl) (fun _ _ _ h=>h) TS (by rfl) (fun w' hS=>?_) ?_
      ·(obtain ⟨q0,q1,q2,q3,q4,q5,q6,q7,q8⟩:=hS;go_simp)
      (try simp only [Act.put,List.setIfInBounds_toArray,List.set_cons_zero,List.set_cons_succ])
      refine yP.one 6 (by kernel_rfl) rfl (by rfl) (fun K hK=>?_);go_simp;have T7:(fun w':World=>w'.cell? ⟨R,8,none⟩=some (.slice pb j cb)/\w'.cell? ⟨BX,0,none⟩=some (.int .i64 b.cap)/\w'.cell? ⟨BX,1,none⟩=some (.int .i64 (b.ticks:Nat))/\w'.cell? ⟨BX,2,none⟩=some (.int .i64 b.reserve)/\w'.cell? ⟨BX,3,none⟩=some (.int .i64 b.ever)/\w'.cell? ⟨BX,4,none⟩=some (.slice (some ⟨A,0,none⟩) b.n b.n)/\w'.cell? ⟨BX,5,none⟩=some (.slice (some ⟨G,0,none⟩) b.n b.n)/\w'.cell? ⟨BX,6,none⟩=some (.slice p l cc)/\w'.cell? ⟨BX,7,none⟩=some (.int .i64 (N:Nat))) (W6.alloc (.cells #[.int .i64 b.cap,.int .i64 (b.ticks:Nat),.int .i64 b.reserve,.int .i64 b.ever,.slice (some ⟨A,0,none⟩) b.n b.n,.slice (some ⟨G,0,none⟩) b.n b.n,.slice p l cc,.int .i64 (N:Nat)] 88)).drew:=by
       have bb:Below W6.heap.size W6 (W6.alloc (.cells #[.int .i64 b.cap,.int .i64 (b.ticks:Nat),.int .i64 b.reserve,.int .i64 b.ever,.slice (some ⟨A,0,none⟩) b.n b.n,.slice (some ⟨G,0,none⟩) b.n b.n,.slice p l cc,.int .i64 (N:Nat)] 88)).drew:=(yO.alloc yN _).drew;exact ⟨((HB2.out.grow BN.out.be).grow bb).cell (j:=8) (by decide),(BNg bb).row.cell (i:=0) (by decide),(BNg bb).row.cell (i:=1) (by decide),(BNg bb).row.cell (i:=2) (by decide),(BNg bb).row.cell (i:=3) (by decide),(BNg bb).row.cell (i:=4) (by decide),(BNg bb).row.cell (i:=5) (by decide),(BNg bb).row.cell (i:=6) (by decide),(BNg bb).row.cell (i:=7) (by decide)⟩
      refine hK.out _ _ (fun _=>T7) ?_;clear hK K
      (try simp only [Act.put,List.setIfInBounds_toArray,List.set_cons_zero,List.set_cons_succ])
      refine yP.one 7 (by kernel_rfl) rfl (by rfl) (fun K hK=>?_);refine xF _ _ 83 rfl 83 rfl (.slice pb j cb) (.slice (some ⟨W6.heap.size,0,none⟩) 1 1) (by simp [Act.eval]) (by simp [Act.eval]) RUN.out ?_;have T8:(fun w':World=>w'.cell? ⟨R,8,none⟩=some (.slice pb j cb)/\w'.cell? ⟨BX,0,none⟩=some (.int .i64 b.cap)/\w'.cell? ⟨BX,1,none⟩=some (.int .i64 (b.ticks:Nat))/\w'.cell? ⟨BX,2,none⟩=some (.int .i64 b.reserve)/\w'.cell? ⟨BX,3,none⟩=some (.int .i64 b.ever)/\w'.cell? ⟨BX,4,none⟩=some (.slice (some ⟨A,0,none⟩) b.n b.n)/\w'.cell? ⟨BX,5,none⟩=some (.slice (some ⟨G,0,none⟩) b.n b.n)/\w'.cell? ⟨BX,6,none⟩=some (.slice p l cc)/\w'.cell? ⟨BX,7,none⟩=some (.int .i64 (N:Nat))) U:=⟨u8,UR.out.cell (i:=0) (by decide),UR.out.cell (i:=1) (by decide),UR.out.cell (i:=2) (by decide),UR.out.cell (i:=3) (by decide),UR.out.cell (i:=4) (by decide),UR.out.cell (i:=5) (by decide),UR.out.cell (i:=6) (by decide),UR.out.cell (i:=7) (by decide)⟩;refine hK.out _ _ (fun _=>T8) ?_;clear hK K
      (try simp only [Act.put,List.setIfInBounds_toArray,List.set_cons_zero,List.set_cons_succ])
      refine yP.one 8 (by kernel_rfl) rfl (by rfl) (fun K hK=>?_);go_simp;refine hK.out _ _ (fun _=>T8) ?_;clear hK K;refine yP.one 9 (by kernel_rfl) rfl (by rfl) (fun K hK=>?_);go_simp;refine hK.out _ _ (fun _=>T8) ?_;clear hK K;refine yP.one 10 (by kernel_rfl) rfl (by rfl) (fun K hK=>?_);go_simp;refine hK.out _ _ (fun h=>absurd rfl h) ?_;clear hK K;refine yP.done (by kernel_rfl) ?_;obtain ⟨W9,hW9⟩:∃ W9,W9=U.setCell ⟨R,8,none⟩ (.slice pu (j+1) cu):=⟨_,rfl⟩;rw [<- hW9] at BU ⊢;clear hW9 u8 uf ucb uke UR RUN TS T7 T8 NRX BNg HB2 BN BPL mixed;go_wp2
      go_roundg (c.ms.length-(j+1))
      case measure=>omega
      case rel=>exact ⟨j+1,by omega,by omega,by go_num,(show Aside _ from ⟨_,_,by rw [zD,HBS.out];rfl,BU.out⟩)⟩
     ·have hxb:(x != 0)=true:=by rw [bne_iff_ne];exact hx
      have K2:=Bo.xN0 w.heap.size BX 0 A0 G0 0 (Win.all 88 8) (.slice none 0 0) (Bo.Plain.Bk.new n c.cap tk) ⟨1,0,x⟩ (by omega) W3 BN0.out.bk
      go_upto_region 11 with fail
      rw [<- hW3,<- hBX];clear hW3 hBX
      go_wp2_with fail
      refine K2.mono ?_;rintro e W6 ⟨ru,vl',N',rfl,_,bk',hN',un,_,hf⟩;obtain ⟨rr,hrb,bn⟩:=BN0.out.call (xY0 bk') bk' (by omega) un hf;have BN:=hid bn;have BPL:=hid (show rr.b=bk0 c bs.length by rw [HBS.out,BK0.out,if_pos hx,hrb]);clear K2 bk' hN' un hf bn hrb BN0;obtain ⟨A,G,p,l,cc,b,N⟩:=rr;obtain ⟨pu,cu,U,hrun,u8,uf,ucb,uke,bU⟩:=HB.out.snocB (w5:=W6.drew) (by have:=HBS.out;omega) BN.out.be.drew (BN.out.jb.keep (w':=W6.drew) fun _ _ _=>rfl) BN.out.ne BPL.out;rw [HBS.out] at hrun;have RUN:=hid (show (Builtin.append_ #[83,83] 83 #[.slice pb j cb,.slice (some ⟨W6.heap.size,0,none⟩) 1 1]).run Tryz.prog (W6.alloc (.cells #[.int .i64 b.cap,.int .i64 (b.ticks:Nat),.int .i64 b.reserve,.int .i64 b.ever,.slice (some ⟨A,0,none⟩) b.n b.n,.slice (some ⟨G,0,none⟩) b.n b.n,.slice p l cc,.int .i64 (N:Nat)] 88)).drew=.ok (.slice pu (j+1) cu) U from hrun);rw [HBS.out] at bU;have BU:=hid bU;have UR:=hid (show U.rowIs BX 88 8 (Bo.bkR A G (.slice p l cc) b N) from BN.out.row.of_block (uke BX BN.out.gx BN.out.row.lt));clear hrun bU;have mixed:Tryz.prog.follows .mixedOrders=true:=by kernel_rfl
      have TS:(fun w':World=>w'.cell? ⟨R,8,none⟩=some (.slice pb j cb)/\w'.cell? ⟨BX,0,none⟩=some (.int .i64 b.cap)/\w'.cell? ⟨BX,1,none⟩=some (.int .i64 (b.ticks:Nat))/\w'.cell? ⟨BX,2,none⟩=some (.int .i64 b.reserve)/\w'.cell? ⟨BX,3,none⟩=some (.int .i64 b.ever)/\w'.cell? ⟨BX,4,none⟩=some (.slice (some ⟨A,0,none⟩) b.n b.n)/\w'.cell? ⟨BX,5,none⟩=some (.slice (some ⟨G,0,none⟩) b.n b.n)/\w'.cell? ⟨BX,6,none⟩=some (.slice p l cc)/\w'.cell? ⟨BX,7,none⟩=some (.int .i64 (N:Nat))) W6.drew:=⟨(HB.out.grow BN.out.be).cell (j:=8) (by decide),BN.out.row.cell (i:=0) (by decide),BN.out.row.cell (i:=1) (by decide),BN.out.row.cell (i:=2) (by decide),BN.out.row.cell (i:=3) (by decide),BN.out.row.cell (i:=4) (by decide),BN.out.row.cell (i:=5) (by decide),BN.out.row.cell (i:=6) (by decide),BN.out.row.cell (i:=7) (by decide)⟩;have NRX:R≠BX:=fun e=>by
       have t1:=yQ (HB.out.grow BN.out.be).bx;rw [e,yQ BN.out.row] at t1;exact absurd (Option.some.inj t1) (by decide)
      have HB2:=HB;have BNg:∀ {X:World},Below W6.heap.size W6 X->BnI w wr X BX ⟨A,G,p,l,cc,b,N⟩:=fun bb=>BN.out.grow bb;clear HB
      go_upto_region 13 with fail
      refine yP.begin (fun w':World=>w'.cell? ⟨R,8,none⟩=some (.slice pb j cb)/\w'.cell? ⟨BX,0,none⟩=some (.int .i64 b.cap)/\w'.cell? ⟨BX,1,none⟩=some (.int .i64 (b.ticks:Nat))/\w'.cell? ⟨BX,2,none⟩=some (.int .i64 b.reserve)/\w'.cell? ⟨BX,3,none⟩=some (.int .i64 b.ever)/\w'.cell? ⟨BX,4,none⟩=some (.slice (some ⟨A,0,none⟩) b.n b.n)/\w'.cell? ⟨BX,5,none⟩=some (.slice (some ⟨G,0,none⟩) b.n b.n)/\w'.cell? ⟨BX,6,none⟩=some (.slice p l cc)/\w'.cell? ⟨BX,7,none⟩=some (.int .i64 (N:Nat))) 10 mixed ?_;refine yP.take 0 (.pointer (some ⟨R,0,none⟩)) rfl (by kernel_rfl) (by kernel_rfl) (by kernel_rfl) (by kernel_rfl) (fun _ _ _ h=>h) TS (by rfl) (fun w' hS=>?_) ?_
      ·(obtain ⟨q0,q1,q2,q3,q4,q5,q6,q7,q8⟩:=hS;go_simp)
      (try simp only [Act.put,List.setIfInBounds_toArray,List.set_cons_zero,List.set_cons_succ])
      refine yP.take 1 (.pointer (some ⟨R,0,none⟩)) rfl (by kernel_rfl) (by kernel_rfl) (by kernel_rfl) (by kernel_rfl) (fun _ _ _ h=>h) TS (by rfl) (fun w' hS=>?_) ?_
      ·(obtain ⟨q0,q1,q2,q3,q4,q5,q6,q7,q8⟩:=hS;go_simp)
      (try simp only [Act.put,List.setIfInBounds_toArray,List.set_cons_zero,List.set_cons_succ])
      refine yP.take 2 (.pointer (some ⟨R,0,none⟩)) rfl (by kernel_rfl) (by kernel_rfl) (by kernel_rfl) (by kernel_rfl) (fun _ _ _ h=>h) TS (by rfl) (fun w' hS=>?_) ?_
      ·(obtain ⟨q0,q1,q2,q3,q4,q5,q6,q7,q8⟩:=hS;go_simp)
      (try simp only [Act.put,List.setIfInBounds_toArray,List.set_cons_zero,List.set_cons_succ])
      refine yP.take 3 (.pointer (some ⟨R,8,none⟩)) rfl (by kernel_rfl) (by kernel_rfl) (by kernel_rfl) (by kernel_rfl) (fun _ _ _ h=>h) TS (by rfl) (fun w' hS=>?_) ?_
      ·(obtain ⟨q0,q1,q2,q3,q4,q5,q6,q7,q8⟩:=hS;go_simp)
      (try simp only [Act.put,List.setIfInBounds_toArray,List.set_cons_zero,List.set_cons_succ])
      refine yP.take 4 (.slice pb j cb) rfl (by kernel_rfl) (by kernel_rfl) (by kernel_rfl) (by kernel_rfl) (fun _ _ _ h=>h) TS (by rfl) (fun w' hS=>?_) ?_
      ·(obtain ⟨q0,q1,q2,q3,q4,q5,q6,q7,q8⟩:=hS;go_simp)
      (try simp only [Act.put,List.setIfInBounds_toArray,List.set_cons_zero,List.set_cons_succ])
      refine yP.take 5 (.agg #[.int .i64 b.cap,.int .i64 (b.ticks:Nat),.int .i64 b.reserve,.int .i64 b.ever,.slice (some ⟨A,0,none⟩) b.n b.n,.slice (some ⟨G,0,none⟩) b.n b.n,.slice p l cc,.int .i64 (N:Nat)]) rfl (by kernel_rfl) (by kernel_rfl) (by kernel_rfl) (by kernel_rfl) (fun _ _ _ h=>h) TS (by rfl) (fun w' hS=>?_) ?_
      ·(obtain ⟨q0,q1,q2,q3,q4,q5,q6,q7,q8⟩:=hS;go_simp)
      (try simp only [Act.put,List.setIfInBounds_toArray,List.set_cons_zero,List.set_cons_succ])
      refine yP.one 6 (by kernel_rfl) rfl (by rfl) (fun K hK=>?_);go_simp;have T7:(fun w':World=>w'.cell? ⟨R,8,none⟩=some (.slice pb j cb)/\w'.cell? ⟨BX,0,none⟩=some (.int .i64 b.cap)/\w'.cell? ⟨BX,1,none⟩=some (.int .i64 (b.ticks:Nat))/\w'.cell? ⟨BX,2,none⟩=some (.int .i64 b.reserve)/\w'.cell? ⟨BX,3,none⟩=some (.int .i64 b.ever)/\w'.cell? ⟨BX,4,none⟩=some (.slice (some ⟨A,0,none⟩) b.n b.n)/\w'.cell? ⟨BX,5,none⟩=some (.slice (some ⟨G,0,none⟩) b.n b.n)/\w'.cell? ⟨BX,6,none⟩=some (.slice p l cc)/\w'.cell? ⟨BX,7,none⟩=some (.int .i64 (N:Nat))) (W6.alloc (.cells #[.int .i64 b.cap,.int .i64 (b.ticks:Nat),.int .i64 b.reserve,.int .i64 b.ever,.slice (some ⟨A,0,none⟩) b.n b.n,.slice (some ⟨G,0,none⟩) b.n b.n,.slice p l cc,.int .i64 (N:Nat)] 88)).drew:=by
       have bb:Below W6.heap.size W6 (W6.alloc (.cells #[.int .i64 b.cap,.int .i64 (b.ticks:Nat),.int .i64 b.reserve,.int .i64 b.ever,.slice (some ⟨A,0,none⟩) b.n b.n,.slice (some ⟨G,0,none⟩) b.n b.n,.slice p l cc,.int .i64 (N:Nat)] 88)).drew:=(yO.alloc yN _).drew;exact ⟨((HB2.out.grow BN.out.be).grow bb).cell (j:=8) (by decide),(BNg bb).row.cell (i:=0) (by decide),(BNg bb).row.cell (i:=1) (by decide),(BNg bb).row.cell (i:=2) (by decide),(BNg bb).row.cell (i:=3) (by decide),(BNg bb).row.cell (i:=4) (by decide),(BNg bb).row.cell (i:=5) (by decide),(BNg bb).row.cell (i:=6) (by decide),(BNg bb).row.cell (i:=7) (by decide)⟩
      refine hK.out _ _ (fun _=>T7) ?_;clear hK K
      (try simp only [Act.put,List.setIfInBounds_toArray,List.set_cons_zero,List.set_cons_succ])
      refine yP.one 7 (by kernel_rfl) rfl (by rfl) (fun K hK=>?_);refine xF _ _ 83 rfl 83 rfl (.slice pb j cb) (.slice (some ⟨W6.heap.size,0,none⟩) 1 1) (by simp [Act.eval]) (by simp [Act.eval]) RUN.out ?_;have T8:(fun w':World=>w'.cell? ⟨R,8,none⟩=some (.slice pb j cb)/\w'.cell? ⟨BX,0,none⟩=some (.int .i64 b.cap)/\w'.cell? ⟨BX,1,none⟩=some (.int .i64 (b.ticks:Nat))/\w'.cell? ⟨BX,2,none⟩=some (.int .i64 b.reserve)/\w'.cell? ⟨BX,3,none⟩=some (.int .i64 b.ever)/\w'.cell? ⟨BX,4,none⟩=some (.slice (some ⟨A,0,none⟩) b.n b.n)/\w'.cell? ⟨BX,5,none⟩=some (.slice (some ⟨G,0,none⟩) b.n b.n)/\w'.cell? ⟨BX,6,none⟩=some (.slice p l cc)/\w'.cell? ⟨BX,7,none⟩=some (.int .i64 (N:Nat))) U:=⟨u8,UR.out.cell (i:=0) (by decide),UR.out.cell (i:=1) (by decide),UR.out.cell (i:=2) (by decide),UR.out.cell (i:=3) (by decide),UR.out.cell (i:=4) (by decide),UR.out.cell (i:=5) (by decide),UR.out.cell (i:=6) (by decide),UR.out.cell (i:=7) (by decide)⟩;refine hK.out _ _ (fun _=>T8) ?_;clear hK K
      (try simp only [Act.put,List.setIfInBounds_toArray,List.set_cons_zero,List.set_cons_succ])
      refine yP.one 8 (by kernel_rfl) rfl (by rfl) (fun K hK=>?_);go_simp;refine hK.out _ _ (fun _=>T8) ?_;clear hK K;refine yP.one 9 (by kernel_rfl) rfl (by rfl) (fun K hK=>?_);go_simp;refine hK.out _ _ (fun _=>T8) ?_;clear hK K;refine yP.one 10 (by kernel_rfl) rfl (by rfl) (fun K hK=>?_);go_simp;refine hK.out _ _ (fun h=>absurd rfl h) ?_;clear hK K;refine yP.done (by kernel_rfl) ?_;obtain ⟨W9,hW9⟩:∃ W9,W9=U.setCell ⟨R,8,none⟩ (.slice pu (j+1) cu):=⟨_,rfl⟩;rw [<- hW9] at BU ⊢;clear hW9 u8 uf ucb uke UR RUN TS T7 T8 NRX BNg HB2 BN BPL mixed;go_wp2
      go_roundg (c.ms.length-(j+1))
      case measure=>omega
      case rel=>exact ⟨j+1,by omega,by omega,by go_num,(show Aside _ from ⟨_,_,by rw [zD,HBS.out];rfl,BU.out⟩)⟩
    ·have hljz:¬ (j:Int)<(c.ms.length:Int):=by omega
     have ej:bs.length=c.ms.length:=by have:=HBS.out;omega
     obtain ⟨M,hMR,wi⟩:=HB.out.made n18.1 ej hm13.1 HI.out.1 HI.out.2;have WIM:=hid wi;have BE:=hid HB.out.be;have HMR:=hid hMR;clear wi hMR HB HBS;go_wp2;go_ret
     exact ⟨M,by rw [HMR.out];rfl,WIM.out,BE.out⟩
def qA:Enc Sp:=⟨8,fun s=>[.int .i64 s.kind,.int .i64 s.who,.int .i64 s.item,.int .i64 s.count,.int .i64 s.life,.int .i64 s.id,.int .i64 s.label,.int .i64 s.key],fun _=>rfl,fun r u hu=>by
 simp only [List.mem_cons,List.not_mem_nil,or_false] at hu;rcases hu with rfl|rfl|rfl|rfl|rfl|rfl|rfl|rfl<;>rfl,by decide⟩
theorem yB7 {w:World} {p:Option Addr} {l:List Sp} (h:qA.Holds w p l) (h0:0<l.length):∃ b off,p=some ⟨b,off,none⟩/\b<w.heap.size/\∀ k,k<l.length ->
  w.cell? ⟨b,off+k*8,none⟩=some (.int .i64 (l.getD k default).kind)/\w.cell? ⟨b,off+k*8+1,none⟩=some (.int .i64 (l.getD k default).who)/\w.cell? ⟨b,off+k*8+2,none⟩=some (.int .i64 (l.getD k default).item)/\w.cell? ⟨b,off+k*8+3,none⟩=some (.int .i64 (l.getD k default).count)/\w.cell? ⟨b,off+k*8+4,none⟩=some (.int .i64 (l.getD k default).life)/\w.cell? ⟨b,off+k*8+5,none⟩=some (.int .i64 (l.getD k default).id)/\w.cell? ⟨b,off+k*8+6,none⟩=some (.int .i64 (l.getD k default).label)/\w.cell? ⟨b,off+k*8+7,none⟩=some (.int .i64 (l.getD k default).key):=by
 obtain ⟨b,off,rfl,hb,hc⟩:=h.at default h0;refine ⟨b,off,rfl,hb,fun k hk=>?_⟩;have f:∀ i u,i<8->(qA.enc (l.getD k default))[i]?=some u->w.cell? ⟨b,off+k*8+i,none⟩=some u:=fun i u hi hu=>by
  have:=hc k i u hk hi hu;rw [<- Nat.add_assoc] at this;exact this
 exact ⟨f 0 _ (by decide) rfl,f 1 _ (by decide) rfl,f 2 _ (by decide) rfl,f 3 _ (by decide) rfl,f 4 _ (by decide) rfl,f 5 _ (by decide) rfl,f 6 _ (by decide) rfl,f 7 _ (by decide) rfl⟩
def putT (w:World) (g o:Nat) (v:Nat->Value):World:=(((((((((((w.setCell ⟨g,o,none⟩ (v 0)).setCell ⟨g,o+1,none⟩ (v 1)).setCell ⟨g,o+2,none⟩ (v 2)).setCell ⟨g,o+3,none⟩ (v 3)).setCell ⟨g,o+4,none⟩ (v 4)).setCell ⟨g,o+5,none⟩ (v 5)).setCell ⟨g,o+6,none⟩ (v 6)).setCell ⟨g,o+7,none⟩ (v 7)).setCell ⟨g,o+8,none⟩ (v 8)).setCell ⟨g,o+9,none⟩ (v 9)).setCell ⟨g,o+10,none⟩ (v 10))
theorem yZ8 (w:World) (g o:Nat) (v:Nat->Value):Uw (fun b=>b=g) w (putT w g o v):=by
 unfold putT;exact ((((((((((((Uw.refl (fun b=>b=g) w).set (b:=g) (.inl rfl) (o) (v 0)).set (b:=g) (.inl rfl) (o+1) (v 1)).set (b:=g) (.inl rfl) (o+2) (v 2)).set (b:=g) (.inl rfl) (o+3) (v 3)).set (b:=g) (.inl rfl) (o+4) (v 4)).set (b:=g) (.inl rfl) (o+5) (v 5)).set (b:=g) (.inl rfl) (o+6) (v 6)).set (b:=g) (.inl rfl) (o+7) (v 7)).set (b:=g) (.inl rfl) (o+8) (v 8)).set (b:=g) (.inl rfl) (o+9) (v 9)).set (b:=g) (.inl rfl) (o+10) (v 10))
def tlsV (ts:List Tl) (sv fv rv:Nat->Value) (j:Nat):Value:=if j/11<ts.length then tlOf (ts.getD (j/11) (tlE 0)) (sv (j/11)) (fv (j/11)) (rv (j/11)) (j%11) else qH (j%11)
theorem xK9 {w:World} {g N k:Nat} {ts:List Tl} {sv fv rv:Nat->Value} (h:w.rowIs g 42 (N*11) (tlsV ts sv fv rv)) (hk:ts.length=k) (t:Tl) (s' f' r':Value) :
  (putT w g (k*11) (tlOf t s' f' r')).rowIs g 42 (N*11) (tlsV (ts++[t]) (up1 sv k s') (up1 fv k f') (up1 rv k r')):=by
 have gen:∀ (o:Nat) (v:Nat->Value),(putT w g o v).rowIs g 42 (N*11) (fun j=>if j=o+10 then v 10 else if j=o+9 then v 9 else if j=o+8 then v 8 else if j=o+7 then v 7 else if j=o+6 then v 6 else if j=o+5 then v 5 else if j=o+4 then v 4 else if j=o+3 then v 3 else if j=o+2 then v 2 else if j=o+1 then v 1 else if j=o then v 0 else tlsV ts sv fv rv j):=fun o v=>by
  unfold putT;exact (((((((((((h.set (o) (v 0)).set (o+1) (v 1)).set (o+2) (v 2)).set (o+3) (v 3)).set (o+4) (v 4)).set (o+5) (v 5)).set (o+6) (v 6)).set (o+7) (v 7)).set (o+8) (v 8)).set (o+9) (v 9)).set (o+10) (v 10))
 refine (gen (k*11) (tlOf t s' f' r')).congr fun j hj=>?_;have e1:(ts++[t]).getD k (tlE 0)=t:=by rw [zA,zR (by omega),hk,Nat.sub_self];rfl
 by_cases e:j/11=k
 ·obtain ⟨i,hi,rfl⟩:∃ i,i<11/\j=k*11+i:=⟨j%11,by omega,by omega⟩
  have:i=0\/i=1\/i=2\/i=3\/i=4\/i=5\/i=6\/i=7\/i=8\/i=9\/i=10:=by omega
  unfold tlsV;rw [if_pos (show (k*11+i)/11<(ts++[t]).length by rw [zD,List.length_singleton];omega)];rcases this with rfl|rfl|rfl|rfl|rfl|rfl|rfl|rfl|rfl|rfl|rfl
  ·simp only [Nat.add_zero];rw [if_neg (show ¬ k*11=k*11+10 by omega),if_neg (show ¬ k*11=k*11+9 by omega),if_neg (show ¬ k*11=k*11+8 by omega),if_neg (show ¬ k*11=k*11+7 by omega),if_neg (show ¬ k*11=k*11+6 by omega),if_neg (show ¬ k*11=k*11+5 by omega),if_neg (show ¬ k*11=k*11+4 by omega),if_neg (show ¬ k*11=k*11+3 by omega),if_neg (show ¬ k*11=k*11+2 by omega),if_neg (show ¬ k*11=k*11+1 by omega),if_pos trivial,show (k*11)/11=k by omega,show (k*11)%11=0 by omega,e1,yR,yR,yR]
  ·rw [if_neg (show ¬ k*11+1=k*11+10 by omega),if_neg (show ¬ k*11+1=k*11+9 by omega),if_neg (show ¬ k*11+1=k*11+8 by omega),if_neg (show ¬ k*11+1=k*11+7 by omega),if_neg (show ¬ k*11+1=k*11+6 by omega),if_neg (show ¬ k*11+1=k*11+5 by omega),if_neg (show ¬ k*11+1=k*11+4 by omega),if_neg (show ¬ k*11+1=k*11+3 by omega),if_neg (show ¬ k*11+1=k*11+2 by omega),if_pos rfl,show (k*11+1)/11=k by omega,show (k*11+1)%11=1 by omega,e1,yR,yR,yR]
  ·rw [if_neg (show ¬ k*11+2=k*11+10 by omega),if_neg (show ¬ k*11+2=k*11+9 by omega),if_neg (show ¬ k*11+2=k*11+8 by omega),if_neg (show ¬ k*11+2=k*11+7 by omega),if_neg (show ¬ k*11+2=k*11+6 by omega),if_neg (show ¬ k*11+2=k*11+5 by omega),if_neg (show ¬ k*11+2=k*11+4 by omega),if_neg (show ¬ k*11+2=k*11+3 by omega),if_pos rfl,show (k*11+2)/11=k by omega,show (k*11+2)%11=2 by omega,e1,yR,yR,yR]
  ·rw [if_neg (show ¬ k*11+3=k*11+10 by omega),if_neg (show ¬ k*11+3=k*11+9 by omega),if_neg (show ¬ k*11+3=k*11+8 by omega),if_neg (show ¬ k*11+3=k*11+7 by omega),if_neg (show ¬ k*11+3=k*11+6 by omega),if_neg (show ¬ k*11+3=k*11+5 by omega),if_neg (show ¬ k*11+3=k*11+4 by omega),if_pos rfl,show (k*11+3)/11=k by omega,show (k*11+3)%11=3 by omega,e1,yR,yR,yR]
  ·rw [if_neg (show ¬ k*11+4=k*11+10 by omega),if_neg (show ¬ k*11+4=k*11+9 by omega),if_neg (show ¬ k*11+4=k*11+8 by omega),if_neg (show ¬ k*11+4=k*11+7 by omega),if_neg (show ¬ k*11+4=k*11+6 by omega),if_neg (show ¬ k*11+4=k*11+5 by omega),if_pos rfl,show (k*11+4)/11=k by omega,show (k*11+4)%11=4 by omega,e1,yR,yR,yR]
  ·rw [if_neg (show ¬ k*11+5=k*11+10 by omega),if_neg (show ¬ k*11+5=k*11+9 by omega),if_neg (show ¬ k*11+5=k*11+8 by omega),if_neg (show ¬ k*11+5=k*11+7 by omega),if_neg (show ¬ k*11+5=k*11+6 by omega),if_pos rfl,show (k*11+5)/11=k by omega,show (k*11+5)%11=5 by omega,e1,yR,yR,yR]
  ·rw [if_neg (show ¬ k*11+6=k*11+10 by omega),if_neg (show ¬ k*11+6=k*11+9 by omega),if_neg (show ¬ k*11+6=k*11+8 by omega),if_neg (show ¬ k*11+6=k*11+7 by omega),if_pos rfl,show (k*11+6)/11=k by omega,show (k*11+6)%11=6 by omega,e1,yR,yR,yR]
  ·rw [if_neg (show ¬ k*11+7=k*11+10 by omega),if_neg (show ¬ k*11+7=k*11+9 by omega),if_neg (show ¬ k*11+7=k*11+8 by omega),if_pos rfl,show (k*11+7)/11=k by omega,show (k*11+7)%11=7 by omega,e1,yR,yR,yR]
  ·rw [if_neg (show ¬ k*11+8=k*11+10 by omega),if_neg (show ¬ k*11+8=k*11+9 by omega),if_pos rfl,show (k*11+8)/11=k by omega,show (k*11+8)%11=8 by omega,e1,yR,yR,yR]
  ·rw [if_neg (show ¬ k*11+9=k*11+10 by omega),if_pos rfl,show (k*11+9)/11=k by omega,show (k*11+9)%11=9 by omega,e1,yR,yR,yR]
  ·rw [if_pos rfl,show (k*11+10)/11=k by omega,show (k*11+10)%11=10 by omega,e1,yR,yR,yR]
 ·rw [if_neg (show ¬ j=k*11+10 by omega),if_neg (show ¬ j=k*11+9 by omega),if_neg (show ¬ j=k*11+8 by omega),if_neg (show ¬ j=k*11+7 by omega),if_neg (show ¬ j=k*11+6 by omega),if_neg (show ¬ j=k*11+5 by omega),if_neg (show ¬ j=k*11+4 by omega),if_neg (show ¬ j=k*11+3 by omega),if_neg (show ¬ j=k*11+2 by omega),if_neg (show ¬ j=k*11+1 by omega),if_neg (show ¬ j=k*11 by omega)]
  unfold tlsV;by_cases l:j/11<ts.length
  ·rw [if_pos l,if_pos (by rw [zD];omega),yY sv k s' e,yY fv k f' e,yY rv k r' e,zA,zA,zX l]
  ·rw [if_neg l,if_neg (by rw [zD,List.length_singleton];omega)]
theorem TdI.box {M:Mm} {w0 w w':World} {n m:Nat} {t:Tl} {sv fv rv:Value} (h:TdI M n m w0 w t sv fv rv) {b k:Nat} {f:Nat->Value} (hr:w.rowIs b 42 k f) (u:Uw (fun x=>x=b) w w'):TdI M n m w0 w' t sv fv rv:=by
 obtain ⟨p,q,e,hb⟩:=h.fr;exact ⟨h.ev.box hr (by decide) u,⟨p,q,e,hb.keep ⟨u.os,u.tape,u.output,u.size,fun x hx hp=>u.block x hx (fun e2=>by
  have e3:x=b:=e2;rcases hp with y|⟨cs,fr,y⟩
  ·omega
  ·have t1:=qQ y
   rw [e3,yQ hr] at t1;exact absurd (Option.some.inj t1) (by decide))⟩⟩,h.nu.box hr (by decide) u,h.no⟩
structure TlsI (M:Mm) (n m:Nat) (w0 w:World) (TB N:Nat) (ts:List Tl) (sv fv rv:Nat->Value):Prop where
 row:w.rowIs TB 42 (N*11) (tlsV ts sv fv rv)
 td:∀ i,i<ts.length->TdI M n m w0 w (ts.getD i (tlE 0)) (sv i) (fv i) (rv i)
 gt:w0.heap.size<=TB
namespace TlsI
variable {B:Nat} {M M':Mm} {w0 w w':World} {c:Plain.Cf} {n m:Nat} {W:Plain.Wo} {T S TB N:Nat} {ts:List Plain.Tl} {sv fv rv:Nat->Value}
theorem free (h:TlsI M n m w0 w TB N ts sv fv rv) (wi:WI B M w c n m W T S):¬ own M n m TB:=wi.free (yQ h.row) (by decide) (by decide) (by decide) (by decide) (by decide) (by decide) (by decide) (by decide)
theorem fr (h:TlsI M n m w0 w TB N ts sv fv rv) (wi:WI B M w c n m W T S) (f:Fr M M' n m w w'):TlsI M' n m w0 w' TB N ts sv fv rv :=
 ⟨f.u.rowIs h.row (h.free wi),fun i hi=>(h.td i hi).keep wi f,h.gt⟩
theorem put (h:TlsI M n m w0 w TB N ts sv fv rv) {k:Nat} (hk:ts.length=k) {t:Plain.Tl} {s' f' r':Value} (ht:TdI M n m w0 w t s' f' r') :
  TlsI M n m w0 (putT w TB (k*11) (tlOf t s' f' r')) TB N (ts++[t]) (up1 sv k s') (up1 fv k f') (up1 rv k r'):=by
 have u:=yZ8 w TB (k*11) (tlOf t s' f' r');refine ⟨xK9 h.row hk t s' f' r',fun i hi=>?_,h.gt⟩;by_cases e:i=k
 ·subst e
  rw [yR,yR,yR,zA,zR (by omega),hk,Nat.sub_self];exact ht.box h.row u
 ·rw [zD,List.length_singleton] at hi
  rw [yY sv k s' e,yY fv k f' e,yY rv k r' e,zA,zX (by omega),<- zA];exact (h.td i (by omega)).box h.row u
end TlsI
theorem yZ9 (N:Nat) (hN:N<=300) (W:World):(Instr.makeSlice 33 (.int .i64 (N:Int)) (.int .i64 (N:Int))).run Tryz.prog W=.ok (.slice (some ⟨W.heap.size,0,none⟩) N N) (W.alloc (.cells (madeCells #[.int .i64 0,.int .i64 0,.int .i64 0,.int .i64 0,.int .i64 0,.int .i64 0,.int .i64 0,.int .i64 0,.slice none 0 0,.slice none 0 0,.slice none 0 0] (N*11)) 42)):=by
 obtain ⟨i0,hi,hz0,hz1,hz2⟩:=info_parts (show (Tryz.prog.info? 42).map (fun i=>(i.zero,i.size,i.bytes))=some (some (.agg #[.int .i64 0,.int .i64 0,.int .i64 0,.int .i64 0,.int .i64 0,.int .i64 0,.int .i64 0,.int .i64 0,.slice none 0 0,.slice none 0 0,.slice none 0 0]),11,136) by kernel_rfl);have:=run_make (P:=Tryz.prog) W 33 42 i0 _ Tryz.underlying33 hi hz0 .i64 .i64 (N:Int) (N:Int) (by omega) (Int.le_refl _) (by rw [hz2];omega) (by omega);rw [hz1,show (Value.agg #[.int .i64 0,.int .i64 0,.int .i64 0,.int .i64 0,.int .i64 0,.int .i64 0,.int .i64 0,.int .i64 0,.slice none 0 0,.slice none 0 0,.slice none 0 0]).cells=#[.int .i64 0,.int .i64 0,.int .i64 0,.int .i64 0,.int .i64 0,.int .i64 0,.int .i64 0,.int .i64 0,.slice none 0 0,.slice none 0 0,.slice none 0 0] from rfl] at this;simpa using this
theorem TlsI.start (M:Mm) (n m:Nat) (w0 W:World) (N:Nat) (h:w0.heap.size<=W.heap.size):TlsI M n m w0 (W.alloc (.cells (madeCells #[.int .i64 0,.int .i64 0,.int .i64 0,.int .i64 0,.int .i64 0,.int .i64 0,.int .i64 0,.int .i64 0,.slice none 0 0,.slice none 0 0,.slice none 0 0] (N*11)) 42)) W.heap.size N [] (fun _=>nilS) (fun _=>nilS) (fun _=>nilS):=by
 refine ⟨⟨_,yF _ _,size_madeCells _ _,fun j hi=>?_⟩,fun i hi=>absurd hi (yE _),h⟩;obtain ⟨i,hi2,e⟩:∃ i,i<11/\j%11=i:=⟨j%11,by omega,rfl⟩;have:i=0\/i=1\/i=2\/i=3\/i=4\/i=5\/i=6\/i=7\/i=8\/i=9\/i=10:=by omega
 rcases this with rfl|rfl|rfl|rfl|rfl|rfl|rfl|rfl|rfl|rfl|rfl<;>simp [madeCells,hi,e,tlsV,tlV]
def RunY (c:Cf) (n m:Nat) (l:List Sp) (N:Nat) (w:World) (e:Ending) (w':World):Prop :=
 ∃ B M T S TB sv fv rv,e=.returned (.tuple #[.pointer (some ⟨M.R,0,none⟩),.slice (some ⟨TB,0,none⟩) N N,.int .i64 0])/\w.heap.size<=B/\WI B M w' c n m (runW c (Wo.start c) l) T S/\TlsI M n m w w' TB N (tlsF c (Wo.start c) l) sv fv rv/\Below w.heap.size w w'
theorem Plain.wok_run {c:Cf} {n m:Nat} (hc:mayC c=true) (hn:c.n=n) (hm:c.ms.length=m) (l:List Sp) (hl:l.length<=300):∀ k,k<=l.length->Wok c n m k (runW c (Wo.start c) (l.take k)):=fun k=>by
 induction k with
 | zero=>intro _;exact Wok.start hn
 | succ k ih =>
  intro hk;rw [zW1 c _ l k (by omega)];exact (ih (by omega)).step hc hn hm (by omega) _
theorem xA0 (c:Cf) (lp mp:Option Addr) (lc mc n m:Nat) (p:Option Addr) (N cap:Nat) (l:List Sp) (hN:l.length=N) (h300:N<=300) (hc:mayC c=true) (hn:c.n=n) (hm:c.ms.length=m) (hL0:2<=n->0<c.ls.length) (hwf:∀ s,s∈l->(Lit.int .i64 s.id).wf=true)
  (w:World) (hI:CfI w c (.slice lp c.ls.length lc) (.slice mp c.ms.length mc)) (htb:∀ k,2<=k->k<=6->w.cell? ⟨0,k,none⟩=some (.int .i64 (k:Nat))) (hp:qA.Holds w p l) :
  Calls Tryz.prog 26 #[cfV c (.slice lp c.ls.length lc) (.slice mp c.ms.length mc),.slice p N cap] w (RunY c n m l N w):=by
 have hb0:0<w.heap.size:=zC (w:=w) (h:=htb 2 (by omega) (by omega));obtain ⟨WA,hWA⟩:∃ WA,WA=w.alloc (boxC c (.slice lp c.ls.length lc) (.slice mp c.ms.length mc)):=⟨_,rfl⟩;have BA:=hid (show Below w.heap.size w WA by rw [hWA];exact yO.alloc yN _);have CA:=hid (show qY WA w.heap.size c (.slice lp c.ls.length lc) (.slice mp c.ms.length mc) by rw [hWA];exact qY.start w c (.slice lp c.ls.length lc) (.slice mp c.ms.length mc));have K1:=xG0 c (.slice lp c.ls.length lc) (.slice mp c.ms.length mc) WA (hI.grow BA.out);rw [hc,hWA] at K1;have K2:=fun X (bx:Below w.heap.size w X)=>xY1 c lp mp lc mc n m hc hn hm X (hI.grow bx) (fun k h2 h6=>(bx.cell (p:=⟨0,k,none⟩) hb0).trans (htb k h2 h6));have HOK:=hid (wok_run hc hn hm l (by omega));have HC:=hid (And.intro hc (And.intro hn (And.intro hm hL0)));have HWF:=hid hwf;have HP:=hid hp;have HN:=hid hN;have hN3:¬ (300:Int)<(N:Int):=by omega
 have mk:=yZ9 N h300;have hm3:m<=3:=by have:=(xJ hc).2.2.2.2.1;omega
 clear hI htb hc hn hm hL0 hwf hp hb0;go_enter Tryz.func26,Tryz.ntmps26
 go_wp2_with fail
 refine K1.mono ?_;rintro e w1 ⟨rfl,b1⟩;rw [<- hWA] at b1;have B1:=hid (BA.out.trans (b1.mono BA.out.size));have C1:=CA.out.below b1 CA.out.lt;obtain ⟨c0,c1,c2,c3,c4⟩:=C1;have K3:=K2 w1 B1.out;clear K1 K2 hWA b1 BA CA
 go_wp2_with fail
 refine K3.mono ?_;rintro e w2 ⟨M0,rfl,wi2,b2⟩;have B2:=hid (B1.out.trans (b2.mono B1.out.size));obtain ⟨R,hR⟩:∃ R,R=M0.R:=⟨_,rfl⟩;rw [<- hR];have HR0:=hid hR;have I2:=hid wi2;clear K3 c0 c1 c2 c3 c4 b2 wi2 hR;obtain ⟨W3,hW3⟩:∃ W3,W3=w2.alloc (.cells (madeCells #[.int .i64 0,.int .i64 0,.int .i64 0,.int .i64 0,.int .i64 0,.int .i64 0,.int .i64 0,.int .i64 0,.slice none 0 0,.slice none 0 0,.slice none 0 0] (N*11)) 42):=⟨_,rfl⟩;have b3:Below w2.heap.size w2 W3:=by rw [hW3];exact yO.alloc yN _
 have L3:=hid (show TlsI M0 n m w W3 w2.heap.size N [] (fun _=>nilS) (fun _=>nilS) (fun _=>nilS) by rw [hW3];exact TlsI.start M0 n m w w2 N B2.out.size);have I3:=hid (I2.out.grow b3);have B3:=hid (B2.out.trans (b3.mono B2.out.size));have HTBW:=hid (show w1.heap.size<=w2.heap.size from I2.out.bw);have HBW:=hid (show w.heap.size<=w1.heap.size from B1.out.size);go_wp2;rw [<- hW3];obtain ⟨TB,hTB⟩:∃ TB,TB=w2.heap.size:=⟨_,rfl⟩;rw [<- hTB] at L3 HTBW ⊢;clear hW3 hTB b3 I2 B2 mk B1
 go_loopg [9,10,26] N (fun gg _ _ s26 wx=>∃ k:Nat,k<=N/\N-k<=gg/\s26=.int .i64 k/\Aside (∃ M sv fv rv,M.R=R/\WI w1.heap.size M wx c n m (runW c (Wo.start c) (l.take k)) (1+k*m) (100*k)/\TlsI M n m w wx TB N (tlsF c (Wo.start c) (l.take k)) sv fv rv/\Below w.heap.size w wx))
 case atStart=>exact ⟨0,zG _,by omega,rfl,(show Aside _ from ⟨M0,_,_,_,HR0.out.symm,I3.out.later (by omega) (by omega),L3.out,B3.out⟩)⟩
 case round =>
  obtain ⟨k,hk,hg,rfl,A⟩:=hrel;clear L3 I3 B3;obtain ⟨M,sv,fv,rv,hR,wi,tls,be⟩:=A.out;have HI:=hid wi;have HT:=hid tls;have HBE:=hid be;have HR:=hid hR;clear wi tls be A;by_cases hlt:k<N
  ·have hltz:(k:Int)<(N:Int):=by omega
   have hkl:k<l.length:=by have:=HN.out;omega
   obtain ⟨b,off,rfl,hb,hcc⟩:=yB7 (HP.out.grow (show Below w.heap.size w wr from HBE.out)) (by omega);obtain ⟨c0,c1,c2,c3,c4,c5,c6,c7⟩:=hcc k hkl;have RT:=hid (zW1 c (Wo.start c) l k hkl);have PT:=hid (yW7 c (Wo.start c) l k hkl);have HTL:=hid (show (tlsF c (Wo.start c) (l.take k)).length=k by rw [zO8,zU];omega);have hwk:=HWF.out (l.getD k default) (by rw [zA,zB hkl];exact zH _);have hok:=HOK.out k (by omega);have hkm:k*m<=299*3:=Nat.mul_le_mul (by omega) hm3;generalize l.getD k default=s at c0 c1 c2 c3 c4 c5 c6 c7 RT PT hwk;generalize hWk:runW c (Wo.start c) (l.take k)=Wk at HI RT PT hok;generalize hTk:tlsF c (Wo.start c) (l.take k)=Tk at HT PT HTL;clear hcc hb hWk hTk;have bA:=hid (show Below wr.heap.size wr (wr.alloc (boxX s)) from yO.alloc yN _);have K0:=wdo_c w1.heap.size M c n m k Wk (1+k*m) (100*k) HC.out.1 HC.out.2.1 HC.out.2.2.1 HC.out.2.2.2 (by omega) (by omega) (by omega) hok s hwk (wr.alloc (boxX s)) (HI.out.grow bA.out);rw [HR.out] at K0;have TA:=hid (HT.out.fr HI.out (Fr.of_below bA.out));have IA:=hid (HI.out.grow bA.out);have BWR:=hid (show w.heap.size<=(wr.alloc (boxX s)).heap.size from zI HBE.out.size (Below.size bA.out));have BEA:=hid (HBE.out.trans (bA.out.mono HBE.out.size));unfold DoP at K0;generalize stW c Wk s=W4 at K0 RT;generalize hst:stT c Wk s=t at K0 PT;clear hst;have K:Calls Tryz.prog 35 #[.pointer (some ⟨R,0,none⟩),aggX s] (wr.alloc (boxX s)) (fun e w'=>∃ sp sc fp fc rp rc M',e=.returned (.agg #[.int .i64 (t.code:Nat),.int .i64 t.who,.int .i64 (t.sk.code:Nat),.int .i64 t.sk.id,.int .i64 t.sk.free,.int .i64 t.sk.held,.int .i64 t.sk.used,.int .i64 t.value,.slice sp t.sent.length sc,.slice fp t.frame.length fc,.slice rp t.report.length rc])/\M'.R=R/\TdI M' n m (wr.alloc (boxX s)) w' t (.slice sp t.sent.length sc) (.slice fp t.frame.length fc) (.slice rp t.report.length rc)/\WI w1.heap.size M' w' c n m W4 (1+k*m+m) (100*k+100)/\Fr M M' n m (wr.alloc (boxX s)) w'):=by
    refine K0.mono ?_;rintro e w' ⟨s1,f1,r1,M',rfl,hR',td,wi,f⟩;obtain ⟨sp,sc,rfl⟩:=td.ev.form;obtain ⟨fp,fc,rfl,hby⟩:=td.fr;obtain ⟨rp,rc,rfl⟩:=td.nu.form;exact ⟨sp,sc,fp,fc,rp,rc,M',rfl,hR'.trans HR.out,td,wi,f⟩
   clear K0 hwk hok;have HOW:=hid (fun x (hx:own M n m x)=>(HI.out.lt x hx:w1.heap.size<=x));obtain ⟨kd,who,it,cnt,life,id',la,ke⟩:=s;dsimp only at c0 c1 c2 c3 c4 c5 c6 c7
   go_wp2_with fail
   refine K.mono ?_;rintro e w3 ⟨sp,sc,fp,fc,rp,rc,M3,rfl,hR3,td3,wi3,f3⟩;have D3:=hid (td3.base BWR.out);have L3:=hid (TA.out.fr IA.out f3);have I3:=hid wi3;have HR3:=hid hR3;have B3:=hid (show Below w.heap.size w w3 from BEA.out.trans (f3.u.below BWR.out (fun x hx y=>by have:=HOW.out x y;have:=HBW.out;omega)));clear K td3 wi3 f3 hR3 TA IA BEA HOW c0 c1 c2 c3 c4 c5 c6 c7;have y0:=L3.out.row.cell (i:=k*11) (by omega);have z0:=L3.out.row.frozen (k*11);have y1:=L3.out.row.cell (i:=k*11+1) (by omega);have z1:=L3.out.row.frozen (k*11+1);have y2:=L3.out.row.cell (i:=k*11+2) (by omega);have z2:=L3.out.row.frozen (k*11+2);have y3:=L3.out.row.cell (i:=k*11+3) (by omega);have z3:=L3.out.row.frozen (k*11+3);have y4:=L3.out.row.cell (i:=k*11+4) (by omega);have z4:=L3.out.row.frozen (k*11+4);have y5:=L3.out.row.cell (i:=k*11+5) (by omega);have z5:=L3.out.row.frozen (k*11+5);have y6:=L3.out.row.cell (i:=k*11+6) (by omega);have z6:=L3.out.row.frozen (k*11+6);have y7:=L3.out.row.cell (i:=k*11+7) (by omega);have z7:=L3.out.row.frozen (k*11+7);have y8:=L3.out.row.cell (i:=k*11+8) (by omega);have z8:=L3.out.row.frozen (k*11+8);have y9:=L3.out.row.cell (i:=k*11+9) (by omega);have z9:=L3.out.row.frozen (k*11+9);have y10:=L3.out.row.cell (i:=k*11+10) (by omega);have z10:=L3.out.row.frozen (k*11+10);obtain ⟨W6,hW6⟩:∃ W6,W6=(((((((((((w3.setCell ⟨TB,k*11,none⟩ (.int .i64 (t.code:Nat))).setCell ⟨TB,k*11+1,none⟩ (.int .i64 t.who)).setCell ⟨TB,k*11+2,none⟩ (.int .i64 (t.sk.code:Nat))).setCell ⟨TB,k*11+3,none⟩ (.int .i64 t.sk.id)).setCell ⟨TB,k*11+4,none⟩ (.int .i64 t.sk.free)).setCell ⟨TB,k*11+5,none⟩ (.int .i64 t.sk.held)).setCell ⟨TB,k*11+6,none⟩ (.int .i64 t.sk.used)).setCell ⟨TB,k*11+7,none⟩ (.int .i64 t.value)).setCell ⟨TB,k*11+8,none⟩ (.slice sp t.sent.length sc)).setCell ⟨TB,k*11+9,none⟩ (.slice fp t.frame.length fc)).setCell ⟨TB,k*11+10,none⟩ (.slice rp t.report.length rc)):=⟨_,rfl⟩;go_wp2;rw [<- hW6];have h6:W6=putT w3 TB (k*11) (tlOf t (.slice sp t.sent.length sc) (.slice fp t.frame.length fc) (.slice rp t.report.length rc)):=hW6;clear hW6 y0 z0 y1 z1 y2 z2 y3 z3 y4 z4 y5 z5 y6 z6 y7 z7 y8 z8 y9 z9 y10 z10;have V6:Uw (fun b=>b=TB) w3 W6:=by rw [h6];exact yZ8 _ _ _ _
   have L6:=hid (show TlsI M3 n m w W6 TB N (Tk++[t]) (up1 sv k (.slice sp t.sent.length sc)) (up1 fv k (.slice fp t.frame.length fc)) (up1 rv k (.slice rp t.report.length rc)) by rw [h6];exact L3.out.put HTL.out D3.out);have I6:=hid (I3.out.box L3.out.row HTBW.out (L3.out.free I3.out) (by decide) (by decide) V6);have B6:=hid (show Below w.heap.size w W6 from B3.out.trans (V6.below B3.out.size (fun x hx e=>by have e':x=TB:=e;have:=HTBW.out;have:=HBW.out;omega)));clear h6 V6 L3 I3 B3 D3
   go_roundg (N-(k+1))
   case measure=>omega
   case rel =>
    have L7:=L6.out;rw [<- PT.out] at L7;have I7:=I6.out.later (T':=1+(k+1)*m) (S':=100*(k+1)) (by rw [Nat.succ_mul];omega) (by omega);rw [<- RT.out] at I7;exact ⟨k+1,by omega,by omega,by go_num,(show Aside _ from ⟨M3,_,_,_,HR3.out,I7,L7,B6.out⟩)⟩
  ·have hltz:¬ (k:Int)<(N:Int):=by omega
   have ek:k=N:=by omega
   have hall:l.take k=l:=yB (by have:=HN.out;omega);rw [hall] at HI HT;have HBE2:=HBE;clear HBE;go_wp2;go_ret3
   exact ⟨_,M,_,_,TB,sv,fv,rv,by rw [HR.out];rfl,HBW.out,HI.out,HT.out,HBE2.out⟩
def toEv (e:Se.Plain.Ev):Vi.Ev:=⟨e.id,e.frm,e.tow,e.size⟩
def toTd (t:Tl):Vi.Td:=⟨(t.code:Nat),t.who,⟨(t.sk.code:Nat),t.sk.id,t.sk.free,t.sk.held,t.sk.used⟩,t.value,t.sent.map toEv,t.frame,t.report⟩
structure Plain.TlB (t:Tl):Prop where
 s:t.sent.length<=80
 f:t.frame.length<=256
 r:t.report.length<=3
theorem Plain.evsF_len' (l:List Se.Plain.Po):∀ k,(evsF k l).length=l.length:=by
 induction l with
 | nil=>intro k;rfl
 | cons p l ih=>intro k;simp [evsF,ih]
theorem Plain.stT_bd {c:Cf} {n m K:Nat} {W:Wo} (h:Wok c n m K W) (hc:mayC c=true) (s:Sp):TlB (stT c W s):=by
 have hn8:=(xJ hc).1;have hm3:=(xJ hc).2.2.2.2.1;have z:∀ e,TlB (tlE e):=fun e=>⟨zG _,zG _,zG _⟩;unfold stT;split
 ·refine ⟨?_,zG _,?_⟩
  ·show (evsF _ _).length<=80
   rw [evsF_len'];exact zF7 c W (by omega)
  ·show (xJ0 c W).length<=3
   unfold xJ0;refine zI (List.length_filter_le _ _) ?_;rw [Bo.Plain.kG];omega
 split
 ·unfold delT
  split
  ·exact ⟨zG _,zG _,zG _⟩
  next hf =>
   refine ⟨zG _,?_,zG _⟩;have hs:¬ (s.id<0\/(W.off.posted.length:Int)<=s.id):=fun x=>hf (by
    have e:Se.Plain.seenE W.off s.id≠0:=by unfold Se.Plain.seenE;rw [if_pos x];decide
    unfold xN;rw [if_pos e];decide)
   have hlt:s.id.toNat<W.off.posted.length:=by omega
   refine h.gd.sz _ ?_;unfold Se.Plain.Off.at
   rw [zA,zB hlt];exact zH hlt
 split
 ·exact z _
 split
 ·exact z _
 split
 ·exact z _
 ·have hb:=brT_none c W s.who.toNat s
  refine ⟨?_,?_,?_⟩
  ·show (brT c W s.who.toNat s).sent.length<=80;rw [hb.1];exact zG _
  ·show (brT c W s.who.toNat s).frame.length<=256;rw [hb.2.1];exact zG _
  ·show (brT c W s.who.toNat s).report.length<=3;rw [hb.2.2];exact zG _
theorem Plain.tls_bd {c:Cf} {n m:Nat} (hc:mayC c=true) (hn:c.n=n) (hm:c.ms.length=m) (l:List Sp):∀ (K:Nat) (W:Wo),Wok c n m K W->K+l.length<=300->∀ t,t∈tlsF c W l->TlB t:=by
 induction l with
 | nil=>intro K W _ _ t ht;cases ht
 | cons s l ih =>
  intro K W h hK t ht;rw [List.length_cons] at hK;rcases List.mem_cons.1 ht with rfl|ht
  ·exact stT_bd h hc s
  ·exact ih (K+1) _ (h.step hc hn hm (by omega) s) (by omega) t ht
theorem xL0 (l:List Se.Plain.Ev):Vi.encV.vals (l.map toEv)=zP4.vals l:=by
 induction l with
 | nil=>rfl
 | cons e l ih=>rw [List.map_cons,Enc.vals_cons,Enc.vals_cons,ih];rfl
theorem yB8 {w:World} {b:Nat} (h:tag w b≠some 42):Vi.NoT w b:=fun cs z e=>h (by unfold tag;rw [e])
theorem xY2 {M:Mm} {n m:Nat} {w0 w:World} {t:Tl} {sv fv rv:Value} (h:TdI M n m w0 w t sv fv rv) (hb:TlB t) :
  ∃ r:Vi.RT,r.x=toTd t/\(∀ j,j<11->tlOf t sv fv rv j=r.cell j)/\Vi.TdI w r/\Vi.TdO w r:=by
 obtain ⟨ps,cs,rfl,hs,sn,_⟩:=zP4.owns h.ev rfl;obtain ⟨pf,cf,rfl,hf⟩:=h.fr;obtain ⟨pr,cr,rfl,hr,rn,_⟩:=encN.owns h.nu rfl;refine ⟨⟨toTd t,ps,cs,pf,cf,pr,cr⟩,rfl,fun j hj=>?_,?_⟩
 ·have:j=0\/j=1\/j=2\/j=3\/j=4\/j=5\/j=6\/j=7\/j=8\/j=9\/j=10:=by omega
  rcases this with rfl|rfl|rfl|rfl|rfl|rfl|rfl|rfl|rfl|rfl|rfl
  all_goals first|rfl|(show Value.slice _ _ _=Value.slice _ (t.sent.map toEv).length _;rw [zL])
 have sS:Vi.Sl Vi.encV w ps cs (toTd t).sent:=⟨sn,fun h0=>by
  have h0':0<t.sent.length:=by have:(toTd t).sent.length=t.sent.length:=zL _;omega
  obtain ⟨b,off,rfl,hb2,hc⟩:=hs h0';refine ⟨b,off,rfl,hb2,yB8 (by rw [xC h.ev rfl];decide),fun j u hu=>hc j u ?_⟩;rw [<- xL0];exact hu⟩
 have sF:Vi.Sl Vi.encB w pf cf (toTd t).frame:=⟨hf.nl,fun h0=>by
  obtain ⟨b,off,e,hb2,ht,hc⟩:=hf.cl h0;obtain ⟨c2,f2,ht⟩:=ht.resolve_left (yE _);refine ⟨b,off,e,hb2,yB8 (by rw [qQ ht];decide),fun j u hu=>?_⟩;have hj:j<t.frame.length:=by
   have:=(List.getElem?_eq_some_iff.1 hu).1;rw [Vi.encB.vals_len] at this;simpa [Vi.encB,toTd] using this
  have e2:=Vi.encB.vals_at 0 t.frame j 0 hj (by decide);rw [show j*Vi.encB.n+0=j from by show j*1+0=j;omega] at e2;have e3:some u=some (.int .u8 (t.frame.getD j 0)):=hu.symm.trans e2;rw [Option.some.inj e3];exact hc j hj⟩
 have sR:Vi.Sl Vi.encI w pr cr (toTd t).report:=⟨rn,fun h0=>by
  obtain ⟨b,off,rfl,hb2,hc⟩:=hr h0;exact ⟨b,off,rfl,hb2,yB8 (by rw [xC h.nu rfl];decide),fun j u hu=>hc j u hu⟩⟩
 refine ⟨⟨sS,sF,sR⟩,⟨sS.holds,sn,?_,sF.holds,hf.nl,?_,sR.holds,rn,?_⟩⟩
 ·show (t.sent.map toEv).length*32<=_;rw [zL];have:=hb.s;omega
 ·show t.frame.length<=_;have:=hb.f;omega
 ·show t.report.length*8<=_;have:=hb.r;omega
theorem xL1 {M:Mm} {n m:Nat} {w0 w:World} {TB N:Nat} {ts:List Tl} {sv fv rv:Nat->Value} (h:TlsI M n m w0 w TB N ts sv fv rv) (hN:ts.length=N) (h300:N<=300) (hb:∀ t,t∈ts->TlB t) :
  ∃ R:List Vi.RT,R.length=N/\R.map (·.x)=ts.map toTd/\Vi.OutT w (some ⟨TB,0,none⟩) R/\Vi.InT w (some ⟨TB,0,none⟩) R:=by
 have hex:∀ i,∃ r:Vi.RT,i<N->r.x=toTd (ts.getD i (tlE 0))/\(∀ j,j<11->tlOf (ts.getD i (tlE 0)) (sv i) (fv i) (rv i) j=r.cell j)/\Vi.TdI w r/\Vi.TdO w r:=fun i=>by
  by_cases hi:i<N
  ·obtain ⟨r,h1,h2,h3,h4⟩:=xY2 (h.td i (by omega)) (hb _ (by rw [zA,zB (by omega)];exact zH _))
   exact ⟨r,fun _=>⟨h1,h2,h3,h4⟩⟩
  ·exact ⟨default,fun x=>absurd x hi⟩
 let f:=fun i=>Classical.choose (hex i)
 have hf:∀ i,i<N->(f i).x=toTd (ts.getD i (tlE 0))/\(∀ j,j<11->tlOf (ts.getD i (tlE 0)) (sv i) (fv i) (rv i) j=(f i).cell j)/\Vi.TdI w (f i)/\Vi.TdO w (f i):=fun i=>Classical.choose_spec (hex i);have hl:((List.range N).map f).length=N:=by simp
 have hat:∀ i,i<N->((List.range N).map f).getD i default=f i:=fun i hi=>by
  rw [zA,zV,yH hi];rfl
 have hold:Vi.encT.Holds w (some ⟨TB,0,none⟩) ((List.range N).map f):=fun h0=>by
  refine ⟨TB,0,rfl,h.row.lt,fun j u hu=>?_⟩;have hj:j<N*11:=by
   have:=(List.getElem?_eq_some_iff.1 hu).1;rw [Vi.encT.vals_len,hl] at this;exact this
  have hq:j/11<N:=by omega
  have e:=Vi.encT.vals_at default ((List.range N).map f) (j/11) (j%11) (by rw [hl];exact hq) (by show j%11<11;omega);rw [show j/11*Vi.encT.n+j%11=j from by show j/11*11+j%11=j;omega,hu,hat _ hq,Vi.xX9 _ _ (by omega)] at e;rw [Nat.zero_add,h.row.cell hj,Option.some.inj e];unfold tlsV;rw [if_pos (by omega),(hf _ hq).2.1 _ (by omega)]
 have hmem:∀ r,r∈(List.range N).map f->Vi.TdI w r/\Vi.TdO w r:=fun r hr=>by
  obtain ⟨i,hi,rfl⟩:=zZ.1 hr;exact (hf i (zY.1 hi)).2.2
 refine ⟨(List.range N).map f,hl,?_,⟨hold,fun r hr=>(hmem r hr).1⟩,⟨hold,fun r hr=>(hmem r hr).2,by rw [hl];omega⟩⟩;apply List.ext_getElem?;intro i;rw [zV,zV,zV];by_cases hi:i<N
 ·rw [yH hi,zB (by omega)]
  have e:=(hf i hi).1;rw [zA,zB (by omega)] at e;show some (f i).x=some (toTd _);rw [e];rfl
 ·rw [zN (by simp;omega),zN (by omega)];rfl
def PlyY (c:Cf) (l:List Sp) (N:Nat) (w:World) (e:Ending) (w':World):Prop :=
 ∃ TB R,e=.returned (.tuple #[.slice (some ⟨TB,0,none⟩) N N,.int .i64 0])/\R.length=N/\R.map (·.x)=(tlsF c (Wo.start c) l).map toTd/\Vi.OutT w' (some ⟨TB,0,none⟩) R/\Vi.InT w' (some ⟨TB,0,none⟩) R/\Below w.heap.size w w'
theorem kW (c:Cf) (lp mp:Option Addr) (lc mc n m:Nat) (p:Option Addr) (N cap:Nat) (l:List Sp) (hN:l.length=N) (h300:N<=300) (hc:mayC c=true) (hn:c.n=n) (hm:c.ms.length=m) (hL0:2<=n->0<c.ls.length) (hwf:∀ s,s∈l->(Lit.int .i64 s.id).wf=true)
  (w:World) (hI:CfI w c (.slice lp c.ls.length lc) (.slice mp c.ms.length mc)) (htb:∀ k,2<=k->k<=6->w.cell? ⟨0,k,none⟩=some (.int .i64 (k:Nat))) (hp:qA.Holds w p l) :
  Calls Tryz.prog 12 #[cfV c (.slice lp c.ls.length lc) (.slice mp c.ms.length mc),.slice p N cap] w (PlyY c l N w):=by
 have hb0:0<w.heap.size:=zC (w:=w) (h:=htb 2 (by omega) (by omega));obtain ⟨WA,hWA⟩:∃ WA,WA=w.alloc (boxC c (.slice lp c.ls.length lc) (.slice mp c.ms.length mc)):=⟨_,rfl⟩;have BA:=hid (show Below w.heap.size w WA by rw [hWA];exact yO.alloc yN _);have K:=xA0 c lp mp lc mc n m p N cap l hN h300 hc hn hm hL0 hwf WA (hI.grow BA.out) (fun k h2 h6=>(BA.out.cell (p:=⟨0,k,none⟩) hb0).trans (htb k h2 h6)) (hp.grow BA.out);have HB:=hid (tls_bd hc hn hm l 0 (Wo.start c) (Wok.start hn) (by omega));have HL:=hid (show (tlsF c (Wo.start c) l).length=N by rw [zO8,hN]);rw [hWA] at K;clear hI htb hp hc hn hm hL0 hwf hb0;go_enter Tryz.func12,Tryz.ntmps12
 go_wp2_with fail
 refine K.mono ?_;rintro e w2 ⟨B,M,T,S,TB,sv,fv,rv,rfl,hB,wi,tls,be⟩;rw [<- hWA] at be;obtain ⟨R,hR,hx,ho,hi⟩:=xL1 tls HL.out h300 HB.out;have HF:=hid (show PlyY c l N w (.returned (.tuple #[.slice (some ⟨TB,0,none⟩) N N,.int .i64 0])) w2 from ⟨TB,R,rfl,hR,hx,ho,hi,BA.out.trans (be.mono BA.out.size)⟩);clear K hB wi tls be hR hx ho hi hWA BA;go_wp2;go_ret2
 exact HF.out
end Go.Proofs.YtleaknfjbbccgaaGreatDoor
