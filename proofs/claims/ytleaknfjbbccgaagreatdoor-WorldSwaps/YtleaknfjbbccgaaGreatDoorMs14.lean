/- Laid together. -/
import Derived.Test.YtleaknfjbbccgaaGreatDoorMs10
import Derived.Test.YtleaknfjbbccgaaGreatDoorMs11
import Derived.Test.YtleaknfjbbccgaaGreatDoorMs13
namespace Go.Proofs.YtleaknfjbbccgaaGreatDoor
open Plain
set_option maxHeartbeats 16000000
set_option maxRecDepth 100000
open Go.RowKit Go.Shelf Go.Sort
theorem WI.setG {B:Nat} {M:Mm} {w:World} {c:Cf} {n m:Nat} {W:Wo} {T S:Nat} (h:WI B M w c n m W T S) {i:Nat} (hi:i<n) (k:Nat) (x:Int):WI B M (w.setCell ⟨M.D i,k*6+1,none⟩ (.int .i64 x)) c n m { W with gain:=up2 W.gain i k x } T S/\Fr M M n m w (w.setCell ⟨M.D i,k*6+1,none⟩ (.int .i64 x)):=by
 obtain ⟨g,u⟩:=h.br.go.setG hi k x;have u':Uw (isB M.H M.D M.vo n m) w (w.setCell ⟨M.D i,k*6+1,none⟩ (.int .i64 x)):=u.mono fun _ _ y=>.inl y;obtain ⟨wi,ua,oa⟩:=h.setBr (vo':=M.vo) (W':={ W with gain:=up2 W.gain i k x }) ⟨h.br.st.un u h.br.go.noe (fun x=>(h.br.st.apart h.br.go _ x).1 rfl) (fun j hj x=>(h.br.st.apart h.br.go _ x).2 ⟨j,hj,rfl⟩) (h.br.st.lab.uw u (fun h0 b o e x=>h.br.lb h0 b o e (.inl x))),g,h.br.lb⟩ rfl rfl rfl u' (fun _ y=>.inl y);exact ⟨wi,ua,oa⟩
namespace Plain
def giK (W:Wo) (i:Nat) (l:List Int) (k:Nat):Wo :=
 { W with
   rk:=fun a j=>if a=i/\j<k/\W.gain a j<l.getD j 0 then Hd.Plain.yH6 (W.rk a j) ⟨1,l.getD j 0-W.gain a j,0,0⟩ else W.rk a j,
   gain:=fun a j=>if a=i/\j<k/\W.gain a j<l.getD j 0 then l.getD j 0 else W.gain a j }
theorem xJ9 (W:Wo) (i:Nat) (l:List Int):giK W i l 0=W:=by
 unfold giK;have e1:(fun a j=>if a=i/\j<0/\W.gain a j<l.getD j 0 then Hd.Plain.yH6 (W.rk a j) ⟨1,l.getD j 0-W.gain a j,0,0⟩ else W.rk a j)=W.rk:=funext fun a=>funext fun j=>by rw [if_neg (fun x=>absurd x.2.1 (yE _))]
 have e2:(fun a j=>if a=i/\j<0/\W.gain a j<l.getD j 0 then l.getD j 0 else W.gain a j)=W.gain:=funext fun a=>funext fun j=>by rw [if_neg (fun x=>absurd x.2.1 (yE _))]
 rw [e1,e2]
theorem yY7 (W:Wo) (i:Nat) (l:List Int) (k:Nat):(giK W i l k).rk i k=W.rk i k:=by unfold giK;dsimp only;rw [if_neg (fun x=>absurd x.2.1 (Nat.lt_irrefl _))]
theorem yG8 (W:Wo) (i:Nat) (l:List Int) (k:Nat):(giK W i l k).gain i k=W.gain i k:=by unfold giK;dsimp only;rw [if_neg (fun x=>absurd x.2.1 (Nat.lt_irrefl _))]
theorem xX4 (W:Wo) (i:Nat) (l:List Int):giK W i l l.length=zO7 W i l:=rfl
theorem qG6 (W:Wo) (i:Nat) (l:List Int) (k:Nat) (h:¬ W.gain i k<l.getD k 0):giK W i l (k+1)=giK W i l k:=by
 unfold giK;have q:∀ a j,(a=i/\j<k+1/\W.gain a j<l.getD j 0)=(a=i/\j<k/\W.gain a j<l.getD j 0):=fun a j=>propext ⟨fun ⟨x,y,z⟩=>⟨x,by
  rcases Nat.lt_or_ge j k with c|c
  ·exact c
  ·have:j=k:=by omega
   subst x this;exact absurd z h,z⟩,fun ⟨x,y,z⟩=>⟨x,by omega,z⟩⟩
 simp only [q]
theorem xK0 (W:Wo) (i:Nat) (l:List Int) (k:Nat) (h:W.gain i k<l.getD k 0):{ { giK W i l k with rk:=up2 (giK W i l k).rk i k (Hd.Plain.yH6 (W.rk i k) ⟨1,l.getD k 0-W.gain i k,0,0⟩) } with gain:=up2 (giK W i l k).gain i k (l.getD k 0) }=giK W i l (k+1):=by
 unfold giK;have e1:up2 (fun a j=>if a=i/\j<k/\W.gain a j<l.getD j 0 then Hd.Plain.yH6 (W.rk a j) ⟨1,l.getD j 0-W.gain a j,0,0⟩ else W.rk a j) i k (Hd.Plain.yH6 (W.rk i k) ⟨1,l.getD k 0-W.gain i k,0,0⟩)=fun a j=>if a=i/\j<k+1/\W.gain a j<l.getD j 0 then Hd.Plain.yH6 (W.rk a j) ⟨1,l.getD j 0-W.gain a j,0,0⟩ else W.rk a j:=funext fun a=>funext fun j=>by
  unfold up2;dsimp only;by_cases e:a=i/\j=k
  ·obtain ⟨rfl,rfl⟩:=e
   rw [if_pos ⟨rfl,rfl⟩,if_pos ⟨rfl,by omega,h⟩]
  ·rw [if_neg e]
   by_cases c:a=i/\j<k/\W.gain a j<l.getD j 0
   ·rw [if_pos c,if_pos ⟨c.1,by omega,c.2.2⟩]
   ·rw [if_neg c,if_neg (fun x=>c ⟨x.1,by have:=x.1;have:=x.2.1;omega,x.2.2⟩)]
 have e2:up2 (fun a j=>if a=i/\j<k/\W.gain a j<l.getD j 0 then l.getD j 0 else W.gain a j) i k (l.getD k 0)=fun a j=>if a=i/\j<k+1/\W.gain a j<l.getD j 0 then l.getD j 0 else W.gain a j:=funext fun a=>funext fun j=>by
  unfold up2;dsimp only;by_cases e:a=i/\j=k
  ·obtain ⟨rfl,rfl⟩:=e
   rw [if_pos ⟨rfl,rfl⟩,if_pos ⟨rfl,by omega,h⟩]
  ·rw [if_neg e]
   by_cases c:a=i/\j<k/\W.gain a j<l.getD j 0
   ·rw [if_pos c,if_pos ⟨c.1,by omega,c.2.2⟩]
   ·rw [if_neg c,if_neg (fun x=>c ⟨x.1,by have:=x.1;have:=x.2.1;omega,x.2.2⟩)]
 dsimp only;rw [e1,e2]
end Plain
theorem qG7 (B:Nat) (M:Mm) (c:Cf) (n m:Nat) (W:Wo) (T S:Nat) (i:Nat) (v:Value) (bl:List Nat) (hbl:bl.length<=1000) (hlt':∀ x∈bl,x<256) (hi:i<n) (hm3:m<=3) (hl:(askV c bl).length<=m) (hga:∀ k,k<m->0<=W.gain i k) (hle:∀ k,k<m->(askV c bl).getD k 0<=4611686018427387904) (hv:∀ k,k<m->(∃ gg,Hd.Plain.Hv (W.rk i k) gg)/\(W.rk i k).cs.length<=1000) (w:World) (h:WI B M w c n m W T S) (hs:SegB w v bl) (hy:Lies w.heap.size v) :
  Calls Tryz.prog 79 #[.pointer (some ⟨M.R,0,none⟩),.int .i64 (i:Int),v] w (NoP B M c n m (zO7 W i (askV c bl)) T S w):=by
 have KA:=yY4 c (M.lv c) (M.mv c) v bl (by omega) hlt' w h.cf hs hy;have c0:w.cell? ⟨M.R,0,none⟩=some (.int .i64 c.n):=h.cell (j:=0) (by omega);have c1:w.cell? ⟨M.R,1,none⟩=some (M.lv c):=h.cell (j:=1) (by omega);have c2:w.cell? ⟨M.R,2,none⟩=some (.int .i64 c.t):=h.cell (j:=2) (by omega);have c3:w.cell? ⟨M.R,3,none⟩=some (M.mv c):=h.cell (j:=3) (by omega);have c4:w.cell? ⟨M.R,4,none⟩=some (.int .i64 c.cap):=h.cell (j:=4) (by omega);have HI:=hid h;have HB:=hid h.bw;have HV:=hid hv;have HGA:=hid hga;clear h hs hy hlt' hbl hv hga;obtain ⟨l,hll⟩:∃ l,l=askV c bl:=⟨_,rfl⟩;unfold AskN at KA;rw [<- hll] at KA hl hle ⊢;clear hll;have HLE:=hid hle;clear hle;generalize askE c bl=E at KA;go_enter Tryz.func79,Tryz.ntmps79
 go_wp2_with fail
 refine KA.mono ?_;rintro e w1 ⟨u,rfl,sg,ly,hb⟩;obtain ⟨p,k0,rfl⟩:=yX sg;have H1:=hid (HI.out.grow hb);have F1:=hid (show Fr M M n m w w1 from Fr.of_below hb);have SG:=hid (show ∀ j,j<l.length->∃ b off,p=some ⟨b,off,none⟩/\w1.cell? ⟨b,off+j,none⟩=some (.int .i64 (l.getD j 0))/\¬ own M n m b/\b<w1.heap.size from fun j hj=>by
  have h0:0<l.length:=by omega
  obtain ⟨b,off,e,g⟩:=zD3 sg h0;subst e;refine ⟨b,off,rfl,g j hj,fun x=>?_,ly.1 _ _ _ rfl h0⟩;have:=HI.out.own_lt x;have:=ly.2 _ _ _ rfl h0;dsimp only at this;omega)
 have HE:=hid (xX4 W i l);clear KA c0 c1 c2 c3 c4 sg ly hb;generalize hL:l.length=L at *;clear hL;go_wp2
 go_loopg [8,9,10,22] L (fun gg _ _ _ s22 wx=>∃ k:Nat,k<=L/\L-k<=gg/\s22=.int .i64 k/\Aside (∃ M',M'.R=M.R/\WI B M' wx c n m (giK W i l k) T S/\Fr M M' n m w wx/\∀ j,j<L->∃ b off,p=some ⟨b,off,none⟩/\wx.cell? ⟨b,off+j,none⟩=some (.int .i64 (l.getD j 0))/\¬ own M' n m b/\b<wx.heap.size))
 case atStart=>exact ⟨0,zG _,by omega,rfl,(show Aside _ from ⟨M,rfl,by rw [xJ9];exact H1.out,F1.out,SG.out⟩)⟩
 case round =>
  obtain ⟨k,hkk,hgg,rfl,A⟩:=hrel;clear SG H1 F1;by_cases hlt:k<L
  ·have hltz:(k:Int)<(L:Int):=by omega
   obtain ⟨M',hR,hw,hf,hg⟩:=A.out;have HW:=hid hw;have HF:=hid hf;have HG:=hid hg;obtain ⟨b,off,hp,q0,_,_⟩:=hg k hlt;subst hp;have hkm:k<m:=by omega
   have hkz:(k:Int)<(m:Int):=by omega
   have hiz:(i:Int)<(n:Int):=by omega
   have a7:wr.cell? ⟨M.R,7,none⟩=some (.slice (some ⟨M'.EB,0,none⟩) n M'.ce):=by rw [<- hR];exact hw.cell (j:=7) (by omega)
   have a3:=hw.br.st.goods hi;have aG:wr.cell? ⟨M'.D i,k*6+1,none⟩=some (.int .i64 (W.gain i k)):=by rw [<- yG8 W i l k];exact hw.br.go.cG hi hkm
   obtain ⟨⟨gg',hvv⟩,hcc⟩:=HV.out k hkm;have K:=fun X (bx:Below wr.heap.size wr X)=>yY0 B M' c n m (giK W i l k) T S i k hi hkm ⟨1,l.getD k 0-W.gain i k,0,0⟩ gg' (by rw [yY7];exact hvv) (by rw [yY7];exact hcc) X (hw.grow bx);have b0:=HGA.out k hkm;have b1:=HLE.out k hkm;clear hw hf hg A hvv hcc;by_cases hgt:W.gain i k<l.getD k 0
   ·have HNX:=hid (xK0 W i l k hgt)
    generalize hxg:l.getD k 0=xg at *;generalize hyg:W.gain i k=yg at *;have HX:=hid hxg;have HY:=hid hyg;clear hxg hyg;have hwr:IntKind.i64.wrap (xg-yg)=xg-yg:=by rw [IntKind.wrap_i64];omega
    have bD:=hid (show Below wr.heap.size wr wr.drew from yO.drew)
    go_upto_region 6 with fail
    go_region_held3 (fun w'=>w'.cell? ⟨M'.D i,k*6+1,none⟩=some (.int .i64 yg)) (go_keep)
     ((go_at_call 70;refine (K _ bD.out).mono ?_;rintro e w3 ⟨rfl,vo',wi3,f3⟩;have d0:w3.cell? ⟨M'.D i,k*6+1,none⟩=some (.int .i64 yg):=(by rw [<- HY.out,<- yG8 W i l k];exact wi3.br.go.cG hi hkm);rw [yY7] at wi3;have I3:=hid wi3;have F3:=hid ((Fr.of_below bD.out).trans f3);clear wi3 f3))
    rename_i hlast;clear hlast K;obtain ⟨i5,f5⟩:=I3.out.setG hi k xg;have e5:=HNX.out;have i5':WI B { M' with vo:=vo' } (w3.setCell ⟨M'.D i,k*6+1,none⟩ (.int .i64 xg)) c n m (giK W i l (k+1)) T S:=by rw [<- e5];exact i5
    have I5:=hid i5';have f6:=F3.out.trans f5;have F6:=hid (HF.out.trans f6);have G6:=hid (show ∀ j,j<L->∃ b' off',some (⟨b,off,none⟩:Addr)=some ⟨b',off',none⟩/\(w3.setCell ⟨M'.D i,k*6+1,none⟩ (.int .i64 xg)).cell? ⟨b',off' + j,none⟩=some (.int .i64 (l.getD j 0))/\¬ own { M' with vo:=vo' } n m b'/\b'<(w3.setCell ⟨M'.D i,k*6+1,none⟩ (.int .i64 xg)).heap.size from fun j hj=>by
     obtain ⟨b',off',e,g1,g2,g3⟩:=HG.out j hj;obtain ⟨k1,k2⟩:=f6.keep g3 g2;exact ⟨b',off',e,(f6.u.cell b' (off' + j) g3 g2).trans g1,k2,zF g3 f6.u.size⟩)
    clear i5 i5' f5 f6 e5 q0 a7 a3 aG;have z1:=(I3.out.br.go.row i hi).frozen (k*6+1);dsimp only at z1;go_wp2
    go_roundg (L-(k+1))
    case measure=>omega
    case rel=>exact ⟨k+1,by omega,by omega,by go_num,(show Aside _ from ⟨{ M' with vo:=vo' },hR,I5.out,F6.out,G6.out⟩)⟩
   ·have HNX:=hid (qG6 W i l k hgt)
    clear K;generalize hxg:l.getD k 0=xg at *;generalize hyg:W.gain i k=yg at *;go_wp2
    go_roundg (L-(k+1))
    case measure=>omega
    case rel=>exact ⟨k+1,by omega,by omega,by go_num,(show Aside _ from ⟨M',hR,by rw [HNX.out];exact HW.out,HF.out,HG.out⟩)⟩
  ·have hltz:¬ (k:Int)<(L:Int):=by omega
   have ek:k=L:=by omega
   subst ek;have HA:=hid A.out;clear A;go_wp2;go_end0
   obtain ⟨M',hR,hw,hf,_⟩:=HA.out;rw [HE.out] at hw;exact ⟨rfl,M',hR,hw,hf⟩
def HeaN (c:Cf) (a b:Int) (bl:List Nat) (w:World) (e:Ending) (w':World):Prop :=
 ∃ u,e=.returned (.tuple #[u,.int .i64 (heaE c a b bl:Nat)])/\zA9 w' u (heaV c a b bl)/\Below w.heap.size w w'/\∀ p n c,u=.slice (some p) n c->0<n->w.heap.size<=p.block
theorem yB3 {c:Cf} {a b:Int} {bl:List Nat} {w w':World} {E:Nat} (h:heaE c a b bl=E/\heaV c a b bl=[]) (g:Below w.heap.size w w'):HeaN c a b bl w (.returned (.tuple #[.slice none 0 0,.int .i64 (E:Nat)])) w' :=
 ⟨_,by rw [h.1],by rw [h.2];exact yV9 _,g,qZ _ _ _⟩
theorem xX5 (c:Cf) (lv mv u:Value) (x y:Int) (bl:List Nat) (hm:bl.length<=9223372036854775807) (hr:∀ z∈bl,z<256) (w:World) (hI:CfI w c lv mv) (hs:SegB w u bl) (hl:Lies w.heap.size u) :
  Calls Tryz.prog 80 #[cfV c lv mv,.int .i64 x,.int .i64 y,u] w (HeaN c x y bl w):=by
 have B0:=hid (BcI.start hI);have HS:=hid (fun (X:World) (b:Below w.heap.size w X)=>And.intro (hs.below b hl) (hl.mono b.size));obtain ⟨lp,lc,rfl⟩:=yX hI.sl;obtain ⟨mp,mc,rfl⟩:=yX hI.sm;have KM:=zV6 c (.slice lp c.ls.length lc) (.slice mp c.ms.length mc) x y (w.alloc (boxC c (.slice lp c.ls.length lc) (.slice mp c.ms.length mc))) B0.out.ci;obtain ⟨E,hE⟩:∃ E,E=refE c x y:=⟨_,rfl⟩;rw [<- hE] at KM;clear hI hs hl;by_cases h0:E=0
 ·subst h0
  have hmay:=(yA5 hE.symm).1;have h4:=(xJ hmay).2.1;have KC:=hid (fun (X:World) (b:Nat) (I:CfI X c (.slice lp c.ls.length lc) (.slice mp c.ms.length mc)) (h1:X.cell? ⟨b,0,none⟩=some (.int .i64 x)) (h2:X.cell? ⟨b,1,none⟩=some (.int .i64 y))=>yF8 c _ _ b x y hmay X I h1 h2);have H1:=hid (fun h=>qF6 (bl:=bl) hE.symm h);have H2:=hid (fun h2 h=>qF7 (bl:=bl) hE.symm h2 h);have H3:=hid (fun h2 h=>xO3 (bl:=bl) hE.symm h2 h);have hJ:=hid (fun j (h:j∈comL c.ls x y c.ls.length)=>show j<c.ls.length from yF6 h);have hJ4:=zH4 c.ls x y c.ls.length;have HPO:=hid (fun k h=>yV4 c.ls x y c.ls.length k h);have HME:=hid (fun j (h:j<c.ls.length)=>yV5 (ls:=c.ls) (a:=x) (b:=y) h);have hcn:comN c x y=(comL c.ls x y c.ls.length).length:=rfl;rw [hcn] at H1 H2 H3;clear hE hmay hcn;obtain ⟨js,hjs⟩:∃ js,js=comL c.ls x y c.ls.length:=⟨_,rfl⟩;rw [<- hjs] at hJ H1 H2 H3 hJ4 HPO HME;simp only [<- hjs] at KC;have hj4:js.length<=4:=by omega
  clear hjs hJ4;obtain ⟨m,hmj⟩:∃ m,m=js.length:=⟨_,rfl⟩;rw [<- hmj] at H1 H2 H3 hj4;have KU:=hid (fun (X:World) (b:Below w.heap.size w X)=>show Calls Tryz.prog 100 #[.int .i64 34,.int .i64 ((m:Int)*8),u] X fun e w'=>∃ r,e=.returned (.tuple #[r,.int .i64 (yS (List.replicate (m*8) 34) bl:Nat)])/\Seg w' r (yW (List.replicate (m*8) 34) bl)/\Lies w'.heap.size r/\CapL r/\Below X.heap.size X w' by
   have:=xI0 34 (m*8) (by unfold Cnt;omega) u bl hr hm X (HS.out X b).1 (HS.out X b).2;rwa [show ((m*8:Nat):Int)=(m:Int)*8 by simp] at this)
  obtain ⟨E2,hE2⟩:∃ E2,E2=yS (List.replicate (m*8) 34) bl:=⟨_,rfl⟩;have HU:=hid (fun (h:E2=0)=>un34 (n:=m*8) (bl:=bl) (by rw [<- hE2];exact h));rw [<- hE2] at H1 H2 H3;simp only [<- hE2] at KU;obtain ⟨V,hV⟩:∃ V,V=yW (List.replicate (m*8) 34) bl:=⟨_,rfl⟩;rw [<- hV] at HU;simp only [<- hV] at KU;have HMJ:=hid hmj;clear hE2 hV hmj HS;obtain ⟨n,ls,t,ms,cap⟩:=c;dsimp only at *;go_enter Tryz.func80,Tryz.ntmps80
  go_wp2_with fail
  refine KM.mono ?_;rintro e w1 ⟨rfl,b1⟩;have B1:=hid (B0.out.grow b1);obtain ⟨c0,c1,c2,c3,c4⟩:=B1.out.cc;have bA:Below w1.heap.size w1 (w1.alloc (.cells #[.int .i64 x,.int .i64 y] 3)):=yO.alloc yN _;have B3:=hid (B1.out.grow bA);have K:=KC.out _ _ B3.out.ci (jC w1 x y).1 (jC w1 x y).2;clear B0 KM b1 bA
  go_wp2_with fail
  refine K.mono ?_;rintro e w4 ⟨jv,rfl,g1,g2,g3⟩;have B4:=hid (B3.out.grow g3);obtain ⟨jp,jc,rfl⟩:=yX g1;have HJ:=hid (fun (X:World) (b:Below w4.heap.size w4 X)=>zD3 (g1.below b g2));have hjl:(zH5 js).length=m:=by rw [zH6];exact HMJ.out.symm
  have hjL:=hid hjl;rw [hjl];clear K B3 B1 g1 g2 g3 c0 c1 c2 c3 c4 KC hjl
  go_wp2_with fail
  refine (KU.out w4 B4.out.be).mono ?_;rintro e w5 ⟨r,rfl,g1,g2,gc,g3⟩;have B5:=hid (B4.out.grow g3);have HJ5:=hid (fun (X:World) (b:Below w5.heap.size w5 X)=>HJ.out X (g3.trans (b.mono g3.size)));by_cases hE0:E2=0
  ·subst hE0
   obtain ⟨hVl,hVa⟩:=HU.out rfl;obtain ⟨rp,rc,rfl⟩:=yX g1;have hrc:V.length<=rc:=gc _ _ _ rfl;have HVS:=hid (fun (X:World) (b:Below w5.heap.size w5 X)=>zD3 (g1.below b g2));rw [hVl];rw [hVl] at hrc;have HVL:=hid hVl;have HVA:=hid hVa;obtain ⟨c0,c1,c2,c3,c4⟩:=B5.out.cc;clear g1 g2 gc g3 KU HJ B4 HU H1 hVl hVa;have hmk:=run_make_row' (P:=Tryz.prog) 57 56 (.slice none 0 0) 24 Tryz.underlying57 Tryz.infoRowE rfl .i64 .i64 ls.length (by omega) (by omega);obtain ⟨T,hT⟩:∃ T,T=w5.heap.size:=⟨_,rfl⟩;have T0:=hid (ToI.made w5 ls.length);have bM:Below w5.heap.size w5 (w5.alloc (.cells (madeCells #[.slice none 0 0] ls.length) 56)):=yO.alloc yN _;have BM:=hid bM;have B6:=hid (B5.out.grow bM).be;clear bM;go_wp2;rw [<- hT];rw [<- hT] at T0;have HT:=hid hT;have HW5:=hid B5.out.be;clear hT hmk c0 c1 c2 c3 c4 B5;obtain ⟨TV,hTV⟩:∃ TV,TV=yV3 ls x y bl:=⟨_,rfl⟩;have HTK:=hid (fun k (hk:k<js.length)=>show TV (js.getD k 0)=entV (slF bl k) by
    rw [hTV];unfold yV3;rw [if_pos (HPO.out k hk).2,(HPO.out k hk).1])
   have HTN:=hid (fun j (hj:j<ls.length) (h:j ∉ js)=>show TV j=[] by
    rw [hTV];unfold yV3;rw [if_neg (fun hb=>h ((HME.out j hj).2 hb))])
   have HTL:=hid (show yL2 ls x y bl=(List.range ls.length).map TV by rw [hTV];rfl);clear hTV HPO HME;have HTW:=hid (show w.heap.size<=T by rw [HT.out];exact HW5.out.size)
   go_loopg [46] m (fun gg s46 wr=>∃ k:Nat,k<=m/\m-k<=gg/\s46=.int .i64 k/\Aside (∃ U,ToI wr T ls.length U (fun j=>if j∈js.take k then TV j else []))/\Aside (zC4 bl k=true)/\Aside (Below w5.heap.size w5 wr))
   case atStart=>exact ⟨0,zG _,by omega,rfl,(show Aside _ from ⟨_,T0.out.congr fun j _=>by simp⟩),rfl,(show Aside _ from BM.out)⟩
   case round =>
    obtain ⟨k,hk,hg,rfl,A,AG,BW⟩:=hrel;by_cases hlt:k<m
    ·have hltz:(k:Int)<(m:Int):=by omega
     have hkj:k<js.length:=by rw [<- HMJ.out];exact hlt
     obtain ⟨jb,jo,rfl,hc⟩:=HJ5.out wr BW.out (by rw [hjL.out];omega);have c0:=hc k (by rw [hjL.out];exact hlt);rw [yF7 js k hkj] at c0;have hi:=hJ.out (js.getD k 0) (by rw [zA,zB hkj];exact zH hkj);have HTKk:=hid (HTK.out k hkj);have HTAK:=hid (show js.take (k+1)=js.take k++[js.getD k 0] by rw [zO hkj,zA,zB hkj];rfl);generalize js.getD k 0=i at c0 hi HTKk HTAK;have hiz:(i:Int)<(ls.length:Int):=by omega
     obtain ⟨vb,vo,rfl,hcv⟩:=HVS.out wr BW.out (by rw [HVL.out];omega);obtain ⟨U,tto⟩:=A.out;have TO:=hid tto;have hTl:T<wr.heap.size:=tto.row.lt;obtain ⟨S,hS⟩:∃ S,S=wr.heap.size:=⟨_,rfl⟩;obtain ⟨F,hFF⟩:∃ F:Nat->Nat,F=slF bl k:=⟨_,rfl⟩;have HFL:=hid (fun j (_:j<8)=>show F j<17179869184 by rw [hFF];exact xO2 bl k j);obtain ⟨Z,hZ⟩:∃ Z,Z=wr.alloc (.cells #[.int .i64 0,.int .i64 0,.int .i64 0,.int .i64 0,.int .i64 0,.int .i64 0,.int .i64 0,.int .i64 0] 187):=⟨_,rfl⟩;have bZ:Below wr.heap.size wr Z.drew:=by rw [hZ];exact (yO.alloc yN _).drew
     have rZ:Z.drew.rowIs S 187 8 (fun _=>.int .i64 0):=by
      rw [hZ,hS];have r:(wr.alloc (.cells #[.int .i64 0,.int .i64 0,.int .i64 0,.int .i64 0,.int .i64 0,.int .i64 0,.int .i64 0,.int .i64 0] 187)).rowIs wr.heap.size 187 8 (fun _=>.int .i64 0):=by
       refine yK _ _ 187 _ fun i hi=>?_;have:i=0\/i=1\/i=2\/i=3\/i=4\/i=5\/i=6\/i=7:=by have:i<8:=hi;omega
       rcases this with rfl|rfl|rfl|rfl|rfl|rfl|rfl|rfl<;>rfl
      exact r.of_block rfl
     have hvb:0<m*8->vb<wr.heap.size:=fun h=>zC (w:=wr) (h:=hcv 0 (by rw [HVL.out];exact h));obtain ⟨V2,cp2,r2,b2⟩:=copy8 (n:=m*8-k*8) (c:=rc-k*8) (vb:=vb) (vo:=vo+k*8) (F:=fun j=>((F j:Nat):Int)) rZ (by omega) (fun j hj=>by
      have h1:=(bZ.cell (p:=⟨vb,vo+(k*8+j),none⟩) (hvb (by omega))).trans (hcv (k*8+j) (by rw [HVL.out];omega));rw [Nat.add_assoc,h1,HVA.out (k*8+j) (by omega),hFF];rfl)
     have B2:=hid (bZ.trans (b2 wr.heap.size (by omega)));have CP:=hid cp2;have R2:=hid r2;have HFF:=hid hFF;clear hc hcv A tto bZ rZ b2 hvb hFF r2;have hmul:IntKind.i64.wrap ((k:Int)*8)=(k:Int)*8:=by rw [IntKind.wrap_i64];omega
     have hz0:(0:Int)<=(k:Int)*8:=by omega
     have hz1:(k:Int)*8<=(m:Int)*8:=by omega
     have htn:((k:Int)*8).toNat=k*8:=by omega
     have hrne:¬ rc=k*8:=by omega
     go_upto_region 13 with fail
     rw [<- hZ,<- hS];have hcp:∀ ty,(Builtin.copy_ #[22,22] ty #[.slice (some ⟨S,0,none⟩) 8 8,.slice (some ⟨vb,vo+k*8,none⟩) (m*8-k*8) (rc-k*8)]).run Tryz.prog Z.drew=.ok (goInt ((8:Nat):Int)) V2:=CP.out;clear CP hZ
     go_region_law (refine zK9 rfl _ _ 22 22 rfl (.slice (some ⟨S,0,none⟩) 8 8) (.slice (some ⟨vb,vo+k*8,none⟩) (m*8-k*8) (rc-k*8)) (by simp [Act.eval,Act.put]) (by simp [Act.eval,Act.put]) (hcp _) ?_)
     clear hcp hmul hz0 hz1 htn hrne;have KE:=yA7 F HFL.out V2;have TO2:=hid (TO.out.grow B2.out);have BV:=hid (BW.out.trans (B2.out.mono BW.out.size));subst hS;have z0:=R2.out.cell (i:=0) (by omega);have z1:=R2.out.cell (i:=1) (by omega);have z2:=R2.out.cell (i:=2) (by omega);have z3:=R2.out.cell (i:=3) (by omega);have z4:=R2.out.cell (i:=4) (by omega);have z5:=R2.out.cell (i:=5) (by omega);have z6:=R2.out.cell (i:=6) (by omega);have z7:=R2.out.cell (i:=7) (by omega);have HTLV:=hid (show T<V2.heap.size from TO2.out.row.lt);clear TO BW R2 c0 hTl
     go_wp2_with fail
     refine KE.mono ?_;rintro e w7 ⟨q,rfl,s7,l7,a7,b7⟩;have TO3:=hid (TO2.out.grow b7);have hTl:T<w7.heap.size:=TO3.out.row.lt;have B7:=hid (BV.out.trans (b7.mono BV.out.size));have B70:=hid (HW5.out.trans (B7.out.mono HW5.out.size));have EL:=hid (show ElL w7 q (entV F) from ⟨s7,l7,by
      have h1:(entV F).length<=8:=by
       unfold entV;split
       ·exact zH7 F 8
       ·simp
      omega⟩)
     have NI:=hid (show yV7 T q from fun pp nn cc e hn=>by have:=a7 pp nn cc e hn;have:=HTLV.out;omega);obtain ⟨qp,qc,rfl,_⟩:=s7.form;have cT:=TO3.out.row.cell hi;have fT:=TO3.out.row.frozen i;have TO4:=hid (TO3.out.set i EL.out NI.out);generalize hE3:entE F=E3;clear z0 z1 z2 z3 z4 z5 z6 z7 s7 l7 a7 b7 KE TO2 TO3 BV;have hor:=xV8 F;rw [hE3] at hor;rcases hor with rfl|rfl
     ·have HG:=hid (yV6 AG.out (show entE (slF bl k)=0 by rw [<- HFF.out];exact hE3))
      have TO5:=hid (TO4.out.congr (H:=fun j=>if j∈js.take (k+1) then TV j else []) fun j hj=>by
       rw [HTAK.out];by_cases e:j=i
       ·rw [if_pos e,if_pos (by simp [e]),e,HTKk.out,HFF.out]
       ·rw [if_neg e]
        by_cases h1:j∈js.take k
        ·rw [if_pos h1,if_pos (List.mem_append_left _ h1)]
        ·rw [if_neg h1,if_neg (by simp [h1,e])])
      have B8:=hid (B7.out.setCell (p:=⟨T,i,none⟩) (by rw [<- HT.out];exact yN) (.slice qp (entV F).length qc));clear hE3;go_wp2
      go_roundg (m-(k+1))
      case measure=>omega
      case rel=>exact ⟨k+1,by omega,by omega,by go_num,(show Aside _ from ⟨_,TO5.out⟩),(show Aside _ from HG.out),(show Aside _ from B8.out)⟩
     ·have HN:=hid (H2.out trivial (xV7 hlt (show entE (slF bl k)≠0 by rw [<- HFF.out,hE3];decide)))
      have B8:=hid (B70.out.setCell (p:=⟨T,i,none⟩) HTW.out (.slice qp (entV F).length qc));clear hE3;go_wp2;go_ret2
      exact yB3 HN.out B8.out
    ·have hltz:¬ (k:Int)<(m:Int):=by omega
     have ek:k=m:=by omega
     subst ek;have HE:=hid (H3.out trivial AG.out);obtain ⟨U,tto⟩:=A.out;have to2:=tto.congr (H:=TV) fun j hj=>by
      rw [yB (by rw [<- HMJ.out];exact yN)];by_cases h1:j∈js
      ·rw [if_pos h1]
      ·rw [if_neg h1,HTN.out j hj h1]
     have R:=hid (show HeaN ⟨n,ls,t,ms,cap⟩ x y bl w (.returned (.tuple #[.slice (some ⟨T,0,none⟩) ls.length ls.length,.int .i64 ((0:Nat):Int)])) wr from
      ⟨_,by rw [HE.out.1],by rw [HE.out.2];exact (show zA9 wr _ (yL2 ls x y bl) from by rw [HTL.out];exact to2.segs (by omega)),HW5.out.trans (BW.out.mono HW5.out.size),zW5 HTW.out⟩)
     clear tto to2 A;go_wp2;go_ret2
     exact R.out
  ·have HN:=hid (H1.out hE0)
   have hne:((E2:Int) != 0)=true:=by rw [bne_iff_ne];omega
   clear g1 g2 gc g3;go_wp2;go_ret2
   exact yB3 HN.out B5.out.be
 ·have HN:=hid (xV6 (bl:=bl) (by rw [<- hE];exact h0))
  have hne:((E:Int) != 0)=true:=by rw [bne_iff_ne];omega
  rw [<- hE] at HN;clear hE;obtain ⟨n,ls,t,ms,cap⟩:=c;dsimp only at *;go_enter Tryz.func80,Tryz.ntmps80
  go_wp2_with fail
  refine KM.mono ?_;rintro e w1 ⟨rfl,b1⟩;have B1:=hid (B0.out.grow b1);clear B0 KM b1;go_wp2;go_ret2
  exact yB3 HN.out B1.out.be
theorem zA9.told {w:World} {u:Value} {st:List (List En)} (h:zA9 w u st) (h0:0<st.length):∃ b off c,u=.slice (some ⟨b,off,none⟩) st.length c/\b<w.heap.size/\ToldL w b off st.length 0 (fun j=>st.getD j []):=by
 obtain ⟨_,p,c,rfl,g⟩:=h;obtain ⟨b,off,rfl,hb,hc⟩:=g h0;refine ⟨b,off,c,rfl,hb,⟨fun i _ hi=>?_⟩⟩;obtain ⟨u,h1,h2⟩:=hc i hi;obtain ⟨p,k,rfl⟩:∃ p k,u=.slice p (st.getD i []).length k:=by
  rcases h2.sg with ⟨e,p,k,rfl⟩|⟨b,o,k,e,_⟩
  ·exact ⟨p,k,by rw [e];rfl⟩
  ·exact ⟨_,k,e⟩
 exact ⟨p,k,h1,h2.sg,h2.li⟩
theorem zL7 {w:World} {p:Option Addr} {k:Nat} {bl:List Nat} (h:Se.By 0 w p k (byI bl)):SegB w (.slice p bl.length k) bl/\Lies w.heap.size (.slice p bl.length k):=by
 by_cases h0:0<bl.length
 ·obtain ⟨b,off,rfl,hb,_,hc⟩:=h.cl (by rw [xG];exact h0)
  refine ⟨.inr ⟨b,off,k,rfl,fun j hj=>?_⟩,fun q n c e _=>by injection e with e1 _ _;injection e1 with e1;subst e1;exact hb⟩;rw [hc j (by rw [xG];exact hj)];unfold byI;simp [List.getD_eq_getElem?_getD,hj]
 ·have e:bl=[]:=zP.1 (by omega)
  subst e;exact ⟨.inl ⟨rfl,p,k,rfl⟩,yT _ _ _⟩
theorem zE5 (bl:List Nat):natL (byI bl)=bl:=by
 unfold natL byI;rw [List.map_map];exact (List.map_congr_left (fun x _=>by simp)).trans (List.map_id _)
theorem zW7 {B:Nat} {M M':Mm} {w w':World} {c:Cf} {n m:Nat} {W:Wo} {T S:Nat} {p:Option Addr} {k:Nat} {l:List Int} (h:Se.By 0 w p k l) (wi:WI B M w c n m W T S) (f:Fr M M' n m w w'):Se.By 0 w' p k l :=
 ⟨h.le,h.cm,h.nl,fun h0=>by
  obtain ⟨b,off,e,hb,ht,hc⟩:=h.cl h0;obtain ⟨cs,fr,ht⟩:=ht.resolve_left (yE _);have ho:=wi.free (qQ ht) (by decide) (by decide) (by decide) (by decide) (by decide) (by decide) (by decide) (by decide);exact ⟨b,off,e,zF hb f.u.size,.inr ⟨cs,fr,(f.keep hb ho).1.trans ht⟩,fun j hj=>(f.u.cell b (off+j) hb ho).trans (hc j hj)⟩⟩
namespace Plain
def opnW (W:Wo) (id:Int):Wo:={ W with off:={ W.off with opened:=W.off.opened++[id.toNat] } }
theorem zP8 {W:Wo} {id:Int} (h:xN W id=0):Se.Plain.seenE W.off id=0/\¬ id∈W.lost/\Se.Plain.oldO W.off id.toNat≠true:=by
 unfold xN at h;by_cases h1:Se.Plain.seenE W.off id≠0
 ·rw [if_pos h1] at h;cases h
 ·rw [if_neg h1] at h
  by_cases h2:id∈W.lost\/Se.Plain.oldO W.off id.toNat=true
  ·rw [if_pos h2] at h;cases h
  ·exact ⟨Decidable.not_not.1 h1,fun x=>h2 (.inl x),fun x=>h2 (.inr x)⟩
theorem zP9 {o:Se.Plain.Off} {id:Int} (h:Se.Plain.seenE o id=0):0<=id/\id<(o.posted.length:Int)/\Se.Plain.seenV o id=⟨id,(o.at id.toNat).frm,(o.at id.toNat).«to»,((o.at id.toNat).data.length:Nat)⟩:=by
 unfold Se.Plain.seenE at h;have hi:¬ (id<0\/(o.posted.length:Int)<=id):=fun x=>by rw [if_pos x] at h;cases h
 refine ⟨by omega,by omega,?_⟩;unfold Se.Plain.seenV;rw [if_neg hi]
end Plain
def OpnP (B:Nat) (M:Mm) (c:Cf) (n m:Nat) (W:Wo) (T S:Nat) (id:Int) (w:World) (e:Ending) (w':World):Prop :=
 ∃ p k,e=.returned (.agg #[.int .i64 ((0:Nat):Int),.int .i64 id,.int .i64 ((W.off.at id.toNat).data.length:Nat),.slice p (W.off.at id.toNat).data.length k])/\Se.By 0 w' p k (W.off.at id.toNat).data/\∃ M',Sm M M'/\WI B M' w' c n m (opnW W id) T (S+1)/\Fr M M' n m w w'
theorem yB4 (B:Nat) (M:Mm) (c:Cf) (n m:Nat) (W:Wo) (T S:Nat) (id:Int) (hfe:xN W id=0) (hg:Se.Plain.Good W.off) (hl:W.off.posted.length<=80000) (hS:S<=80000) (w:World) (h:WI B M w c n m W T S) :
  Calls Tryz.prog 77 #[.pointer (some ⟨M.R,5,none⟩),.int .i64 (W.off.at id.toNat).«to»,.int .i64 id] w (OpnP B M c n m W T S id w):=by
 obtain ⟨e0,_,e2⟩:=zP8 hfe;obtain ⟨i0,i1,i2⟩:=zP9 e0;have ok:=(yY2 hg e0).2.1;rw [i2] at ok;have hE:Se.Plain.leE W.off ⟨2,0,(W.off.at id.toNat).«to»,id,[]⟩=0:=by
  unfold Se.Plain.leE;dsimp only at ok ⊢;rw [if_neg (by simp),if_neg (by omega),if_neg (by decide),if_neg (by omega),if_neg (by simp),if_neg e2]
 have hT:Se.Plain.leT W.off ⟨2,0,(W.off.at id.toNat).«to»,id,[]⟩=⟨0,id,((W.off.at id.toNat).data.length:Nat),(W.off.at id.toNat).data⟩:=by
  unfold Se.Plain.leT;rw [hE,if_neg (by simp),if_neg (by simp)]
 have hO:Se.Plain.leS W.off ⟨2,0,(W.off.at id.toNat).«to»,id,[]⟩={ W.off with opened:=W.off.opened++[id.toNat] }:=by
  unfold Se.Plain.leS;rw [hE,if_neg (by simp),if_neg (by simp)]
 refine (Se.open_c M.R 5 S (wbX c M n m) M.po M.vm M.P W.off hg (by have:=h.po.len;omega) (by omega) ⟨2,0,(W.off.at id.toNat).«to»,id,[]⟩ rfl w h.po).mono ?_;rintro e w' ⟨r,po',vm',P',rfl,hr,hof,kp,hby,hown⟩;rw [hT] at hr;rw [hO] at hof;obtain ⟨h2,u2,o2⟩:=h.setOf (S':=S+1) (by omega) hof kp hown;obtain ⟨d,q,k2⟩:=r;dsimp only at hr;subst hr;exact ⟨q,k2,rfl,hby,{ M with po:=po',vm:=vm',P:=P' },⟨rfl,rfl,rfl⟩,h2,u2,o2⟩
def DlP (B:Nat) (M:Mm) (c:Cf) (n m:Nat) (W:Wo) (T S:Nat) (id:Int) (w:World) (e:Ending) (w':World):Prop :=
 ∃ p k M',e=.returned (aggL (tlOf (delT W id) nilS (.slice p (delT W id).frame.length k) nilS))/\M'.R=M.R/\Se.By 0 w' p k (delT W id).frame/\WI B M' w' c n m (delW c W id) T S/\Fr M M' n m w w'
theorem qG8 (B:Nat) (M:Mm) (c:Cf) (n m:Nat) (W:Wo) (T S:Nat) (id:Int) (hwf:(Lit.int .i64 id).wf=true) (hg:Se.Plain.Good W.off) (hp:W.off.posted.length<=80000) (hfe:xN W id≠0) (w:World) (h:WI B M w c n m W T S) :
  Calls Tryz.prog 50 #[.pointer (some ⟨M.R,0,none⟩),.int .i64 id] w (DlP B M c n m W T S id w):=by
 obtain ⟨WA,hWA⟩:∃ WA,WA=w.alloc boxZ:=⟨_,rfl⟩;have BA:=hid (show Below w.heap.size w WA by rw [hWA];exact yO.alloc yN _);have KA:=hid (show TkB M n m w WA from ⟨by rw [hWA];exact rowZ w⟩);have HA:=hid (h.grow BA.out);have HB:=hid h.bw;have KF:=zW4 B M c n m W T S id hwf hg (by omega) WA HA.out;have HDW:=hid (show delW c W id=W by unfold delW;rw [if_pos hfe]);have HDT:=hid (show delT W id={ tlE (xN W id) with who:=(Se.Plain.seenV W.off id).tow } by unfold delT;rw [if_pos hfe]);clear h hg hp;generalize xN W id=E at KF HDT hfe;generalize Se.Plain.seenV W.off id=x at KF HDT;obtain ⟨xi,xf,xt,xs⟩:=x;go_enter Tryz.func50,Tryz.ntmps50
 go_upto_region 1 with fail
 rw [<- hWA];clear hWA
 go_wp2_with fail
 refine KF.mono ?_;rintro e w1 ⟨rfl,hb⟩;have H1:=hid (HA.out.grow hb);have F1:=hid (show Fr M M n m w w1 from (Fr.of_below BA.out).trans (Fr.of_below hb));have K1:=hid (KA.out.fr HA.out (Fr.of_below hb));clear KF hb;obtain ⟨xb,hxb⟩:∃ xb,xb=w1.heap.size:=⟨_,rfl⟩;obtain ⟨W2,hW2⟩:∃ W2,W2=w1.alloc (.cells #[.int .i64 xi,.int .i64 xf,.int .i64 xt,.int .i64 xs] 98):=⟨_,rfl⟩;have HXB:=hid hxb;clear hxb
 go_upto_region 2 with fail
 rw [<- hW2,<- HXB.out];have b2:Below w1.heap.size w1 W2:=by rw [hW2];exact yO.alloc yN _
 have H2:=hid (H1.out.grow b2);have F2:=hid (F1.out.trans (Fr.of_below b2));have K2:=hid (K1.out.fr H1.out (Fr.of_below b2));have X2:=hid (show W2.rowIs xb 98 4 (Se.evF ⟨xi,xf,xt,xs⟩) by rw [hW2,HXB.out];exact Se.zE1 w1 ⟨xi,xf,xt,xs⟩);have nx:¬ xb=w.heap.size:=by rw [HXB.out];have:=K1.out.row.lt;omega
 clear hW2 b2 H1 F1 K1 HA KA HXB;have q1:W2.cell? ⟨xb,1,none⟩=some (.int .i64 xf):=X2.out.cell (i:=1) (by decide);have q2:W2.cell? ⟨xb,2,none⟩=some (.int .i64 xt):=X2.out.cell (i:=2) (by decide);have hEz:((E:Int) != 0)=true:=by rw [bne_iff_ne];omega
 have y0:=K2.out.row.cell (i:=0) (by decide);have z0:=K2.out.row.frozen 0;have y1:=K2.out.row.cell (i:=1) (by decide);have z1:=K2.out.row.frozen 1;have y2:=K2.out.row.cell (i:=2) (by decide);have z2:=K2.out.row.frozen 2;have y3:=K2.out.row.cell (i:=3) (by decide);have z3:=K2.out.row.frozen 3;have y4:=K2.out.row.cell (i:=4) (by decide);have z4:=K2.out.row.frozen 4;have y5:=K2.out.row.cell (i:=5) (by decide);have z5:=K2.out.row.frozen 5;have y6:=K2.out.row.cell (i:=6) (by decide);have z6:=K2.out.row.frozen 6;have y7:=K2.out.row.cell (i:=7) (by decide);have z7:=K2.out.row.frozen 7;have y8:=K2.out.row.cell (i:=8) (by decide);have z8:=K2.out.row.frozen 8;have y9:=K2.out.row.cell (i:=9) (by decide);have z9:=K2.out.row.frozen 9;have y10:=K2.out.row.cell (i:=10) (by decide);have z10:=K2.out.row.frozen 10;obtain ⟨W6,hW6⟩:∃ W6,W6=(((((((((((W2.setCell ⟨w.heap.size,0,none⟩ (.int .i64 (E:Nat))).setCell ⟨w.heap.size,1,none⟩ (.int .i64 xt)).setCell ⟨w.heap.size,2,none⟩ (.int .i64 0)).setCell ⟨w.heap.size,3,none⟩ (.int .i64 0)).setCell ⟨w.heap.size,4,none⟩ (.int .i64 0)).setCell ⟨w.heap.size,5,none⟩ (.int .i64 0)).setCell ⟨w.heap.size,6,none⟩ (.int .i64 0)).setCell ⟨w.heap.size,7,none⟩ (.int .i64 0)).setCell ⟨w.heap.size,8,none⟩ (.slice none 0 0)).setCell ⟨w.heap.size,9,none⟩ (.slice none 0 0)).setCell ⟨w.heap.size,10,none⟩ (.slice none 0 0)):=⟨_,rfl⟩;go_wp2;rw [<- hW6];have h6:W6=putL W2 w.heap.size (tlOf { tlE E with who:=xt } nilS nilS nilS):=hW6;clear hW6 y0 z0 y1 z1 y2 z2 y3 z3 y4 z4 y5 z5 y6 z6 y7 z7 y8 z8 y9 z9 y10 z10;have F6:W6.rowIs w.heap.size 42 11 (tlOf { tlE E with who:=xt } nilS nilS nilS):=by rw [h6];exact xL K2.out.row _
 have V6:Uw (fun b=>b=w.heap.size) W2 W6:=by rw [h6];exact xK W2 _ _
 clear h6;have nk:¬ own M n m w.heap.size:=H2.out.free (yQ K2.out.row) (by decide) (by decide) (by decide) (by decide) (by decide) (by decide) (by decide) (by decide);refine yV rfl w.heap.size (tlOf { tlE E with who:=xt } nilS nilS nilS) rfl F6 rfl ⟨none,0,M,by rw [HDT.out];rfl,rfl,by rw [HDT.out];exact Se.By.nil _ _,?_,F2.out.box yN V6⟩;rw [HDW.out];exact H2.out.box K2.out.row HB.out nk (by decide) (by decide) V6
theorem zQ0 (a b:Int) (q:Option Addr) (l k:Nat) (X:World):(Instr.field 153 (.agg #[.int .i64 0,.int .i64 a,.int .i64 b,.slice q l k]) 3).run Tryz.prog X=.ok (.slice q l k) X:=by kernel_rfl
theorem xK1 (B:Nat) (M:Mm) (c:Cf) (n m:Nat) (W:Wo) (T S:Nat) (id:Int) (hwf:(Lit.int .i64 id).wf=true) (hg:Se.Plain.Good W.off) (hp:W.off.posted.length<=80000) (hS:S<=80000) (hn:c.n=n) (hT:T+m<=1000) (hfe:xN W id=0) (bl:List Nat) (hbl:(W.off.at id.toNat).data=byI bl) (hb6:bl.length<=256) (hby:∀ x∈bl,x<256) (hto:(W.off.at id.toNat).«to»=n) (hal:(askV c bl).length<=m) (w:World) (h:WI B M w c n m W T S) :
  Calls Tryz.prog 50 #[.pointer (some ⟨M.R,0,none⟩),.int .i64 id] w (DlP B M c n m W (T+m) (S+1) id w):=by
 obtain ⟨WA,hWA⟩:∃ WA,WA=w.alloc boxZ:=⟨_,rfl⟩;have BA:=hid (show Below w.heap.size w WA by rw [hWA];exact yO.alloc yN _);have KA:=hid (show TkB M n m w WA from ⟨by rw [hWA];exact rowZ w⟩);have HA:=hid (h.grow BA.out);have HB:=hid h.bw;have KF:=zW4 B M c n m W T S id hwf hg (by omega) WA HA.out;obtain ⟨f0,_,_⟩:=zP8 hfe;obtain ⟨i0,i1,i2⟩:=zP9 f0;have KO:=hid (fun X (hx:WI B M X c n m W T S)=>yB4 B M c n m W T S id hfe hg hp hS X hx);unfold OpnP at KO;rw [hfe,i2] at KF;have HDT:=hid (show delT W id={ tlE 0 with who:=(W.off.at id.toNat).«to»,frame:=byI bl } by unfold delT;rw [if_neg (by rw [hfe];simp),hbl]);have HDW:=hid (show delW c W id=qM c (opnW W id) (W.off.at id.toNat) by unfold delW;rw [if_neg (by rw [hfe];simp)];rfl);have HD2:=hid (HDW.out.trans (show qM c (opnW W id) (W.off.at id.toNat)=yL4 (opnW W id) (W.off.at id.toNat).frm (askV c bl) by unfold qM;rw [if_pos (by rw [hto,hn]),hbl,zE5]));clear HDW
 rename Hid (delW c W id=yL4 _ _ _)=>HDW
 have KB:=fun X (h0:X.cell? ⟨M.R,0,none⟩=some (.int .i64 (n:Int)))=>zB6 M n X h0;have HWT:=hid (fun M' X q k2 (hx:WI B M' X c n m (opnW W id) T (S+1)) (y:Se.By 0 X q k2 (byI bl))=>yQ8 B M' c n m (opnW W id) T (S+1) (W.off.at id.toNat).frm (.slice q bl.length k2) bl (by omega) hby hT hal X hx (zL7 y).1 (zL7 y).2);rw [hto] at KF KO HDT;rw [hbl,xG] at KF;simp only [hbl,xG] at KO;generalize (W.off.at id.toNat).frm=xf at KF HDW HWT;obtain ⟨xt,hxt⟩:∃ xt,xt=(n:Int):=⟨_,rfl⟩;obtain ⟨dl,hdl⟩:∃ dl,dl=bl.length:=⟨_,rfl⟩;obtain ⟨xs,hxs⟩:∃ xs,xs=(dl:Int):=⟨_,rfl⟩;have HDL:=hid hdl;rw [<- hdl] at KF KO HWT;rw [<- hxt] at KO HDT;rw [<- hxt,<- hxs] at KF;have HXT:=hid hxt;clear h hg hp hfe f0 i0 i1 i2 hbl hto hxs hdl hby hal hxt;go_enter Tryz.func50,Tryz.ntmps50
 go_upto_region 1 with fail
 rw [<- hWA];clear hWA
 go_wp2_with fail
 refine KF.mono ?_;rintro e w1 ⟨rfl,hb⟩;have H1:=hid (HA.out.grow hb);have F1:=hid (show Fr M M n m w w1 from (Fr.of_below BA.out).trans (Fr.of_below hb));have K1:=hid (KA.out.fr HA.out (Fr.of_below hb));clear KF hb;obtain ⟨xb,hxb⟩:∃ xb,xb=w1.heap.size:=⟨_,rfl⟩;obtain ⟨W2,hW2⟩:∃ W2,W2=w1.alloc (.cells #[.int .i64 id,.int .i64 xf,.int .i64 xt,.int .i64 xs] 98):=⟨_,rfl⟩;have HXB:=hid hxb;clear hxb
 go_upto_region 2 with fail
 rw [<- hW2,<- HXB.out];have b2:Below w1.heap.size w1 W2:=by rw [hW2];exact yO.alloc yN _
 have H2:=hid (H1.out.grow b2);have F2:=hid (F1.out.trans (Fr.of_below b2));have K2:=hid (K1.out.fr H1.out (Fr.of_below b2));have X2:=hid (show W2.rowIs xb 98 4 (Se.evF ⟨id,xf,xt,xs⟩) by rw [hW2,HXB.out];exact Se.zE1 w1 ⟨id,xf,xt,xs⟩);have nx:¬ xb=w.heap.size:=by rw [HXB.out];have:=K1.out.row.lt;omega
 clear hW2 b2 H1 F1 K1 HA KA HXB;have q1:W2.cell? ⟨xb,1,none⟩=some (.int .i64 xf):=X2.out.cell (i:=1) (by decide);have q2:W2.cell? ⟨xb,2,none⟩=some (.int .i64 xt):=X2.out.cell (i:=2) (by decide);have hfd:=fun q k2 X=>zQ0 id (dl:Int) q dl k2 X;have q0:W2.cell? ⟨M.R,0,none⟩=some (.int .i64 (n:Int)):=by rw [<- hn];exact H2.out.cell (j:=0) (by omega)
 have bD:=hid (show Below W2.heap.size W2 W2.drew from yO.drew);have KO2:=KO.out _ (H2.out.grow bD.out);clear KO
 go_upto_region 4 with fail
 go_region_held3 (fun w'=>w'.cell? ⟨xb,2,none⟩=some (.int .i64 xt)) (go_keep)
  ((go_at_call 77;refine KO2.mono ?_;rintro e w3 ⟨q,k2,rfl,hby,M3,sm3,i3,f3⟩;have I3:=hid i3;have F30:=hid ((Fr.of_below bD.out).trans f3);have nx3:=H2.out.free (yQ X2.out) (by decide) (by decide) (by decide) (by decide) (by decide) (by decide) (by decide) (by decide);have X3:=hid (F30.out.u.rowIs X2.out nx3);have K3:=hid (K2.out.fr H2.out F30.out);have Y3:=hid hby;have F3:=hid (F2.out.trans F30.out);have d2:w3.cell? ⟨xb,2,none⟩=some (.int .i64 xt):=X3.out.cell (i:=2) (by decide);have SM:=hid sm3;clear i3 f3 hby nx3 sm3))
 rename_i hlast;clear hlast hfd KO2 q0 q1 q2 H2 F2 K2 X2 bD F30;have hR3:M3.R=M.R:=SM.out.1;have d1:w3.cell? ⟨xb,1,none⟩=some (.int .i64 xf):=X3.out.cell (i:=1) (by decide);have d0:w3.cell? ⟨M.R,0,none⟩=some (.int .i64 (n:Int)):=by rw [<- hR3,<- hn];exact I3.out.cell (j:=0) (by omega)
 have bE:=hid (show Below w3.heap.size w3 w3.drew from yO.drew);have KW:=HWT.out M3 w3.drew q k2 (I3.out.grow bE.out) (zW7 Y3.out I3.out (Fr.of_below bE.out));rw [hR3] at KW;have heq:(xt==(n:Int))=true:=by rw [HXT.out];simp
 clear HWT
 go_upto_region 7 with fail
 go_region_held3 (fun w'=>w'.cell? ⟨xb,2,none⟩=some (.int .i64 xt)) (go_keep)
  ((go_at_call 72;refine (KB w3.drew d0).mono ?_;rintro e w4' ⟨rfl,hx⟩;have hy:=hx.symm;clear hx;subst hy))
 rename_i hlast;clear hlast KB;have d1':w3.drew.cell? ⟨xb,1,none⟩=some (.int .i64 xf):=d1
 go_wp2_with fail
 refine KW.mono ?_;rintro e w4 ⟨rfl,M4,hR4a,i4,f4⟩;have f40:=(Fr.of_below bE.out).trans f4;have I4:=hid i4;have F4:=hid (F3.out.trans f40);have X4:=hid (f40.u.rowIs X3.out (I3.out.free (yQ X3.out) (by decide) (by decide) (by decide) (by decide) (by decide) (by decide) (by decide) (by decide)));have K4:=hid (K3.out.fr I3.out f40);have Y4:=hid (zW7 Y3.out I3.out f40);have hR4:=hR4a.trans hR3;clear KW i4 f4 f40 hR4a d0 d1 d1' d2 I3 F3 X3 K3 Y3 bE SM;have hR4':=hR4;have y0:=K4.out.row.cell (i:=0) (by decide);have z0:=K4.out.row.frozen 0;have y1:=K4.out.row.cell (i:=1) (by decide);have z1:=K4.out.row.frozen 1;have y2:=K4.out.row.cell (i:=2) (by decide);have z2:=K4.out.row.frozen 2;have y3:=K4.out.row.cell (i:=3) (by decide);have z3:=K4.out.row.frozen 3;have y4:=K4.out.row.cell (i:=4) (by decide);have z4:=K4.out.row.frozen 4;have y5:=K4.out.row.cell (i:=5) (by decide);have z5:=K4.out.row.frozen 5;have y6:=K4.out.row.cell (i:=6) (by decide);have z6:=K4.out.row.frozen 6;have y7:=K4.out.row.cell (i:=7) (by decide);have z7:=K4.out.row.frozen 7;have y8:=K4.out.row.cell (i:=8) (by decide);have z8:=K4.out.row.frozen 8;have y9:=K4.out.row.cell (i:=9) (by decide);have z9:=K4.out.row.frozen 9;have y10:=K4.out.row.cell (i:=10) (by decide);have z10:=K4.out.row.frozen 10;have e2:w4.cell? ⟨xb,2,none⟩=some (.int .i64 xt):=X4.out.cell (i:=2) (by decide);obtain ⟨W6,hW6⟩:∃ W6,W6=(((((((((((w4.setCell ⟨w.heap.size,0,none⟩ (.int .i64 0)).setCell ⟨w.heap.size,1,none⟩ (.int .i64 xt)).setCell ⟨w.heap.size,2,none⟩ (.int .i64 0)).setCell ⟨w.heap.size,3,none⟩ (.int .i64 0)).setCell ⟨w.heap.size,4,none⟩ (.int .i64 0)).setCell ⟨w.heap.size,5,none⟩ (.int .i64 0)).setCell ⟨w.heap.size,6,none⟩ (.int .i64 0)).setCell ⟨w.heap.size,7,none⟩ (.int .i64 0)).setCell ⟨w.heap.size,8,none⟩ (.slice none 0 0)).setCell ⟨w.heap.size,9,none⟩ (.slice q dl k2)).setCell ⟨w.heap.size,10,none⟩ (.slice none 0 0)):=⟨_,rfl⟩;go_wp2;rw [<- hW6];have h6:W6=putL w4 w.heap.size (tlOf { tlE 0 with who:=xt,frame:=byI bl } nilS (.slice q dl k2) nilS):=hW6;clear hW6 y0 z0 y1 z1 y2 z2 y3 z3 y4 z4 y5 z5 y6 z6 y7 z7 y8 z8 y9 z9 y10 z10;have F6:W6.rowIs w.heap.size 42 11 (tlOf { tlE 0 with who:=xt,frame:=byI bl } nilS (.slice q dl k2) nilS):=by rw [h6];exact xL K4.out.row _
 have V6:Uw (fun b=>b=w.heap.size) w4 W6:=by rw [h6];exact xK w4 _ _
 clear h6;have nk:¬ own M4 n m w.heap.size:=I4.out.free (yQ K4.out.row) (by decide) (by decide) (by decide) (by decide) (by decide) (by decide) (by decide) (by decide);have y6:Se.By 0 W6 q k2 (byI bl):=⟨Y4.out.le,Y4.out.cm,Y4.out.nl,fun h0=>by
  obtain ⟨b,off,e,hb,ht,hc⟩:=Y4.out.cl h0;obtain ⟨cs,fr,ht⟩:=ht.resolve_left (yE _);have ne:¬ b=w.heap.size:=fun e=>by
   have t1:=qQ ht;rw [e,yQ K4.out.row] at t1;exact absurd (Option.some.inj t1) (by decide)
  exact ⟨b,off,e,zF hb V6.size,.inr ⟨cs,fr,(V6.block b hb ne).trans ht⟩,fun j hj=>(V6.cell b (off+j) hb ne).trans (hc j hj)⟩⟩
 refine yV rfl w.heap.size (tlOf { tlE 0 with who:=xt,frame:=byI bl } nilS (.slice q dl k2) nilS) rfl F6 rfl ⟨q,k2,M4,by rw [HDT.out];show _=Ending.returned (aggL (tlOf _ nilS (.slice q (byI bl).length k2) nilS));rw [xG,HDL.out],hR4',by rw [HDT.out];exact y6,?_,F4.out.box yN V6⟩;rw [HDW.out];exact I4.out.box K4.out.row HB.out nk (by decide) (by decide) V6
theorem xK2 (B:Nat) (M:Mm) (c:Cf) (n m:Nat) (W:Wo) (T S:Nat) (id:Int) (hwf:(Lit.int .i64 id).wf=true) (hg:Se.Plain.Good W.off) (hp:W.off.posted.length<=80000) (hS:S<=80000) (hn:c.n=n) (hm3:m<=3) (i:Nat) (hi:i<n) (hfe:xN W id=0) (bl:List Nat) (hbl:(W.off.at id.toNat).data=byI bl) (hb6:bl.length<=256) (hby:∀ x∈bl,x<256) (hto:(W.off.at id.toNat).«to»=i) (hfr:(W.off.at id.toNat).frm=n) (hal:(askV c bl).length<=m) (hga:∀ k,k<m->0<=W.gain i k) (hle:∀ k,k<m->(askV c bl).getD k 0<=4611686018427387904) (hv:∀ k,k<m->(∃ gg,Hd.Plain.Hv (W.rk i k) gg)/\(W.rk i k).cs.length<=1000) (w:World) (h:WI B M w c n m W T S) :
  Calls Tryz.prog 50 #[.pointer (some ⟨M.R,0,none⟩),.int .i64 id] w (DlP B M c n m W T (S+1) id w):=by
 obtain ⟨WA,hWA⟩:∃ WA,WA=w.alloc boxZ:=⟨_,rfl⟩;have BA:=hid (show Below w.heap.size w WA by rw [hWA];exact yO.alloc yN _);have KA:=hid (show TkB M n m w WA from ⟨by rw [hWA];exact rowZ w⟩);have HA:=hid (h.grow BA.out);have HB:=hid h.bw;have KF:=zW4 B M c n m W T S id hwf hg (by omega) WA HA.out;obtain ⟨f0,_,_⟩:=zP8 hfe;obtain ⟨i0,i1,i2⟩:=zP9 f0;have KO:=hid (fun X (hx:WI B M X c n m W T S)=>yB4 B M c n m W T S id hfe hg hp hS X hx);unfold OpnP at KO;rw [hfe,i2] at KF;have HDT:=hid (show delT W id={ tlE 0 with who:=(W.off.at id.toNat).«to»,frame:=byI bl } by unfold delT;rw [if_neg (by rw [hfe];simp),hbl]);have HDW:=hid (show delW c W id=qM c (opnW W id) (W.off.at id.toNat) by unfold delW;rw [if_neg (by rw [hfe];simp)];rfl);have HD2:=hid (HDW.out.trans (show qM c (opnW W id) (W.off.at id.toNat)=zO7 (opnW W id) i (askV c bl) by unfold qM;rw [if_neg (by rw [hto,hn];omega),if_pos (by rw [hfr,hn]),hbl,zE5,hto,zK]));clear HDW
 rename Hid (delW c W id=zO7 _ _ _)=>HDW
 have KB:=fun X (h0:X.cell? ⟨M.R,0,none⟩=some (.int .i64 (n:Int)))=>zB6 M n X h0;have HWT:=hid (fun M' X q k2 (hx:WI B M' X c n m (opnW W id) T (S+1)) (y:Se.By 0 X q k2 (byI bl))=>qG7 B M' c n m (opnW W id) T (S+1) i (.slice q bl.length k2) bl (by omega) hby hi hm3 hal hga hle hv X hx (zL7 y).1 (zL7 y).2);rw [hto,hfr] at KF;rw [hto] at KO HDT;rw [hbl,xG] at KF;simp only [hbl,xG] at KO;obtain ⟨xf,hxf⟩:∃ xf,xf=(n:Int):=⟨_,rfl⟩;obtain ⟨xt,hxt⟩:∃ xt,xt=(i:Int):=⟨_,rfl⟩;obtain ⟨dl,hdl⟩:∃ dl,dl=bl.length:=⟨_,rfl⟩;obtain ⟨xs,hxs⟩:∃ xs,xs=(dl:Int):=⟨_,rfl⟩;have HDL:=hid hdl;rw [<- hdl] at KF KO HWT;rw [<- hxt] at KO HDT HWT;rw [<- hxt,<- hxs,<- hxf] at KF;have HXT:=hid hxt;have HXF:=hid hxf;clear h hg hp hfe f0 i0 i1 i2 hbl hto hxs hdl hby hal hga hle hv hfr hxf hxt;go_enter Tryz.func50,Tryz.ntmps50
 go_upto_region 1 with fail
 rw [<- hWA];clear hWA
 go_wp2_with fail
 refine KF.mono ?_;rintro e w1 ⟨rfl,hb⟩;have H1:=hid (HA.out.grow hb);have F1:=hid (show Fr M M n m w w1 from (Fr.of_below BA.out).trans (Fr.of_below hb));have K1:=hid (KA.out.fr HA.out (Fr.of_below hb));clear KF hb;obtain ⟨xb,hxb⟩:∃ xb,xb=w1.heap.size:=⟨_,rfl⟩;obtain ⟨W2,hW2⟩:∃ W2,W2=w1.alloc (.cells #[.int .i64 id,.int .i64 xf,.int .i64 xt,.int .i64 xs] 98):=⟨_,rfl⟩;have HXB:=hid hxb;clear hxb
 go_upto_region 2 with fail
 rw [<- hW2,<- HXB.out];have b2:Below w1.heap.size w1 W2:=by rw [hW2];exact yO.alloc yN _
 have H2:=hid (H1.out.grow b2);have F2:=hid (F1.out.trans (Fr.of_below b2));have K2:=hid (K1.out.fr H1.out (Fr.of_below b2));have X2:=hid (show W2.rowIs xb 98 4 (Se.evF ⟨id,xf,xt,xs⟩) by rw [hW2,HXB.out];exact Se.zE1 w1 ⟨id,xf,xt,xs⟩);have nx:¬ xb=w.heap.size:=by rw [HXB.out];have:=K1.out.row.lt;omega
 clear hW2 b2 H1 F1 K1 HA KA HXB;have q1:W2.cell? ⟨xb,1,none⟩=some (.int .i64 xf):=X2.out.cell (i:=1) (by decide);have q2:W2.cell? ⟨xb,2,none⟩=some (.int .i64 xt):=X2.out.cell (i:=2) (by decide);have hfd:=fun q k2 X=>zQ0 id (dl:Int) q dl k2 X;have q0:W2.cell? ⟨M.R,0,none⟩=some (.int .i64 (n:Int)):=by rw [<- hn];exact H2.out.cell (j:=0) (by omega)
 have bD:=hid (show Below W2.heap.size W2 W2.drew from yO.drew);have KO2:=KO.out _ (H2.out.grow bD.out);clear KO
 go_upto_region 4 with fail
 go_region_held3 (fun w'=>w'.cell? ⟨xb,2,none⟩=some (.int .i64 xt)) (go_keep)
  ((go_at_call 77;refine KO2.mono ?_;rintro e w3 ⟨q,k2,rfl,hby,M3,sm3,i3,f3⟩;have I3:=hid i3;have F30:=hid ((Fr.of_below bD.out).trans f3);have nx3:=H2.out.free (yQ X2.out) (by decide) (by decide) (by decide) (by decide) (by decide) (by decide) (by decide) (by decide);have X3:=hid (F30.out.u.rowIs X2.out nx3);have K3:=hid (K2.out.fr H2.out F30.out);have Y3:=hid hby;have F3:=hid (F2.out.trans F30.out);have d2:w3.cell? ⟨xb,2,none⟩=some (.int .i64 xt):=X3.out.cell (i:=2) (by decide);have SM:=hid sm3;clear i3 f3 hby nx3 sm3))
 rename_i hlast;clear hlast hfd KO2 q0 q1 q2 H2 F2 K2 X2 bD F30;have hR3:M3.R=M.R:=SM.out.1;have d1:w3.cell? ⟨xb,1,none⟩=some (.int .i64 xf):=X3.out.cell (i:=1) (by decide);have d0:w3.cell? ⟨M.R,0,none⟩=some (.int .i64 (n:Int)):=by rw [<- hR3,<- hn];exact I3.out.cell (j:=0) (by omega)
 have bE:=hid (show Below w3.heap.size w3 w3.drew.drew from (yO.drew).drew);have KW:=HWT.out M3 w3.drew.drew q k2 (I3.out.grow bE.out) (zW7 Y3.out I3.out (Fr.of_below bE.out));rw [hR3] at KW;have heq:(xt==(n:Int))=false:=by rw [HXT.out];simp;omega
 have heq2:(xf==(n:Int))=true:=by rw [HXF.out];simp
 clear HWT
 go_upto_region 7 with fail
 go_region_held3 (fun w'=>w'.cell? ⟨xb,2,none⟩=some (.int .i64 xt)) (go_keep)
  ((go_at_call 72;refine (KB w3.drew d0).mono ?_;rintro e w4' ⟨rfl,hx⟩;have hy:=hx.symm;clear hx;subst hy))
 rename_i hlast;clear hlast;have d1':w3.drew.cell? ⟨xb,1,none⟩=some (.int .i64 xf):=d1
 go_upto_region 9 with fail
 go_region_held3 (fun w'=>w'.cell? ⟨xb,1,none⟩=some (.int .i64 xf)) (go_keep)
  ((go_at_call 72;refine (KB w3.drew.drew d0).mono ?_;rintro e w4' ⟨rfl,hx⟩;have hy:=hx.symm;clear hx;subst hy))
 rename_i hlast;clear hlast KB;have d2':w3.drew.drew.cell? ⟨xb,2,none⟩=some (.int .i64 xt):=d2
 go_wp2_with fail
 refine KW.mono ?_;rintro e w4 ⟨rfl,M4,hR4a,i4,f4⟩;have f40:=(Fr.of_below bE.out).trans f4;have I4:=hid i4;have F4:=hid (F3.out.trans f40);have X4:=hid (f40.u.rowIs X3.out (I3.out.free (yQ X3.out) (by decide) (by decide) (by decide) (by decide) (by decide) (by decide) (by decide) (by decide)));have K4:=hid (K3.out.fr I3.out f40);have Y4:=hid (zW7 Y3.out I3.out f40);have hR4:=hR4a.trans hR3;clear KW i4 f4 f40 hR4a d0 d1 d1' d2 d2' I3 F3 X3 K3 Y3 bE SM;have hR4':=hR4;have y0:=K4.out.row.cell (i:=0) (by decide);have z0:=K4.out.row.frozen 0;have y1:=K4.out.row.cell (i:=1) (by decide);have z1:=K4.out.row.frozen 1;have y2:=K4.out.row.cell (i:=2) (by decide);have z2:=K4.out.row.frozen 2;have y3:=K4.out.row.cell (i:=3) (by decide);have z3:=K4.out.row.frozen 3;have y4:=K4.out.row.cell (i:=4) (by decide);have z4:=K4.out.row.frozen 4;have y5:=K4.out.row.cell (i:=5) (by decide);have z5:=K4.out.row.frozen 5;have y6:=K4.out.row.cell (i:=6) (by decide);have z6:=K4.out.row.frozen 6;have y7:=K4.out.row.cell (i:=7) (by decide);have z7:=K4.out.row.frozen 7;have y8:=K4.out.row.cell (i:=8) (by decide);have z8:=K4.out.row.frozen 8;have y9:=K4.out.row.cell (i:=9) (by decide);have z9:=K4.out.row.frozen 9;have y10:=K4.out.row.cell (i:=10) (by decide);have z10:=K4.out.row.frozen 10;have e2:w4.cell? ⟨xb,2,none⟩=some (.int .i64 xt):=X4.out.cell (i:=2) (by decide);obtain ⟨W6,hW6⟩:∃ W6,W6=(((((((((((w4.setCell ⟨w.heap.size,0,none⟩ (.int .i64 0)).setCell ⟨w.heap.size,1,none⟩ (.int .i64 xt)).setCell ⟨w.heap.size,2,none⟩ (.int .i64 0)).setCell ⟨w.heap.size,3,none⟩ (.int .i64 0)).setCell ⟨w.heap.size,4,none⟩ (.int .i64 0)).setCell ⟨w.heap.size,5,none⟩ (.int .i64 0)).setCell ⟨w.heap.size,6,none⟩ (.int .i64 0)).setCell ⟨w.heap.size,7,none⟩ (.int .i64 0)).setCell ⟨w.heap.size,8,none⟩ (.slice none 0 0)).setCell ⟨w.heap.size,9,none⟩ (.slice q dl k2)).setCell ⟨w.heap.size,10,none⟩ (.slice none 0 0)):=⟨_,rfl⟩;go_wp2;rw [<- hW6];have h6:W6=putL w4 w.heap.size (tlOf { tlE 0 with who:=xt,frame:=byI bl } nilS (.slice q dl k2) nilS):=hW6;clear hW6 y0 z0 y1 z1 y2 z2 y3 z3 y4 z4 y5 z5 y6 z6 y7 z7 y8 z8 y9 z9 y10 z10;have F6:W6.rowIs w.heap.size 42 11 (tlOf { tlE 0 with who:=xt,frame:=byI bl } nilS (.slice q dl k2) nilS):=by rw [h6];exact xL K4.out.row _
 have V6:Uw (fun b=>b=w.heap.size) w4 W6:=by rw [h6];exact xK w4 _ _
 clear h6;have nk:¬ own M4 n m w.heap.size:=I4.out.free (yQ K4.out.row) (by decide) (by decide) (by decide) (by decide) (by decide) (by decide) (by decide) (by decide);have y6:Se.By 0 W6 q k2 (byI bl):=⟨Y4.out.le,Y4.out.cm,Y4.out.nl,fun h0=>by
  obtain ⟨b,off,e,hb,ht,hc⟩:=Y4.out.cl h0;obtain ⟨cs,fr,ht⟩:=ht.resolve_left (yE _);have ne:¬ b=w.heap.size:=fun e=>by
   have t1:=qQ ht;rw [e,yQ K4.out.row] at t1;exact absurd (Option.some.inj t1) (by decide)
  exact ⟨b,off,e,zF hb V6.size,.inr ⟨cs,fr,(V6.block b hb ne).trans ht⟩,fun j hj=>(V6.cell b (off+j) hb ne).trans (hc j hj)⟩⟩
 refine yV rfl w.heap.size (tlOf { tlE 0 with who:=xt,frame:=byI bl } nilS (.slice q dl k2) nilS) rfl F6 rfl ⟨q,k2,M4,by rw [HDT.out];show _=Ending.returned (aggL (tlOf _ nilS (.slice q (byI bl).length k2) nilS));rw [xG,HDL.out],hR4',by rw [HDT.out];exact y6,?_,F4.out.box yN V6⟩;rw [HDW.out];exact I4.out.box K4.out.row HB.out nk (by decide) (by decide) V6
theorem xX6 (B:Nat) (M:Mm) (c:Cf) (n m:Nat) (W:Wo) (T S:Nat) (i frm:Nat) (hi:i<n) (hn8:n<=8) (hf:frm<8) (hL4:c.ls.length<=4) (hL:∀ x,x∈c.ls->0<=x/\x<256) (Z:Int) (t:Nat->List En) (hS:Sok Z (W.st i)) (hU:Sok Z t) (TB tf tc:Nat) (w:World) (h:WI B M w c n m W T S) (hTB:TB<w.heap.size) (hno:¬ own M n m TB) (ht:ToldL w TB tf c.ls.length 0 t) :
  Calls Tryz.prog 81 #[.pointer (some ⟨M.EB,i*4,none⟩),.int .i64 (frm:Int),.slice (some ⟨TB,tf,none⟩) c.ls.length tc] w fun e w'=>e=.returned (.tuple #[])/\WI B M w' c n m { W with st:=fun a=>if a=i then heaK c.ls frm i (W.st i) t c.ls.length else W.st a } T S/\Fr M M n m w w':=by
 refine (yR6 M.EB (i*4) ⟨94,M.NC,M.F⟩ (M.H i) i frm M.lp M.lc c.ls (W.st i) t TB tf tc Z (by omega) hf hL4 hL hS hU (.inl (fun e=>hno (.inr (.inr (.inl (.inr ⟨i,hi,e⟩)))))) w hTB (h.br.st.sto hi) ht).mono ?_;rintro e w' ⟨rfl,p⟩;obtain ⟨q1,q2⟩:=h.br.st.put hi p;have u:Uw (isB M.H M.D M.vo n m) w w':=q2.mono fun _ _ x=>.inr x;have g:GoI w' M.D M.vo n m W.ask W.gain W.rk:=h.br.go.un q2 (fun b hb x=>(h.br.st.apart h.br.go b hb).2 x);obtain ⟨wi,ua,oa⟩:=h.setBr (vo':=M.vo) (W':={ W with st:=fun a=>if a=i then heaK c.ls frm i (W.st i) t c.ls.length else W.st a }) ⟨q1,g,h.br.lb⟩ rfl rfl rfl u (fun _ y=>.inl y);exact ⟨rfl,wi,ua,oa⟩
theorem xK3 (B:Nat) (M:Mm) (c:Cf) (n m:Nat) (W:Wo) (T S:Nat) (id:Int) (hwf:(Lit.int .i64 id).wf=true) (hg:Se.Plain.Good W.off) (hp:W.off.posted.length<=80000) (hS:S<=80000) (hn:c.n=n) (hn8:n<=8) (hL0:0<c.ls.length) (hL4:c.ls.length<=4) (hLx:∀ x,x∈c.ls->0<=x/\x<256) (i j:Nat) (hi:i<n) (hj:j<n) (hfe:xN W id=0) (bl:List Nat) (hbl:(W.off.at id.toNat).data=byI bl) (hb6:bl.length<=256) (hby:∀ x∈bl,x<256) (hto:(W.off.at id.toNat).«to»=i) (hfr:(W.off.at id.toNat).frm=j) (Z:Int) (hSo:Sok Z (W.st i)) (hUo:Sok Z (fun t=>(heaV c j i bl).getD t [])) (hhl:(heaV c j i bl).length=c.ls.length) (w:World) (h:WI B M w c n m W T S) :
  Calls Tryz.prog 50 #[.pointer (some ⟨M.R,0,none⟩),.int .i64 id] w (DlP B M c n m W T (S+1) id w):=by
 obtain ⟨WA,hWA⟩:∃ WA,WA=w.alloc boxZ:=⟨_,rfl⟩;have BA:=hid (show Below w.heap.size w WA by rw [hWA];exact yO.alloc yN _);have KA:=hid (show TkB M n m w WA from ⟨by rw [hWA];exact rowZ w⟩);have HA:=hid (h.grow BA.out);have HB:=hid h.bw;have KF:=zW4 B M c n m W T S id hwf hg (by omega) WA HA.out;obtain ⟨f0,_,_⟩:=zP8 hfe;obtain ⟨i0,i1,i2⟩:=zP9 f0;have KO:=hid (fun X (hx:WI B M X c n m W T S)=>yB4 B M c n m W T S id hfe hg hp hS X hx);unfold OpnP at KO;rw [hfe,i2] at KF;have HDT:=hid (show delT W id={ tlE 0 with who:=(W.off.at id.toNat).«to»,frame:=byI bl } by unfold delT;rw [if_neg (by rw [hfe];simp),hbl]);have HDW:=hid (show delW c W id=qM c (opnW W id) (W.off.at id.toNat) by unfold delW;rw [if_neg (by rw [hfe];simp)];rfl);have HD2:=hid (HDW.out.trans (show qM c (opnW W id) (W.off.at id.toNat)=yW6 c (opnW W id) j i (heaV c j i bl) by unfold qM;rw [if_neg (by rw [hto,hn];omega),if_neg (by rw [hfr,hn];omega),hbl,zE5,hto,hfr,zK,zK]));clear HDW
 rename Hid (delW c W id=yW6 _ _ _ _ _)=>HDW
 have KB:=fun X (h0:X.cell? ⟨M.R,0,none⟩=some (.int .i64 (n:Int)))=>zB6 M n X h0;have HHE:=hid (fun M' X q k2 (hx:WI B M' X c n m (opnW W id) T (S+1)) (y:Se.By 0 X q k2 (byI bl))=>xX5 c (M'.lv c) (M'.mv c) (.slice q bl.length k2) (j:Int) (i:Int) bl (by omega) hby X hx.cf (zL7 y).1 (zL7 y).2);have HWH:=hid (fun M' X TB tf tc (hx:WI B M' X c n m (opnW W id) T (S+1)) (hTB:TB<X.heap.size) (hno:¬ own M' n m TB) (ht:ToldL X TB tf c.ls.length 0 (fun t=>(heaV c j i bl).getD t []))=>xX6 B M' c n m (opnW W id) T (S+1) i j hi hn8 (by omega) hL4 hLx Z _ hSo hUo TB tf tc X hx hTB hno ht);have HV:=hid hhl;rw [hto,hfr] at KF;rw [hto] at KO HDT;rw [hbl,xG] at KF;simp only [hbl,xG] at KO;unfold HeaN at HHE;generalize heaV c j i bl=HL at HHE HWH HDW HV;generalize heaE c j i bl=HLE at HHE;obtain ⟨xf,hxf⟩:∃ xf,xf=(j:Int):=⟨_,rfl⟩;obtain ⟨xt,hxt⟩:∃ xt,xt=(i:Int):=⟨_,rfl⟩;obtain ⟨dl,hdl⟩:∃ dl,dl=bl.length:=⟨_,rfl⟩;obtain ⟨xs,hxs⟩:∃ xs,xs=(dl:Int):=⟨_,rfl⟩;have HDL:=hid hdl;rw [<- hdl] at KF KO HHE;rw [<- hxt] at KO HDT;rw [<- hxt,<- hxf] at HHE;rw [<- hxf] at HWH;rw [<- hxt,<- hxs,<- hxf] at KF;have HXT:=hid hxt;have HXF:=hid hxf;clear h hg hp hfe f0 i0 i1 i2 hbl hto hxs hdl hby hfr hxf hxt hSo hUo hhl hLx;go_enter Tryz.func50,Tryz.ntmps50
 go_upto_region 1 with fail
 rw [<- hWA];clear hWA
 go_wp2_with fail
 refine KF.mono ?_;rintro e w1 ⟨rfl,hb⟩;have H1:=hid (HA.out.grow hb);have F1:=hid (show Fr M M n m w w1 from (Fr.of_below BA.out).trans (Fr.of_below hb));have K1:=hid (KA.out.fr HA.out (Fr.of_below hb));clear KF hb;obtain ⟨xb,hxb⟩:∃ xb,xb=w1.heap.size:=⟨_,rfl⟩;obtain ⟨W2,hW2⟩:∃ W2,W2=w1.alloc (.cells #[.int .i64 id,.int .i64 xf,.int .i64 xt,.int .i64 xs] 98):=⟨_,rfl⟩;have HXB:=hid hxb;clear hxb
 go_upto_region 2 with fail
 rw [<- hW2,<- HXB.out];have b2:Below w1.heap.size w1 W2:=by rw [hW2];exact yO.alloc yN _
 have H2:=hid (H1.out.grow b2);have F2:=hid (F1.out.trans (Fr.of_below b2));have K2:=hid (K1.out.fr H1.out (Fr.of_below b2));have X2:=hid (show W2.rowIs xb 98 4 (Se.evF ⟨id,xf,xt,xs⟩) by rw [hW2,HXB.out];exact Se.zE1 w1 ⟨id,xf,xt,xs⟩);have nx:¬ xb=w.heap.size:=by rw [HXB.out];have:=K1.out.row.lt;omega
 clear hW2 b2 H1 F1 K1 HA KA HXB;have q1:W2.cell? ⟨xb,1,none⟩=some (.int .i64 xf):=X2.out.cell (i:=1) (by decide);have q2:W2.cell? ⟨xb,2,none⟩=some (.int .i64 xt):=X2.out.cell (i:=2) (by decide);have hfd:=fun q k2 X=>zQ0 id (dl:Int) q dl k2 X;have q0:W2.cell? ⟨M.R,0,none⟩=some (.int .i64 (n:Int)):=by rw [<- hn];exact H2.out.cell (j:=0) (by omega)
 have bD:=hid (show Below W2.heap.size W2 W2.drew from yO.drew);have KO2:=KO.out _ (H2.out.grow bD.out);clear KO
 go_upto_region 4 with fail
 go_region_held3 (fun w'=>w'.cell? ⟨xb,2,none⟩=some (.int .i64 xt)) (go_keep)
  ((go_at_call 77;refine KO2.mono ?_;rintro e w3 ⟨q,k2,rfl,hby,M3,sm3,i3,f3⟩;have I3:=hid i3;have F30:=hid ((Fr.of_below bD.out).trans f3);have nx3:=H2.out.free (yQ X2.out) (by decide) (by decide) (by decide) (by decide) (by decide) (by decide) (by decide) (by decide);have X3:=hid (F30.out.u.rowIs X2.out nx3);have K3:=hid (K2.out.fr H2.out F30.out);have Y3:=hid hby;have F3:=hid (F2.out.trans F30.out);have d2:w3.cell? ⟨xb,2,none⟩=some (.int .i64 xt):=X3.out.cell (i:=2) (by decide);have SM:=hid sm3;clear i3 f3 hby nx3 sm3))
 rename_i hlast;clear hlast hfd KO2 q0 q1 q2 H2 F2 K2 X2 bD F30;have hR3:M3.R=M.R:=SM.out.1;have d1:w3.cell? ⟨xb,1,none⟩=some (.int .i64 xf):=X3.out.cell (i:=1) (by decide);have d0:w3.cell? ⟨M.R,0,none⟩=some (.int .i64 (n:Int)):=by rw [<- hR3,<- hn];exact I3.out.cell (j:=0) (by omega)
 have heq:(xt==(n:Int))=false:=by rw [HXT.out];simp;omega
 have heq2:(xf==(n:Int))=false:=by rw [HXF.out];simp;omega
 go_upto_region 7 with fail
 go_region_held3 (fun w'=>w'.cell? ⟨xb,2,none⟩=some (.int .i64 xt)) (go_keep)
  ((go_at_call 72;refine (KB w3.drew d0).mono ?_;rintro e w4' ⟨rfl,hx⟩;have hy:=hx.symm;clear hx;subst hy))
 rename_i hlast;clear hlast;have d1':w3.drew.cell? ⟨xb,1,none⟩=some (.int .i64 xf):=d1
 go_upto_region 9 with fail
 go_region_held3 (fun w'=>w'.cell? ⟨xb,1,none⟩=some (.int .i64 xf)) (go_keep)
  ((go_at_call 72;refine (KB w3.drew.drew d0).mono ?_;rintro e w4' ⟨rfl,hx⟩;have hy:=hx.symm;clear hx;subst hy))
 rename_i hlast;clear hlast KB d1' d0
 go_upto_region 5 with fail
 obtain ⟨WE,hWE⟩:∃ WE,WE=w3.drew.drew:=⟨_,rfl⟩;have bE:=hid (show Below w3.heap.size w3 WE by rw [hWE];exact (yO.drew).drew);have IE:=hid (I3.out.grow bE.out);have XE:=hid (show WE.rowIs _ _ _ _ from (Fr.of_below (M:=M3) (n:=n) (m:=m) bE.out).u.rowIs X3.out (I3.out.free (yQ X3.out) (by decide) (by decide) (by decide) (by decide) (by decide) (by decide) (by decide) (by decide)));have YE:=hid (zW7 Y3.out I3.out (Fr.of_below bE.out));have KE:=hid (K3.out.fr I3.out (Fr.of_below bE.out));have FE:=hid (F3.out.trans (Fr.of_below bE.out));rw [<- hWE];clear hWE d1 d2 I3 F3 X3 K3 Y3;have bG:=hid (show Below WE.heap.size WE WE.drew from yO.drew);have KH:=HHE.out M3 WE.drew q k2 (IE.out.grow bG.out) (zW7 YE.out IE.out (Fr.of_below bG.out));clear HHE;have HNN:=hid hn;clear hn;have g0:WE.cell? ⟨M.R,0,none⟩=some (.int .i64 c.n):=by rw [<- hR3];exact IE.out.cell (j:=0) (by omega)
 have g1:WE.cell? ⟨M.R,1,none⟩=some (M3.lv c):=by rw [<- hR3];exact IE.out.cell (j:=1) (by omega)
 have g2:WE.cell? ⟨M.R,2,none⟩=some (.int .i64 c.t):=by rw [<- hR3];exact IE.out.cell (j:=2) (by omega)
 have g3:WE.cell? ⟨M.R,3,none⟩=some (M3.mv c):=by rw [<- hR3];exact IE.out.cell (j:=3) (by omega)
 have g4:WE.cell? ⟨M.R,4,none⟩=some (.int .i64 c.cap):=by rw [<- hR3];exact IE.out.cell (j:=4) (by omega)
 have e1:WE.cell? ⟨xb,1,none⟩=some (.int .i64 xf):=XE.out.cell (i:=1) (by decide);have e2:WE.cell? ⟨xb,2,none⟩=some (.int .i64 xt):=XE.out.cell (i:=2) (by decide)
 go_region_held3 (fun w'=>w'.cell? ⟨M.R,0,none⟩=some (.int .i64 c.n)/\w'.cell? ⟨M.R,1,none⟩=some (M3.lv c)/\w'.cell? ⟨M.R,2,none⟩=some (.int .i64 c.t)/\w'.cell? ⟨M.R,3,none⟩=some (M3.mv c)/\w'.cell? ⟨M.R,4,none⟩=some (.int .i64 c.cap)/\w'.cell? ⟨xb,1,none⟩=some (.int .i64 xf)/\w'.cell? ⟨xb,2,none⟩=some (.int .i64 xt)) (go_keep)
  ((
   go_at_call 80;refine KH.mono ?_;rintro e v4 ⟨u,rfl,sl,b4,ab⟩;have bH:=hid (show Below WE.heap.size WE v4 from bG.out.trans b4);have SL:=hid sl;have AB:=hid ab;clear sl ab b4;have IV:=hid (IE.out.grow bH.out);have f40:=Fr.of_below (M:=M3) (n:=n) (m:=m) bH.out;have XV:=hid (f40.u.rowIs XE.out (IE.out.free (yQ XE.out) (by decide) (by decide) (by decide) (by decide) (by decide) (by decide) (by decide) (by decide)));have KV:=hid (KE.out.fr IE.out f40);have YV:=hid (zW7 YE.out IE.out f40);have FV:=hid (FE.out.trans f40);clear f40
   have h0:v4.cell? ⟨M.R,0,none⟩=some (.int .i64 c.n):=(by rw [<- hR3];exact IV.out.cell (j:=0) (by omega));have h1:v4.cell? ⟨M.R,1,none⟩=some (M3.lv c):=(by rw [<- hR3];exact IV.out.cell (j:=1) (by omega));have h2:v4.cell? ⟨M.R,2,none⟩=some (.int .i64 c.t):=(by rw [<- hR3];exact IV.out.cell (j:=2) (by omega));have h3:v4.cell? ⟨M.R,3,none⟩=some (M3.mv c):=(by rw [<- hR3];exact IV.out.cell (j:=3) (by omega));have h4:v4.cell? ⟨M.R,4,none⟩=some (.int .i64 c.cap):=(by rw [<- hR3];exact IV.out.cell (j:=4) (by omega));have j1:v4.cell? ⟨xb,1,none⟩=some (.int .i64 xf):=XV.out.cell (i:=1) (by decide);have j2:v4.cell? ⟨xb,2,none⟩=some (.int .i64 xt):=XV.out.cell (i:=2) (by decide)))
 rename_i hlast;clear hlast h0 h1 h2 h3 h4 j1 j2 g0 g1 g2 g3 g4 e1 e2 KH;obtain ⟨TB,tf,tc,hu,hTB,ht⟩:=SL.out.told (by rw [HV.out];exact hL0);have hno:¬ own M3 n m TB:=fun x=>by
  have a1:=IE.out.own_lt x;have a2:=AB.out _ _ _ hu (by rw [HV.out];exact hL0);have a3:=bG.out.size;dsimp only at a2;omega
 rw [HV.out] at hu ht;subst hu;have bI:=hid (show Below v4.heap.size v4 v4.drew from yO.drew);have KW:=HWH.out M3 v4.drew TB tf tc (IV.out.grow bI.out) hTB hno (ht.grow (.inl hTB) bI.out);clear SL AB HWH ht IE XE YE KE FE bG bE;have hxt2:=HXT.out;subst hxt2;have a7:v4.cell? ⟨M.R,7,none⟩=some (.slice (some ⟨M3.EB,0,none⟩) n M3.ce):=by rw [<- hR3];exact IV.out.cell (j:=7) (by omega)
 have j1:v4.cell? ⟨xb,1,none⟩=some (.int .i64 xf):=XV.out.cell (i:=1) (by decide);have j2:v4.cell? ⟨xb,2,none⟩=some (.int .i64 (i:Int)):=XV.out.cell (i:=2) (by decide);have hin:(i:Int)<(n:Int):=by omega
 have hi0:(0:Int)<=(i:Int):=by omega
 go_upto_region 6 with fail
 go_region_held3 (fun w'=>w'.cell? ⟨M.R,7,none⟩=some (.slice (some ⟨M3.EB,0,none⟩) n M3.ce)/\w'.cell? ⟨xb,1,none⟩=some (.int .i64 xf)/\w'.cell? ⟨xb,2,none⟩=some (.int .i64 (i:Int))) (go_keep)
  ((go_at_call 81;refine KW.mono ?_;rintro e w4 ⟨rfl,i4,f4⟩;have f40:=(Fr.of_below bI.out).trans f4;have I4:=hid i4;have F4:=hid (FV.out.trans f40);have X4:=hid (f40.u.rowIs XV.out (IV.out.free (yQ XV.out) (by decide) (by decide) (by decide) (by decide) (by decide) (by decide) (by decide) (by decide)));have K4:=hid (KV.out.fr IV.out f40);have Y4:=hid (zW7 YV.out IV.out f40);have b7:w4.cell? ⟨M.R,7,none⟩=some (.slice (some ⟨M3.EB,0,none⟩) n M3.ce):=(by rw [<- hR3];exact I4.out.cell (j:=7) (by omega));have l1:w4.cell? ⟨xb,1,none⟩=some (.int .i64 xf):=X4.out.cell (i:=1) (by decide);have l2:w4.cell? ⟨xb,2,none⟩=some (.int .i64 (i:Int)):=X4.out.cell (i:=2) (by decide);clear i4 f4 f40))
 rename_i hlast;clear hlast KW a7 j1 j2 b7 l1 l2 IV XV KV YV FV bI;have hR4:=hR3;obtain ⟨M4,hM4⟩:∃ M4,M4=M3:=⟨_,rfl⟩;rw [<- hM4] at I4 F4 hR4;clear hM4;have hR4':=hR4;have y0:=K4.out.row.cell (i:=0) (by decide);have z0:=K4.out.row.frozen 0;have y1:=K4.out.row.cell (i:=1) (by decide);have z1:=K4.out.row.frozen 1;have y2:=K4.out.row.cell (i:=2) (by decide);have z2:=K4.out.row.frozen 2;have y3:=K4.out.row.cell (i:=3) (by decide);have z3:=K4.out.row.frozen 3;have y4:=K4.out.row.cell (i:=4) (by decide);have z4:=K4.out.row.frozen 4;have y5:=K4.out.row.cell (i:=5) (by decide);have z5:=K4.out.row.frozen 5;have y6:=K4.out.row.cell (i:=6) (by decide);have z6:=K4.out.row.frozen 6;have y7:=K4.out.row.cell (i:=7) (by decide);have z7:=K4.out.row.frozen 7;have y8:=K4.out.row.cell (i:=8) (by decide);have z8:=K4.out.row.frozen 8;have y9:=K4.out.row.cell (i:=9) (by decide);have z9:=K4.out.row.frozen 9;have y10:=K4.out.row.cell (i:=10) (by decide);have z10:=K4.out.row.frozen 10;have e2:w4.cell? ⟨xb,2,none⟩=some (.int .i64 (i:Int)):=X4.out.cell (i:=2) (by decide);obtain ⟨W6,hW6⟩:∃ W6,W6=(((((((((((w4.setCell ⟨w.heap.size,0,none⟩ (.int .i64 0)).setCell ⟨w.heap.size,1,none⟩ (.int .i64 (i:Int))).setCell ⟨w.heap.size,2,none⟩ (.int .i64 0)).setCell ⟨w.heap.size,3,none⟩ (.int .i64 0)).setCell ⟨w.heap.size,4,none⟩ (.int .i64 0)).setCell ⟨w.heap.size,5,none⟩ (.int .i64 0)).setCell ⟨w.heap.size,6,none⟩ (.int .i64 0)).setCell ⟨w.heap.size,7,none⟩ (.int .i64 0)).setCell ⟨w.heap.size,8,none⟩ (.slice none 0 0)).setCell ⟨w.heap.size,9,none⟩ (.slice q dl k2)).setCell ⟨w.heap.size,10,none⟩ (.slice none 0 0)):=⟨_,rfl⟩;go_wp2;rw [<- hW6];have h6:W6=putL w4 w.heap.size (tlOf { tlE 0 with who:=(i:Int),frame:=byI bl } nilS (.slice q dl k2) nilS):=hW6;clear hW6 y0 z0 y1 z1 y2 z2 y3 z3 y4 z4 y5 z5 y6 z6 y7 z7 y8 z8 y9 z9 y10 z10;have F6:W6.rowIs w.heap.size 42 11 (tlOf { tlE 0 with who:=(i:Int),frame:=byI bl } nilS (.slice q dl k2) nilS):=by rw [h6];exact xL K4.out.row _
 have V6:Uw (fun b=>b=w.heap.size) w4 W6:=by rw [h6];exact xK w4 _ _
 clear h6;have nk:¬ own M4 n m w.heap.size:=I4.out.free (yQ K4.out.row) (by decide) (by decide) (by decide) (by decide) (by decide) (by decide) (by decide) (by decide);have y6:Se.By 0 W6 q k2 (byI bl):=⟨Y4.out.le,Y4.out.cm,Y4.out.nl,fun h0=>by
  obtain ⟨b,off,e,hb,ht,hc⟩:=Y4.out.cl h0;obtain ⟨cs,fr,ht⟩:=ht.resolve_left (yE _);have ne:¬ b=w.heap.size:=fun e=>by
   have t1:=qQ ht;rw [e,yQ K4.out.row] at t1;exact absurd (Option.some.inj t1) (by decide)
  exact ⟨b,off,e,zF hb V6.size,.inr ⟨cs,fr,(V6.block b hb ne).trans ht⟩,fun j hj=>(V6.cell b (off+j) hb ne).trans (hc j hj)⟩⟩
 refine yV rfl w.heap.size (tlOf { tlE 0 with who:=(i:Int),frame:=byI bl } nilS (.slice q dl k2) nilS) rfl F6 rfl ⟨q,k2,M4,by rw [HDT.out];show _=Ending.returned (aggL (tlOf _ nilS (.slice q (byI bl).length k2) nilS));rw [xG,HDL.out],hR4',by rw [HDT.out];exact y6,?_,F4.out.box yN V6⟩;rw [HDW.out];exact I4.out.box K4.out.row HB.out nk (by decide) (by decide) V6
def Plain.FrOk (c:Cf) (n m:Nat) (Z:Int) (p:Se.Plain.Po):Prop :=
 ∃ bl:List Nat,p.data=byI bl/\bl.length<=256/\(∀ x∈bl,x<256) /\
  ((p.«to»=n/\(askV c bl).length<=m) \/
   (∃ i,i<n/\p.«to»=(i:Nat)/\p.frm=n/\(askV c bl).length<=m/\∀ k,k<m->(askV c bl).getD k 0<=4611686018427387904) \/
   (∃ i j,i<n/\j<n/\i≠j/\p.«to»=(i:Nat)/\p.frm=(j:Nat)/\Sok Z (fun t=>(heaV c j i bl).getD t [])/\(heaV c j i bl).length=c.ls.length))
theorem DlP.later {B:Nat} {M:Mm} {c:Cf} {n m:Nat} {W:Wo} {T S T' S':Nat} {id:Int} {w w':World} {e:Ending} (h:DlP B M c n m W T S id w e w') (hT:T<=T') (hS:S<=S'):DlP B M c n m W T' S' id w e w':=by
 obtain ⟨p,k,M',h1,h2,h3,h4,h5⟩:=h;exact ⟨p,k,M',h1,h2,h3,h4.later hT hS,h5⟩
theorem yY8 (B:Nat) (M:Mm) (c:Cf) (n m:Nat) (W:Wo) (T S:Nat) (id:Int) (hwf:(Lit.int .i64 id).wf=true) (hg:Se.Plain.Good W.off) (hp:W.off.posted.length<=80000) (hS:S<=80000) (hn:c.n=n) (hn8:n<=8) (hm3:m<=3) (hL0:2<=n->0<c.ls.length) (hL4:c.ls.length<=4) (hLx:∀ x,x∈c.ls->0<=x/\x<256) (hT:T+m<=1000)
  (hga:∀ i k,i<n->k<m->0<=W.gain i k) (hv:∀ i k,i<n->k<m->(∃ gg,Hd.Plain.Hv (W.rk i k) gg)/\(W.rk i k).cs.length<=1000) (Z:Int) (hSo:∀ i,i<n->Sok Z (W.st i)) (hF:xN W id=0->FrOk c n m Z (W.off.at id.toNat)) (w:World) (h:WI B M w c n m W T S) :
  Calls Tryz.prog 50 #[.pointer (some ⟨M.R,0,none⟩),.int .i64 id] w (DlP B M c n m W (T+m) (S+1) id w):=by
 by_cases hfe:xN W id=0
 ·obtain ⟨bl,hbl,hb6,hby,hc⟩:=hF hfe
  rcases hc with ⟨hto,hal⟩|⟨i,hi,hto,hfr,hal,hle⟩|⟨i,j,hi,hj,hij,hto,hfr,hU,hhl⟩
  ·exact xK1 B M c n m W T S id hwf hg hp hS hn hT hfe bl hbl hb6 hby hto hal w h
  ·exact (xK2 B M c n m W T S id hwf hg hp hS hn hm3 i hi hfe bl hbl hb6 hby hto hfr hal (fun k hk=>hga i k hi hk) hle (fun k hk=>hv i k hi hk) w h).mono fun e w' p=>p.later (by omega) (by omega)
  ·exact (xK3 B M c n m W T S id hwf hg hp hS hn hn8 (hL0 (by omega)) hL4 hLx i j hi hj hfe bl hbl hb6 hby hto hfr Z (hSo i hi) hU hhl w h).mono fun e w' p=>p.later (by omega) (by omega)
 ·exact (qG8 B M c n m W T S id hwf hg hp hfe w h).mono fun e w' p=>p.later (by omega) (by omega)
theorem Plain.brW_keep (c:Cf) (W:Wo) (i:Nat) (s:Sp):(brW c W i s).bk=W.bk/\(brW c W i s).off=W.off/\(brW c W i s).lost=W.lost:=by
 unfold brW
 repeat' split
 all_goals first|exact ⟨rfl,rfl,rfl⟩|(simp only;repeat' split)<;>exact ⟨rfl,rfl,rfl⟩
def BwP (B:Nat) (M:Mm) (c:Cf) (n m:Nat) (W:Wo) (T S i:Nat) (s:Sp) (w:World) (e:Ending) (w':World):Prop :=
 e=.returned (aggL (tlOf (brT c W i s) nilS nilS nilS))/\∃ M',M'.R=M.R/\M'.EB=M.EB/\M'.ce=M.ce/\WI B M' w' c n m (brW c W i s) T S/\Fr M M' n m w w'
theorem yY9 {B:Nat} {M:Mm} {c:Cf} {n m:Nat} {W:Wo} {T S i:Nat} {s:Sp} {w w':World} {e:Ending} (h:WI B M w c n m W T S) (p:BdP M.EB M.NC M.F M.H M.D M.vo M.lp M.lc n m c W i s w e w'):BwP B M c n m W T S i s w e w':=by
 obtain ⟨h1,⟨vo',h2,h3⟩,h4⟩:=p;obtain ⟨k1,k2,k3⟩:=brW_keep c W i s;obtain ⟨wi,ua,oa⟩:=h.setBr (vo':=vo') (W':=brW c W i s) h2 k1 k2 k3 h4 h3;exact ⟨h1,{ M with vo:=vo' },rfl,rfl,rfl,wi,ua,oa⟩
theorem wbd_c (B:Nat) (M:Mm) (c:Cf) (n m:Nat) (W:Wo) (T S:Nat) (i:Nat) (s:Sp) (hi:i<n) (hn8:n<=8) (hm:c.ms.length=m) (hL4:c.ls.length<=4) (hLx:∀ x,x∈c.ls->0<=x/\x<256) (hk:1<=s.kind/\s.kind<=8) (Z:Int) (hZ:0<=Z/\Z<1000000) (hSo:Sok Z (W.st i))
  (ha:∀ k,k<m->0<=W.ask i k/\W.ask i k<=1048576) (hv:∀ k,k<m->(∃ gg,Hd.Plain.Hv (W.rk i k) gg)/\(W.rk i k).cs.length<=1000) (w:World) (h:WI B M w c n m W T S) :
  Calls Tryz.prog 53 #[.pointer (some ⟨M.EB,i*4,none⟩),aggX s] w (BwP B M c n m W T S i s w):=by
 by_cases h7:s.kind=7
 ·exact (xW5 M.EB M.NC M.F M.H M.D M.vo M.lp M.lc n m c W i s Z hi hn8 h7 hL4 hLx hZ hSo w h.br).mono fun e w' p=>yY9 h p
 by_cases h8:s.kind=8
 ·exact (xW6 M.EB M.NC M.F M.H M.D M.vo M.lp M.lc n m c W i s Z hi hn8 h8 hL4 hLx hSo w h.br).mono fun e w' p=>yY9 h p
 by_cases hit:0<=s.item/\s.item<(m:Int)
 ·by_cases h1:s.kind=1
  ·exact (qG0 M.EB M.NC M.F M.H M.D M.vo M.lp M.lc n m c W i s hi hm h1 hit (ha _ (by omega)) w h.br).mono fun e w' p=>yY9 h p
  ·obtain ⟨⟨gg,hg⟩,hcs⟩:=hv s.item.toNat (by omega)
   have ht:=h.tb s.kind.toNat (by omega) (by omega);rw [show ((s.kind.toNat:Nat):Int)=s.kind by omega] at ht;have hz:¬ isB M.H M.D M.vo n m 0:=fun x=>by
    have a:=h.lt 0 (.inr (.inr (.inl x)));have b:=h.b0;omega
   exact (qG2 M.EB M.NC M.F M.H M.D M.vo M.lp M.lc n m c W i s hi hm (by omega) hit gg hg hcs w ht hz h.br).mono fun e w' p=>yY9 h p
 ·exact (xW4 M.EB M.NC M.F M.H M.D M.vo M.lp M.lc n m c W i s hi hm h7 h8 hit w h.br).mono fun e w' p=>yY9 h p
theorem yZ0 (w:World) (E:Nat):(w.alloc (.cells #[.int .i64 (E:Int),.int .i64 0,.int .i64 0,.int .i64 0,.int .i64 0,.int .i64 0,.int .i64 0,.int .i64 0,.slice none 0 0,.slice none 0 0,.slice none 0 0] 42)).rowIs w.heap.size 42 11 (tlOf (tlE E) nilS nilS nilS):=by
 refine ⟨#[.int .i64 (E:Int),.int .i64 0,.int .i64 0,.int .i64 0,.int .i64 0,.int .i64 0,.int .i64 0,.int .i64 0,.slice none 0 0,.slice none 0 0,.slice none 0 0],by show (w.heap.push _)[w.heap.size]?=_;simp,rfl,fun i hi=>?_⟩;have:i=0\/i=1\/i=2\/i=3\/i=4\/i=5\/i=6\/i=7\/i=8\/i=9\/i=10:=by omega
 rcases this with rfl|rfl|rfl|rfl|rfl|rfl|rfl|rfl|rfl|rfl|rfl<;>rfl
theorem zF8 (B:Nat) (M:Mm) (c:Cf) (n m:Nat) (W:Wo) (T S:Nat) (s:Sp) (hk:s.kind<1\/11<s.kind) (w:World) (h:WI B M w c n m W T S) :
  Calls Tryz.prog 35 #[.pointer (some ⟨M.R,0,none⟩),aggX s] w (LsP B M c n m (stW c W s) T S (stT c W s) w):=by
 have e1:stT c W s=tlE 3:=by unfold stT;rw [if_neg (by omega),if_neg (by omega),if_neg (by omega),if_pos (by omega)]
 have e2:stW c W s=W:=by unfold stW;rw [if_neg (by omega),if_neg (by omega),if_neg (by omega),if_pos (by omega)]
 rw [e1,e2];clear e1 e2;obtain ⟨wb,hwb⟩:∃ wb,wb=w.alloc (boxX s):=⟨_,rfl⟩;have hsz:wb.heap.size=w.heap.size+1:=by rw [hwb];simp
 have b1:Below w.heap.size w wb:=by rw [hwb];exact yO.alloc yN _
 have R6:=yZ0 wb 3;rw [hsz] at R6;obtain ⟨W6,hW6⟩:∃ W6,W6=wb.alloc (.cells #[.int .i64 ((3:Nat):Int),.int .i64 0,.int .i64 0,.int .i64 0,.int .i64 0,.int .i64 0,.int .i64 0,.int .i64 0,.slice none 0 0,.slice none 0 0,.slice none 0 0] 42):=⟨_,rfl⟩;rw [<- hW6] at R6;have b2:Below w.heap.size w W6:=by rw [hW6];exact b1.alloc b1.size _
 have I6:=hid (h.grow b2);have G6:=hid (show Fr M M n m w W6 from Fr.of_below b2);have HR:=hid R6;rw [hwb] at hW6;obtain ⟨kd,who,it,cnt,life,id',la,ke⟩:=s;have HW6:=hid hW6;dsimp only at hk;have n9:(kd==9)=false:=by rw [beq_eq_false_iff_ne];omega
 have n10:(kd==10)=false:=by rw [beq_eq_false_iff_ne];omega
 have n11:(kd==11)=false:=by rw [beq_eq_false_iff_ne];omega
 clear h b1 b2 R6 hW6 hwb hsz;rcases Int.lt_or_le kd 1 with k1|k1
 ·clear hk
  go_enter Tryz.func35,Tryz.ntmps35
  go_wp2;have e:=HW6.out;subst e;exact yV rfl (w.heap.size+1) (tlOf (tlE 3) nilS nilS nilS) rfl HR.out rfl ⟨rfl,M,rfl,I6.out,G6.out⟩
 ·have k2:8<kd:=by omega
  have k3:¬ kd<1:=by omega
  clear hk;go_enter Tryz.func35,Tryz.ntmps35
  go_wp2;have e:=HW6.out;subst e;exact yV rfl (w.heap.size+1) (tlOf (tlE 3) nilS nilS nilS) rfl HR.out rfl ⟨rfl,M,rfl,I6.out,G6.out⟩
theorem qG9 (B:Nat) (M:Mm) (c:Cf) (n m:Nat) (W:Wo) (T S:Nat) (s:Sp) (hn:c.n=n) (hk:1<=s.kind/\s.kind<=8) (hw:¬ (0<=s.who/\s.who<(n:Int))) (w:World) (h:WI B M w c n m W T S) :
  Calls Tryz.prog 35 #[.pointer (some ⟨M.R,0,none⟩),aggX s] w (LsP B M c n m (stW c W s) T S (stT c W s) w):=by
 have e1:stT c W s=tlE 2:=by unfold stT;rw [if_neg (by omega),if_neg (by omega),if_neg (by omega),if_neg (by omega),if_pos (by rw [hn];omega)]
 have e2:stW c W s=W:=by unfold stW;rw [if_neg (by omega),if_neg (by omega),if_neg (by omega),if_neg (by omega),if_pos (by rw [hn];omega)]
 rw [e1,e2];clear e1 e2;have K:=fun X=>yG3 hw X;obtain ⟨WA,hWA⟩:∃ WA,WA=(w.alloc (boxX s)).alloc boxZ:=⟨_,rfl⟩;have BA:=hid (show Below w.heap.size w WA by rw [hWA];exact (yO.alloc yN _).alloc (by simp) _);have RA:=hid (show WA.rowIs (w.heap.size+1) 42 11 qH by
  have:=rowZ (w.alloc (boxX s));rw [show (w.alloc (boxX s)).heap.size=w.heap.size+1 by simp] at this;rw [hWA];exact this)
 have x3:WA.cell? ⟨M.R,0,none⟩=some (.int .i64 (n:Int)):=by rw [<- hn];exact (h.grow BA.out).cell (j:=0) (by omega)
 rw [hWA] at x3;have HI:=hid h;clear h hw hn;obtain ⟨kd,who,it,cnt,life,id',la,ke⟩:=s;dsimp only at hk K;have n9:(kd==9)=false:=by rw [beq_eq_false_iff_ne];omega
 have n10:(kd==10)=false:=by rw [beq_eq_false_iff_ne];omega
 have n11:(kd==11)=false:=by rw [beq_eq_false_iff_ne];omega
 have k3:¬ kd<1:=by omega
 have k8:¬ 8<kd:=by omega
 clear hk;go_enter Tryz.func35,Tryz.ntmps35
 go_wp2
 go_quiet ((go_at_call 52;exact Calls.quiet_of_same (K _)))
 go_wp2;rw [<- hWA];clear hWA x3;obtain ⟨WQ,hWQ⟩:∃ WQ,WQ=WA.drewN nq:=⟨_,rfl⟩;rw [<- hWQ];have BQ:Below w.heap.size w WQ:=by rw [hWQ];exact below_drewN BA.out nq
 have RQ:WQ.rowIs (w.heap.size+1) 42 11 qH:=by rw [hWQ];exact RA.out.of_block rfl
 clear hWQ BA RA;obtain ⟨W6,hW6⟩:∃ W6,W6=(((((((((((WQ.setCell ⟨w.heap.size+1,0,none⟩ (.int .i64 2)).setCell ⟨w.heap.size+1,1,none⟩ (.int .i64 0)).setCell ⟨w.heap.size+1,2,none⟩ (.int .i64 0)).setCell ⟨w.heap.size+1,3,none⟩ (.int .i64 0)).setCell ⟨w.heap.size+1,4,none⟩ (.int .i64 0)).setCell ⟨w.heap.size+1,5,none⟩ (.int .i64 0)).setCell ⟨w.heap.size+1,6,none⟩ (.int .i64 0)).setCell ⟨w.heap.size+1,7,none⟩ (.int .i64 0)).setCell ⟨w.heap.size+1,8,none⟩ (.slice none 0 0)).setCell ⟨w.heap.size+1,9,none⟩ (.slice none 0 0)).setCell ⟨w.heap.size+1,10,none⟩ (.slice none 0 0)):=⟨_,rfl⟩;rw [<- hW6];have h6:W6=putL WQ (w.heap.size+1) (tlOf (tlE 2) nilS nilS nilS):=hW6;clear hW6;have F6:W6.rowIs (w.heap.size+1) 42 11 (tlOf (tlE 2) nilS nilS nilS):=by rw [h6];exact xL RQ _
 have U6:∀ P,Uw P w W6:=fun P=>by rw [h6];exact zC6 (Uw.of_below BQ) (by omega) _
 clear h6 RQ BQ;have b6:Below w.heap.size w W6:=(U6 fun _=>False).below yN (fun _ _ x=>x);exact yV rfl (w.heap.size+1) (tlOf (tlE 2) nilS nilS nilS) rfl F6 rfl ⟨rfl,M,rfl,HI.out.grow b6,Fr.of_below b6⟩
theorem xX7 (B:Nat) (M:Mm) (c:Cf) (n m:Nat) (W:Wo) (T S:Nat) (s:Sp) (hwf:(Lit.int .i64 s.id).wf=true) (hg:Se.Plain.Good W.off) (hp:W.off.posted.length<=90000) (hS:S<=90000) (hk:s.kind=11) (w:World) (h:WI B M w c n m W T S) :
  Calls Tryz.prog 35 #[.pointer (some ⟨M.R,0,none⟩),aggX s] w (LsP B M c n m (stW c W s) T (S+1) (stT c W s) w):=by
 have e1:stT c W s=tlE (xN W s.id):=by unfold stT;rw [if_neg (by omega),if_neg (by omega),if_pos hk]
 have e2:stW c W s=losW W s.id:=by unfold stW;rw [if_neg (by omega),if_neg (by omega),if_pos hk]
 rw [e1,e2];clear e1 e2;obtain ⟨WA,hWA⟩:∃ WA,WA=(w.alloc (boxX s)).alloc boxZ:=⟨_,rfl⟩;have BA:=hid (show Below w.heap.size w WA by rw [hWA];exact (yO.alloc yN _).alloc (by simp) _);have RA:=hid (show WA.rowIs (w.heap.size+1) 42 11 qH by
  have:=rowZ (w.alloc (boxX s));rw [show (w.alloc (boxX s)).heap.size=w.heap.size+1 by simp] at this;rw [hWA];exact this)
 have HA:=hid (h.grow BA.out);have HB:=hid h.bw;have K:=qG5 B M c n m W T S s.id hwf hg hp hS WA HA.out;unfold LsP at K;generalize losW W s.id=WL at K ⊢;generalize xN W s.id=E at K ⊢;have ha:aggL (tlOf (tlE E) nilS nilS nilS)=.agg #[.int .i64 (E:Nat),.int .i64 0,.int .i64 0,.int .i64 0,.int .i64 0,.int .i64 0,.int .i64 0,.int .i64 0,.slice none 0 0,.slice none 0 0,.slice none 0 0]:=rfl;rw [hWA,ha] at K;clear h hg hp hwf ha;obtain ⟨kd,who,it,cnt,life,id',la,ke⟩:=s;dsimp only at hk K;subst hk;go_enter Tryz.func35,Tryz.ntmps35
 go_wp2_with fail
 refine K.mono ?_;rintro e w3 ⟨rfl,M3,hR3,i3,f3⟩;rw [<- hWA] at f3;have I3:=hid i3;have F3:=hid ((Fr.of_below BA.out).trans f3);have R3:=hid (f3.u.rowIs RA.out (HA.out.free (yQ RA.out) (by decide) (by decide) (by decide) (by decide) (by decide) (by decide) (by decide) (by decide)));clear K hWA i3 f3 HA RA;have y0:=R3.out.cell (i:=0) (by decide);have z0:=R3.out.frozen 0;have y1:=R3.out.cell (i:=1) (by decide);have z1:=R3.out.frozen 1;have y2:=R3.out.cell (i:=2) (by decide);have z2:=R3.out.frozen 2;have y3:=R3.out.cell (i:=3) (by decide);have z3:=R3.out.frozen 3;have y4:=R3.out.cell (i:=4) (by decide);have z4:=R3.out.frozen 4;have y5:=R3.out.cell (i:=5) (by decide);have z5:=R3.out.frozen 5;have y6:=R3.out.cell (i:=6) (by decide);have z6:=R3.out.frozen 6;have y7:=R3.out.cell (i:=7) (by decide);have z7:=R3.out.frozen 7;have y8:=R3.out.cell (i:=8) (by decide);have z8:=R3.out.frozen 8;have y9:=R3.out.cell (i:=9) (by decide);have z9:=R3.out.frozen 9;have y10:=R3.out.cell (i:=10) (by decide);have z10:=R3.out.frozen 10;obtain ⟨W6,hW6⟩:∃ W6,W6=(((((((((((w3.setCell ⟨w.heap.size+1,0,none⟩ (.int .i64 (E:Nat))).setCell ⟨w.heap.size+1,1,none⟩ (.int .i64 0)).setCell ⟨w.heap.size+1,2,none⟩ (.int .i64 0)).setCell ⟨w.heap.size+1,3,none⟩ (.int .i64 0)).setCell ⟨w.heap.size+1,4,none⟩ (.int .i64 0)).setCell ⟨w.heap.size+1,5,none⟩ (.int .i64 0)).setCell ⟨w.heap.size+1,6,none⟩ (.int .i64 0)).setCell ⟨w.heap.size+1,7,none⟩ (.int .i64 0)).setCell ⟨w.heap.size+1,8,none⟩ (.slice none 0 0)).setCell ⟨w.heap.size+1,9,none⟩ (.slice none 0 0)).setCell ⟨w.heap.size+1,10,none⟩ (.slice none 0 0)):=⟨_,rfl⟩;go_wp2;rw [<- hW6];have h6:W6=putL w3 (w.heap.size+1) (tlOf (tlE E) nilS nilS nilS):=hW6;clear hW6 y0 z0 y1 z1 y2 z2 y3 z3 y4 z4 y5 z5 y6 z6 y7 z7 y8 z8 y9 z9 y10 z10;have F6:W6.rowIs (w.heap.size+1) 42 11 (tlOf (tlE E) nilS nilS nilS):=by rw [h6];exact xL R3.out _
 have V6:Uw (fun b=>b=w.heap.size+1) w3 W6:=by rw [h6];exact xK w3 _ _
 clear h6;have nk:¬ own M3 n m (w.heap.size+1):=I3.out.free (yQ R3.out) (by decide) (by decide) (by decide) (by decide) (by decide) (by decide) (by decide) (by decide);exact yV rfl (w.heap.size+1) (tlOf (tlE E) nilS nilS nilS) rfl F6 rfl ⟨rfl,M3,hR3,I3.out.box R3.out (by have:=HB.out;omega) nk (by decide) (by decide) V6,F3.out.box (by omega) V6⟩
end Go.Proofs.YtleaknfjbbccgaaGreatDoor
