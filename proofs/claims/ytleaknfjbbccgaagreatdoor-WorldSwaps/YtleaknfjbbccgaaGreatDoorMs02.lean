/- Laid together. -/
import Derived.Deep.RegionWith
import Derived.Deep.RegionHeld3
import Derived.Deep.DeepCutAuto
import Derived.Deep.CutBlock
import Derived.Test.YtleaknfjbbccgaaGreatDoorMs01
namespace Go.Proofs.YtleaknfjbbccgaaGreatDoor.Hd
set_option maxHeartbeats 16000000
set_option maxRecDepth 100000
open Go.RowKit Go.Shelf Go.Sort
namespace Plain
def qS (l:List Pt) (k:Nat):List Pt:=(l.take k).map decP++l.drop k
theorem xZ0 (l:List Pt):qS l 0=l:=by simp [qS]
theorem zF7 (l:List Pt) (k:Nat) (hk:k<=l.length):(qS l k).length=l.length:=by simp [qS];omega
theorem qA5 (l:List Pt) (k:Nat) (hk:l.length<=k):qS l k=l.map decP:=by simp [qS,List.take_of_length_le hk,List.drop_of_length_le hk]
theorem xB9 (l:List Pt) (k:Nat) (hk:k<l.length):(qS l k).getD k default=l.getD k default:=by
 have h1:((l.take k).map decP).length=k:=by simp;omega
 unfold qS;rw [zA,zR (by omega),h1,Nat.sub_self,List.getElem?_drop,Nat.add_zero,<- zA]
theorem xZ1 (l:List Pt) (k:Nat) (hk:k<l.length):(qS l k).set k { (qS l k).getD k default with ticks:=(l.getD k default).ticks-1 }=qS l (k+1):=by
 rw [xB9 l k hk];have e1:l.drop k=l[k] :: l.drop (k+1):=by rw [List.drop_eq_getElem_cons hk]
 have h1:((l.take k).map decP).length=k:=by simp;omega
 unfold qS;rw [List.set_append_right _ _ (by omega),h1,Nat.sub_self,e1,List.set_cons_zero,zO hk,List.map_append,yG,zF6 l k hk];rfl
theorem xZ2 {l:List Pt} (h:∀ p,p∈l->0<=p.count):∀ p,p∈l.map decP->0<=p.count:=fun p hp=>by
 obtain ⟨q,hq,rfl⟩:=zZ.1 hp;exact h q hq
theorem sumP_dec (l:List Pt):sumP (l.map decP)=sumP l:=by
 induction l with
 | nil=>rfl
 | cons p l ih=>simp only [List.map_cons,sumP,ih];rfl
theorem xP7 {l:List Pt} (h:∀ p,p∈l->0<=p.count) (q:Pt->Bool):sumP (l.filter q)<=sumP l:=by
 induction l with
 | nil=>exact Int.le_refl _
 | cons p l ih =>
  have h1:=h p (yD ..);have h2:=ih fun x hx=>h x (yC _ hx);rw [List.filter_cons];split
  ·simp only [sumP];omega
  ·simp only [sumP];omega
end Plain
theorem xP8 (ZZ:Nat->Prop) (R oo:Nat) (XX:Win) (vo:Value) (f u m:Int) (l:List Plain.Pt) (hf:0<=f/\f<=1048576) (hc:∀ p,p∈l->0<=p.count) (ht:∀ p,p∈l->1<=p.ticks/\p.ticks<=20) (hs:Plain.sumP l<=1048576) (hb:l.length<=1000) (w:World) (h:BrI ZZ R oo XX w vo f u m l) :
  Calls Tryz.prog 120 #[.pointer (some ⟨R,oo,none⟩)] w fun e w'=>e=.returned (.tuple #[])/\(∃ vo',BrI ZZ R oo XX w' vo' (f+(Plain.sumP (l.map Plain.decP)-Plain.sumP ((l.map Plain.decP).filter Plain.live))) u m ((l.map Plain.decP).filter Plain.live))/\Kp ZZ R w w':=by
 obtain ⟨L,hL⟩:∃ L,L=l.map Plain.decP:=⟨_,rfl⟩;obtain ⟨M,hM⟩:∃ M,M=L.filter Plain.live:=⟨_,rfl⟩;have hcL:∀ p,p∈L->0<=p.count:=by rw [hL];exact Plain.xZ2 hc
 have hcM:∀ p,p∈M->0<=p.count:=fun p hp=>hcL p (by rw [hM] at hp;exact (List.mem_filter.1 hp).1);have hsL:Plain.sumP L<=1048576:=by rw [hL,Plain.sumP_dec];exact hs
 have hsM:Plain.sumP M<=Plain.sumP L:=by rw [hM];exact Plain.xP7 hcL _
 have hlL:L.length<=1000:=by rw [hL,zL];exact hb
 have hlM:M.length<=1000:=by have:=List.length_filter_le Plain.live L;rw [<- hM] at this;omega
 have h0M:=Plain.zF2 hcM;have KH1:=fun v fx W (hx:BrI ZZ R oo XX W v fx u m L)=>zM2 ZZ R oo XX v fx u m L hcL hsL hlL W hx;have KH2:=fun v fx W (hx:BrI ZZ R oo XX W v fx u m M)=>zM2 ZZ R oo XX v fx u m M hcM (by omega) hlM W hx;have KD:=fun v W (hx:OwnP W 0 v L)=>xB8 v 0 L hlL W hx;rw [<- hM] at KD;rw [<- hL,<- hM];obtain ⟨S1,hS1⟩:∃ S,S=Plain.sumP L:=⟨_,rfl⟩;obtain ⟨S2,hS2⟩:∃ S,S=Plain.sumP M:=⟨_,rfl⟩;rw [<- hS1] at KH1 hsL hsM ⊢;rw [<- hS2] at KH2 hsM h0M ⊢;clear hS1 hS2 hM hcL hcM hs hc;obtain ⟨f1,f2⟩:=hf;obtain ⟨p0,cp,evo,_,_,hfm⟩:=xS h.ow;have r2:=h.c2;rw [evo] at r2;have HB:=hid h;have HT:=hid ht;have HEV:=hid evo;clear h ht hfm evo;obtain ⟨n,hn⟩:∃ n,n=l.length:=⟨_,rfl⟩;rw [<- hn] at r2 HEV hb;have HN:=hid hn;have HL:=hid hL;have HKH1:=hid KH1;have HKH2:=hid KH2;have HKD:=hid KD;clear hn hL KH1 KH2 KD;go_enter Tryz.func120,Tryz.ntmps120
 go_wp2;clear r2
 go_loopg [2,9] n (fun gg _ s9 wx=>∃ k:Nat,k<=n/\n-k<=gg/\s9=.int .i64 k/\Aside (BrI ZZ R oo XX wx vo f u m (Plain.qS l k))/\Aside (Kp ZZ R w wx))
 case atStart=>exact ⟨0,zG _,by omega,rfl,(show Aside _ by rw [Plain.xZ0];exact HB.out),(show Aside _ from Kp.refl _ _ _)⟩
 case round =>
  obtain ⟨k,hkk,hg,rfl,A,K⟩:=hrel;by_cases hlt:k<n
  ·have hltz:(k:Int)<(n:Int):=by omega
   have hkl:k<l.length:=by rw [<- HN.out];exact hlt
   have hlen:=Plain.zF7 l k (by omega);obtain ⟨p',c',e',_,_,hf'⟩:=xS A.out.ow;obtain ⟨g,e'',_,_,hcc,hff⟩:=hf' (by omega);rw [e'',hlen,<- HN.out] at e';obtain ⟨_,_,x2⟩:=hcc k (by omega);have z2:=hff (k*3+2);rw [Plain.xB9 l k hkl] at x2;have r2:=A.out.c2;rw [e'] at r2;have hty:=HT.out (l.getD k default) (by rw [Plain.zF6 l k hkl];exact zH _);have AL:Hid (BrI ZZ R oo XX wr (.slice (some ⟨g,0,none⟩) (Plain.qS l k).length c') f u m (Plain.qS l k)):=hid (by rw [hlen,<- HN.out,<- e'];exact A.out);have A2:=hid (AL.out.ticks k (by omega) ((l.getD k default).ticks-1));rw [Plain.xZ1 l k hkl,hlen,<- HN.out,<- e'] at A2;have KK:=hid (K.out.trans (Kp.setP (R:=R) (AL.out.own g rfl) (k*3+2) (.int .i64 ((l.getD k default).ticks-1))));clear hf' hcc hff e'' e' AL hlen;obtain ⟨y,hy⟩:∃ y,y=(l.getD k default).ticks:=⟨_,rfl⟩;rw [<- hy] at x2 hty A2 KK;clear hy;obtain ⟨y1,y2⟩:=hty;go_wp2
   go_roundg (n-(k+1))
   case measure=>omega
   case rel=>exact ⟨k+1,by omega,by omega,by go_num,A2.out,KK.out⟩
  ·have hltz:¬ (k:Int)<(n:Int):=by omega
   have H1:Hid (BrI ZZ R oo XX wr vo f u m L):=hid (by rw [HL.out,<- Plain.qA5 l k (by rw [<- HN.out];omega)];exact A.out);have K1:=HKH1.out vo f wr H1.out;clear A
   go_wp2_with fail
   refine K1.mono ?_;rintro e W2 ⟨rfl,q,os',hw2⟩;have b2:Below wr.heap.size wr W2:=by rw [hw2];exact xP yO yN _ _
   have H2:=hid (H1.out.grow b2);have K2:=hid (K.out.trans (Kp.of_below b2));clear b2 hw2 K1 H1 K;have r2:=H2.out.c2;obtain ⟨p',c',e',_,_,_⟩:=xS H2.out.ow;rw [e'] at r2;have KD:=HKD.out vo W2 H2.out.ow;rw [e'] at KD;have HE:=hid e';clear e'
   go_wp2_with fail
   refine KD.mono ?_;rintro e W3 ⟨v3,rfl,o3,g3,q3⟩;rw [<- HE.out] at g3 q3;have rowU:W3.rowIs R XX.t XX.n (XX.f oo 4 (brF f u vo m)):=H2.out.row.of_block (g3.block _ H2.out.row.lt (fun e=>H2.out.nown e.symm));have u2:=Win.cell rowU H2.out.le (i:=2) (by omega);have uf:=rowU.frozen (oo+2);rw [show brF f u vo m 2=vo from rfl,HE.out] at u2;have Q3:=hid (H2.out.put rowU o3 (fun x hx=>H2.out.own x (q3 ▸ hx)) g3.size);have QK:=hid (K2.out.trans ((Kp.grown H2.out.own g3).trans (Kp.setR (ZZ:=ZZ) (R:=R) (oo+2) v3)));obtain ⟨p3,c3,e3,_,_,_⟩:=xS o3;clear KD rowU o3 g3 q3 H2 K2 r2 HE;rw [e3] at Q3 QK;rw [e3];clear e3;obtain ⟨W4,hW4⟩:∃ W4,W4=W3.setCell ⟨R,oo+2,none⟩ (.slice p3 M.length c3):=⟨_,rfl⟩;rw [<- hW4] at Q3 QK;go_wp2;rw [<- hW4];clear hW4 u2 uf;have r0:W4.drew.cell? ⟨R,oo,none⟩=some (.int .i64 f):=Q3.out.c0;have r0':=Q3.out.c0;have z0:W4.drew.frozen? ⟨R,oo,none⟩=false:=Q3.out.row.frozen oo;obtain ⟨d,hd⟩:∃ d,d=S1-S2:=⟨_,rfl⟩;obtain ⟨f',hf'⟩:∃ f',f'=f+d:=⟨_,rfl⟩;have hw1:IntKind.i64.wrap (S1-S2)=d:=by rw [hd,IntKind.wrap_i64];omega
   have hw2:IntKind.i64.wrap (f+d)=f':=by rw [hf',IntKind.wrap_i64];omega
   have HF:=hid (show f'=f+(S1-S2) by rw [hf',hd]);clear hd hf';have Q4:Hid (BrI ZZ R oo XX W4.drew (.slice p3 M.length c3) f u m M):=hid (Q3.out.drewN 1);have K4:=HKH2.out _ f W4.drew Q4.out
   go_region_with (go_at_call 61;refine K4.mono ?_;rintro e W5 ⟨rfl,q5,os5,hw5⟩;have b5:Hid (Below W4.drew.heap.size W4.drew W5):=hid (by rw [hw5];exact xP yO yN _ _);clear hw5;have r05:=(Q4.out.grow b5.out).c0;have z05:=(Q4.out.grow b5.out).row.frozen oo)
   all_goals
    have F5:=hid ((Q4.out.grow b5.out).free f');have F6:=hid (QK.out.trans (((Kp.of_below (below_drewN yO 1)).trans (Kp.of_below b5.out)).trans (Kp.setR (ZZ:=ZZ) (R:=R) oo (.int .i64 f'))));go_end0
    exact ⟨rfl,⟨_,by rw [<- HF.out];exact F5.out⟩,F6.out⟩
abbrev BrR (ZZ:Nat->Prop) (R oo:Nat) (XX:Win) (w:World) (vo:Value) (r:Plain.Rk):Prop:=BrI ZZ R oo XX w vo r.free r.used (r.cs.length:Int) (Plain.xQ 0 r.cs r.ls)
abbrev boxQ (o:Plain.Or):Obj:=.cells #[.int .i64 o.kind,.int .i64 o.count,.int .i64 o.life,.int .i64 o.id] 143
def kJ (ZZ:Nat->Prop) (R oo:Nat) (XX:Win) (r:Plain.Rk) (o:Plain.Or) (w:World) (e:Ending) (w':World):Prop :=
 e=.returned (.tuple #[.int .i64 (Plain.ordI r o),.int .i64 (Plain.ordE r o:Nat)])/\(∃ vo',BrR ZZ R oo XX w' vo' (Plain.yH6 r o))/\Kp ZZ R w w'
theorem qC {ZZ:Nat->Prop} {R oo:Nat} {XX:Win} {vo:Value} {r:Plain.Rk} {o:Plain.Or} {w w':World} {E:Nat} (hE:Plain.ordE r o=E) (h0:E≠0) (h:BrR ZZ R oo XX w' vo r) (g:Kp ZZ R w w') :
  kJ ZZ R oo XX r o w (.returned (.tuple #[.int .i64 0,.int .i64 (E:Nat)])) w':=by
 have e1:Plain.ordI r o=0:=by unfold Plain.ordI;rw [if_neg (fun x=>h0 (hE ▸ x.1))]
 refine ⟨by rw [e1,hE],⟨vo,?_⟩,g⟩;rw [Plain.stepR_no (by rw [hE];exact h0)];exact h
theorem qV {ZZ:Nat->Prop} {R oo:Nat} {XX:Win} {vo:Value} {r r':Plain.Rk} {o:Plain.Or} {w w':World} {I:Int} (hE:Plain.ordE r o=0) (hI:Plain.ordI r o=I) (hr:Plain.ordR r o=r') (h:BrR ZZ R oo XX w' vo r') (g:Kp ZZ R w w') :
  kJ ZZ R oo XX r o w (.returned (.tuple #[.int .i64 I,.int .i64 0])) w':=by
 refine ⟨by rw [hE,hI];rfl,⟨vo,?_⟩,g⟩;unfold Plain.yH6;rw [if_pos hE,hr];exact h
namespace Plain
theorem Hv.bdsL {r:Rk} {g:Int} (h:Hv r g):(0<=r.free/\r.free<=1048576)/\(0<=r.used/\r.used<=1048576)/\(0<=qG r.cs r.ls/\qG r.cs r.ls<=1048576):=by
 have:=h.held;have:=h.sm;have:=h.fr;have:=h.us;have:=h.gb;unfold Rk.held at *;omega
theorem Hv.ptsL {r:Rk} {g:Int} (h:Hv r g):(∀ p,p∈xQ 0 r.cs r.ls->0<=p.count)/\(∀ p,p∈xQ 0 r.cs r.ls->1<=p.ticks/\p.ticks<=20)/\(xQ 0 r.cs r.ls).length<=4:=by
 have h1:=zX5 0 r.cs r.ls h.ct h.lf;have h2:=xB3 0 r.cs r.ls h.ln;have h3:=h.op;exact ⟨fun p hp=>by have:=h1 p hp;omega,fun p hp=>(h1 p hp).2,by omega⟩
end Plain
theorem zF8 (ZZ:Nat->Prop) (R oo:Nat) (XX:Win) (vo:Value) (r:Plain.Rk) (k c l i:Int) (hk:k<1\/7<k) (w:World) (h:BrR ZZ R oo XX w vo r) :
  Calls Tryz.prog 88 #[.pointer (some ⟨R,oo,none⟩),aggO ⟨k,c,l,i⟩] w fun e w'=>kJ ZZ R oo XX r ⟨k,c,l,i⟩ w e w':=by
 have hE:Plain.ordE r ⟨k,c,l,i⟩=3:=by unfold Plain.ordE;rw [if_pos hk]
 obtain ⟨W,hW⟩:∃ W,W=w.alloc (boxQ ⟨k,c,l,i⟩):=⟨_,rfl⟩;have bel:Below w.heap.size w W:=by rw [hW];exact yO.alloc yN _
 have HB:=hid (BrI.grow h bel);have HK:=hid (Kp.of_below (ZZ:=ZZ) (R:=R) bel);have KN:=fun W=>kE k W;rw [show Plain.counted k=false by unfold Plain.counted;rw [decide_eq_false_iff_not];omega] at KN;have P:=hid (qC (w:=w) hE (by decide) HB.out HK.out);have b1:(k==1)=false:=by rw [beq_eq_false_iff_ne];omega
 have b2:(k==2)=false:=by rw [beq_eq_false_iff_ne];omega
 have b3:(k==3)=false:=by rw [beq_eq_false_iff_ne];omega
 have b4:(k==4)=false:=by rw [beq_eq_false_iff_ne];omega
 have b5:(k==5)=false:=by rw [beq_eq_false_iff_ne];omega
 have b6:(k==6)=false:=by rw [beq_eq_false_iff_ne];omega
 have b7:(k==7)=false:=by rw [beq_eq_false_iff_ne];omega
 clear h hE hk bel;go_enter Tryz.func88,Tryz.ntmps88
 go_wp2_with (first|(go_at_call 113;refine (KN _).mono ?_;rintro e w' ⟨rfl,rfl⟩)|fail)
 go_wp2;rw [<- hW];go_ret2
 exact P.out
theorem xC0 (ZZ:Nat->Prop) (R oo:Nat) (XX:Win) (vo:Value) (r:Plain.Rk) (k c l i:Int) (hk:k=1\/k=2\/k=3\/k=6) (hc:c<1\/1048576<c) (w:World) (h:BrR ZZ R oo XX w vo r) :
  Calls Tryz.prog 88 #[.pointer (some ⟨R,oo,none⟩),aggO ⟨k,c,l,i⟩] w fun e w'=>kJ ZZ R oo XX r ⟨k,c,l,i⟩ w e w':=by
 have hE:Plain.ordE r ⟨k,c,l,i⟩=2:=by
  unfold Plain.ordE;dsimp only;rw [if_neg (by omega),if_pos ⟨by unfold Plain.counted;rw [decide_eq_true_iff];exact hk,hc⟩]
 obtain ⟨W,hW⟩:∃ W,W=w.alloc (boxQ ⟨k,c,l,i⟩):=⟨_,rfl⟩;have bel:Below w.heap.size w W:=by rw [hW];exact yO.alloc yN _
 have HB:=hid (BrI.grow h bel);have HK:=hid (Kp.of_below (ZZ:=ZZ) (R:=R) bel);have KN:=fun W=>kE k W;rw [show Plain.counted k=true by unfold Plain.counted;rw [decide_eq_true_iff];exact hk] at KN;have KF:=fun W=>qO c 1048576 W;rw [zJ1 hc] at KF;have P:=hid (qC (w:=w) hE (by decide) HB.out HK.out);clear h hE hk hc bel;go_enter Tryz.func88,Tryz.ntmps88
 go_wp2_with (first|(go_at_call 113;refine (KN _).mono ?_;rintro e w' ⟨rfl,rfl⟩)|(go_at_call 114;refine (KF _).mono ?_;rintro e w' ⟨rfl,rfl⟩)|fail)
 rw [<- hW];go_ret2
 exact P.out
theorem xP9 (ZZ:Nat->Prop) (R oo:Nat) (XX:Win) (vo:Value) (r:Plain.Rk) (g:Int) (hv:Plain.Hv r g) (c l i:Int) (c1:1<=c) (c2:c<=1048576) (w:World) (h:BrR ZZ R oo XX w vo r) :
  Calls Tryz.prog 88 #[.pointer (some ⟨R,oo,none⟩),aggO ⟨1,c,l,i⟩] w fun e w'=>kJ ZZ R oo XX r ⟨1,c,l,i⟩ w e w':=by
 have hE:Plain.ordE r ⟨1,c,l,i⟩=if 1048576<r.free+r.held+r.used+c then 12 else 0:=by
  unfold Plain.ordE;dsimp only;rw [if_neg (by omega),if_neg (fun x=>by have:=x.2;omega),if_pos rfl]
 have hI:Plain.ordI r ⟨1,c,l,i⟩=0:=by unfold Plain.ordI;rw [if_neg (fun x=>by have:=x.2;dsimp only at this;omega)]
 have hR:Plain.ordR r ⟨1,c,l,i⟩={ r with free:=r.free+c }:=by
  unfold Plain.ordR;dsimp only;rw [if_pos rfl]
 obtain ⟨hf,hu,hs⟩:=hv.bdsL;obtain ⟨hp1,hp2,hp3⟩:=hv.ptsL;obtain ⟨W,hW⟩:∃ W,W=w.alloc (boxQ ⟨1,c,l,i⟩):=⟨_,rfl⟩;have bel:Below w.heap.size w W:=by rw [hW];exact yO.alloc yN _
 have HB:=hid (BrI.grow h bel);have HK:=hid (Kp.of_below (ZZ:=ZZ) (R:=R) bel);have KN:=fun W=>kE 1 W;rw [show Plain.counted 1=true from rfl] at KN;have KF:=fun W=>qO c 1048576 W;rw [qU (by omega)] at KF;have KM:=xP4 ZZ R oo XX vo r.free r.used _ c _ hf hu ⟨c1,c2⟩ hp1 (by rw [Plain.zS4];exact hs) (by omega) W HB.out;rw [Plain.zS4] at KM;obtain ⟨E,hE2⟩:∃ E,E=(if 1048576<r.free+Plain.qG r.cs r.ls+r.used+c then 12 else 0:Nat):=⟨_,rfl⟩;rw [<- hE2] at KM;have HE:=hid (hE.trans hE2.symm);have HE2:=hid hE2;have HIR:=hid (And.intro hI hR);clear h hE hI hR bel hp1 hp2 hp3 hE2 hv HB hf hu hs;go_enter Tryz.func88,Tryz.ntmps88
 go_wp2_with (first|(go_at_call 113;refine (KN _).mono ?_;rintro e w' ⟨rfl,rfl⟩)|(go_at_call 114;refine (KF _).mono ?_;rintro e w' ⟨rfl,rfl⟩)|fail)
 rw [<- hW];clear hW;refine KM.mono ?_;rintro e w' ⟨rfl,hb,hk⟩;have HB2:=hid hb;have HK2:=hid (HK.out.trans hk);clear KM hb hk HK KN KF;go_wp2;go_ret2
 by_cases hx:1048576<r.free+Plain.qG r.cs r.ls+r.used+c
 ·simp only [if_pos hx] at HB2 HE2
  rw [HE2.out] at HE ⊢;exact qC HE.out (by decide) HB2.out HK2.out
 ·simp only [if_neg hx] at HB2 HE2
  rw [HE2.out] at HE ⊢;exact qV HE.out HIR.out.1 HIR.out.2 HB2.out HK2.out
theorem xQ0 (ZZ:Nat->Prop) (R oo:Nat) (XX:Win) (vo:Value) (r:Plain.Rk) (g:Int) (hv:Plain.Hv r g) (c l i:Int) (c1:1<=c) (c2:c<=1048576) (w:World) (h:BrR ZZ R oo XX w vo r) :
  Calls Tryz.prog 88 #[.pointer (some ⟨R,oo,none⟩),aggO ⟨2,c,l,i⟩] w fun e w'=>kJ ZZ R oo XX r ⟨2,c,l,i⟩ w e w':=by
 have hE:Plain.ordE r ⟨2,c,l,i⟩=if r.free<c then 9 else 0:=by
  unfold Plain.ordE;dsimp only;rw [if_neg (by omega),if_neg (fun x=>by have:=x.2;omega),if_neg (by omega),if_pos rfl]
 have hI:Plain.ordI r ⟨2,c,l,i⟩=0:=by unfold Plain.ordI;rw [if_neg (fun x=>by have:=x.2;dsimp only at this;omega)]
 have hR:Plain.ordR r ⟨2,c,l,i⟩={ r with free:=r.free-c,used:=r.used+c }:=by
  unfold Plain.ordR;dsimp only;rw [if_neg (by omega),if_pos rfl]
 obtain ⟨hf,hu,hs⟩:=hv.bdsL;obtain ⟨hp1,hp2,hp3⟩:=hv.ptsL;obtain ⟨W,hW⟩:∃ W,W=w.alloc (boxQ ⟨2,c,l,i⟩):=⟨_,rfl⟩;have bel:Below w.heap.size w W:=by rw [hW];exact yO.alloc yN _
 have HB:=hid (BrI.grow h bel);have HK:=hid (Kp.of_below (ZZ:=ZZ) (R:=R) bel);have KN:=fun W=>kE 2 W;rw [show Plain.counted 2=true from rfl] at KN;have KF:=fun W=>qO c 1048576 W;rw [qU (by omega)] at KF;have KM:=xP5 ZZ R oo XX vo r.free r.used _ c _ hf hu ⟨c1,c2⟩ W HB.out;obtain ⟨E,hE2⟩:∃ E,E=(if r.free<c then 9 else 0:Nat):=⟨_,rfl⟩;rw [<- hE2] at KM;have HE:=hid (hE.trans hE2.symm);have HE2:=hid hE2;have HIR:=hid (And.intro hI hR);clear h hE hI hR bel hp1 hp2 hp3 hE2 hv HB hf hu hs;go_enter Tryz.func88,Tryz.ntmps88
 go_wp2_with (first|(go_at_call 113;refine (KN _).mono ?_;rintro e w' ⟨rfl,rfl⟩)|(go_at_call 114;refine (KF _).mono ?_;rintro e w' ⟨rfl,rfl⟩)|fail)
 rw [<- hW];clear hW;refine KM.mono ?_;rintro e w' ⟨rfl,hb,hk⟩;have HB2:=hid hb;have HK2:=hid (HK.out.trans hk);clear KM hb hk HK KN KF;go_wp2;go_ret2
 by_cases hx:r.free<c
 ·simp only [if_pos hx] at HB2 HE2
  rw [HE2.out] at HE ⊢;exact qC HE.out (by decide) HB2.out HK2.out
 ·simp only [if_neg hx] at HB2 HE2
  rw [HE2.out] at HE ⊢;exact qV HE.out HIR.out.1 HIR.out.2 HB2.out HK2.out
theorem yN6 (ZZ:Nat->Prop) (R oo:Nat) (XX:Win) (vo:Value) (r:Plain.Rk) (g:Int) (hv:Plain.Hv r g) (c l i:Int) (c1:1<=c) (c2:c<=1048576) (w:World) (h:BrR ZZ R oo XX w vo r) :
  Calls Tryz.prog 88 #[.pointer (some ⟨R,oo,none⟩),aggO ⟨6,c,l,i⟩] w fun e w'=>kJ ZZ R oo XX r ⟨6,c,l,i⟩ w e w':=by
 have hE:Plain.ordE r ⟨6,c,l,i⟩=if r.used<c then 9 else 0:=by
  unfold Plain.ordE;dsimp only;rw [if_neg (by omega),if_neg (fun x=>by have:=x.2;omega),if_neg (by omega),if_neg (by omega),if_pos rfl]
 have hI:Plain.ordI r ⟨6,c,l,i⟩=0:=by unfold Plain.ordI;rw [if_neg (fun x=>by have:=x.2;dsimp only at this;omega)]
 have hR:Plain.ordR r ⟨6,c,l,i⟩={ r with free:=r.free+c,used:=r.used-c }:=by
  unfold Plain.ordR;dsimp only;rw [if_neg (by omega),if_neg (by omega),if_pos rfl]
 obtain ⟨hf,hu,hs⟩:=hv.bdsL;obtain ⟨hp1,hp2,hp3⟩:=hv.ptsL;obtain ⟨W,hW⟩:∃ W,W=w.alloc (boxQ ⟨6,c,l,i⟩):=⟨_,rfl⟩;have bel:Below w.heap.size w W:=by rw [hW];exact yO.alloc yN _
 have HB:=hid (BrI.grow h bel);have HK:=hid (Kp.of_below (ZZ:=ZZ) (R:=R) bel);have KN:=fun W=>kE 6 W;rw [show Plain.counted 6=true from rfl] at KN;have KF:=fun W=>qO c 1048576 W;rw [qU (by omega)] at KF;have KM:=yM9 ZZ R oo XX vo r.free r.used _ c _ hf hu ⟨c1,c2⟩ W HB.out;obtain ⟨E,hE2⟩:∃ E,E=(if r.used<c then 9 else 0:Nat):=⟨_,rfl⟩;rw [<- hE2] at KM;have HE:=hid (hE.trans hE2.symm);have HE2:=hid hE2;have HIR:=hid (And.intro hI hR);clear h hE hI hR bel hp1 hp2 hp3 hE2 hv HB hf hu hs;go_enter Tryz.func88,Tryz.ntmps88
 go_wp2_with (first|(go_at_call 113;refine (KN _).mono ?_;rintro e w' ⟨rfl,rfl⟩)|(go_at_call 114;refine (KF _).mono ?_;rintro e w' ⟨rfl,rfl⟩)|fail)
 rw [<- hW];clear hW;refine KM.mono ?_;rintro e w' ⟨rfl,hb,hk⟩;have HB2:=hid hb;have HK2:=hid (HK.out.trans hk);clear KM hb hk HK KN KF;go_wp2;go_ret2
 by_cases hx:r.used<c
 ·simp only [if_pos hx] at HB2 HE2
  rw [HE2.out] at HE ⊢;exact qC HE.out (by decide) HB2.out HK2.out
 ·simp only [if_neg hx] at HB2 HE2
  rw [HE2.out] at HE ⊢;exact qV HE.out HIR.out.1 HIR.out.2 HB2.out HK2.out
theorem xQ1 (ZZ:Nat->Prop) (R oo:Nat) (XX:Win) (vo:Value) (r:Plain.Rk) (g:Int) (hv:Plain.Hv r g) (hm:r.cs.length<=1000) (c l i:Int) (c1:1<=c) (c2:c<=1048576) (w:World) (h:BrR ZZ R oo XX w vo r) :
  Calls Tryz.prog 88 #[.pointer (some ⟨R,oo,none⟩),aggO ⟨3,c,l,i⟩] w fun e w'=>kJ ZZ R oo XX r ⟨3,c,l,i⟩ w e w':=by
 have hop:=Plain.xB3 0 r.cs r.ls hv.ln;obtain ⟨hf,hu,hs⟩:=hv.bdsL;obtain ⟨hp1,hp2,hp3⟩:=hv.ptsL;have hE:Plain.ordE r ⟨3,c,l,i⟩=Plain.hldE r.free c l (Plain.xQ 0 r.cs r.ls).length:=by
  unfold Plain.ordE Plain.hldE;dsimp only;rw [if_neg (by omega),if_neg (fun x=>by have:=x.2;omega),if_neg (by omega),if_neg (by omega),if_neg (by omega),if_pos rfl];by_cases h1:l<1\/20<l
  ·rw [if_pos h1,if_pos h1]
  ·rw [if_neg h1,if_neg h1]
   by_cases h2:(Plain.xQ 0 r.cs r.ls).length=4
   ·rw [if_pos h2,if_pos (by omega)]
   ·rw [if_neg h2,if_neg (by omega)]
 have hI:Plain.ordE r ⟨3,c,l,i⟩=0->Plain.ordI r ⟨3,c,l,i⟩=(r.cs.length:Int)+1:=fun e=>by unfold Plain.ordI;rw [if_pos ⟨e,rfl⟩]
 have hR:Plain.ordR r ⟨3,c,l,i⟩={ r with free:=r.free-c,cs:=r.cs++[c],ls:=r.ls++[l] }:=by
  unfold Plain.ordR;dsimp only;rw [if_neg (by omega),if_neg (by omega),if_neg (by omega),if_pos rfl]
 have hlife:Plain.hldE r.free c l (Plain.xQ 0 r.cs r.ls).length=0->0<l:=fun e=>by
  unfold Plain.hldE at e;by_cases h1:l<1\/20<l
  ·rw [if_pos h1] at e;omega
  ·omega
 obtain ⟨W,hW⟩:∃ W,W=w.alloc (boxQ ⟨3,c,l,i⟩):=⟨_,rfl⟩;have bel:Below w.heap.size w W:=by rw [hW];exact yO.alloc yN _
 have HB:=hid (BrI.grow h bel);have HK:=hid (Kp.of_below (ZZ:=ZZ) (R:=R) bel);have KN:=fun W=>kE 3 W;rw [show Plain.counted 3=true from rfl] at KN;have KF:=fun W=>qO c 1048576 W;rw [qU (by omega)] at KF;have KM:=xP6 ZZ R oo XX vo r.free r.used (r.cs.length:Int) c l (Plain.xQ 0 r.cs r.ls) hf ⟨by omega,by omega⟩ ⟨c1,c2⟩ (by omega) W HB.out;have HLN:=hid hv.ln;obtain ⟨E,hE2⟩:∃ E,E=Plain.hldE r.free c l (Plain.xQ 0 r.cs r.ls).length:=⟨_,rfl⟩;rw [<- hE2] at KM hlife hE;have HE:=hid hE;have HIR:=hid (And.intro hI hR);have HLF:=hid hlife;clear h hE hI hR bel hp1 hp2 hp3 hE2 hv HB hf hu hs hop hlife;obtain ⟨I,hI⟩:∃ I,I=(if E=0 then (r.cs.length:Int)+1 else 0):=⟨_,rfl⟩;rw [<- hI] at KM;have HI:=hid hI;clear hI;go_enter Tryz.func88,Tryz.ntmps88
 go_wp2_with (first|(go_at_call 113;refine (KN _).mono ?_;rintro e w' ⟨rfl,rfl⟩)|(go_at_call 114;refine (KF _).mono ?_;rintro e w' ⟨rfl,rfl⟩)|fail)
 rw [<- hW];clear hW;refine KM.mono ?_;rintro e w' ⟨rfl,⟨v',hb⟩,hk⟩;have HB2:=hid hb;have HK2:=hid (HK.out.trans hk);clear KM hb hk HK KN KF;go_wp2;go_ret2
 by_cases hx:E=0
 ·simp only [if_pos hx] at HB2 HI
  rw [HI.out,hx];rw [hx] at HE;refine qV HE.out (HIR.out.1 HE.out) HIR.out.2 (vo:=v') ?_ HK2.out;show BrI ZZ R oo XX w' v' (r.free-c) r.used ((r.cs++[c]).length:Nat) (Plain.xQ 0 (r.cs++[c]) (r.ls++[l]));rw [Plain.xZ9 0 r.cs r.ls c l HLN.out (HLF.out hx)];have e1:((r.cs++[c]).length:Int)=(r.cs.length:Int)+1:=by simp
  have e2:((0:Nat):Int)+(r.cs.length:Int)+1=(r.cs.length:Int)+1:=by omega
  rw [e1,e2];exact HB2.out
 ·simp only [if_neg hx] at HB2 HI
  rw [HI.out];exact qC HE.out hx HB2.out HK2.out
theorem yI1 (ZZ:Nat->Prop) (R oo:Nat) (XX:Win) (vo:Value) (r:Plain.Rk) (g:Int) (hv:Plain.Hv r g) (c l i:Int) (w:World) (h:BrR ZZ R oo XX w vo r) :
  Calls Tryz.prog 88 #[.pointer (some ⟨R,oo,none⟩),aggO ⟨4,c,l,i⟩] w fun e w'=>kJ ZZ R oo XX r ⟨4,c,l,i⟩ w e w':=by
 have hE:Plain.ordE r ⟨4,c,l,i⟩=if i<1\/(r.cs.length:Int)<i then 6 else if r.ls.getD (i-1).toNat 0=0 then 10 else 0:=by
  unfold Plain.ordE;dsimp only;rw [if_neg (by omega),if_neg (fun x=>by have:=x.1;simp [Plain.counted] at this),if_neg (by omega),if_neg (by omega),if_neg (by omega),if_neg (by omega),if_neg (by omega)]
 have hI:Plain.ordI r ⟨4,c,l,i⟩=0:=by unfold Plain.ordI;rw [if_neg (fun x=>by have:=x.2;dsimp only at this;omega)]
 have hR:Plain.ordR r ⟨4,c,l,i⟩={ r with used:=r.used+r.cs.getD (i-1).toNat 0,ls:=r.ls.set (i-1).toNat 0 }:=by
  unfold Plain.ordR;dsimp only;rw [if_neg (by omega),if_neg (by omega),if_neg (by omega),if_neg (by omega),if_pos rfl]
 obtain ⟨hf,hu,hs⟩:=hv.bdsL;obtain ⟨hp1,hp2,hp3⟩:=hv.ptsL;obtain ⟨W,hW⟩:∃ W,W=w.alloc (boxQ ⟨4,c,l,i⟩):=⟨_,rfl⟩;have bel:Below w.heap.size w W:=by rw [hW];exact yO.alloc yN _
 have HB:=hid (BrI.grow h bel);have HK:=hid (Kp.of_below (ZZ:=ZZ) (R:=R) bel);have KN:=fun W=>kE 4 W;rw [show Plain.counted 4=false from rfl] at KN;have HIR:=hid (And.intro hI hR);by_cases hno:i<1\/(r.cs.length:Int)<i
 ·rw [if_pos hno] at hE
  have KM:=yC9 ZZ R oo XX vo r.free r.used _ i _ hno W HB.out;have HE:=hid hE;clear h hE hI hR bel hp1 hp2 hp3 hv HB hno hs;go_enter Tryz.func88,Tryz.ntmps88
  go_wp2_with (first|(go_at_call 113;refine (KN _).mono ?_;rintro e w' ⟨rfl,rfl⟩)|fail)
  rw [<- hW];clear hW;refine KM.mono ?_;rintro e w' ⟨rfl,hb,hk⟩;have HB2:=hid hb;have HK2:=hid (HK.out.trans hk);clear KM hb hk HK KN;obtain ⟨hf1,hf2⟩:=hf;obtain ⟨hu1,hu2⟩:=hu;have r0:=HB2.out.c1;have z0:=HB2.out.row.frozen (oo+1);have HB3:=hid (HB2.out.used r.used);have HK3:=hid (HK2.out.trans (Kp.setR (ZZ:=ZZ) (R:=R) (oo+1) (.int .i64 r.used)));clear HB2 HK2;go_wp2;go_ret2
  exact qC HE.out (by decide) HB3.out HK3.out
 rw [if_neg hno] at hE;by_cases hold:r.ls.getD (i-1).toNat 0=0
 ·rw [if_pos hold] at hE
  have KM:=yN5 ZZ R oo XX vo r.free r.used _ i _ (by omega) hno (fun p hp=>by
   have:=Plain.zS5 0 r.cs r.ls (i-1).toNat (by omega) p hp;omega) W HB.out
  have HE:=hid hE;clear h hE hI hR bel hp1 hp2 hp3 hv HB hno hold hs;go_enter Tryz.func88,Tryz.ntmps88
  go_wp2_with (first|(go_at_call 113;refine (KN _).mono ?_;rintro e w' ⟨rfl,rfl⟩)|fail)
  rw [<- hW];clear hW;refine KM.mono ?_;rintro e w' ⟨rfl,hb,hk⟩;have HB2:=hid hb;have HK2:=hid (HK.out.trans hk);clear KM hb hk HK KN;obtain ⟨hf1,hf2⟩:=hf;obtain ⟨hu1,hu2⟩:=hu;have r0:=HB2.out.c1;have z0:=HB2.out.row.frozen (oo+1);have HB3:=hid (HB2.out.used r.used);have HK3:=hid (HK2.out.trans (Kp.setR (ZZ:=ZZ) (R:=R) (oo+1) (.int .i64 r.used)));clear HB2 HK2;go_wp2;go_ret2
  exact qC HE.out (by decide) HB3.out HK3.out
 rw [if_neg hold] at hE;have hpos:0<r.ls.getD (i-1).toNat 0:=by
  have:=hv.lf _ (Plain.kY hold).2;omega
 obtain ⟨kk,hk1,hk2,hk3,hk4⟩:=Plain.qA1 0 r.cs r.ls (i-1).toNat hv.ln hpos;have eid:((0:Nat):Int)+((i-1).toNat:Int)+1=i:=by omega
 rw [eid] at hk2 hk3;have KM:=xM9 ZZ R oo XX vo r.free r.used _ i _ kk (by omega) hno hk1 (by rw [hk2]) hk3 W HB.out;rw [hk2] at KM;dsimp only at KM;have hcb:1<=r.cs.getD (i-1).toNat 0/\r.cs.getD (i-1).toNat 0<=1048576:=hv.ct _ (by
  rw [zA,zB (by rw [hv.ln];exact (Plain.kY hold).1)];exact zH _)
 have HO:=hid hk4;have HE:=hid hE;rw [<- hk4] at KM;clear h hE hI hR bel hp1 hp2 hp3 hv HB hno hold hs hk1 hk2 hk3 hk4 eid hpos HO;obtain ⟨y,hy⟩:∃ y,y=r.cs.getD (i-1).toNat 0:=⟨_,rfl⟩;rw [<- hy] at KM hcb HIR;clear hy;obtain ⟨hc1,hc2⟩:=hcb;obtain ⟨hf1,hf2⟩:=hf;obtain ⟨hu1,hu2⟩:=hu;go_enter Tryz.func88,Tryz.ntmps88
 go_wp2_with (first|(go_at_call 113;refine (KN _).mono ?_;rintro e w' ⟨rfl,rfl⟩)|fail)
 rw [<- hW];clear hW;refine KM.mono ?_;rintro e w' ⟨rfl,⟨v',hb⟩,hk⟩;have HB2:=hid hb;have HK2:=hid (HK.out.trans hk);clear KM hb hk HK KN;have r0:=HB2.out.c1;have z0:=HB2.out.row.frozen (oo+1);have HB3:=hid (HB2.out.used (r.used+y));have HK3:=hid (HK2.out.trans (Kp.setR (ZZ:=ZZ) (R:=R) (oo+1) (.int .i64 (r.used+y))));clear HB2 HK2;go_wp2;go_ret2
 exact qV HE.out HIR.out.1 HIR.out.2 HB3.out HK3.out
theorem yN7 (ZZ:Nat->Prop) (R oo:Nat) (XX:Win) (vo:Value) (r:Plain.Rk) (g:Int) (hv:Plain.Hv r g) (c l i:Int) (w:World) (h:BrR ZZ R oo XX w vo r) :
  Calls Tryz.prog 88 #[.pointer (some ⟨R,oo,none⟩),aggO ⟨5,c,l,i⟩] w fun e w'=>kJ ZZ R oo XX r ⟨5,c,l,i⟩ w e w':=by
 have hE:Plain.ordE r ⟨5,c,l,i⟩=if i<1\/(r.cs.length:Int)<i then 6 else if r.ls.getD (i-1).toNat 0=0 then 10 else 0:=by
  unfold Plain.ordE;dsimp only;rw [if_neg (by omega),if_neg (fun x=>by have:=x.1;simp [Plain.counted] at this),if_neg (by omega),if_neg (by omega),if_neg (by omega),if_neg (by omega),if_neg (by omega)]
 have hI:Plain.ordI r ⟨5,c,l,i⟩=0:=by unfold Plain.ordI;rw [if_neg (fun x=>by have:=x.2;dsimp only at this;omega)]
 have hR:Plain.ordR r ⟨5,c,l,i⟩={ r with free:=r.free+r.cs.getD (i-1).toNat 0,ls:=r.ls.set (i-1).toNat 0 }:=by
  unfold Plain.ordR;dsimp only;rw [if_neg (by omega),if_neg (by omega),if_neg (by omega),if_neg (by omega),if_neg (by omega),if_pos rfl]
 obtain ⟨hf,hu,hs⟩:=hv.bdsL;obtain ⟨hp1,hp2,hp3⟩:=hv.ptsL;obtain ⟨W,hW⟩:∃ W,W=w.alloc (boxQ ⟨5,c,l,i⟩):=⟨_,rfl⟩;have bel:Below w.heap.size w W:=by rw [hW];exact yO.alloc yN _
 have HB:=hid (BrI.grow h bel);have HK:=hid (Kp.of_below (ZZ:=ZZ) (R:=R) bel);have KN:=fun W=>kE 5 W;rw [show Plain.counted 5=false from rfl] at KN;have HIR:=hid (And.intro hI hR);by_cases hno:i<1\/(r.cs.length:Int)<i
 ·rw [if_pos hno] at hE
  have KM:=yC9 ZZ R oo XX vo r.free r.used _ i _ hno W HB.out;have HE:=hid hE;clear h hE hI hR bel hp1 hp2 hp3 hv HB hno hs;go_enter Tryz.func88,Tryz.ntmps88
  go_wp2_with (first|(go_at_call 113;refine (KN _).mono ?_;rintro e w' ⟨rfl,rfl⟩)|fail)
  rw [<- hW];clear hW;refine KM.mono ?_;rintro e w' ⟨rfl,hb,hk⟩;have HB2:=hid hb;have HK2:=hid (HK.out.trans hk);clear KM hb hk HK KN;obtain ⟨hf1,hf2⟩:=hf;obtain ⟨hu1,hu2⟩:=hu;have r0:=HB2.out.c0;have z0:=HB2.out.row.frozen oo;have HB3:=hid (HB2.out.free r.free);have HK3:=hid (HK2.out.trans (Kp.setR (ZZ:=ZZ) (R:=R) oo (.int .i64 r.free)));clear HB2 HK2;go_wp2;go_ret2
  exact qC HE.out (by decide) HB3.out HK3.out
 rw [if_neg hno] at hE;by_cases hold:r.ls.getD (i-1).toNat 0=0
 ·rw [if_pos hold] at hE
  have KM:=yN5 ZZ R oo XX vo r.free r.used _ i _ (by omega) hno (fun p hp=>by
   have:=Plain.zS5 0 r.cs r.ls (i-1).toNat (by omega) p hp;omega) W HB.out
  have HE:=hid hE;clear h hE hI hR bel hp1 hp2 hp3 hv HB hno hold hs;go_enter Tryz.func88,Tryz.ntmps88
  go_wp2_with (first|(go_at_call 113;refine (KN _).mono ?_;rintro e w' ⟨rfl,rfl⟩)|fail)
  rw [<- hW];clear hW;refine KM.mono ?_;rintro e w' ⟨rfl,hb,hk⟩;have HB2:=hid hb;have HK2:=hid (HK.out.trans hk);clear KM hb hk HK KN;obtain ⟨hf1,hf2⟩:=hf;obtain ⟨hu1,hu2⟩:=hu;have r0:=HB2.out.c0;have z0:=HB2.out.row.frozen oo;have HB3:=hid (HB2.out.free r.free);have HK3:=hid (HK2.out.trans (Kp.setR (ZZ:=ZZ) (R:=R) oo (.int .i64 r.free)));clear HB2 HK2;go_wp2;go_ret2
  exact qC HE.out (by decide) HB3.out HK3.out
 rw [if_neg hold] at hE;have hpos:0<r.ls.getD (i-1).toNat 0:=by
  have:=hv.lf _ (Plain.kY hold).2;omega
 obtain ⟨kk,hk1,hk2,hk3,hk4⟩:=Plain.qA1 0 r.cs r.ls (i-1).toNat hv.ln hpos;have eid:((0:Nat):Int)+((i-1).toNat:Int)+1=i:=by omega
 rw [eid] at hk2 hk3;have KM:=xM9 ZZ R oo XX vo r.free r.used _ i _ kk (by omega) hno hk1 (by rw [hk2]) hk3 W HB.out;rw [hk2] at KM;dsimp only at KM;have hcb:1<=r.cs.getD (i-1).toNat 0/\r.cs.getD (i-1).toNat 0<=1048576:=hv.ct _ (by
  rw [zA,zB (by rw [hv.ln];exact (Plain.kY hold).1)];exact zH _)
 have HO:=hid hk4;have HE:=hid hE;rw [<- hk4] at KM;clear h hE hI hR bel hp1 hp2 hp3 hv HB hno hold hs hk1 hk2 hk3 hk4 eid hpos HO;obtain ⟨y,hy⟩:∃ y,y=r.cs.getD (i-1).toNat 0:=⟨_,rfl⟩;rw [<- hy] at KM hcb HIR;clear hy;obtain ⟨hc1,hc2⟩:=hcb;obtain ⟨hf1,hf2⟩:=hf;obtain ⟨hu1,hu2⟩:=hu;go_enter Tryz.func88,Tryz.ntmps88
 go_wp2_with (first|(go_at_call 113;refine (KN _).mono ?_;rintro e w' ⟨rfl,rfl⟩)|fail)
 rw [<- hW];clear hW;refine KM.mono ?_;rintro e w' ⟨rfl,⟨v',hb⟩,hk⟩;have HB2:=hid hb;have HK2:=hid (HK.out.trans hk);clear KM hb hk HK KN;have r0:=HB2.out.c0;have z0:=HB2.out.row.frozen oo;have HB3:=hid (HB2.out.free (r.free+y));have HK3:=hid (HK2.out.trans (Kp.setR (ZZ:=ZZ) (R:=R) oo (.int .i64 (r.free+y))));clear HB2 HK2;go_wp2;go_ret2
 exact qV HE.out HIR.out.1 HIR.out.2 HB3.out HK3.out
theorem zX6 (ZZ:Nat->Prop) (R oo:Nat) (XX:Win) (vo:Value) (r:Plain.Rk) (g:Int) (hv:Plain.Hv r g) (c l i:Int)  (w:World) (h:BrR ZZ R oo XX w vo r) :
  Calls Tryz.prog 88 #[.pointer (some ⟨R,oo,none⟩),aggO ⟨7,c,l,i⟩] w fun e w'=>kJ ZZ R oo XX r ⟨7,c,l,i⟩ w e w':=by
 have hE:Plain.ordE r ⟨7,c,l,i⟩=0:=by
  unfold Plain.ordE;dsimp only;rw [if_neg (by omega),if_neg (fun x=>by have:=x.1;simp [Plain.counted] at this),if_neg (by omega),if_neg (by omega),if_neg (by omega),if_neg (by omega),if_pos rfl]
 have hI:Plain.ordI r ⟨7,c,l,i⟩=0:=by unfold Plain.ordI;rw [if_neg (fun x=>by have:=x.2;dsimp only at this;omega)]
 have hR:Plain.ordR r ⟨7,c,l,i⟩={ r with free:=r.free+Plain.zB7 r.cs r.ls,ls:=Plain.zF1 r.ls }:=by
  unfold Plain.ordR;dsimp only;rw [if_neg (by omega),if_neg (by omega),if_neg (by omega),if_neg (by omega),if_neg (by omega),if_neg (by omega)]
 obtain ⟨hf,hu,hs⟩:=hv.bdsL;obtain ⟨hp1,hp2,hp3⟩:=hv.ptsL;obtain ⟨W,hW⟩:∃ W,W=w.alloc (boxQ ⟨7,c,l,i⟩):=⟨_,rfl⟩;have bel:Below w.heap.size w W:=by rw [hW];exact yO.alloc yN _
 have HB:=hid (BrI.grow h bel);have HK:=hid (Kp.of_below (ZZ:=ZZ) (R:=R) bel);have KN:=fun W=>kE 7 W;rw [show Plain.counted 7=false from rfl] at KN;have KM:=xP8 ZZ R oo XX vo r.free r.used _ _ hf hp1 hp2 (by rw [Plain.zS4];exact hs.2) (by omega) W HB.out;rw [Plain.qA0,<- Plain.yM8] at KM;have HEIR:=hid (And.intro hE (And.intro hI hR));clear h hE hI hR bel hp1 hp2 hp3 hv HB hf hu hs;go_enter Tryz.func88,Tryz.ntmps88
 go_wp2_with (first|(go_at_call 113;refine (KN _).mono ?_;rintro e w' ⟨rfl,rfl⟩)|fail)
 rw [<- hW];clear hW;refine KM.mono ?_;rintro e w' ⟨rfl,⟨v',hb⟩,hk⟩;have HB2:=hid hb;have HK2:=hid (HK.out.trans hk);clear KM hb hk HK KN;go_wp2;go_ret2
 exact qV HEIR.out.1 HEIR.out.2.1 HEIR.out.2.2 HB2.out HK2.out
theorem xN0 (ZZ:Nat->Prop) (R oo:Nat) (XX:Win) (vo:Value) (r:Plain.Rk) (g:Int) (hv:Plain.Hv r g) (hm:r.cs.length<=1000) (o:Plain.Or) (w:World) (h:BrR ZZ R oo XX w vo r) :
  Calls Tryz.prog 88 #[.pointer (some ⟨R,oo,none⟩),aggO o] w fun e w'=>kJ ZZ R oo XX r o w e w':=by
 obtain ⟨k,c,l,i⟩:=o;by_cases hk:k<1\/7<k
 ·exact zF8 ZZ R oo XX vo r k c l i hk w h
 by_cases hc:(k=1\/k=2\/k=3\/k=6)/\(c<1\/1048576<c)
 ·exact xC0 ZZ R oo XX vo r k c l i hc.1 hc.2 w h
 have:k=1\/k=2\/k=3\/k=4\/k=5\/k=6\/k=7:=by omega
 rcases this with rfl|rfl|rfl|rfl|rfl|rfl|rfl
 ·exact xP9 ZZ R oo XX vo r g hv c l i (by omega) (by omega) w h
 ·exact xQ0 ZZ R oo XX vo r g hv c l i (by omega) (by omega) w h
 ·exact xQ1 ZZ R oo XX vo r g hv hm c l i (by omega) (by omega) w h
 ·exact yI1 ZZ R oo XX vo r g hv c l i w h
 ·exact yN7 ZZ R oo XX vo r g hv c l i w h
 ·exact yN6 ZZ R oo XX vo r g hv c l i (by omega) (by omega) w h
 ·exact zX6 ZZ R oo XX vo r g hv c l i w h
abbrev boxS (s:Plain.St):Obj:=.cells #[.int .i64 (s.code:Nat),.int .i64 s.id,.int .i64 s.free,.int .i64 s.held,.int .i64 s.used] 38
abbrev box0:Obj:=.cells #[.int .i64 0,.int .i64 0,.int .i64 0,.int .i64 0,.int .i64 0] 38
def stF (s:Plain.St) (j:Nat):Value:=if j=0 then .int .i64 (s.code:Nat) else if j=1 then .int .i64 s.id else if j=2 then .int .i64 s.free else if j=3 then .int .i64 s.held else .int .i64 s.used
theorem row5 {c:Array Value} {v0 v1 v2 v3 v4:Value} (hs:c.size=5) (h0:c[0]?=some v0) (h1:c[1]?=some v1) (h2:c[2]?=some v2) (h3:c[3]?=some v3) (h4:c[4]?=some v4):c=#[v0,v1,v2,v3,v4]:=by
 apply Array.ext_getElem?;intro i
 match i with
 | 0=>simpa using h0
 | 1=>simpa using h1
 | 2=>simpa using h2
 | 3=>simpa using h3
 | 4=>simpa using h4
 | i+5=>rw [yI (by omega),yI (by simp)]
theorem jH {fn:Func} {p:Tmp} {Q:Ending->World->Prop} {a:Act} {w:World} (h:fn.results=#[.cell p 38]) (G:Nat) (s:Plain.St) (hp:a.tmps.getD p undef=.pointer (some ⟨G,0,none⟩))
  (hg:w.rowIs G 38 5 (stF s)) (hd:a.defers=[]) (hR:Q (.returned (aggS s)) w):bodyPost Tryz.prog fn Q .ret a w:=by
 obtain ⟨c,hb,hs,hc⟩:=hg;have e:=row5 hs (hc 0 (by omega)) (hc 1 (by omega)) (hc 2 (by omega)) (hc 3 (by omega)) (hc 4 (by omega));subst e;exact bodyPost_ret (results_cell_row (P:=Tryz.prog) h _ _ G 38 _ (0,0) _ hp hb Tryz.underlying38 rfl (by kernel_rfl)) hd hR
theorem yD0 (w:World) (s:Plain.St):(w.alloc (boxS s)).rowIs w.heap.size 38 5 (stF s):=by
 refine yK w _ 38 _ fun i hi=>?_;have hi5:i<5:=hi;have:i=0\/i=1\/i=2\/i=3\/i=4:=by omega
 rcases this with rfl|rfl|rfl|rfl|rfl<;>rfl
theorem zS7 (w:World):(w.alloc box0).rowIs w.heap.size 38 5 (stF ⟨0,0,0,0,0⟩):=yD0 w ⟨0,0,0,0,0⟩
def putS (W:World) (g o:Nat) (t:Plain.St):World :=
 ((((W.setCell ⟨g,o,none⟩ (.int .i64 (t.code:Nat))).setCell ⟨g,o+1,none⟩ (.int .i64 t.id)).setCell ⟨g,o+2,none⟩ (.int .i64 t.free)).setCell ⟨g,o+3,none⟩ (.int .i64 t.held)).setCell ⟨g,o+4,none⟩ (.int .i64 t.used)
theorem zB9 (W:World) (g o:Nat) (t:Plain.St) (b:Nat) (hb:b≠g):(putS W g o t).heap[b]?=W.heap[b]?:=by
 unfold putS;rw [zE _ ⟨g,_,none⟩ _ b hb,zE _ ⟨g,_,none⟩ _ b hb,zE _ ⟨g,_,none⟩ _ b hb,zE _ ⟨g,_,none⟩ _ b hb,zE _ ⟨g,_,none⟩ _ b hb]
theorem zF9 (W:World) (g o:Nat) (t:Plain.St):(putS W g o t).heap.size=W.heap.size:=by simp [putS,World.setCell]
theorem yN8 (W:World) (g o:Nat) (t:Plain.St):(putS W g o t).os=W.os:=rfl
theorem zS8 (W:World) (g o:Nat) (t:Plain.St):(putS W g o t).tape=W.tape:=rfl
theorem zG0 (W:World) (g o:Nat) (t:Plain.St):(putS W g o t).output=W.output:=rfl
theorem yI2 {B:Nat} {W0 W:World} (h:Below B W0 W) {g:Nat} (hg:B<=g) (o:Nat) (t:Plain.St):Below B W0 (putS W g o t) :=
 ⟨(yN8 _ _ _ _).trans h.os,(zS8 _ _ _ _).trans h.tape,(zG0 _ _ _ _).trans h.output,by rw [zF9];exact h.size,fun k hk=>(zB9 W g o t k (by omega)).trans (h.block k hk)⟩
theorem yD1 {W:World} {G:Nat} {f:Nat->Value} (h:W.rowIs G 38 5 f) (s:Plain.St):(putS W G 0 s).rowIs G 38 5 (stF s):=by
 have e0:=h.set 0 (.int .i64 (s.code:Nat));have e1:=e0.set 1 (.int .i64 s.id);have e2:=e1.set 2 (.int .i64 s.free);have e3:=e2.set 3 (.int .i64 s.held);have e4:=e3.set 4 (.int .i64 s.used);clear e0 e1 e2 e3;unfold putS;rw [Nat.zero_add,Nat.zero_add,Nat.zero_add,Nat.zero_add];refine e4.congr fun j hj=>?_;have:j=0\/j=1\/j=2\/j=3\/j=4:=by omega
 unfold stF;rcases this with rfl|rfl|rfl|rfl|rfl<;>simp
theorem now_c (ZZ:Nat->Prop) (R oo:Nat) (XX:Win) (vo:Value) (f u m:Int) (l:List Plain.Pt) (hc:∀ p,p∈l->0<=p.count) (hs:Plain.sumP l<=1048576) (hb:l.length<=1000) (w:World) (h:BrI ZZ R oo XX w vo f u m l) :
  Calls Tryz.prog 41 #[.pointer (some ⟨R,oo,none⟩)] w fun e w'=>e=.returned (aggS ⟨0,0,f,Plain.sumP l,u⟩)/\Below w.heap.size w w':=by
 obtain ⟨W,hW⟩:∃ W,W=w.alloc box0:=⟨_,rfl⟩;have bel:Below w.heap.size w W:=by rw [hW];exact yO.alloc yN _
 have rw0:W.rowIs w.heap.size 38 5 (stF ⟨0,0,0,0,0⟩):=by rw [hW];exact zS7 w
 have HB:=hid ((h.grow bel).drewN 1);have r0:W.drew.cell? ⟨R,oo,none⟩=some (.int .i64 f):=HB.out.c0;have r1:W.drew.cell? ⟨R,oo+1,none⟩=some (.int .i64 u):=HB.out.c1;have KH:=zM2 ZZ R oo XX vo f u m l hc hs hb W.drew HB.out;have HW0:=hid rw0;have BW:=hid bel;obtain ⟨d,hd⟩:∃ d,d=Plain.sumP l:=⟨_,rfl⟩;rw [<- hd] at KH ⊢;have hRn:R≠w.heap.size:=fun e=>by have:=h.lt;omega
 have hRm:¬ w.heap.size=R:=fun e=>hRn e.symm;clear hd h hc hs hb bel rw0;go_enter Tryz.func41,Tryz.ntmps41
 go_wp2;rw [<- hW];clear hW
 go_region_held3 (fun w'=>w'.cell? ⟨R,oo,none⟩=some (.int .i64 f)/\w'.cell? ⟨R,oo+1,none⟩=some (.int .i64 u)) (go_keep)
  ((go_at_call 61;refine KH.mono ?_;rintro e W5 ⟨rfl,q5,os5,hw5⟩;have b5:Hid (Below W.drew.heap.size W.drew W5):=hid (by rw [hw5];exact xP yO yN _ _);clear hw5;have HI5:=hid (HB.out.grow b5.out);have r05:=HI5.out.c0;have r15:=HI5.out.c1;have R5:Hid (W5.rowIs w.heap.size 38 5 (stF ⟨0,0,0,0,0⟩)):=hid (HW0.out.of_block (b5.out.block _ HW0.out.lt));have y0:=R5.out.cell (i:=0) (by omega);have y1:=R5.out.cell (i:=1) (by omega);have y2:=R5.out.cell (i:=2) (by omega);have y3:=R5.out.cell (i:=3) (by omega);have y4:=R5.out.cell (i:=4) (by omega);have z0:=R5.out.frozen 0;have z1:=R5.out.frozen 1;have z2:=R5.out.frozen 2;have z3:=R5.out.frozen 3;have z4:=R5.out.frozen 4))
 all_goals
  obtain ⟨W6,hW6⟩:∃ W6,W6=((((W5.setCell ⟨w.heap.size,0,none⟩ (.int .i64 0)).setCell ⟨w.heap.size,1,none⟩ (.int .i64 0)).setCell ⟨w.heap.size,2,none⟩ (.int .i64 f)).setCell ⟨w.heap.size,3,none⟩ (.int .i64 d)).setCell ⟨w.heap.size,4,none⟩ (.int .i64 u):=⟨_,rfl⟩;rw [<- hW6];have F6:W6.rowIs w.heap.size 38 5 (stF ⟨0,0,f,d,u⟩):=by rw [hW6];exact yD1 R5.out ⟨0,0,f,d,u⟩
  have B6:Below w.heap.size w W6:=by rw [hW6];exact yI2 (BW.out.trans ((below_drewN yO 1).trans (b5.out.mono BW.out.size))) yN 0 ⟨0,0,f,d,u⟩
  clear hW6;clear y0 y1 y2 y3 y4 z0 z1 z2 z3 z4 r05 r15 R5 HI5;go_wp2;exact jH rfl w.heap.size ⟨0,0,f,d,u⟩ rfl F6 rfl ⟨rfl,B6⟩
def TakeP (ZZ:Nat->Prop) (R oo:Nat) (XX:Win) (r:Plain.Rk) (o:Plain.Or) (w:World) (e:Ending) (w':World):Prop :=
 e=.returned (aggS (Plain.toldR r o))/\(∃ vo',BrR ZZ R oo XX w' vo' (Plain.yH6 r o))/\Kp ZZ R w w'
theorem take_c (ZZ:Nat->Prop) (R oo:Nat) (XX:Win) (vo:Value) (r:Plain.Rk) (g:Int) (hv:Plain.Hv r g) (hm:r.cs.length<=1000) (o:Plain.Or) (w:World) (h:BrR ZZ R oo XX w vo r) :
  Calls Tryz.prog 70 #[.pointer (some ⟨R,oo,none⟩),aggO o] w fun e w'=>TakeP ZZ R oo XX r o w e w':=by
 obtain ⟨W,hW⟩:∃ W,W=(w.alloc (boxQ o)).alloc box0:=⟨_,rfl⟩;have bel:Below w.heap.size w W:=by rw [hW];exact (yO.alloc yN _).alloc (by simp) _
 have hsz:W.heap.size=w.heap.size+2:=by rw [hW];simp
 have rw0:W.rowIs (w.heap.size+1) 38 5 (stF ⟨0,0,0,0,0⟩):=by
  have:=zS7 (w.alloc (boxQ o));rw [show (w.alloc (boxQ o)).heap.size=w.heap.size+1 by simp] at this;rw [hW];exact this
 have q0:W.rowIs w.heap.size 143 4 (fun j=>if j=0 then .int .i64 o.kind else if j=1 then .int .i64 o.count else if j=2 then .int .i64 o.life else .int .i64 o.id):=by
  rw [hW];refine World.rowIs.alloc (yK w _ 143 _ fun i hi=>?_) _;have hi4:i<4:=hi;have:i=0\/i=1\/i=2\/i=3:=by omega
  rcases this with rfl|rfl|rfl|rfl<;>rfl
 have HB:=hid (BrI.grow h bel);have HZ:=hid (BrI.near_le h bel.size);have K:=xN0 (Near W vo) R oo XX vo r g hv hm o W HB.out.near;have hv2:=hv.step o;have hne:¬ Near W vo (w.heap.size+1):=fun x=>x.elim (fun e=>by have:=BrI.own_lt h e;omega) (fun e=>by omega);have hRlt:=BrI.lt h;have HW0:=hid rw0;have BW:=hid bel;have HV:=hid hv2;have HN:=hid hne;have HS:=hid hsz;have x0:W.cell? ⟨w.heap.size,0,none⟩=some (.int .i64 o.kind):=q0.cell (i:=0) (by omega);have x1:W.cell? ⟨w.heap.size,1,none⟩=some (.int .i64 o.count):=q0.cell (i:=1) (by omega);have x2:W.cell? ⟨w.heap.size,2,none⟩=some (.int .i64 o.life):=q0.cell (i:=2) (by omega);have x3:W.cell? ⟨w.heap.size,3,none⟩=some (.int .i64 o.id):=q0.cell (i:=3) (by omega);have HR:=hid hRlt;clear h hv hv2 bel rw0 q0 hsz hne hRlt;go_enter Tryz.func70,Tryz.ntmps70
 go_wp2_with fail
 rw [<- hW];clear hW;refine K.mono ?_;rintro e W1 ⟨rfl,⟨vo',br⟩,kp⟩;have R1:Hid (W1.rowIs (w.heap.size+1) 38 5 (stF ⟨0,0,0,0,0⟩)):=hid (kp.rowIs HW0.out HN.out (by have:=HR.out;omega));have B1:=hid (BrI.mono br HZ.out);have K1:=hid ((Kp.of_below BW.out).trans (kp.mono HZ.out));have S1:=hid (zI (Nat.le_of_eq HS.out.symm) kp.size);clear K kp br x0 x1 x2 x3 HW0 HB HN HZ BW HS;obtain ⟨r',hr'⟩:∃ r',r'=Plain.yH6 r o:=⟨_,rfl⟩;obtain ⟨I,hI⟩:∃ I,I=Plain.ordI r o:=⟨_,rfl⟩;obtain ⟨E,hE⟩:∃ E,E=Plain.ordE r o:=⟨_,rfl⟩;have HT:=hid (show Plain.toldR r o=⟨E,I,r'.free,Plain.sumP (Plain.xQ 0 r'.cs r'.ls),r'.used⟩ by rw [hr',hI,hE,Plain.zS4];rfl);have HQ:=hid hr';rw [<- hI,<- hE];rw [<- hr'] at B1 HV;clear hr' hI hE;obtain ⟨hf,hu,hs1⟩:=HV.out.bdsL;obtain ⟨hp1,hp2,hp3⟩:=HV.out.ptsL;have KN:=now_c ZZ R oo XX vo' r'.free r'.used _ _ hp1 (by rw [Plain.zS4];exact hs1.2) (by omega) W1 B1.out;clear hp1 hp2 hp3 hf hu hs1 HV hm;obtain ⟨d,hd⟩:∃ d,d=Plain.sumP (Plain.xQ 0 r'.cs r'.ls):=⟨_,rfl⟩;rw [<- hd] at KN HT;clear hd;obtain ⟨f,hf⟩:∃ f,f=r'.free:=⟨_,rfl⟩;obtain ⟨u,hu⟩:∃ u,u=r'.used:=⟨_,rfl⟩;rw [<- hf,<- hu] at KN HT;clear hf hu
 go_wp2_with fail
 refine KN.mono ?_;rintro e W2 ⟨rfl,b2⟩;have R2:Hid (W2.rowIs (w.heap.size+1) 38 5 (stF ⟨0,0,0,0,0⟩)):=hid (R1.out.of_block (b2.block _ R1.out.lt));have B2:=hid (BrI.grow B1.out b2);have K2:=hid (K1.out.trans (Kp.of_below b2));clear KN b2 R1 B1 K1;dsimp only
 go_upto_region 4 with fail
 obtain ⟨W3,hW3⟩:∃ W3,W3=W2.alloc (boxS ⟨E,I,f,d,u⟩):=⟨_,rfl⟩;have b3:Below W2.heap.size W2 W3:=by rw [hW3];exact yO.alloc yN _
 have n3:W3.rowIs W2.heap.size 38 5 (stF ⟨E,I,f,d,u⟩):=by rw [hW3];exact yD0 W2 _
 have R3:Hid (W3.rowIs (w.heap.size+1) 38 5 (stF ⟨0,0,0,0,0⟩)):=hid (R2.out.of_block (b3.block _ R2.out.lt));have B3:=hid (BrI.grow B2.out b3);have K3:=hid (K2.out.trans (Kp.of_below b3));rw [<- hW3];clear hW3 b3 R2 B2 K2;have v0:W3.cell? ⟨W2.heap.size,0,none⟩=some (.int .i64 E):=n3.cell (i:=0) (by omega);have v1:W3.cell? ⟨W2.heap.size,1,none⟩=some (.int .i64 I):=n3.cell (i:=1) (by omega);have v2:W3.cell? ⟨W2.heap.size,2,none⟩=some (.int .i64 f):=n3.cell (i:=2) (by omega);have v3:W3.cell? ⟨W2.heap.size,3,none⟩=some (.int .i64 d):=n3.cell (i:=3) (by omega);have v4:W3.cell? ⟨W2.heap.size,4,none⟩=some (.int .i64 u):=n3.cell (i:=4) (by omega);clear n3;have y0:=R3.out.cell (i:=0) (by omega);have y1:=R3.out.cell (i:=1) (by omega);have y2:=R3.out.cell (i:=2) (by omega);have y3:=R3.out.cell (i:=3) (by omega);have y4:=R3.out.cell (i:=4) (by omega);have z0:=R3.out.frozen 0;have z1:=R3.out.frozen 1;have z2:=R3.out.frozen 2;have z3:=R3.out.frozen 3;have z4:=R3.out.frozen 4;go_wp2
 (try simp only [Exit.inBlock,Exit.then])
 obtain ⟨W6,hW6⟩:∃ W6,W6=((((W3.setCell ⟨w.heap.size+1,0,none⟩ (.int .i64 E)).setCell ⟨w.heap.size+1,1,none⟩ (.int .i64 I)).setCell ⟨w.heap.size+1,2,none⟩ (.int .i64 f)).setCell ⟨w.heap.size+1,3,none⟩ (.int .i64 d)).setCell ⟨w.heap.size+1,4,none⟩ (.int .i64 u):=⟨_,rfl⟩;rw [<- hW6];have F6:W6.rowIs (w.heap.size+1) 38 5 (stF ⟨E,I,f,d,u⟩):=by rw [hW6];exact yD1 R3.out ⟨E,I,f,d,u⟩
 have B6:BrR ZZ R oo XX W6 vo' r':=by
  rw [hW6];have e:=zB9 W3 (w.heap.size+1) 0 ⟨E,I,f,d,u⟩;have hne:R≠w.heap.size+1:=by have:=HR.out;omega
  refine ⟨B3.out.row.of_block (e _ hne),zB8 B3.out.ow fun b hb=>e b (fun x=>?_),B3.out.own,fun k hk=>B3.out.up k (by rw [<- zF9 W3 (w.heap.size+1) 0 ⟨E,I,f,d,u⟩];exact hk),B3.out.ne,B3.out.le⟩;exact xW R3.out B3.out.ow (by decide) (by rw [hb,x])
 have K6:Kp ZZ R w W6:=by
  rw [hW6];have e:=zB9 W3 (w.heap.size+1) 0 ⟨E,I,f,d,u⟩;exact ⟨(yN8 W3 (w.heap.size+1) 0 ⟨E,I,f,d,u⟩).trans K3.out.os,(zS8 W3 (w.heap.size+1) 0 ⟨E,I,f,d,u⟩).trans K3.out.tape,(zG0 W3 (w.heap.size+1) 0 ⟨E,I,f,d,u⟩).trans K3.out.output,zI K3.out.size (Nat.le_of_eq (zF9 W3 (w.heap.size+1) 0 ⟨E,I,f,d,u⟩).symm),fun k hk h1 h2=>(e k (by omega)).trans (K3.out.block k hk h1 h2)⟩
 clear hW6;refine jH rfl (w.heap.size+1) ⟨E,I,f,d,u⟩ rfl F6 rfl ⟨?_,⟨vo',?_⟩,K6⟩
 ·rw [HT.out]
 ·rw [<- HQ.out];exact B6
end Go.Proofs.YtleaknfjbbccgaaGreatDoor.Hd
