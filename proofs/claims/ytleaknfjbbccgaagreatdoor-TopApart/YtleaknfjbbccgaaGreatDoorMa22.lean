/- Laid together. -/
import Derived.Deep.QuietTactic
import Derived.BigQuiet
import Derived.Deep.LoopGhost
import Derived.Shelf.SlSortCmp.QuietGrown
import Derived.Deep.RegionHeld3
import Derived.Test.YtleaknfjbbccgaaGreatDoorMa17
import Derived.Test.YtleaknfjbbccgaaGreatDoorMa19
import Derived.Test.YtleaknfjbbccgaaGreatDoorMa20
namespace Go.Proofs.YtleaknfjbbccgaaGreatDoor
open Plain
set_option maxHeartbeats 16000000
set_option maxRecDepth 100000
open Go.RowKit Go.Shelf Go.Sort
theorem qN7 (w:World) (a b:Nat):(w.drewN a).drewN b=w.drewN (a+b):=by unfold World.drewN;simp [Nat.add_assoc]
theorem qD1 {l u:List Int} {k:Nat} (h:l.getD k 0≠u.getD k 0):l≠u:=fun e=>h (by rw [e])
theorem xE1 {l u:List Int} {n:Nat} (h1:l.length=n) (h2:u.length=n) (h:∀ j,j<n->l.getD j 0=u.getD j 0):l=u:=by
 refine List.ext_getElem (by omega) fun i a b=>?_;have:=h i (by omega);rwa [zA,zB a,zA,zB b] at this
theorem tsI_c (p1 p2:Option Addr) (n1 n2 c1 c2:Nat) (l1 l2:List Int) (e1:l1.length=n1) (e2:l2.length=n2) (hl:n1<=9223372036854775807) (w:World) (h1:Vi.encI.Holds w p1 l1) (h2:Vi.encI.Holds w p2 l2) :
  Calls Tryz.prog 32 #[.slice p1 n1 c1,.slice p2 n2 c2] w fun e w'=>e=.returned (.bool (decide (l1=l2)))/\∃ q,w'=w.drewN q:=by
 by_cases hne:n1=n2
 ·subst hne
  by_cases h0:0<n1
  ·obtain ⟨b1,o1,rfl,_,g1⟩:=h1.at 0 (by omega)
   obtain ⟨b2,o2,rfl,_,g2⟩:=h2.at 0 (by omega);have G1:=hid (show ∀ j,j<n1->w.cell? ⟨b1,o1+j,none⟩=some (.int .i64 (l1.getD j 0)) from fun j hj=>by
    have:=g1 j 0 _ (by omega) (by decide) rfl;rwa [show j*Vi.encI.n+0=j from by show j*1+0=j;omega] at this)
   have G2:=hid (show ∀ j,j<n1->w.cell? ⟨b2,o2+j,none⟩=some (.int .i64 (l2.getD j 0)) from fun j hj=>by
    have:=g2 j 0 _ (by omega) (by decide) rfl;rwa [show j*Vi.encI.n+0=j from by show j*1+0=j;omega] at this)
   have HE:=hid (fun (h:∀ j,j<n1->l1.getD j 0=l2.getD j 0)=>show decide (l1=l2)=true from decide_eq_true (xE1 e1 e2 h));have HF:=hid (fun (k:Nat) (h:l1.getD k 0≠l2.getD k 0)=>show decide (l1=l2)=false from decide_eq_false (qD1 h));generalize decide (l1=l2)=R at HE HF;clear g1 g2 h1 h2 e1 e2;go_enter Tryz.func32,Tryz.ntmps32
   go_wp2
   go_loopg [5] n1 (fun gg s5 wr=>∃ k q:Nat,k<=n1/\n1-k<=gg/\s5=.int .i64 k/\wr=w.drewN q/\Aside (∀ j,j<k->l1.getD j 0=l2.getD j 0))
   case atStart=>exact ⟨0,0,zG _,by omega,rfl,rfl,(show Aside _ from fun j hj=>by omega)⟩
   case round =>
    obtain ⟨k,q,hk,hg,rfl,rfl,A⟩:=hrel;by_cases hlt:k<n1
    ·have g1:=G1.out k hlt
     have g2:=G2.out k hlt;have hlt':(k:Int)<(n1:Int):=by omega
     have F0:=hid (HF.out k);have A0:=hid (fun (h:l1.getD k 0=l2.getD k 0)=>show ∀ j,j<k+1->l1.getD j 0=l2.getD j 0 from fun j hj=>by
      by_cases hjk:j=k
      ·rw [hjk];exact h
      ·exact A.out j (by omega))
     generalize l1.getD k 0=x at g1 F0 A0;generalize l2.getD k 0=y at g2 F0 A0;by_cases hxy:x=y
     ·have hx:(x != y)=false:=by simp [hxy]
      have A1:=hid (A0.out hxy);clear A F0 A0 hxy;go_wp2
      go_quiet (fail)
      go_wp2
      go_roundg (n1-(k+1))
      case measure=>omega
      case rel=>exact ⟨k+1,_,by omega,by omega,by go_num,rfl,(show Aside _ from A1.out)⟩
     ·have hx:(x != y)=true:=by simp [hxy]
      have HR:=hid (F0.out hxy);clear A F0 A0 hxy;go_wp2
      go_quiet (fail)
      go_wp2;go_ret
      exact ⟨by rw [HR.out];rfl,q+nq,qN7 w q nq⟩
    ·have hlt':¬ (k:Int)<(n1:Int):=by omega
     have HR:=hid (HE.out fun j hj=>A.out j (by omega));clear A;go_wp2;go_ret
     exact ⟨by rw [HR.out];rfl,_,rfl⟩
  ·have e0:n1=0:=by omega
   subst e0;have a1:=List.eq_nil_of_length_eq_zero e1;have a2:=List.eq_nil_of_length_eq_zero e2;subst a1;subst a2;clear h1 h2 e1 e2;go_enter Tryz.func32,Tryz.ntmps32
   go_wp2;refine wp_loop_rounds 1 ?_;rw [rounds_succ];go_wp2;go_ret
   exact ⟨rfl,0,rfl⟩
 ·have hb:((n1:Int) != (n2:Int))=true:=by simp;omega
  have HR:=hid (show decide (l1=l2)=false from decide_eq_false fun e=>hne (by rw [<- e1,<- e2,e]));generalize decide (l1=l2)=R at HR;clear h1 h2 e1 e2;go_enter Tryz.func32,Tryz.ntmps32
  go_wp2;go_ret
  exact ⟨by rw [HR.out];rfl,0,rfl⟩
theorem qN8 {R S:List Vi.RT} {k:Nat} (h:(R.getD k default).x.report≠(S.getD k default).x.report) (hk:k<R.length) (hl:R.length=S.length):R.map (·.x.report)≠S.map (·.x.report):=fun e=>h (by
 have:=congrArg (·[k]?) e;simp only [List.getElem?_map,List.getElem?_eq_getElem hk,List.getElem?_eq_getElem (show k<S.length by omega),Option.map_some] at this;rw [zA,zB hk,zA,zB (show k<S.length by omega)];exact Option.some.inj this)
theorem xQ3 {R S:List Vi.RT} {N:Nat} (hR:R.length=N) (hS:S.length=N) (h:∀ j,j<N->(R.getD j default).x.report=(S.getD j default).x.report):R.map (·.x.report)=S.map (·.x.report):=by
 refine List.ext_getElem (by rw [zL,zL];omega) fun i a b=>?_;rw [zL] at a b;have:=h i (by omega);rw [zA,zB a,zA,zB b] at this;rw [List.getElem_map,List.getElem_map];exact this
theorem xE2 (R S:List Vi.RT) (N:Nat) (hR:R.length=N) (hS:S.length=N) (hN:N<=300) (p1 p2:Option Addr) (c1 c2:Nat) (w:World) (h1:Vi.OutT w p1 R) (h2:Vi.OutT w p2 S) (b1:∀ r,r∈R->r.x.report.length<=1000) :
  Calls Tryz.prog 22 #[.slice p1 N c1,.slice p2 N c2] w fun e w'=>e=.returned (.bool (decide (R.map (·.x.report)=S.map (·.x.report))))/\∃ q,w'=w.drewN q:=by
 by_cases h0:0<N
 ·obtain ⟨a1,o1,rfl,l1,g1⟩:=Vi.qM0 h1.hd (by omega)
  obtain ⟨a2,o2,rfl,l2,g2⟩:=Vi.qM0 h2.hd (by omega);have mem:∀ (Q:List Vi.RT) k,k<Q.length->Q.getD k default∈Q:=fun Q k hk=>by rw [zA,zB hk];exact zH _
  have C1:=hid (show ∀ X,Below w.heap.size w X->∀ k,k<N->X.cell? ⟨a1,o1+k*11+10,none⟩=some (.slice (R.getD k default).pr (R.getD k default).x.report.length (R.getD k default).cr)/\Vi.encI.Holds X (R.getD k default).pr (R.getD k default).x.report/\(R.getD k default).x.report.length<=1000 from fun X bx k hk =>
   ⟨by
    have:=(bx.cell (p:=⟨a1,o1+(k*11+10),none⟩) l1).trans (g1 k (by omega) 10 (by decide));rwa [<- Nat.add_assoc] at this,((h1.td _ (mem R k (by omega))).r.holds).grow bx,b1 _ (mem R k (by omega))⟩)
  have C2:=hid (show ∀ X,Below w.heap.size w X->∀ k,k<N->X.cell? ⟨a2,o2+k*11+10,none⟩=some (.slice (S.getD k default).pr (S.getD k default).x.report.length (S.getD k default).cr)/\Vi.encI.Holds X (S.getD k default).pr (S.getD k default).x.report from fun X bx k hk =>
   ⟨by
    have:=(bx.cell (p:=⟨a2,o2+(k*11+10),none⟩) l2).trans (g2 k (by omega) 10 (by decide));rwa [<- Nat.add_assoc] at this,((h2.td _ (mem S k (by omega))).r.holds).grow bx⟩)
  have HE:=hid (fun (h:∀ j,j<N->(R.getD j default).x.report=(S.getD j default).x.report)=>show decide (R.map (·.x.report)=S.map (·.x.report))=true from decide_eq_true (xQ3 hR hS h));have HF:=hid (fun (k:Nat) (hk:k<N) (h:(R.getD k default).x.report≠(S.getD k default).x.report)=>show decide (R.map (·.x.report)=S.map (·.x.report))=false from decide_eq_false (qN8 h (by omega) (by omega)));generalize decide (R.map (·.x.report)=S.map (·.x.report))=D at HE HF;clear g1 g2 h1 h2 hR hS l1 l2 mem b1;have hNN:((N:Int)==(N:Int))=true:=by simp
  go_enter Tryz.func22,Tryz.ntmps22
  go_wp2
  go_loopg [5] N (fun gg s4 wr=>∃ k:Nat,k<=N/\N-k<=gg/\s4=.int .i64 k/\Aside (∃ q,wr=w.drewN q)/\Aside (∀ j,j<k->(R.getD j default).x.report=(S.getD j default).x.report))
  case atStart=>exact ⟨0,zG _,by omega,rfl,(show Aside _ from ⟨0,rfl⟩),(show Aside _ from fun j hj=>by omega)⟩
  case round =>
   obtain ⟨k,hk,hg,rfl,AQ,A⟩:=hrel;have HQ:=hid AQ.out;have AB:Aside (Below w.heap.size w wr):=(show Aside _ from by obtain ⟨q,hq⟩:=HQ.out;rw [hq];exact ⟨rfl,rfl,rfl,yN,fun _ _=>rfl⟩);clear AQ;by_cases hlt:k<N
   ·have hltz:(k:Int)<(N:Int):=by omega
    obtain ⟨u1,v1,lr⟩:=C1.out _ AB.out k hlt;obtain ⟨u2,v2⟩:=C2.out _ AB.out k hlt;have F0:=hid (HF.out k hlt);have A0:=hid (fun (h:(R.getD k default).x.report=(S.getD k default).x.report)=>show ∀ j,j<k+1->(R.getD j default).x.report=(S.getD j default).x.report from fun j hj=>by
     by_cases hjk:j=k
     ·rw [hjk];exact h
     ·exact A.out j (by omega))
    generalize (R.getD k default).x.report=x at u1 v1 lr F0 A0;generalize (S.getD k default).x.report=y at u2 v2 F0 A0;generalize (R.getD k default).pr=q1 at u1 v1;generalize (R.getD k default).cr=d1 at u1;generalize (S.getD k default).pr=q2 at u2 v2;generalize (S.getD k default).cr=d2 at u2;have bq:=hid (fun (X:World) (q:Nat)=>(show Below X.heap.size X (X.drewN q) from ⟨rfl,rfl,rfl,yN,fun _ _=>rfl⟩));have KS:=hid (fun q=>tsI_c q1 q2 x.length y.length d1 d2 x y rfl rfl (by omega) (wr.drewN q) (v1.grow (bq.out wr q)) (v2.grow (bq.out wr q)));have AB2:=hid (fun m=>show ∃ q,wr.drewN m=w.drewN q from by obtain ⟨q,hq⟩:=HQ.out;exact ⟨q+m,by rw [hq,qN7]⟩);by_cases hxy:x=y
    ·have A1:=hid (A0.out hxy)
     rw [decide_eq_true hxy] at KS;generalize x.length=xn at *;generalize y.length=yn at *;clear A F0 A0 hxy v1 v2 lr AB;go_wp2
     go_quiet ((go_at_call 32;exact Calls.quiet_of (KS.out _)))
     go_wp2
     go_roundg (N-(k+1))
     case measure=>omega
     case rel=>exact ⟨k+1,by omega,by omega,by go_num,(show Aside _ from AB2.out _),(show Aside _ from A1.out)⟩
    ·have HR:=hid (F0.out hxy)
     rw [decide_eq_false hxy] at KS;generalize x.length=xn at *;generalize y.length=yn at *;clear A F0 A0 hxy v1 v2 lr AB;go_wp2
     go_quiet ((go_at_call 32;exact Calls.quiet_of (KS.out _)))
     go_wp2;go_ret
     exact ⟨by rw [HR.out];rfl,AB2.out _⟩
   ·have hltz:¬ (k:Int)<(N:Int):=by omega
    have HR:=hid (HE.out fun j hj=>A.out j (by omega));clear A AB;go_wp2;go_ret
    exact ⟨by rw [HR.out];rfl,HQ.out⟩
 ·have e0:N=0:=by omega
  subst e0;have a1:=List.eq_nil_of_length_eq_zero hR;have a2:=List.eq_nil_of_length_eq_zero hS;subst a1;subst a2;clear h1 h2 hR hS b1;go_enter Tryz.func22,Tryz.ntmps22
  go_wp2;refine wp_loop_rounds 1 ?_;rw [rounds_succ];go_wp2;go_ret
  exact ⟨rfl,0,rfl⟩
theorem yO1 (w:World) (a b:Obj):((w.alloc a).alloc b)=grow (w.drewN 0) #[a,b]:=by
 show _=grow w #[a,b];rw [alloc_eq_grow,alloc_eq_grow,grow_grow];rfl
theorem xE3 (c:Cf) (lp mp:Option Addr) (lc mc:Nat) (s:Sp) (x:Nat) (hx:x<16) (hs:SOk s) (hc:mayC c=true) (h3:c.ls.length=3) (w:World) (hI:CfI w c (.slice lp c.ls.length lc) (.slice mp c.ms.length mc)) :
  Calls Tryz.prog 27 #[cfV c (.slice lp c.ls.length lc) (.slice mp c.ms.length mc),aggX s,.int .i64 (x:Int)] w fun e w'=>e=.returned (.bool (zY4 c x s))/\∃ q os',w'=grow (w.drewN q) os':=by
 obtain ⟨kd,who,it,cn,li,id',la,ke⟩:=s;obtain ⟨_,hw,hl,hk⟩:=hs;dsimp only at hw hl hk;obtain ⟨wn,rfl⟩:∃ wn:Nat,who=(wn:Int):=⟨who.toNat,by omega⟩;obtain ⟨ln,rfl⟩:∃ ln:Nat,la=(ln:Int):=⟨la.toNat,by omega⟩;have hl3:ln<3:=by omega
 have hw4:wn<4:=by omega
 obtain ⟨z,hz,hz256⟩:=lab_nat hc ln;have HP:=hid (show zY4 c x ⟨kd,(wn:Int),it,cn,li,id',(ln:Int),ke⟩=(!(Plain.reads (x:Int) wn)&&(decide (1<=kd/\kd<=6) || (decide (kd=7\/kd=8)&&decide (z &&& x=0)))) by
  show (!(Plain.reads (x:Int) (wn:Int).toNat)&&(decide (1<=kd/\kd<=6) || (decide (kd=7\/kd=8)&&decide ((qN c.ls (ln:Int).toNat).toNat &&& (x:Int).toNat=0))))=_;unfold qN;rw [zK,zK,zK,hz,zK])
 generalize zY4 c x ⟨kd,(wn:Int),it,cn,li,id',(ln:Int),ke⟩=P at HP;obtain ⟨lb,lo,el,lcl⟩:=zD7 hI.sl (by omega);subst el;have hlz:=lcl ln (by omega);rw [hz] at hlz;have hlb:lb<w.heap.size:=zC (w:=w) (h:=hlz);have hand:=LabP.zN0 z x (by omega) (by omega);obtain ⟨W2,hW2⟩:∃ W2,W2=(w.alloc (boxC c (.slice (some ⟨lb,lo,none⟩) c.ls.length lc) (.slice mp c.ms.length mc))).alloc (boxX ⟨kd,(wn:Int),it,cn,li,id',(ln:Int),ke⟩):=⟨_,rfl⟩;have HG:=hid (show ∃ q os',W2=grow (w.drewN q) os' from ⟨0,_,by rw [hW2];exact yO1 w _ _⟩);have b2:Below w.heap.size w W2:=by rw [hW2];exact (yO.alloc yN _).alloc (by simp) _
 obtain ⟨C,hCC⟩:∃ C,C=w.heap.size:=⟨_,rfl⟩;obtain ⟨S,hSS⟩:∃ S,S=w.heap.size+1:=⟨_,rfl⟩;have c1:W2.cell? ⟨C,1,none⟩=some (.slice (some ⟨lb,lo,none⟩) 3 lc):=by
  rw [hW2,hCC,yJ (w:=w.alloc _) (h:=by simp),zM _ _ _ _ rfl];show some (Value.slice (some ⟨lb,lo,none⟩) c.ls.length lc)=_;rw [h3]
 have rs:W2.rowIs S 32 8 (spF ⟨kd,(wn:Int),it,cn,li,id',(ln:Int),ke⟩):=by rw [hW2,hSS,show w.heap.size+1=(w.alloc (boxC c (.slice (some ⟨lb,lo,none⟩) c.ls.length lc) (.slice mp c.ms.length mc))).heap.size by simp];exact rowX _ _
 have s0:W2.cell? ⟨S,0,none⟩=some (.int .i64 kd):=rs.cell (i:=0) (by decide);have s1:W2.cell? ⟨S,1,none⟩=some (.int .i64 (wn:Int)):=rs.cell (i:=1) (by decide);have s6:W2.cell? ⟨S,6,none⟩=some (.int .i64 (ln:Int)):=rs.cell (i:=6) (by decide);have lz:W2.cell? ⟨lb,lo+ln,none⟩=some (.int .i64 (z:Int)):=(b2.cell (p:=⟨lb,lo+ln,none⟩) hlb).trans hlz;have hbit:=xP9 x wn (by omega);have hw0:¬ (wn:Int)<0:=by omega
 have hl0:¬ (ln:Int)<0:=by omega
 have hl3z:(ln:Int)<3:=by omega
 clear hlz lcl hI hc hw hl rs b2 hz hlb h3;go_enter Tryz.func27,Tryz.ntmps27
 go_upto_region 1 with fail
 rw [<- hW2,<- hSS,<- hCC];clear hW2 hSS hCC;cases hr:Plain.reads (x:Int) wn with
 | true =>
  rw [hr,if_pos rfl] at hbit;rw [hr] at HP;clear hr;go_wp2;go_ret
  exact ⟨by rw [HP.out];rfl,HG.out⟩
 | false =>
  rw [hr,if_neg (by decide)] at hbit;rw [hr] at HP;clear hr;have:kd=1\/kd=2\/kd=3\/kd=4\/kd=5\/kd=6\/(kd=7\/kd=8)\/kd=9\/kd=10\/kd=11:=by omega
  rcases this with rfl|rfl|rfl|rfl|rfl|rfl|h78|rfl|rfl|rfl
  case inr.inr.inr.inr.inr.inr.inl =>
   by_cases hq:z &&& x=0
   ·have hqz:(((z &&& x:Nat):Int)==0)=true:=by rw [hq];rfl
    have HP2:=hid (show P=true by rw [HP.out];rcases h78 with rfl|rfl<;>simp [hq]);clear HP;rcases h78 with rfl|rfl
    ·go_wp2
     go_ret
     exact ⟨by rw [HP2.out];rfl,HG.out⟩
    ·go_wp2
     go_ret
     exact ⟨by rw [HP2.out];rfl,HG.out⟩
   ·have hqz:(((z &&& x:Nat):Int)==0)=false:=by rw [beq_eq_false_iff_ne];omega
    have HP2:=hid (show P=false by rw [HP.out];rcases h78 with rfl|rfl<;>simp [hq]);clear HP;rcases h78 with rfl|rfl
    ·go_wp2
     go_ret
     exact ⟨by rw [HP2.out];rfl,HG.out⟩
    ·go_wp2
     go_ret
     exact ⟨by rw [HP2.out];rfl,HG.out⟩
  all_goals (go_wp2;go_ret;exact ⟨by rw [HP.out];simp,HG.out⟩)
def qN9 (c:Cf) (l:List Sp) (N:Nat) (x:Int) (w:World) (e:Ending) (w':World):Prop :=
 ∃ q k D TB R,e=.returned (.tuple #[.slice q N k,.slice (some ⟨TB,0,none⟩) N N,.bool true])/\D.length=N/\R.length=N/\R.map (·.x)=(tlsF c (Wo.start c) l).map toTd/\D.map (·.x)=Vi.zI8 x (R.map (·.x))/\(∀ t,t∈R.map (·.x)->TdB t)/\Vi.OutT w' q D/\Vi.OutT w' (some ⟨TB,0,none⟩) R/\Below w.heap.size w w'
theorem zD6 (c:Cf) (lp mp:Option Addr) (lc mc:Nat) (p:Option Addr) (N cap:Nat) (l:List Sp) (hN:l.length=N) (h300:N<=300) (hc:mayC c=true) (hn:c.n=4) (hL:c.ls.length=3) (hm:c.ms.length=2) (hwf:∀ s,s∈l->(Lit.int .i64 s.id).wf=true) (hp0:p=none->cap=0) (x:Int) (hx:0<=x/\x<16)
  (w:World) (hI:CfI w c (.slice lp c.ls.length lc) (.slice mp c.ms.length mc)) (htb:∀ k,2<=k->k<=6->w.cell? ⟨0,k,none⟩=some (.int .i64 (k:Nat))) (hp:qA.Holds w p l) :
  Calls Tryz.prog 20 #[cfV c (.slice lp c.ls.length lc) (.slice mp c.ms.length mc),.slice p N cap,.int .i64 x] w (qN9 c l N x w):=by
 have hb0:0<w.heap.size:=zC (w:=w) (h:=htb 2 (by omega) (by omega));obtain ⟨W2,hW2⟩:∃ W2,W2=w.alloc (boxC c (.slice lp c.ls.length lc) (.slice mp c.ms.length mc)):=⟨_,rfl⟩;have b2:Below w.heap.size w W2:=by rw [hW2];exact yO.alloc yN _
 have C2:=hid (show xW W2 w.heap.size c (.slice lp c.ls.length lc) (.slice mp c.ms.length mc) by rw [hW2];exact xW.start w c (.slice lp c.ls.length lc) (.slice mp c.ms.length mc));have BW:=hid (fun X (bx:Below W2.heap.size W2 X)=>b2.trans (bx.mono b2.size));have HTW:=hid (fun X (bx:Below W2.heap.size W2 X) k (h2:2<=k) (h6:k<=6)=>((BW.out X bx).cell (p:=⟨0,k,none⟩) hb0).trans (htb k h2 h6));have IW:=hid (fun X (bx:Below W2.heap.size W2 X)=>hI.grow (BW.out X bx));have HO4:=hid (hp.grow b2);have HC:=hid (And.intro hc (And.intro hn (And.intro hL hm)));have HWF:=hid hwf;have HP4:=hid hp0;have HNL:=hid hN;have B4:=hid (Below.refl W2.heap.size W2);clear hb0 htb hI hp hc hn hL hm hwf hp0 hN b2;go_enter Tryz.func20,Tryz.ntmps20
 go_upto_region 1 with fail
 rw [<- hW2];obtain ⟨CB,hCB⟩:∃ CB,CB=w.heap.size:=⟨_,rfl⟩;rw [<- hCB] at C2 ⊢;clear hW2;have CW:=hid (fun X (bx:Below W2.heap.size W2 X)=>(C2.out.below bx C2.out.lt:xW X CB c (.slice lp c.ls.length lc) (.slice mp c.ms.length mc)));clear C2 hCB;have D4:=hid (show Below W2.heap.size W2 W2.drew from yO.drew);obtain ⟨v6,w6,hrun6,sp6,_⟩:=(SpR.nil W2.drew).app (zG _) (p:=p) (c:=cap) (HO4.out.grow D4.out) HP4.out (by have:=HNL.out;omega);obtain ⟨p6,c6,rfl,hh6,_⟩:=sp6.form;rw [List.nil_append,HNL.out] at hrun6;rw [List.nil_append] at hh6;have RUN6:=hid hrun6;have HH6:=hid hh6;have B6:=hid (show Below W2.heap.size W2 w6 from B4.out.trans ((D4.out.trans (sp6.be.mono D4.out.size)).mono B4.out.size));have G6:=hid (show Below W2.drew.heap.size W2.drew w6 from sp6.be);have mixed:Tryz.prog.follows .mixedOrders=true:=by kernel_rfl
 have TS:(fun w':World=>w'.cell? ⟨CB,0,none⟩=some (.int .i64 c.n)/\w'.cell? ⟨CB,1,none⟩=some (.slice lp c.ls.length lc)/\w'.cell? ⟨CB,2,none⟩=some (.int .i64 c.t)/\w'.cell? ⟨CB,3,none⟩=some (.slice mp c.ms.length mc)/\w'.cell? ⟨CB,4,none⟩=some (.int .i64 c.cap)) W2.drew:=by
  obtain ⟨k0,k1,k2,k3,k4⟩:=CW.out _ (B4.out.trans (D4.out.mono B4.out.size));exact ⟨k0,k1,k2,k3,k4⟩
 have T6:(fun w':World=>w'.cell? ⟨CB,0,none⟩=some (.int .i64 c.n)/\w'.cell? ⟨CB,1,none⟩=some (.slice lp c.ls.length lc)/\w'.cell? ⟨CB,2,none⟩=some (.int .i64 c.t)/\w'.cell? ⟨CB,3,none⟩=some (.slice mp c.ms.length mc)/\w'.cell? ⟨CB,4,none⟩=some (.int .i64 c.cap)) w6:=by
  obtain ⟨k0,k1,k2,k3,k4⟩:=CW.out _ B6.out;exact ⟨k0,k1,k2,k3,k4⟩
 have K7:=zX6 c lp mp lc mc 4 2 p6 N c6 l HNL.out h300 HC.out.1 HC.out.2.1 HC.out.2.2.2 (fun _=>by rw [HC.out.2.2.1];omega) HWF.out w6 (IW.out _ B6.out) (HTW.out _ B6.out) HH6.out;clear hrun6 sp6 hh6;refine yP.begin (fun w':World=>w'.cell? ⟨CB,0,none⟩=some (.int .i64 c.n)/\w'.cell? ⟨CB,1,none⟩=some (.slice lp c.ls.length lc)/\w'.cell? ⟨CB,2,none⟩=some (.int .i64 c.t)/\w'.cell? ⟨CB,3,none⟩=some (.slice mp c.ms.length mc)/\w'.cell? ⟨CB,4,none⟩=some (.int .i64 c.cap)) 8 mixed ?_;refine yP.take 0 (cfV c (.slice lp c.ls.length lc) (.slice mp c.ms.length mc)) rfl (by kernel_rfl) (by kernel_rfl) (by kernel_rfl) (by kernel_rfl) (fun _ _ _ h=>h) TS (by rfl) (fun w' hS=>?_) ?_
 ·(obtain ⟨q0,q1,q2,q3,q4⟩:=hS;go_simp)
 (try simp only [Act.put,List.setIfInBounds_toArray,List.set_cons_zero,List.set_cons_succ])
 refine yP.take 1 (.slice p N cap) rfl (by kernel_rfl) (by kernel_rfl) (by kernel_rfl) (by kernel_rfl) (fun _ _ _ h=>h) TS (by rfl) (fun w' hS=>?_) ?_
 ·(go_simp)
 (try simp only [Act.put,List.setIfInBounds_toArray,List.set_cons_zero,List.set_cons_succ])
 refine yP.one 2 (by kernel_rfl) rfl (by rfl) (fun K hK=>?_);refine kM _ _ 28 rfl 28 rfl (.slice none 0 0) (.slice p N cap) (by simp [Act.eval]) (by simp [Act.eval]) RUN6.out ?_;refine hK.out _ _ (fun _=>T6) ?_;clear hK K
 (try simp only [Act.put,List.setIfInBounds_toArray,List.set_cons_zero,List.set_cons_succ])
 refine yP.one 3 (by kernel_rfl) rfl (by rfl) (fun K hK=>?_);go_simp;refine K7.mono ?_;rintro e w7 ⟨TB,R,rfl,hR,hx,ho,_,b7⟩;have B7:=hid (show Below W2.heap.size W2 w7 from B6.out.trans (b7.mono B6.out.size));have G7:=hid (show Below W2.heap.size W2 w7 from (D4.out.trans (G6.out.mono D4.out.size)).trans (b7.mono (zI D4.out.size G6.out.size)));have T7:(fun w':World=>w'.cell? ⟨CB,0,none⟩=some (.int .i64 c.n)/\w'.cell? ⟨CB,1,none⟩=some (.slice lp c.ls.length lc)/\w'.cell? ⟨CB,2,none⟩=some (.int .i64 c.t)/\w'.cell? ⟨CB,3,none⟩=some (.slice mp c.ms.length mc)/\w'.cell? ⟨CB,4,none⟩=some (.int .i64 c.cap)) w7:=by
  obtain ⟨k0,k1,k2,k3,k4⟩:=CW.out _ B7.out;exact ⟨k0,k1,k2,k3,k4⟩
 have HR:=hid hR;have HX:=hid hx;have HO:=hid ho;refine hK.out _ _ (fun _=>T7) ?_;clear hK K K7 hR hx ho b7 T6 TS RUN6 HH6
 (try simp only [Act.put,List.setIfInBounds_toArray,List.set_cons_zero,List.set_cons_succ])
 refine yP.one 4 (by kernel_rfl) rfl (by rfl) (fun K hK=>?_);go_simp;refine hK.out _ _ (fun _=>T7) ?_;clear hK K
 (try simp only [Act.put,List.setIfInBounds_toArray,List.set_cons_zero,List.set_cons_succ])
 refine yP.take 5 (.slice (some ⟨TB,0,none⟩) N N) rfl (by kernel_rfl) (by kernel_rfl) (by kernel_rfl) (by kernel_rfl) (fun _ _ _ h=>h) T7 (by rfl) (fun w' hS=>?_) ?_
 ·(go_simp)
 (try simp only [Act.put,List.setIfInBounds_toArray,List.set_cons_zero,List.set_cons_succ])
 refine yP.take 6 (.int .i64 0) rfl (by kernel_rfl) (by kernel_rfl) (by kernel_rfl) (by kernel_rfl) (fun _ _ _ h=>h) T7 (by rfl) (fun w' hS=>?_) ?_
 ·(go_simp)
 (try simp only [Act.put,List.setIfInBounds_toArray,List.set_cons_zero,List.set_cons_succ])
 refine yP.take 7 (.slice (some ⟨TB,0,none⟩) N N) rfl (by kernel_rfl) (by kernel_rfl) (by kernel_rfl) (by kernel_rfl) (fun _ _ _ h=>h) T7 (by rfl) (fun w' hS=>?_) ?_
 ·(go_simp)
 (try simp only [Act.put,List.setIfInBounds_toArray,List.set_cons_zero,List.set_cons_succ])
 refine yP.one 8 (by kernel_rfl) rfl (by rfl) (fun K hK=>?_);go_simp;refine hK.out _ _ (fun h=>absurd rfl h) ?_;clear hK K;refine yP.done (by kernel_rfl) ?_;clear T7;have HTD:=hid (show ∀ t,t∈R.map (·.x)->TdB t from fun t ht=>by
  rw [HX.out] at ht;obtain ⟨u,hu,rfl⟩:=zZ.1 ht;exact TdB.of (tls_bd (n:=4) (m:=2) HC.out.1 HC.out.2.1 HC.out.2.2.2 l 0 (Wo.start c) (Wok.start HC.out.2.1) (by have:=HNL.out;omega) u hu))
 obtain ⟨e0,e1,e2,e3,e4⟩:=CW.out _ B7.out;have K5:=of_16 c HC.out.2.1 HC.out.1 (.slice lp c.ls.length lc) (.slice mp c.ms.length mc) (some ⟨TB,0,none⟩) N N R HR.out x hx HTD.out h300 w7 (IW.out _ B7.out) HO.out;clear HO4 HP4 G7 D4 B6 G6 mixed
 go_upto_region 2 with fail
 go_wp2_with fail
 refine K5.mono ?_;rintro e w8 ⟨q8,c8,D8,rfl,hl8,hx8,ho8,b8⟩;have FIN:=hid (show qN9 c l N x w (.returned (.tuple #[.slice q8 N c8,.slice (some ⟨TB,0,none⟩) N N,.bool true])) w8 from ⟨q8,c8,D8,TB,R,rfl,hl8,HR.out,HX.out,hx8,HTD.out,ho8,HO.out.grow b8,BW.out _ (B7.out.trans (b8.mono B7.out.size))⟩);have hNN:((N:Int)==(N:Int))=true:=by simp
 clear K5 hl8 hx8 ho8 b8 e0 e1 e2 e3 e4;go_wp2;go_ret3
 exact FIN.out
theorem yD6 (c:Cf) (lp mp:Option Addr) (lc mc:Nat) (p:Option Addr) (N cap:Nat) (l:List Sp) (hN:l.length=N) (h300:N<=300) (hc:mayC c=true) (hL:c.ls.length=3) (hs:∀ s,s∈l->SOk s) (hp0:p=none->cap=0) (x:Nat) (hx:x<16) (p2:Option Addr) (n2 cap2:Nat) (ds:List Sp) (hn2:ds.length=n2) (hbig2:n2<=9223372036854775807) (hd:∀ d,d∈ds->InX d)
  (w:World) (hI:CfI w c (.slice lp c.ls.length lc) (.slice mp c.ms.length mc)) (hp:qA.Holds w p l) (hp2:qA.Holds w p2 ds) :
  Calls Tryz.prog 19 #[cfV c (.slice lp c.ls.length lc) (.slice mp c.ms.length mc),.slice p N cap,.int .i64 (x:Int),.slice p2 n2 cap2] w fun e w'=>∃ q k,e=.returned (.slice q N k)/\(q=none->k=0)/\qA.Holds w' q (otL c x l ds N)/\Below w.heap.size w w':=by
 obtain ⟨W2,hW2⟩:∃ W2,W2=w.alloc (boxC c (.slice lp c.ls.length lc) (.slice mp c.ms.length mc)):=⟨_,rfl⟩;have b2:Below w.heap.size w W2:=by rw [hW2];exact yO.alloc yN _
 have C2:=hid (show xW W2 w.heap.size c (.slice lp c.ls.length lc) (.slice mp c.ms.length mc) by rw [hW2];exact xW.start w c (.slice lp c.ls.length lc) (.slice mp c.ms.length mc));have BW:=hid (fun X (bx:Below W2.heap.size W2 X)=>b2.trans (bx.mono b2.size));have IW:=hid (fun X (bx:Below W2.heap.size W2 X)=>hI.grow (BW.out X bx));have OW:=hid (fun X (bx:Below W2.heap.size W2 X)=>hp2.grow (BW.out X bx));have OL:=hid (show 0<n2->∃ b o,p2=some ⟨b,o,none⟩/\b<W2.heap.size from fun h0=>by
  obtain ⟨b,o,e,h,_⟩:=zR2 hp2 (by omega);exact ⟨b,o,e,zF h b2.size⟩)
 obtain ⟨v4,W4,hrun4,sp4,_⟩:=(SpR.nil W2).app (zG _) (p:=p) (c:=cap) (hp.grow b2) hp0 (by omega);obtain ⟨pb,cb,rfl,_,hcb⟩:=sp4.form;rw [List.nil_append] at hrun4 sp4;rw [hN] at hrun4 sp4;have RUN4:=hid hrun4;have B34:=hid sp4.be;have BS0:=hid (sp4.bs hN.symm);have HPB:=hid hcb;have HC:=hid (And.intro hc hL);have HS:=hid hs;have HD:=hid hd;have HN:=hid hN;have HN2:=hid hn2;clear hrun4 sp4 hcb hI hp hp2 hc hL hs hp0 hn2 hd hN b2;have mixed:Tryz.prog.follows .mixedOrders=true:=by kernel_rfl
 go_enter Tryz.func19,Tryz.ntmps19
 go_upto_region 1 with fail
 rw [<- hW2];obtain ⟨CB,hCB⟩:∃ CB,CB=w.heap.size:=⟨_,rfl⟩;rw [<- hCB] at C2 ⊢;clear hW2;have HCB:=hid (show CB<W2.heap.size from C2.out.lt);have CW:=hid (fun X (bx:Below W2.heap.size W2 X)=>(C2.out.below bx C2.out.lt:xW X CB c (.slice lp c.ls.length lc) (.slice mp c.ms.length mc)));clear C2 hCB
 go_wp2_with (first|(at_builtin;refine yY _ _ 28 RUN4.out (by rfl) (by rfl) (by rfl) (by rfl) (by rfl) ?_)|fail)
 clear RUN4
 go_loopg [10,11] N (fun gg s10 _ wx=>∃ k:Nat,k<=N/\k<=n2/\N-k<=gg/\s10=.int .i64 k/\Aside (BS W2.heap.size wx pb N (otL c x l ds k))/\Aside (Below W2.heap.size W2 wx))
 case atStart=>exact ⟨0,zG _,zG _,by omega,rfl,(show Aside _ from fun h0=>by
   obtain ⟨g,M,f,h1,h2,h3,h4,h5⟩:=BS0.out h0;exact ⟨g,M,f,h1,h2,h3,h4,fun j q hj hq=>by rw [h5 j q hj hq,zM5 c x l ds 0 (by rw [HN.out];exact hj),if_neg (by omega)]⟩),(show Aside _ from B34.out)⟩
 case round =>
  obtain ⟨k,hkN,hkO,hg,rfl,AB,AW⟩:=hrel;clear BS0 B34;by_cases hlt:k<N
  ·have hltz:(k:Int)<(N:Int):=by omega
   have hkn:¬ (k:Int)<0:=by omega
   by_cases hltO:k<n2
   ·have hltOz:(k:Int)<(n2:Int):=by omega
    have hkt:k<l.length:=by rw [HN.out];exact hlt
    have hko:k<ds.length:=by rw [HN2.out];exact hltO
    obtain ⟨g,M,f,hpb,hgB,hrow,hM,hf⟩:=AB.out (by omega);subst hpb;obtain ⟨b3,o3,ep3,hb3b⟩:=OL.out (by omega);subst ep3;have hne3:¬ b3=g:=by omega
    have hOK:=HS.out (l.getD k default) (by rw [zA,zB hkt];exact zH _);have hIn:=HD.out (ds.getD k default) (by rw [zA,zB hko];exact zH _);have HBL:=hid (fun j (hj:j<N)=>zM5 c x l ds (k+1) (i:=j) (by rw [HN.out];exact hj));have HBK:=hid (fun j (hj:j<N)=>zM5 c x l ds k (i:=j) (by rw [HN.out];exact hj));have cell:∀ q,q<8->wr.cell? ⟨g,k*8+q,none⟩=some (spF (l.getD k default) q):=fun q hq=>by
     rw [hrow.cell (i:=k*8+q) (by omega),hf k q hlt hq,HBK.out k hlt,if_neg (by omega)]
    have HROW:=hid hrow;have HF:=hid hf;have AWH:=hid AW.out;have hgl:g<wr.heap.size:=hrow.lt
    -- what comes of it,if the row turns in the cells of k
    have FIN:=hid (fun (V:World) (y:Sp) (F:Nat->Value) (hV:V.rowIs g 32 M F) (hO:∀ j,j<M->(j<k*8\/k*8+8<=j)->F j=f j) (hy:∀ q,q<8->F (k*8+q)=spF y q) (hyy:y=otP c x (l.getD k default) (ds.getD k default))=>show BS W2.heap.size V (some ⟨g,0,none⟩) N (otL c x l ds (k+1)) from fun _ =>
     ⟨g,M,F,rfl,hgB,hV,hM,fun j q hj hq=>by
      by_cases e:j=k
      ·subst e
       rw [hy q hq,HBL.out j hj,if_pos ⟨by omega,by rw [HN2.out];omega⟩,hyy]
      ·rw [hO (j*8+q) (by omega) (by omega),HF.out j q hj hq,HBK.out j hj,HBL.out j hj]
       by_cases h1:j<k/\j<ds.length
       ·rw [if_pos h1,if_pos ⟨by omega,h1.2⟩]
       ·rw [if_neg h1,if_neg (fun x=>h1 ⟨by omega,x.2⟩)]⟩)
    have HEQ:=hid (show otP c x (l.getD k default) (ds.getD k default)=if zY4 c x (l.getD k default) then otS (l.getD k default) (ds.getD k default) else l.getD k default from rfl);have HFK:=hid (fun q (hq:q<8)=>show f (k*8+q)=spF (l.getD k default) q by rw [HF.out k q hlt hq,HBK.out k hlt,if_neg (by omega)]);have KP:=fun q os=>xE3 c lp mp lc mc (l.getD k default) x hx hOK HC.out.1 HC.out.2 (grow (wr.drewN q) os) (IW.out _ (Vi.qB8 AWH.out AWH.out.size q os));have OC:=hid (fun X (bx:Below W2.heap.size W2 X)=>show X.cell? ⟨b3,o3+k*8,none⟩=some (.int .i64 (ds.getD k default).kind)/\X.cell? ⟨b3,o3+k*8+1,none⟩=some (.int .i64 (ds.getD k default).who)/\X.cell? ⟨b3,o3+k*8+2,none⟩=some (.int .i64 (ds.getD k default).item)/\X.cell? ⟨b3,o3+k*8+3,none⟩=some (.int .i64 (ds.getD k default).count)/\X.cell? ⟨b3,o3+k*8+4,none⟩=some (.int .i64 (ds.getD k default).life)/\X.cell? ⟨b3,o3+k*8+5,none⟩=some (.int .i64 (ds.getD k default).id)/\X.cell? ⟨b3,o3+k*8+6,none⟩=some (.int .i64 (ds.getD k default).label)/\X.cell? ⟨b3,o3+k*8+7,none⟩=some (.int .i64 (ds.getD k default).key) by
     obtain ⟨b',o',e',_,hc'⟩:=zR2 (OW.out X bx) (by omega);have e1:=Option.some.inj e';have e2:b3=b':=congrArg Addr.block e1;have e3:o3=o':=congrArg Addr.off e1;subst e2;subst e3;exact hc' k hko)
    generalize otP c x (l.getD k default) (ds.getD k default)=yy at FIN HEQ;generalize hpv:zY4 c x (l.getD k default)=pv at KP HEQ;clear hpv;generalize l.getD k default=t at *;generalize ds.getD k default=o at *;obtain ⟨kd,wh,it,cn,li,idn,la,ke⟩:=t;obtain ⟨ok,ow,oi,on,ol,od,oa,oy⟩:=o;dsimp only at OC hIn;obtain ⟨k0,k1,k2,k3,k4⟩:=CW.out _ AWH.out;have hcb:CB<wr.heap.size:=zF HCB.out AWH.out.size;have m0:∀ q os,(grow (wr.drewN q) os).cell? ⟨CB,0,none⟩=some (.int .i64 c.n):=fun q os=>cell_grown hcb k0 q os;have m1:∀ q os,(grow (wr.drewN q) os).cell? ⟨CB,1,none⟩=some (.slice lp c.ls.length lc):=fun q os=>cell_grown hcb k1 q os;have m2:∀ q os,(grow (wr.drewN q) os).cell? ⟨CB,2,none⟩=some (.int .i64 c.t):=fun q os=>cell_grown hcb k2 q os;have m3:∀ q os,(grow (wr.drewN q) os).cell? ⟨CB,3,none⟩=some (.slice mp c.ms.length mc):=fun q os=>cell_grown hcb k3 q os;have m4:∀ q os,(grow (wr.drewN q) os).cell? ⟨CB,4,none⟩=some (.int .i64 c.cap):=fun q os=>cell_grown hcb k4 q os;have u0:∀ q os,(grow (wr.drewN q) os).cell? ⟨g,k*8,none⟩=some (.int .i64 kd):=fun q os=>cell_grown hgl (cell 0 (by decide)) q os;have u1:∀ q os,(grow (wr.drewN q) os).cell? ⟨g,k*8+1,none⟩=some (.int .i64 wh):=fun q os=>cell_grown hgl (cell 1 (by decide)) q os;have u2:∀ q os,(grow (wr.drewN q) os).cell? ⟨g,k*8+2,none⟩=some (.int .i64 it):=fun q os=>cell_grown hgl (cell 2 (by decide)) q os;have u3:∀ q os,(grow (wr.drewN q) os).cell? ⟨g,k*8+3,none⟩=some (.int .i64 cn):=fun q os=>cell_grown hgl (cell 3 (by decide)) q os;have u4:∀ q os,(grow (wr.drewN q) os).cell? ⟨g,k*8+4,none⟩=some (.int .i64 li):=fun q os=>cell_grown hgl (cell 4 (by decide)) q os;have u5:∀ q os,(grow (wr.drewN q) os).cell? ⟨g,k*8+5,none⟩=some (.int .i64 idn):=fun q os=>cell_grown hgl (cell 5 (by decide)) q os;have u6:∀ q os,(grow (wr.drewN q) os).cell? ⟨g,k*8+6,none⟩=some (.int .i64 la):=fun q os=>cell_grown hgl (cell 6 (by decide)) q os;have u7:∀ q os,(grow (wr.drewN q) os).cell? ⟨g,k*8+7,none⟩=some (.int .i64 ke):=fun q os=>cell_grown hgl (cell 7 (by decide)) q os;clear cell hrow hf AB AW k0 k1 k2 k3 k4;go_wp2
    go_quiet_grown (first|(go_at_call 27;exact Calls.grown_of (KP _ _))|fail)
    obtain ⟨w5,hw5⟩:∃ w5,w5=grow (wr.drewN nq) osq:=⟨_,rfl⟩;rw [<- hw5];have B5r:=hid (show Below wr.heap.size wr w5 by rw [hw5];exact Vi.qB8 yO yN nq osq);have B5:=hid (show Below W2.heap.size W2 w5 from AWH.out.trans (B5r.out.mono AWH.out.size));have ROW5:=hid (HROW.out.of_block (B5r.out.block g hgl));clear hw5 KP m0 m1 m2 m3 m4 u0 u1 u2 u3 u4 u5 u6 u7;cases pv with
    | false =>
     have NX:=hid (FIN.out w5 ⟨kd,wh,it,cn,li,idn,la,ke⟩ f ROW5.out (fun _ _ _=>rfl) (fun q hq=>HFK.out q hq) (by rw [HEQ.out];rfl));clear FIN HEQ OC;go_wp2
     go_roundg (N-(k+1))
     case measure=>omega
     case rel=>exact ⟨k+1,by omega,by omega,by omega,by go_num,(show Aside _ from NX.out),(show Aside _ from B5.out)⟩
    | true =>
     have hE2:yy=otS ⟨kd,wh,it,cn,li,idn,la,ke⟩ ⟨ok,ow,oi,on,ol,od,oa,oy⟩:=by rw [HEQ.out];rfl
     have HE2:=hid hE2;clear HEQ hE2;obtain ⟨v0,v1,v2,v3,v4,v5,v6,v7⟩:=OC.out _ B5.out;obtain ⟨W6,hW6⟩:∃ W6,W6=w5.alloc (boxD ⟨ok,ow,oi,on,ol,od,oa,oy⟩):=⟨_,rfl⟩;have B6r:=hid (show Below w5.heap.size w5 W6 by rw [hW6];exact yO.alloc yN _);have B6:=hid (show Below W2.heap.size W2 W6 from B5.out.trans (B6r.out.mono B5.out.size));have RD6:=hid (show W6.rowIs w5.heap.size 70 8 (spF ⟨ok,ow,oi,on,ol,od,oa,oy⟩) by rw [hW6];exact qM6 w5 _);have ROW6:=hid (ROW5.out.of_block (B6r.out.block g ROW5.out.lt));have hgD:g<w5.heap.size:=ROW5.out.lt
     go_upto_region 7 with fail
     rw [<- hW6];obtain ⟨DB,hDB⟩:∃ DB,DB=w5.heap.size:=⟨_,rfl⟩;rw [<- hDB] at RD6 hgD ⊢;clear hW6 hDB v0 v1 v2 v3 v4 v5 v6 v7 B6r;have hn1:¬ DB=g:=by omega
     have hn2':¬ g=DB:=by omega
     have d0:W6.cell? ⟨DB,0,none⟩=some (.int .i64 ok):=RD6.out.cell (i:=0) (by decide);have d1:W6.cell? ⟨DB,1,none⟩=some (.int .i64 ow):=RD6.out.cell (i:=1) (by decide);have d2:W6.cell? ⟨DB,2,none⟩=some (.int .i64 oi):=RD6.out.cell (i:=2) (by decide);have d3:W6.cell? ⟨DB,3,none⟩=some (.int .i64 on):=RD6.out.cell (i:=3) (by decide);have d4:W6.cell? ⟨DB,4,none⟩=some (.int .i64 ol):=RD6.out.cell (i:=4) (by decide);have d5:W6.cell? ⟨DB,5,none⟩=some (.int .i64 od):=RD6.out.cell (i:=5) (by decide);have d6:W6.cell? ⟨DB,6,none⟩=some (.int .i64 oa):=RD6.out.cell (i:=6) (by decide);have d7:W6.cell? ⟨DB,7,none⟩=some (.int .i64 oy):=RD6.out.cell (i:=7) (by decide);have r0:W6.cell? ⟨g,k*8,none⟩=some (.int .i64 kd):=by rw [ROW6.out.cell (i:=k*8) (by omega)];exact congrArg some (HFK.out 0 (by decide))
     have z0:=ROW6.out.frozen (k*8);have r1:W6.cell? ⟨g,k*8+1,none⟩=some (.int .i64 wh):=by rw [ROW6.out.cell (i:=k*8+1) (by omega)];exact congrArg some (HFK.out 1 (by decide))
     have z1:=ROW6.out.frozen (k*8+1);have r2:W6.cell? ⟨g,k*8+2,none⟩=some (.int .i64 it):=by rw [ROW6.out.cell (i:=k*8+2) (by omega)];exact congrArg some (HFK.out 2 (by decide))
     have z2:=ROW6.out.frozen (k*8+2);have r3:W6.cell? ⟨g,k*8+3,none⟩=some (.int .i64 cn):=by rw [ROW6.out.cell (i:=k*8+3) (by omega)];exact congrArg some (HFK.out 3 (by decide))
     have z3:=ROW6.out.frozen (k*8+3);have r4:W6.cell? ⟨g,k*8+4,none⟩=some (.int .i64 li):=by rw [ROW6.out.cell (i:=k*8+4) (by omega)];exact congrArg some (HFK.out 4 (by decide))
     have z4:=ROW6.out.frozen (k*8+4);have r5:W6.cell? ⟨g,k*8+5,none⟩=some (.int .i64 idn):=by rw [ROW6.out.cell (i:=k*8+5) (by omega)];exact congrArg some (HFK.out 5 (by decide))
     have z5:=ROW6.out.frozen (k*8+5);have r6:W6.cell? ⟨g,k*8+6,none⟩=some (.int .i64 la):=by rw [ROW6.out.cell (i:=k*8+6) (by omega)];exact congrArg some (HFK.out 6 (by decide))
     have z6:=ROW6.out.frozen (k*8+6);have r7:W6.cell? ⟨g,k*8+7,none⟩=some (.int .i64 ke):=by rw [ROW6.out.cell (i:=k*8+7) (by omega)];exact congrArg some (HFK.out 7 (by decide))
     have z7:=ROW6.out.frozen (k*8+7);have P2:=fun X=>yZ ok 2 hIn.kind.1 hIn.kind.2 (by omega) (by omega) X;have P6:=fun X=>yZ ok 6 hIn.kind.1 hIn.kind.2 (by omega) (by omega) X;have P3:=fun X=>yZ oi 3 hIn.item.1 hIn.item.2 (by omega) (by omega) X;have e2:0<=ok%2/\ok%2<2:=by omega
     have e6:0<=ok%6/\ok%6<6:=by omega
     clear hIn;have HS2:=hid (show otS ⟨kd,wh,it,cn,li,idn,la,ke⟩ ⟨ok,ow,oi,on,ol,od,oa,oy⟩=if kd=7\/kd=8 then ⟨7+ok%2,wh,it,on,li,idn,la,oy⟩ else ⟨1+ok%6,wh,oi%3,on,ol,od,la,ke⟩ from rfl);generalize ok%2=x2 at P2 e2 HS2;generalize ok%6=x6 at P6 e6 HS2;generalize oi%3=x3 at P3 HS2;clear hOK OC;by_cases h78:kd=7\/kd=8
     ·have HY:=hid (show yy=⟨7+x2,wh,it,on,li,idn,la,oy⟩ by rw [HE2.out,HS2.out,if_pos h78])
      obtain ⟨W7,hW7⟩:∃ W7,W7=((W6.setCell ⟨g,k*8,none⟩ (.int .i64 (7+x2))).setCell ⟨g,k*8+7,none⟩ (.int .i64 oy)).setCell ⟨g,k*8+3,none⟩ (.int .i64 on):=⟨_,rfl⟩;have R7:=hid (show W7.rowIs g 32 M _ by rw [hW7];exact ((ROW6.out.set (k*8) (.int .i64 (7+x2))).set (k*8+7) (.int .i64 oy)).set (k*8+3) (.int .i64 on));have B7:=hid (show Below W2.heap.size W2 W7 by rw [hW7];exact ((B6.out.setCell (p:=⟨g,k*8,none⟩) hgB _).setCell (p:=⟨g,k*8+7,none⟩) hgB _).setCell (p:=⟨g,k*8+3,none⟩) hgB _);have NX:=hid (FIN.out W7 ⟨7+x2,wh,it,on,li,idn,la,oy⟩ _ R7.out (fun j hj hq=>by (try dsimp only);rw [if_neg (by omega),if_neg (by omega),if_neg (by omega)]) (fun q hq=>by
       have:q=0\/q=1\/q=2\/q=3\/q=4\/q=5\/q=6\/q=7:=by omega
       rcases this with rfl|rfl|rfl|rfl|rfl|rfl|rfl|rfl
       ·(try dsimp only);rw [if_neg (by omega),if_neg (by omega),if_pos (by omega)];rfl
       ·(try dsimp only);rw [if_neg (by omega),if_neg (by omega),if_neg (by omega)];exact HFK.out 1 (by decide)
       ·(try dsimp only);rw [if_neg (by omega),if_neg (by omega),if_neg (by omega)];exact HFK.out 2 (by decide)
       ·(try dsimp only);rw [if_pos (by omega)];rfl
       ·(try dsimp only);rw [if_neg (by omega),if_neg (by omega),if_neg (by omega)];exact HFK.out 4 (by decide)
       ·(try dsimp only);rw [if_neg (by omega),if_neg (by omega),if_neg (by omega)];exact HFK.out 5 (by decide)
       ·(try dsimp only);rw [if_neg (by omega),if_neg (by omega),if_neg (by omega)];exact HFK.out 6 (by decide)
       ·(try dsimp only);rw [if_neg (by omega),if_pos (by omega)];rfl) HY.out.symm)
      clear FIN HE2 HS2 HY P6 P3 e6;rcases h78 with rfl|rfl
      ·go_wp2_with fail
       refine (P2 _).mono ?_;rintro e w9 ⟨rfl,hx9⟩;have hy9:=hx9.symm;clear hx9 P2;subst hy9;go_wp2;rw [<- hW7]
       go_roundg (N-(k+1))
       case measure=>omega
       case rel=>exact ⟨k+1,by omega,by omega,by omega,by go_num,(show Aside _ from NX.out),(show Aside _ from B7.out)⟩
      ·go_wp2_with fail
       refine (P2 _).mono ?_;rintro e w9 ⟨rfl,hx9⟩;have hy9:=hx9.symm;clear hx9 P2;subst hy9;go_wp2;rw [<- hW7]
       go_roundg (N-(k+1))
       case measure=>omega
       case rel=>exact ⟨k+1,by omega,by omega,by omega,by go_num,(show Aside _ from NX.out),(show Aside _ from B7.out)⟩
     ·have HY:=hid (show yy=⟨1+x6,wh,x3,on,ol,od,la,ke⟩ by rw [HE2.out,HS2.out,if_neg h78])
      obtain ⟨W7,hW7⟩:∃ W7,W7=((((W6.setCell ⟨g,k*8,none⟩ (.int .i64 (1+x6))).setCell ⟨g,k*8+2,none⟩ (.int .i64 x3)).setCell ⟨g,k*8+3,none⟩ (.int .i64 on)).setCell ⟨g,k*8+4,none⟩ (.int .i64 ol)).setCell ⟨g,k*8+5,none⟩ (.int .i64 od):=⟨_,rfl⟩;have R7:=hid (show W7.rowIs g 32 M _ by rw [hW7];exact ((((ROW6.out.set (k*8) (.int .i64 (1+x6))).set (k*8+2) (.int .i64 x3)).set (k*8+3) (.int .i64 on)).set (k*8+4) (.int .i64 ol)).set (k*8+5) (.int .i64 od));have B7:=hid (show Below W2.heap.size W2 W7 by rw [hW7];exact ((((B6.out.setCell (p:=⟨g,k*8,none⟩) hgB _).setCell (p:=⟨g,k*8+2,none⟩) hgB _).setCell (p:=⟨g,k*8+3,none⟩) hgB _).setCell (p:=⟨g,k*8+4,none⟩) hgB _).setCell (p:=⟨g,k*8+5,none⟩) hgB _);have NX:=hid (FIN.out W7 ⟨1+x6,wh,x3,on,ol,od,la,ke⟩ _ R7.out (fun j hj hq=>by (try dsimp only);rw [if_neg (by omega),if_neg (by omega),if_neg (by omega),if_neg (by omega),if_neg (by omega)]) (fun q hq=>by
       have:q=0\/q=1\/q=2\/q=3\/q=4\/q=5\/q=6\/q=7:=by omega
       rcases this with rfl|rfl|rfl|rfl|rfl|rfl|rfl|rfl
       ·(try dsimp only);rw [if_neg (by omega),if_neg (by omega),if_neg (by omega),if_neg (by omega),if_pos (by omega)];rfl
       ·(try dsimp only);rw [if_neg (by omega),if_neg (by omega),if_neg (by omega),if_neg (by omega),if_neg (by omega)];exact HFK.out 1 (by decide)
       ·(try dsimp only);rw [if_neg (by omega),if_neg (by omega),if_neg (by omega),if_pos (by omega)];rfl
       ·(try dsimp only);rw [if_neg (by omega),if_neg (by omega),if_pos (by omega)];rfl
       ·(try dsimp only);rw [if_neg (by omega),if_pos (by omega)];rfl
       ·(try dsimp only);rw [if_pos (by omega)];rfl
       ·(try dsimp only);rw [if_neg (by omega),if_neg (by omega),if_neg (by omega),if_neg (by omega),if_neg (by omega)];exact HFK.out 6 (by decide)
       ·(try dsimp only);rw [if_neg (by omega),if_neg (by omega),if_neg (by omega),if_neg (by omega),if_neg (by omega)];exact HFK.out 7 (by decide)) HY.out.symm)
      have g7:(kd==7)=false:=by rw [beq_eq_false_iff_ne];omega
      have g8:(kd==8)=false:=by rw [beq_eq_false_iff_ne];omega
      clear FIN HE2 HS2 HY P2 e2 h78
      go_wp2_with fail
      refine (P6 _).mono ?_;rintro e w9 ⟨rfl,hx9⟩;have hy9:=hx9.symm;clear hx9 P6;subst hy9
      go_wp2_with fail
      refine (P3 _).mono ?_;rintro e w9 ⟨rfl,hx9⟩;have hy9:=hx9.symm;clear hx9 P3;subst hy9;go_wp2;rw [<- hW7]
      go_roundg (N-(k+1))
      case measure=>omega
      case rel=>exact ⟨k+1,by omega,by omega,by omega,by go_num,(show Aside _ from NX.out),(show Aside _ from B7.out)⟩
   ·have hltOz:¬ (k:Int)<(n2:Int):=by omega
    have F:=hid (show qA.Holds wr pb (otL c x l ds N) from AB.out.holds (by rw [zR6,HN.out]) (fun i hi=>by rw [<- HN.out];exact xE0 (.inr (by rw [HN2.out];omega)) i (by rw [HN.out];exact hi)));have FB:=hid AW.out;clear AB AW;go_wp2;go_ret
    exact ⟨pb,cb,rfl,HPB.out,F.out,BW.out _ FB.out⟩
  ·have hltz:¬ (k:Int)<(N:Int):=by omega
   have F:=hid (show qA.Holds wr pb (otL c x l ds N) from AB.out.holds (by rw [zR6,HN.out]) (fun i hi=>by rw [<- HN.out];exact xE0 (.inl (by rw [HN.out];omega)) i (by rw [HN.out];exact hi)));have FB:=hid AW.out;clear AB AW;go_wp2;go_ret
   exact ⟨pb,cb,rfl,HPB.out,F.out,BW.out _ FB.out⟩
theorem xE4 {c:Cf} {l:List Sp} {R:List Vi.RT} (h:R.map (·.x)=(tlsF c (Wo.start c) l).map toTd):R.map (·.x.report)=(tlsF c (Wo.start c) l).map (·.report):=by
 have e:=congrArg (List.map Vi.Td.report) h;rw [List.map_map,List.map_map] at e;exact e
theorem wf_64 {x:Int} (h:In64 x):(Lit.int .i64 x).wf=true:=by
 have h1:IntKind.i64.min<=x:=by show (-9223372036854775808:Int)<=x;exact h.1
 have h2:x<=IntKind.i64.max:=by show x<=9223372036854775807;exact h.2
 show (decide (IntKind.i64.min<=x)&&decide (x<=IntKind.i64.max))=true;rw [decide_eq_true h1,decide_eq_true h2];rfl
theorem eqlP (a f h u:Int) (w:World):(binOp .eql 53 (.agg #[.int .i64 a,.int .i64 0,.int .i64 0,.int .i64 f,.int .i64 h,.int .i64 u]) (.agg #[.int .i64 a,.int .i64 0,.int .i64 0,.int .i64 f,.int .i64 h,.int .i64 u])).run Tryz.prog w=.ok (.bool true) w:=by
 have u3:=Tryz.underlying3;have a3:=Tryz.isAgg3;have z3:=Tryz.sizeOf3;have u4:=Tryz.underlying34;have a4:=Tryz.isAgg34;have z4:=Tryz.sizeOf34;have hS:Tryz.prog.underlying 38=some (.struct (Tryz.prog.fieldsOf 38)):=by kernel_rfl
 have hp:Tryz.prog.stoodInHeld 38=false:=by kernel_rfl
 have hS2:Tryz.prog.underlying 53=some (.struct (Tryz.prog.fieldsOf 53)):=by kernel_rfl
 have hp2:Tryz.prog.stoodInHeld 53=false:=by kernel_rfl
 have aS:=Tryz.isAgg38;have zS:=Tryz.sizeOf38;rw [run_eql_struct,show (10000:Nat)=9999+1 from rfl,run_equalIn_agg w 9999 53 _ _ hS2 hp2];simp only [Program.fieldsOf,Tryz.underlying53];clear hS2 hp2;have e2:∀ w:World,(Op.equalIn 9999 38 (.agg #[.int .i64 0,.int .i64 0,.int .i64 f,.int .i64 h,.int .i64 u]) (.agg #[.int .i64 0,.int .i64 0,.int .i64 f,.int .i64 h,.int .i64 u])).run Tryz.prog w=.ok true w:=fun w=>by
  rw [show (9999:Nat)=9998+1 from rfl,run_equalIn_agg w 9998 38 _ _ hS hp];simp only [Program.fieldsOf,Tryz.underlying38];clear hS hp;go_simp
 clear hS hp;go_simp
theorem qO0:∀ w:Fin 4,IntKind.i64.wrap (2^w.val)=((2^w.val:Nat):Int)/\2^w.val<16/\(2^w.val/2^w.val%2==1)=true:=by decide +kernel
theorem zM6 {c:Cf} {x:Int} {l u:List Sp} (hc:mayC c=true) (hn:c.n=4) (hm:c.ms.length=2) (hx:0<=x/\x<16) (hp:Pairs c x l u) (hl:l.length<=300) (hr:(tlsF c (Wo.start c) l).map (·.report)=(tlsF c (Wo.start c) u).map (·.report)) {i:Nat} (hi:Plain.reads x i=true) (k:Nat):(runW c (Wo.start c) l).ask i k=(runW c (Wo.start c) u).ask i k/\(runW c (Wo.start c) l).rk i k=(runW c (Wo.start c) u).rk i k:=by
 have h:=(xD8 hc hn hm hx hp 0 _ _ (by omega) (Wok.start hn) (Wok.start hn) (Wob.start hc) (Wob.start hc) (fun j hj=>absurd hj (by show ¬ j<0;omega)) (Blr.rfl c x _) hr).2;exact ⟨h.ask i k hi,h.rk i k hi⟩
theorem yO2 (p:Option Addr) (n cap:Nat) (ls:List Int) (hbig:n<=9223372036854775807) (hn:ls.length=n) (hwf:∀ x,x∈ls->In64 x) (ti mi mo:Int) (hti:In64 ti) (hmi:In64 mi) (hmo:In64 mo) (p2:Option Addr) (n2 cap2:Nat) (ds:List Sp) (hn2:ds.length=n2) (hbig2:n2<=9223372036854775807) (hd:∀ d,d∈ds->InX d) (a:Int) (ha:In64 a) (p3:Option Addr) (n3 cap3:Nat) (os:List Sp) (hn3:os.length=n3) (hbig3:n3<=9223372036854775807) (ho:∀ d,d∈os->InX d)
  (w:World) (htb:∀ k,2<=k->k<=6->w.cell? ⟨0,k,none⟩=some (.int .i64 (k:Nat))) (hp:yN6 w p ls) (hp2:qA.Holds w p2 ds) (hp3:qA.Holds w p3 os) :
  Calls Tryz.prog 5 #[.slice p n cap,.int .i64 ti,.int .i64 mi,.int .i64 mo,.slice p2 n2 cap2,.int .i64 a,.slice p3 n3 cap3] w fun e w'=>e=.returned (.bool true)/\Below w.heap.size w w':=by
 have hb0:0<w.heap.size:=zC (w:=w) (h:=htb 2 (by omega) (by omega));have HTB:=hid (fun X (bx:Below w.heap.size w X) k (h2:2<=k) (h6:k<=6)=>(bx.cell (p:=⟨0,k,none⟩) hb0).trans (htb k h2 h6));have KC:=cfg_c ti mi mo hti hmi hmo p n cap ls hbig hn hwf w hp;have KS:=hid (fun X (bx:Below w.heap.size w X)=>xC6 p2 n2 cap2 120 ds hn2 hbig2 (by omega) hd X (hp2.grow bx));have KA:=fun X=>yZ a 4 ha.1 ha.2 (by omega) (by omega) X;obtain ⟨wo,hxa,hwo4⟩:∃ x:Nat,a%4=(x:Int)/\x<4:=⟨(a%4).toNat,by omega,by omega⟩;rw [hxa] at KA;obtain ⟨x,hsh,hx,hrx⟩:∃ x:Nat,IntKind.i64.wrap (2^wo)=(x:Int)/\x<16/\Plain.reads (x:Int) wo=true:=by
  have h:=qO0 ⟨wo,hwo4⟩;exact ⟨2^wo,h.1,h.2.1,by unfold Plain.reads;rw [zK];exact h.2.2⟩
 have HRX0:=hid hrx;have HSH:=hid hsh;have hw0:¬ (wo:Int)<0:=by omega
 have hw4z:(wo:Int)<4:=by omega
 have hxz:0<=(x:Int)/\(x:Int)<16:=by omega
 have HXZ:=hid hxz;have HX0:=hid hx;have HO3:=hid (fun X (bx:Below w.heap.size w X)=>hp3.grow bx);have HN3:=hid (And.intro hn3 (And.intro hbig3 ho));clear hp hp2 hp3 hwf hd htb hb0 ha hti hmi hmo hxa hxz hx hn3 ho hrx hsh;go_enter Tryz.func5,Tryz.ntmps5
 go_wp2_with fail
 refine KC.mono ?_;rintro e w1 ⟨c,lp,lc,mp,mc,hm,hc4,hc3,hc2,hcc,rfl,hI,b1⟩;clear hcc;have HC:=hid (And.intro hm (And.intro hc4 (And.intro hc3 hc2)));obtain ⟨W2,hW2⟩:∃ W2,W2=w1.alloc (boxC c (.slice lp c.ls.length lc) (.slice mp c.ms.length mc)):=⟨_,rfl⟩;have b2:Below w1.heap.size w1 W2:=by rw [hW2];exact yO.alloc yN _
 have B2:=hid (show Below w.heap.size w W2 from b1.trans (b2.mono b1.size));have C2:=hid (show xW W2 w1.heap.size c (.slice lp c.ls.length lc) (.slice mp c.ms.length mc) by rw [hW2];exact xW.start w1 c (.slice lp c.ls.length lc) (.slice mp c.ms.length mc));have I2:=hid (hI.grow b2);clear KC hm hc4 hc3 hc2 hI b1 b2
 go_upto_region 2 with fail
 rw [<- hW2];obtain ⟨CB,hCB⟩:∃ CB,CB=w1.heap.size:=⟨_,rfl⟩;rw [<- hCB] at C2 ⊢;clear hW2 hCB;have CW:=hid (fun X (bx:Below W2.heap.size W2 X)=>(C2.out.below bx C2.out.lt:xW X CB c (.slice lp c.ls.length lc) (.slice mp c.ms.length mc)));have IW:=hid (fun X (bx:Below W2.heap.size W2 X)=>I2.out.grow bx);have BW:=hid (fun X (bx:Below W2.heap.size W2 X)=>B2.out.trans (bx.mono B2.out.size));clear C2 I2
 go_wp2_with fail
 refine (KA _).mono ?_;rintro e w9 ⟨rfl,hx9⟩;have hy9:=hx9.symm;clear hx9 KA;subst hy9;have K3:=KS.out W2 (BW.out _ yO)
 go_wp2_with fail
 refine K3.mono ?_;rintro e w3 ⟨q,kc,L,rfl,sp,hL,hok⟩;obtain ⟨N,hN⟩:∃ N,N=L.length:=⟨_,rfl⟩;have hN1:N<=120:=by omega
 rw [<- hN] at sp ⊢;have HN:=hid hN.symm;have HOK:=hid hok;have HI5:=hid (show ∀ s,s∈L->(Lit.int .i64 s.id).wf=true from fun s hs=>xP6 (hok s hs).1);have HPR:=hid (show Pairs c x L (otL c x L os N) from xD9 hok N);have HOW:=hid (show ∀ s,s∈otL c x L os N->(Lit.int .i64 s.id).wf=true from fun s hs=>wf_64 (qN6 (fun s hs=>by have:=(hok s hs).1;exact ⟨by omega,by omega⟩) (fun s hs=>(HN3.out.2.2 s hs).id) s hs));have B3:=hid (show Below W2.heap.size W2 w3 from sp.be);have SB:=hid sp.both;clear K3 KS sp hok hL hN
 go_upto_region 4 with fail
 have D3:=hid (show Below w3.heap.size w3 w3.drew from yO.drew);have BD3:=hid (show Below W2.heap.size W2 w3.drew from B3.out.trans (D3.out.mono B3.out.size));obtain ⟨k0,k1,k2,k3,k4⟩:=CW.out _ B3.out;have KO:=yD6 c lp mp lc mc q N kc L HN.out (by omega) HC.out.1 HC.out.2.2.1 HOK.out SB.out.2 x HX0.out p3 n3 cap3 os HN3.out.1 HN3.out.2.1 HN3.out.2.2 w3.drew (IW.out _ BD3.out) (SB.out.1.grow D3.out) (HO3.out _ (BW.out _ BD3.out));have hsh:=HSH.out
 go_region_held3 (fun w'=>w'.cell? ⟨CB,0,none⟩=some (.int .i64 c.n)/\w'.cell? ⟨CB,1,none⟩=some (.slice lp c.ls.length lc)/\w'.cell? ⟨CB,2,none⟩=some (.int .i64 c.t)/\w'.cell? ⟨CB,3,none⟩=some (.slice mp c.ms.length mc)/\w'.cell? ⟨CB,4,none⟩=some (.int .i64 c.cap)) (go_keep)
  ((go_at_call 19;refine KO.mono ?_;rintro e w4 ⟨q5,c5,rfl,hq5,ho5,b5⟩;have B4:=hid (show Below W2.heap.size W2 w4 from BD3.out.trans (b5.mono BD3.out.size));have G4:=hid (show Below w3.heap.size w3 w4 from D3.out.trans (b5.mono D3.out.size));have HQ5:=hid hq5;have HO5:=hid ho5;obtain ⟨d0,d1,d2,d3,d4⟩:=CW.out _ B4.out;clear hq5 ho5 b5))
 clear KO d0 d1 d2 d3 d4 k0 k1 k2 k3 k4 D3 BD3;have SL:=hid (show qA.Holds w4 q L from SB.out.1.grow G4.out);have hn5:(otL c x L os N).length=N:=by rw [zR6];exact HN.out
 have HNO:=hid hn5;clear hn5;have D4:=hid (show Below w4.heap.size w4 w4.drew from yO.drew);have BD4:=hid (show Below W2.heap.size W2 w4.drew from B4.out.trans (D4.out.mono B4.out.size));obtain ⟨k0,k1,k2,k3,k4⟩:=CW.out _ B4.out;have K5:=zD6 c lp mp lc mc q N kc L HN.out (by omega) HC.out.1 HC.out.2.1 HC.out.2.2.1 HC.out.2.2.2 HI5.out SB.out.2 x HXZ.out w4.drew (IW.out _ BD4.out) (HTB.out _ (BW.out _ BD4.out)) (SL.out.grow D4.out);go_wp2
 go_region_held3 (fun w'=>w'.cell? ⟨CB,0,none⟩=some (.int .i64 c.n)/\w'.cell? ⟨CB,1,none⟩=some (.slice lp c.ls.length lc)/\w'.cell? ⟨CB,2,none⟩=some (.int .i64 c.t)/\w'.cell? ⟨CB,3,none⟩=some (.slice mp c.ms.length mc)/\w'.cell? ⟨CB,4,none⟩=some (.int .i64 c.cap)) (go_keep)
  ((go_at_call 20;refine K5.mono ?_;rintro e w5 ⟨q4,c4,D,TB,R,rfl,hD,hR,hRx,hDx,hTd,oD,oR,b5⟩;have B5:=hid (show Below W2.heap.size W2 w5 from BD4.out.trans (b5.mono BD4.out.size));have G5:=hid (show Below w4.heap.size w4 w5 from D4.out.trans (b5.mono D4.out.size));have HRN:=hid hR;have HRX:=hid hRx;have HTD:=hid hTd;have OR:=hid oR;obtain ⟨d0,d1,d2,d3,d4⟩:=CW.out _ B5.out;clear hD hR hRx hDx hTd oD oR b5))
 clear K5 d0 d1 d2 d3 d4 k0 k1 k2 k3 k4 D4 BD4;have D5:=hid (show Below w5.heap.size w5 w5.drew from yO.drew);have BD5:=hid (show Below W2.heap.size W2 w5.drew from B5.out.trans (D5.out.mono B5.out.size));obtain ⟨k0,k1,k2,k3,k4⟩:=CW.out _ B5.out;have K6:=zD6 c lp mp lc mc q5 N c5 (otL c x L os N) HNO.out (by omega) HC.out.1 HC.out.2.1 HC.out.2.2.1 HC.out.2.2.2 HOW.out HQ5.out x HXZ.out w5.drew (IW.out _ BD5.out) (HTB.out _ (BW.out _ BD5.out)) ((HO5.out.grow G5.out).grow D5.out);go_wp2
 go_region_held3 (fun w'=>w'.cell? ⟨CB,0,none⟩=some (.int .i64 c.n)/\w'.cell? ⟨CB,1,none⟩=some (.slice lp c.ls.length lc)/\w'.cell? ⟨CB,2,none⟩=some (.int .i64 c.t)/\w'.cell? ⟨CB,3,none⟩=some (.slice mp c.ms.length mc)/\w'.cell? ⟨CB,4,none⟩=some (.int .i64 c.cap)) (go_keep)
  ((go_at_call 20;refine K6.mono ?_;rintro e w7 ⟨q6,c6,E,TB6,S,rfl,hE,hS,hSx,hEx,hTd6,oE,oS,b6⟩;have B7:=hid (show Below W2.heap.size W2 w7 from BD5.out.trans (b6.mono BD5.out.size));have G7:=hid (show Below w5.heap.size w5 w7 from D5.out.trans (b6.mono D5.out.size));have HSN:=hid hS;have HSX:=hid hSx;have OS:=hid oS;obtain ⟨d0,d1,d2,d3,d4⟩:=CW.out _ B7.out;clear hE hS hSx hEx hTd6 oE oS b6))
 clear K6 d0 d1 d2 d3 d4 k0 k1 k2 k3 k4 D5 BD5 hsh;have H57:=hid (show Below w4.heap.size w4 w7 from G5.out.trans (G7.out.mono G5.out.size))
 go_upto_region 7 with fail
 have D4:=hid (show Below w7.heap.size w7 w7.drew from yO.drew);obtain ⟨v6,w6,hrun6,sp6,_⟩:=(SpR.nil w7.drew).app (zG _) (p:=q) (c:=kc) ((SL.out.grow H57.out).grow D4.out) SB.out.2 (by have:=HN.out;omega);obtain ⟨p6,c6,rfl,hh6,_⟩:=sp6.form;rw [List.nil_append,HN.out] at hrun6;rw [List.nil_append] at hh6;have RUN6:=hid hrun6;have HH6:=hid hh6;have Bx:=hid (show Below W2.heap.size W2 w6 from B7.out.trans ((D4.out.trans (sp6.be.mono D4.out.size)).mono B7.out.size));have Gx:=hid (show Below w7.drew.heap.size w7.drew w6 from sp6.be);have mixed:Tryz.prog.follows .mixedOrders=true:=by kernel_rfl
 have TS:(fun w':World=>w'.cell? ⟨CB,0,none⟩=some (.int .i64 c.n)/\w'.cell? ⟨CB,1,none⟩=some (.slice lp c.ls.length lc)/\w'.cell? ⟨CB,2,none⟩=some (.int .i64 c.t)/\w'.cell? ⟨CB,3,none⟩=some (.slice mp c.ms.length mc)/\w'.cell? ⟨CB,4,none⟩=some (.int .i64 c.cap)) w7.drew:=by
  obtain ⟨k0,k1,k2,k3,k4⟩:=CW.out _ (B7.out.trans (D4.out.mono B7.out.size));exact ⟨k0,k1,k2,k3,k4⟩
 have T6:(fun w':World=>w'.cell? ⟨CB,0,none⟩=some (.int .i64 c.n)/\w'.cell? ⟨CB,1,none⟩=some (.slice lp c.ls.length lc)/\w'.cell? ⟨CB,2,none⟩=some (.int .i64 c.t)/\w'.cell? ⟨CB,3,none⟩=some (.slice mp c.ms.length mc)/\w'.cell? ⟨CB,4,none⟩=some (.int .i64 c.cap)) w6:=by
  obtain ⟨k0,k1,k2,k3,k4⟩:=CW.out _ Bx.out;exact ⟨k0,k1,k2,k3,k4⟩
 have K7:=xD2 c lp mp lc mc 4 2 p6 N c6 L HN.out (by omega) HC.out.1 HC.out.2.1 HC.out.2.2.2 (fun _=>by rw [HC.out.2.2.1];omega) HI5.out w6 (IW.out _ Bx.out) (HTB.out _ (BW.out _ Bx.out)) HH6.out;clear hrun6 sp6 hh6;refine yP.begin (fun w':World=>w'.cell? ⟨CB,0,none⟩=some (.int .i64 c.n)/\w'.cell? ⟨CB,1,none⟩=some (.slice lp c.ls.length lc)/\w'.cell? ⟨CB,2,none⟩=some (.int .i64 c.t)/\w'.cell? ⟨CB,3,none⟩=some (.slice mp c.ms.length mc)/\w'.cell? ⟨CB,4,none⟩=some (.int .i64 c.cap)) 12 mixed ?_;refine yP.take 0 (cfV c (.slice lp c.ls.length lc) (.slice mp c.ms.length mc)) rfl (by kernel_rfl) (by kernel_rfl) (by kernel_rfl) (by kernel_rfl) (fun _ _ _ h=>h) TS (by rfl) (fun w' hS=>?_) ?_
 ·(obtain ⟨q0,q1,q2,q3,q4⟩:=hS;go_simp)
 (try simp only [Act.put,List.setIfInBounds_toArray,List.set_cons_zero,List.set_cons_succ])
 refine yP.take 1 (.slice q N kc) rfl (by kernel_rfl) (by kernel_rfl) (by kernel_rfl) (by kernel_rfl) (fun _ _ _ h=>h) TS (by rfl) (fun w' hS=>?_) ?_
 ·(go_simp)
 (try simp only [Act.put,List.setIfInBounds_toArray,List.set_cons_zero,List.set_cons_succ])
 refine yP.one 2 (by kernel_rfl) rfl (by rfl) (fun K hK=>?_);refine kM _ _ 28 rfl 28 rfl (.slice none 0 0) (.slice q N kc) (by simp [Act.eval]) (by simp [Act.eval]) RUN6.out ?_;refine hK.out _ _ (fun _=>T6) ?_;clear hK K
 (try simp only [Act.put,List.setIfInBounds_toArray,List.set_cons_zero,List.set_cons_succ])
 refine yP.one 3 (by kernel_rfl) rfl (by rfl) (fun K hK=>?_);go_simp;refine K7.mono ?_;rintro e w8 ⟨rp8,rc8,pp8,pc8,sq8,sc8,w08,P8,G08,rfl,b7,en⟩;have B8:=hid (show Below W2.heap.size W2 w8 from Bx.out.trans (b7.mono Bx.out.size));have G8:=hid (show Below w7.heap.size w7 w8 from (D4.out.trans (Gx.out.mono D4.out.size)).trans (b7.mono (zI D4.out.size Gx.out.size)));rw [HC.out.2.2.1] at en;have EN8:=hid en;have T7:(fun w':World=>w'.cell? ⟨CB,0,none⟩=some (.int .i64 c.n)/\w'.cell? ⟨CB,1,none⟩=some (.slice lp c.ls.length lc)/\w'.cell? ⟨CB,2,none⟩=some (.int .i64 c.t)/\w'.cell? ⟨CB,3,none⟩=some (.slice mp c.ms.length mc)/\w'.cell? ⟨CB,4,none⟩=some (.int .i64 c.cap)) w8:=by
  obtain ⟨k0,k1,k2,k3,k4⟩:=CW.out _ B8.out;exact ⟨k0,k1,k2,k3,k4⟩
 refine hK.out _ _ (fun _=>T7) ?_;clear hK K K7 b7 en T6 TS RUN6 HH6
 (try simp only [Act.put,List.setIfInBounds_toArray,List.set_cons_zero,List.set_cons_succ])
 refine yP.one 4 (by kernel_rfl) rfl (by rfl) (fun K hK=>?_);go_simp;refine hK.out _ _ (fun _=>T7) ?_;clear hK K
 (try simp only [Act.put,List.setIfInBounds_toArray,List.set_cons_zero,List.set_cons_succ])
 refine yP.take 5 (.slice rp8 2 rc8) rfl (by kernel_rfl) (by kernel_rfl) (by kernel_rfl) (by kernel_rfl) (fun _ _ _ h=>h) T7 (by rfl) (fun w' hS=>?_) ?_
 ·(go_simp)
 (try simp only [Act.put,List.setIfInBounds_toArray,List.set_cons_zero,List.set_cons_succ])
 refine yP.take 6 (.slice pp8 4 pc8) rfl (by kernel_rfl) (by kernel_rfl) (by kernel_rfl) (by kernel_rfl) (fun _ _ _ h=>h) T7 (by rfl) (fun w' hS=>?_) ?_
 ·(go_simp)
 (try simp only [Act.put,List.setIfInBounds_toArray,List.set_cons_zero,List.set_cons_succ])
 refine yP.take 7 (.slice sq8 4 sc8) rfl (by kernel_rfl) (by kernel_rfl) (by kernel_rfl) (by kernel_rfl) (fun _ _ _ h=>h) T7 (by rfl) (fun w' hS=>?_) ?_
 ·(go_simp)
 (try simp only [Act.put,List.setIfInBounds_toArray,List.set_cons_zero,List.set_cons_succ])
 refine yP.take 8 (.int .i64 0) rfl (by kernel_rfl) (by kernel_rfl) (by kernel_rfl) (by kernel_rfl) (fun _ _ _ h=>h) T7 (by rfl) (fun w' hS=>?_) ?_
 ·(go_simp)
 (try simp only [Act.put,List.setIfInBounds_toArray,List.set_cons_zero,List.set_cons_succ])
 refine yP.take 9 (.slice rp8 2 rc8) rfl (by kernel_rfl) (by kernel_rfl) (by kernel_rfl) (by kernel_rfl) (fun _ _ _ h=>h) T7 (by rfl) (fun w' hS=>?_) ?_
 ·(go_simp)
 (try simp only [Act.put,List.setIfInBounds_toArray,List.set_cons_zero,List.set_cons_succ])
 refine yP.take 10 (.slice pp8 4 pc8) rfl (by kernel_rfl) (by kernel_rfl) (by kernel_rfl) (by kernel_rfl) (fun _ _ _ h=>h) T7 (by rfl) (fun w' hS=>?_) ?_
 ·(go_simp)
 (try simp only [Act.put,List.setIfInBounds_toArray,List.set_cons_zero,List.set_cons_succ])
 refine yP.take 11 (.slice sq8 4 sc8) rfl (by kernel_rfl) (by kernel_rfl) (by kernel_rfl) (by kernel_rfl) (fun _ _ _ h=>h) T7 (by rfl) (fun w' hS=>?_) ?_
 ·(go_simp)
 (try simp only [Act.put,List.setIfInBounds_toArray,List.set_cons_zero,List.set_cons_succ])
 refine yP.one 12 (by kernel_rfl) rfl (by rfl) (fun K hK=>?_);go_simp;refine hK.out _ _ (fun h=>absurd rfl h) ?_;clear hK K;refine yP.done (by kernel_rfl) ?_;clear T7 D4 Bx Gx mixed
 go_upto_region 8 with fail
 have D4:=hid (show Below w8.heap.size w8 w8.drew from yO.drew);obtain ⟨v6,w6,hrun6,sp6,_⟩:=(SpR.nil w8.drew).app (zG _) (p:=q5) (c:=c5) (((HO5.out.grow H57.out).grow G8.out).grow D4.out) HQ5.out (by have:=HNO.out;omega);obtain ⟨p6,c6,rfl,hh6,_⟩:=sp6.form;rw [List.nil_append,HNO.out] at hrun6;rw [List.nil_append] at hh6;have RUN6:=hid hrun6;have HH6:=hid hh6;have Bx:=hid (show Below W2.heap.size W2 w6 from B8.out.trans ((D4.out.trans (sp6.be.mono D4.out.size)).mono B8.out.size));have Gx:=hid (show Below w8.drew.heap.size w8.drew w6 from sp6.be);have mixed:Tryz.prog.follows .mixedOrders=true:=by kernel_rfl
 have TS:(fun w':World=>w'.cell? ⟨CB,0,none⟩=some (.int .i64 c.n)/\w'.cell? ⟨CB,1,none⟩=some (.slice lp c.ls.length lc)/\w'.cell? ⟨CB,2,none⟩=some (.int .i64 c.t)/\w'.cell? ⟨CB,3,none⟩=some (.slice mp c.ms.length mc)/\w'.cell? ⟨CB,4,none⟩=some (.int .i64 c.cap)) w8.drew:=by
  obtain ⟨k0,k1,k2,k3,k4⟩:=CW.out _ (B8.out.trans (D4.out.mono B8.out.size));exact ⟨k0,k1,k2,k3,k4⟩
 have T6:(fun w':World=>w'.cell? ⟨CB,0,none⟩=some (.int .i64 c.n)/\w'.cell? ⟨CB,1,none⟩=some (.slice lp c.ls.length lc)/\w'.cell? ⟨CB,2,none⟩=some (.int .i64 c.t)/\w'.cell? ⟨CB,3,none⟩=some (.slice mp c.ms.length mc)/\w'.cell? ⟨CB,4,none⟩=some (.int .i64 c.cap)) w6:=by
  obtain ⟨k0,k1,k2,k3,k4⟩:=CW.out _ Bx.out;exact ⟨k0,k1,k2,k3,k4⟩
 have K7:=xD2 c lp mp lc mc 4 2 p6 N c6 (otL c x L os N) HNO.out (by omega) HC.out.1 HC.out.2.1 HC.out.2.2.2 (fun _=>by rw [HC.out.2.2.1];omega) HOW.out w6 (IW.out _ Bx.out) (HTB.out _ (BW.out _ Bx.out)) HH6.out;clear hrun6 sp6 hh6;refine yP.begin (fun w':World=>w'.cell? ⟨CB,0,none⟩=some (.int .i64 c.n)/\w'.cell? ⟨CB,1,none⟩=some (.slice lp c.ls.length lc)/\w'.cell? ⟨CB,2,none⟩=some (.int .i64 c.t)/\w'.cell? ⟨CB,3,none⟩=some (.slice mp c.ms.length mc)/\w'.cell? ⟨CB,4,none⟩=some (.int .i64 c.cap)) 12 mixed ?_;refine yP.take 0 (cfV c (.slice lp c.ls.length lc) (.slice mp c.ms.length mc)) rfl (by kernel_rfl) (by kernel_rfl) (by kernel_rfl) (by kernel_rfl) (fun _ _ _ h=>h) TS (by rfl) (fun w' hS=>?_) ?_
 ·(obtain ⟨q0,q1,q2,q3,q4⟩:=hS;go_simp)
 (try simp only [Act.put,List.setIfInBounds_toArray,List.set_cons_zero,List.set_cons_succ])
 refine yP.take 1 (.slice q5 N c5) rfl (by kernel_rfl) (by kernel_rfl) (by kernel_rfl) (by kernel_rfl) (fun _ _ _ h=>h) TS (by rfl) (fun w' hS=>?_) ?_
 ·(go_simp)
 (try simp only [Act.put,List.setIfInBounds_toArray,List.set_cons_zero,List.set_cons_succ])
 refine yP.one 2 (by kernel_rfl) rfl (by rfl) (fun K hK=>?_);refine kM _ _ 28 rfl 28 rfl (.slice none 0 0) (.slice q5 N c5) (by simp [Act.eval]) (by simp [Act.eval]) RUN6.out ?_;refine hK.out _ _ (fun _=>T6) ?_;clear hK K
 (try simp only [Act.put,List.setIfInBounds_toArray,List.set_cons_zero,List.set_cons_succ])
 refine yP.one 3 (by kernel_rfl) rfl (by rfl) (fun K hK=>?_);go_simp;refine K7.mono ?_;rintro e w9 ⟨rp9,rc9,pp9,pc9,sq9,sc9,w09,P9,G09,rfl,b7,en⟩;have B9:=hid (show Below W2.heap.size W2 w9 from Bx.out.trans (b7.mono Bx.out.size));have G9:=hid (show Below w8.heap.size w8 w9 from (D4.out.trans (Gx.out.mono D4.out.size)).trans (b7.mono (zI D4.out.size Gx.out.size)));rw [HC.out.2.2.1] at en;have EN9:=hid en;have T7:(fun w':World=>w'.cell? ⟨CB,0,none⟩=some (.int .i64 c.n)/\w'.cell? ⟨CB,1,none⟩=some (.slice lp c.ls.length lc)/\w'.cell? ⟨CB,2,none⟩=some (.int .i64 c.t)/\w'.cell? ⟨CB,3,none⟩=some (.slice mp c.ms.length mc)/\w'.cell? ⟨CB,4,none⟩=some (.int .i64 c.cap)) w9:=by
  obtain ⟨k0,k1,k2,k3,k4⟩:=CW.out _ B9.out;exact ⟨k0,k1,k2,k3,k4⟩
 refine hK.out _ _ (fun _=>T7) ?_;clear hK K K7 b7 en T6 TS RUN6 HH6
 (try simp only [Act.put,List.setIfInBounds_toArray,List.set_cons_zero,List.set_cons_succ])
 refine yP.one 4 (by kernel_rfl) rfl (by rfl) (fun K hK=>?_);go_simp;refine hK.out _ _ (fun _=>T7) ?_;clear hK K
 (try simp only [Act.put,List.setIfInBounds_toArray,List.set_cons_zero,List.set_cons_succ])
 refine yP.take 5 (.slice rp9 2 rc9) rfl (by kernel_rfl) (by kernel_rfl) (by kernel_rfl) (by kernel_rfl) (fun _ _ _ h=>h) T7 (by rfl) (fun w' hS=>?_) ?_
 ·(go_simp)
 (try simp only [Act.put,List.setIfInBounds_toArray,List.set_cons_zero,List.set_cons_succ])
 refine yP.take 6 (.slice pp9 4 pc9) rfl (by kernel_rfl) (by kernel_rfl) (by kernel_rfl) (by kernel_rfl) (fun _ _ _ h=>h) T7 (by rfl) (fun w' hS=>?_) ?_
 ·(go_simp)
 (try simp only [Act.put,List.setIfInBounds_toArray,List.set_cons_zero,List.set_cons_succ])
 refine yP.take 7 (.slice sq9 4 sc9) rfl (by kernel_rfl) (by kernel_rfl) (by kernel_rfl) (by kernel_rfl) (fun _ _ _ h=>h) T7 (by rfl) (fun w' hS=>?_) ?_
 ·(go_simp)
 (try simp only [Act.put,List.setIfInBounds_toArray,List.set_cons_zero,List.set_cons_succ])
 refine yP.take 8 (.int .i64 0) rfl (by kernel_rfl) (by kernel_rfl) (by kernel_rfl) (by kernel_rfl) (fun _ _ _ h=>h) T7 (by rfl) (fun w' hS=>?_) ?_
 ·(go_simp)
 (try simp only [Act.put,List.setIfInBounds_toArray,List.set_cons_zero,List.set_cons_succ])
 refine yP.take 9 (.slice rp9 2 rc9) rfl (by kernel_rfl) (by kernel_rfl) (by kernel_rfl) (by kernel_rfl) (fun _ _ _ h=>h) T7 (by rfl) (fun w' hS=>?_) ?_
 ·(go_simp)
 (try simp only [Act.put,List.setIfInBounds_toArray,List.set_cons_zero,List.set_cons_succ])
 refine yP.take 10 (.slice pp9 4 pc9) rfl (by kernel_rfl) (by kernel_rfl) (by kernel_rfl) (by kernel_rfl) (fun _ _ _ h=>h) T7 (by rfl) (fun w' hS=>?_) ?_
 ·(go_simp)
 (try simp only [Act.put,List.setIfInBounds_toArray,List.set_cons_zero,List.set_cons_succ])
 refine yP.take 11 (.slice sq9 4 sc9) rfl (by kernel_rfl) (by kernel_rfl) (by kernel_rfl) (by kernel_rfl) (fun _ _ _ h=>h) T7 (by rfl) (fun w' hS=>?_) ?_
 ·(go_simp)
 (try simp only [Act.put,List.setIfInBounds_toArray,List.set_cons_zero,List.set_cons_succ])
 refine yP.one 12 (by kernel_rfl) rfl (by rfl) (fun K hK=>?_);go_simp;refine hK.out _ _ (fun h=>absurd rfl h) ?_;clear hK K;refine yP.done (by kernel_rfl) ?_;clear T7 D4 Bx Gx mixed;obtain ⟨pb,po,epp,pcl⟩:=(EN8.out.grow G9.out).purse (by omega);obtain ⟨qb,qo,eqq,qcl⟩:=EN9.out.purse (by omega);subst epp;subst eqq;have PC:=hid (fun X (bx:Below w9.heap.size w9 X)=>show X.cell? ⟨pb,po+wo,none⟩=some (.slice (some ⟨P8 wo,0,none⟩) 2 2)/\X.cell? ⟨qb,qo+wo,none⟩=some (.slice (some ⟨P9 wo,0,none⟩) 2 2) from
  ⟨(bx.cell (p:=⟨pb,po+wo,none⟩) (zC (w:=w9) (h:=pcl wo hwo4))).trans (pcl wo hwo4),(bx.cell (p:=⟨qb,qo+wo,none⟩) (zC (w:=w9) (h:=qcl wo hwo4))).trans (qcl wo hwo4)⟩)
 clear pcl qcl;obtain ⟨x0,y0⟩:=PC.out _ yO;have K10:=qM9 w9 (HTB.out _ (BW.out _ B9.out))
 go_wp2_with fail
 refine K10.mono ?_;rintro e w10 ⟨rfl,b10⟩;have B10:=hid (show Below w.heap.size w w10 from BW.out _ (B9.out.trans (b10.mono B9.out.size)));have F10:=hid b10;clear K10 b10 x0 y0;have OR10:=hid ((((OR.out.grow G7.out).grow G8.out).grow G9.out).grow F10.out);have OS10:=hid (((OS.out.grow G8.out).grow G9.out).grow F10.out);have bq:=hid (fun (X:World) (q:Nat)=>(show Below X.heap.size X (X.drewN q) from ⟨rfl,rfl,rfl,yN,fun _ _=>rfl⟩));have K11:=hid (fun m=>xE2 R S N HRN.out HSN.out (by omega) (some ⟨TB,0,none⟩) (some ⟨TB6,0,none⟩) N N (w10.drewN m) (OR10.out.grow (bq.out w10 m)) (OS10.out.grow (bq.out w10 m)) (fun r hr=>by have:=(HTD.out r.x (zZ.2 ⟨r,hr,rfl⟩)).r;omega));by_cases hrep:R.map (·.x.report)=S.map (·.x.report)
 ·rw [decide_eq_true hrep] at K11
  have hr2:(tlsF c (Wo.start c) L).map (·.report)=(tlsF c (Wo.start c) (otL c x L os N)).map (·.report):=by rw [<- xE4 HRX.out,<- xE4 HSX.out];exact hrep
  obtain ⟨a0,r0⟩:=zM6 HC.out.1 HC.out.2.1 HC.out.2.2.2 HXZ.out HPR.out (by have:=HN.out;omega) hr2 HRX0.out 0;obtain ⟨a1,r1⟩:=zM6 HC.out.1 HC.out.2.1 HC.out.2.2.2 HXZ.out HPR.out (by have:=HN.out;omega) hr2 HRX0.out 1;have E10:=(EN8.out.grow G9.out).grow F10.out;have F10b:=EN9.out.grow F10.out;obtain ⟨u0,u1,u2,u3,u4,u5⟩:=E10.pcells (i:=wo) (k:=0) hwo4 (by omega);obtain ⟨v0,v1,v2,v3,v4,v5⟩:=E10.pcells (i:=wo) (k:=1) hwo4 (by omega);obtain ⟨s0,s1,s2,s3,s4,s5⟩:=F10b.pcells (i:=wo) (k:=0) hwo4 (by omega);obtain ⟨t0,t1,t2,t3,t4,t5⟩:=F10b.pcells (i:=wo) (k:=1) hwo4 (by omega);rw [a0] at u0;rw [r0] at u3 u4 u5;rw [a1] at v0;rw [r1] at v3 v4 v5;generalize runW c (Wo.start c) (otL c x L os N)=V at u0 u3 u4 u5 v0 v3 v4 v5 s0 s3 s4 s5 t0 t3 t4 t5;have e0:=fun w=>eqlP (V.ask wo 0) (V.rk wo 0).free (V.rk wo 0).held (V.rk wo 0).used w;have e1:=fun w=>eqlP (V.ask wo 1) (V.rk wo 1).free (V.rk wo 1).held (V.rk wo 1).used w;generalize V.ask wo 0=g0 at u0 s0 e0;generalize (V.rk wo 0).free=g1 at u3 s3 e0;generalize (V.rk wo 0).held=g2 at u4 s4 e0;generalize (V.rk wo 0).used=g3 at u5 s5 e0;generalize V.ask wo 1=h0 at v0 t0 e1;generalize (V.rk wo 1).free=h1 at v3 t3 e1;generalize (V.rk wo 1).held=h2 at v4 t4 e1;generalize (V.rk wo 1).used=h3 at v5 t5 e1;simp only [Nat.zero_mul,Nat.zero_add,Nat.one_mul] at u0 u1 u2 u3 u4 u5 s0 s1 s2 s3 s4 s5 v0 v1 v2 v3 v4 v5 t0 t1 t2 t3 t4 t5;have gd:=Tryz.guardPurse;obtain ⟨x0,y0⟩:=PC.out _ F10.out;clear hrep hr2 a0 a1 r0 r1 E10 F10b;go_wp2
  go_quiet ((go_at_call 22;exact Calls.quiet_of (K11.out _)))
  go_wp2;go_ret
  exact ⟨rfl,⟨B10.out.os,B10.out.tape,B10.out.output,B10.out.size,B10.out.block⟩⟩
 ·rw [decide_eq_false hrep] at K11
  clear hrep;go_wp2
  go_quiet ((go_at_call 22;exact Calls.quiet_of (K11.out _)))
  go_wp2;go_ret
  exact ⟨rfl,⟨B10.out.os,B10.out.tape,B10.out.output,B10.out.size,B10.out.block⟩⟩
end Go.Proofs.YtleaknfjbbccgaaGreatDoor
