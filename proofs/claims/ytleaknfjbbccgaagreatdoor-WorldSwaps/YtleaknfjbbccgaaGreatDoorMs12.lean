/- Laid together. -/
import Derived.Maps.OwnSet
import Derived.Maps.Views
import Derived.Deep.RegionHeld3
import Derived.Deep.RegionWith
import Derived.Test.YtleaknfjbbccgaaGreatDoorMs05
import Derived.Test.YtleaknfjbbccgaaGreatDoorMs06
import Derived.Test.YtleaknfjbbccgaaGreatDoorMs07
import Derived.Test.YtleaknfjbbccgaaGreatDoorMs09
import Derived.Test.YtleaknfjbbccgaaGreatDoorMs11
namespace Go.Proofs.YtleaknfjbbccgaaGreatDoor
open Plain
set_option maxHeartbeats 16000000
set_option maxRecDepth 100000
open Go.RowKit Go.Shelf Go.Sort
theorem Uw.of_un {F:Nat->Prop} {w w':World} (h:Bo.Un F w w'):Uw F w w':=⟨h.os,h.tape,h.output,h.size,h.block⟩
def bkC (A G:Nat->Nat) (vl:Nat->Value) (b:Nat->Bo.Plain.Bk) (N:Nat->Nat) (j:Nat):Value:=Bo.bkR (A (j/8)) (G (j/8)) (vl (j/8)) (b (j/8)) (N (j/8)) (j%8)
def ib (A G:Nat->Nat) (vl:Nat->Value) (k x:Nat):Prop:=x=A k\/x=G k\/(vl k).ownBlock=some x
def isBk (BB:Nat) (A G:Nat->Nat) (vl:Nat->Value) (m x:Nat):Prop:=x=BB\/∃ k,k<m/\ib A G vl k x
def up1 {α:Type} (f:Nat->α) (k:Nat) (x:α):Nat->α:=fun a=>if a=k then x else f a
theorem yR {α:Type} (f:Nat->α) (k:Nat) (x:α):up1 f k x k=x:=by unfold up1;rw [if_pos rfl]
theorem yY {α:Type} (f:Nat->α) (k:Nat) (x:α) {a:Nat} (h:a≠k):up1 f k x a=f a:=by unfold up1;rw [if_neg h]
structure BksI (B:Nat) (w:World) (BB NB:Nat) (F:Nat->Value) (A G:Nat->Nat) (vl:Nat->Value) (N:Nat->Nat) (m:Nat) (b:Nat->Bo.Plain.Bk) (T:Nat):Prop where
 row:w.rowIs BB 88 NB F
 hF:∀ j,j<m*8->F j=bkC A G vl b N j
 hN:m*8<=NB
 bk:∀ k,k<m->Bo.BkI B BB (k*8) ⟨88,NB,F⟩ (A k) (G k) w (vl k) (b k) (N k)
 ap:∀ k l x,k<m->l<m->ib A G vl k x->ib A G vl l x->k=l
 nt:∀ k,k<m->N k<=T
theorem zP1 {B R o:Nat} {X X':Win} {A G N:Nat} {w w':World} {vl:Value} {b:Bo.Plain.Bk} (h:Bo.BkI B R o X A G w vl b N) (row:w'.rowIs R X'.t X'.n (X'.f o 8 (Bo.bkR A G vl b N))) (le:o+8<=X'.n) (hx:∀ x,x=A\/x=G\/vl.ownBlock=some x->w'.heap[x]?=w.heap[x]?):Bo.BkI B R o X' A G w' vl b N :=
 ⟨row,h.ra.of_block (hx _ (.inl rfl)),h.rg.of_block (hx _ (.inr (.inl rfl))),h.ok,h.n1,h.n8,h.rd,h.lv.imp id (fun ⟨L,e,r,x⟩=>⟨L,e,r.of_block (hx L (.inr (.inr (by rw [e];rfl)))),x⟩),h.hR,h.hA,h.hG,h.RA,h.RG,h.AG,h.tk,le⟩
theorem yX2 {B R o:Nat} {X:Win} {A G N:Nat} {w:World} {vl:Value} {b:Bo.Plain.Bk} (h:Bo.BkI B R o X A G w vl b N) {x:Nat} (hx:x=A\/x=G\/vl.ownBlock=some x):(∃ l,RowI w x l)/\x≠R/\B<=x:=by
 rcases hx with rfl|rfl|e
 ·exact ⟨⟨_,h.ra⟩,fun e=>h.RA e.symm,h.hA⟩
 ·exact ⟨⟨_,h.rg⟩,fun e=>h.RG e.symm,h.hG⟩
 ·rcases h.lv with ⟨_,rfl⟩|⟨L,rfl,r,hL,hR,_⟩
  ·simp [Value.ownBlock] at e
  ·simp only [Value.ownBlock,Option.some.injEq] at e
   subst e;exact ⟨⟨_,r⟩,hR,hL⟩
namespace BksI
variable {B:Nat} {w w':World} {BB NB:Nat} {F:Nat->Value} {A G:Nat->Nat} {vl:Nat->Value} {N:Nat->Nat} {m:Nat} {b:Nat->Bo.Plain.Bk} {T:Nat} {P:Nat->Prop}
theorem own (h:BksI B w BB NB F A G vl N m b T) {x k:Nat} (hk:k<m) (hx:ib A G vl k x):(∃ l,RowI w x l)/\x≠BB/\B<=x:=yX2 (h.bk k hk) hx
theorem lt (h:BksI B w BB NB F A G vl N m b T) {x:Nat} (hx:isBk BB A G vl m x):x<w.heap.size:=by
 rcases hx with rfl|⟨k,hk,hx⟩
 ·exact h.row.lt
 ·obtain ⟨⟨l,hl⟩,_⟩:=h.own hk hx
  exact hl.lt
theorem un (h:BksI B w BB NB F A G vl N m b T) (u:Uw P w w') (hp:∀ x,isBk BB A G vl m x->¬ P x):BksI B w' BB NB F A G vl N m b T:=by
 have r:=u.rowIs h.row (hp _ (.inl rfl));refine ⟨r,h.hF,h.hN,fun k hk=>?_,h.ap,h.nt⟩;have hb:=h.bk k hk;exact zP1 hb (hb.row.of_block (u.block _ h.row.lt (hp _ (.inl rfl)))) hb.le fun x hx=>u.block x (h.lt (.inr ⟨k,hk,hx⟩)) (hp x (.inr ⟨k,hk,hx⟩))
theorem later (h:BksI B w BB NB F A G vl N m b T) {T':Nat} (hT:T<=T'):BksI B w BB NB F A G vl N m b T':=⟨h.row,h.hF,h.hN,h.bk,h.ap,fun k hk=>zI (h.nt k hk) hT⟩
theorem take (h:BksI B w BB NB F A G vl N m b T) {k:Nat} (hk:k<m) {vl':Value} {b':Bo.Plain.Bk} {N':Nat} (hb:Bo.BkI B BB (k*8) ⟨88,NB,F⟩ (A k) (G k) w' vl' b' N') (hN:N'<=N k+1) (u:Bo.Un (Bo.Fb BB (A k) (G k) (vl k)) w w') (hv:∀ x,x<w.heap.size->Bo.Fb BB (A k) (G k) vl' x->Bo.Fb BB (A k) (G k) (vl k) x) :
  BksI B w' BB NB ((⟨88,NB,F⟩:Win).f (k*8) 8 (Bo.bkR (A k) (G k) vl' b' N')) A G (up1 vl k vl') (up1 N k N') m (up1 b k b') (T+1):=by
 have r:w'.rowIs BB 88 NB ((⟨88,NB,F⟩:Win).f (k*8) 8 (Bo.bkR (A k) (G k) vl' b' N')):=hb.row;have hFb:∀ l x,l<m->l≠k->ib A G vl l x->x<w.heap.size/\¬ Bo.Fb BB (A k) (G k) (vl k) x:=fun l x hl hne hx=>by
  obtain ⟨⟨y,hy⟩,hxR,_⟩:=h.own hl hx;refine ⟨hy.lt,fun z=>?_⟩;rcases z with e|z
  ·exact hxR e
  ·exact hne (h.ap l k x hl hk hx z)
 have hFj:∀ j,j<m*8->(⟨88,NB,F⟩:Win).f (k*8) 8 (Bo.bkR (A k) (G k) vl' b' N') j=bkC A G (up1 vl k vl') (up1 b k b') (up1 N k N') j:=fun j hj=>by
  by_cases e:j/8=k
  ·obtain ⟨i,hi,rfl⟩:∃ i,i<8/\j=k*8+i:=⟨j%8,by omega,by omega⟩
   rw [Win.f_in hi];unfold bkC;rw [show (k*8+i)/8=k by omega,show (k*8+i)%8=i by omega,yR,yR,yR]
  ·rw [Win.f_out (by omega),show (⟨88,NB,F⟩:Win).F j=F j from rfl,h.hF j hj]
   unfold bkC;rw [yY vl k vl' e,yY b k b' e,yY N k N' e]
 have newest:∀ l x,l<m->ib A G (up1 vl k vl') l x->ib A G vl l x\/(l=k/\w.heap.size<=x):=fun l x hl hx=>by
  by_cases e:l=k
  ·subst e
   rcases Nat.lt_or_ge x w.heap.size with hlt|hge
   ·left
    have:Bo.Fb BB (A l) (G l) vl' x:=by
     rcases hx with e|e|e
     ·exact .inr (.inl e)
     ·exact .inr (.inr (.inl e))
     ·rw [yR] at e;exact .inr (.inr (.inr e))
    rcases hv x hlt this with e|z
    ·exfalso
     have hx2:x=A l\/x=G l\/vl'.ownBlock=some x:=by
      rcases hx with e|e|e
      ·exact .inl e
      ·exact .inr (.inl e)
      ·rw [yR] at e;exact .inr (.inr e)
     exact (yX2 hb hx2).2.1 e
    ·exact z
   ·exact .inr ⟨rfl,hge⟩
  ·left
   rcases hx with z|z|z
   ·exact .inl z
   ·exact .inr (.inl z)
   ·rw [yY vl k vl' e] at z;exact .inr (.inr z)
 refine ⟨r,hFj,h.hN,fun l hl=>?_,fun l l' x hl hl' hx hx'=>?_,fun l hl=>?_⟩
 ·by_cases e:l=k
  ·subst e
   rw [yR,yR,yR];refine zP1 hb ?_ hb.le (fun _ _=>rfl);refine World.rowIs.congr r fun j hj=>?_;by_cases hw:l*8<=j/\j<l*8+8
   ·obtain ⟨i,hi,rfl⟩:∃ i,i<8/\j=l*8+i:=⟨j-l*8,by omega,by omega⟩
    rw [Win.f_in hi,Win.f_in hi]
   ·rw [Win.f_out (X:=⟨88,NB,(⟨88,NB,F⟩:Win).f (l*8) 8 (Bo.bkR (A l) (G l) vl' b' N')⟩) (by omega)]
  ·rw [yY vl k vl' e,yY b k b' e,yY N k N' e]
   refine zP1 (h.bk l hl) ?_ (by show l*8+8<=NB;have:=h.hN;omega) (fun x hx=>u.block x (hFb l x hl e hx).1 (hFb l x hl e hx).2);refine World.rowIs.congr r fun j hj=>?_;by_cases hw:l*8<=j/\j<l*8+8
   ·obtain ⟨i,hi,rfl⟩:∃ i,i<8/\j=l*8+i:=⟨j-l*8,by omega,by omega⟩
    rw [hFj _ (by omega),Win.f_in hi];unfold bkC;rw [show (l*8+i)/8=l by omega,show (l*8+i)%8=i by omega,yY vl k vl' e,yY b k b' e,yY N k N' e]
   ·rw [Win.f_out (X:=⟨88,NB,(⟨88,NB,F⟩:Win).f (k*8) 8 (Bo.bkR (A k) (G k) vl' b' N')⟩) (by omega)]
 ·rcases newest l x hl hx with a|⟨a,ha⟩
  ·rcases newest l' x hl' hx' with c|⟨c,hc⟩
   ·exact h.ap l l' x hl hl' a c
   ·have:=h.lt (.inr ⟨l,hl,a⟩);omega
  ·rcases newest l' x hl' hx' with c|⟨c,hc⟩
   ·have:=h.lt (.inr ⟨l',hl',c⟩);omega
   ·rw [a,c]
 ·by_cases e:l=k
  ·subst e
   rw [yR];have:=h.nt l hl;omega
  ·rw [yY N k N' e]
   have:=h.nt l hl;omega
end BksI
theorem yX3 (B BB NB:Nat) (F:Nat->Value) (A G:Nat->Nat) (vl:Nat->Value) (N:Nat->Nat) (m:Nat) (b:Nat->Bo.Plain.Bk) (T:Nat) (k:Nat) (hk:k<m) (hT:T<=1000) (c:Bo.Plain.Ca) (w:World) (h:BksI B w BB NB F A G vl N m b T) :
  Calls Tryz.prog 48 #[.pointer (some ⟨BB,k*8,none⟩),Bo.aggC c] w fun e w'=>∃ r F' vl' N',e=.returned (Bo.aggU r)/\r.d=Bo.Plain.caT (b k) c/\BksI B w' BB NB F' A G (up1 vl k vl') N' m (up1 b k (Bo.Plain.caB (b k) c)) (T+1) /\
   Uw (isBk BB A G vl m) w w'/\Bo.Ns (fun x=>isBk BB A G (up1 vl k vl') m x\/x<w.heap.size) w' r.p r.c r.d.grants/\∀ x,isBk BB A G (up1 vl k vl') m x->isBk BB A G vl m x\/w.heap.size<=x:=by
 refine (Bo.xN0 B BB (k*8) (A k) (G k) (N k) ⟨88,NB,F⟩ (vl k) (b k) c (zI (h.nt k hk) hT) w (h.bk k hk)).mono ?_;rintro e w' ⟨r,vl',N',rfl,hd,hb,hN,u,ns,hv⟩;have hnew:∀ x,isBk BB A G (up1 vl k vl') m x->isBk BB A G vl m x\/w.heap.size<=x:=fun x hx=>by
  rcases hx with e|⟨l,hl,hx⟩
  ·exact .inl (.inl e)
  ·by_cases e:l=k
   ·subst e
    rcases Nat.lt_or_ge x w.heap.size with hlt|hge
    ·left
     have:Bo.Fb BB (A l) (G l) vl' x:=by
      rcases hx with e|e|e
      ·exact .inr (.inl e)
      ·exact .inr (.inr (.inl e))
      ·rw [yR] at e;exact .inr (.inr (.inr e))
     rcases hv x hlt this with e|z
     ·exact .inl e
     ·exact .inr ⟨l,hl,z⟩
    ·exact .inr hge
   ·left
    refine .inr ⟨l,hl,?_⟩;rcases hx with z|z|z
    ·exact .inl z
    ·exact .inr (.inl z)
    ·rw [yY vl k vl' e] at z;exact .inr (.inr z)
 refine ⟨r,_,vl',_,rfl,hd,h.take hk hb hN u hv,(Uw.of_un u).mono (fun x _ hx=>?_),?_,hnew⟩
 ·rcases hx with e|z
  ·exact .inl e
  ·exact .inr ⟨k,hk,z⟩
 ·refine ⟨ns.nl,fun h0=>?_⟩
  obtain ⟨g,off,e,hg,hn,hc⟩:=ns.cl h0;refine ⟨g,off,e,hg,fun x=>?_,hc⟩;rcases x with x|x
  ·rcases hnew g x with y|y
   ·exact hn (.inr (h.lt y))
   ·rcases x with e2|⟨l,hl,hx⟩
    ·exact hn (.inl (.inl e2))
    ·by_cases e2:l=k
     ·subst e2
      refine hn (.inl ?_);rcases hx with z|z|z
      ·exact .inr (.inl z)
      ·exact .inr (.inr (.inl z))
      ·rw [yR] at z;exact .inr (.inr (.inr z))
     ·have hx':ib A G vl l g:=by
       rcases hx with z|z|z
       ·exact .inl z
       ·exact .inr (.inl z)
       ·rw [yY vl k vl' e2] at z;exact .inr (.inr z)
      have:=h.lt (.inr ⟨l,hl,hx'⟩);omega
  ·exact hn (.inr x)
open Go.WideMaps Go.Maps
theorem Tryz.keyedI:Keyed Tryz.prog 3:=int_keyed Tryz.underlying3
theorem Tryz.zeroU (w:World):(zeroValue 159).run Tryz.prog w=.ok (.agg #[]) w:=by kernel_rfl
def SetI (w:World) (M n:Nat) (l:List Int):Prop :=
 ∃ D:DataW Unit,w.ownsMap Tryz.prog 3 unitElem M n D/\∀ i,(Lit.int .i64 i).wf=true->Maps.has D (.int .i64 i)=decide (i∈l)
namespace SetI
variable {w w':World} {M n:Nat} {l:List Int}
theorem made (w:World):SetI (w.alloc (.map #[] 0)) w.heap.size 0 []:=⟨.map [],World.ownsMap_made w _ _ _,fun _ _=>by simp [Maps.has]⟩
theorem lt (h:SetI w M n l):M<w.heap.size:=by
 obtain ⟨D,h1,_⟩:=h;exact h1.lt
theorem of_block (h:SetI w M n l) (e:w'.heap[M]?=w.heap[M]?):SetI w' M n l:=by
 obtain ⟨D,⟨es,ck,hb,r⟩,h2⟩:=h;exact ⟨D,⟨es,ck,e.trans hb,r⟩,h2⟩
theorem mono (h:SetI w M n l) {n':Nat} (hn:n<=n'):SetI w M n' l:=by
 obtain ⟨D,h1,h2⟩:=h;exact ⟨D,h1.mono hn,h2⟩
theorem is_map (h:SetI w M n l):∃ es ck,w.heap[M]?=some (.map es ck):=by
 obtain ⟨D,⟨es,ck,hb,r⟩,h2⟩:=h;exact ⟨es,ck,hb⟩
theorem look (h:SetI w M n l) {i:Int} (hi:(Lit.int .i64 i).wf=true):(Instr.lookup 84 (.map (some M)) (.int .i64 i) true).run Tryz.prog w=.ok (.tuple #[.agg #[],.bool (decide (i∈l))]) w:=by
 obtain ⟨D,h1,h2⟩:=h;obtain ⟨v,ps,hrun,hv⟩:=h1.look_ok Tryz.keyedI Tryz.underlying84 (Tryz.zeroU _) unitElem_mk (keyOf_int_mk Tryz.underlying3 hi);obtain ⟨rfl,_⟩:=unitElem_inv hv;rw [h2 i hi] at hrun;exact hrun
theorem put (h:SetI w M n l) (hn:n<=100000) {i:Int} (hi:(Lit.int .i64 i).wf=true) :
  ∃ w',(Instr.mapUpdate 84 (.map (some M)) (.int .i64 i) (.agg #[])).run Tryz.prog w=.ok () w'/\SetI w' M (n+1) (l++[i])/\w.grownBy w' (some M):=by
 obtain ⟨D,h1,h2⟩:=h;obtain ⟨w',hrun,ho,hg⟩:=h1.update Tryz.keyedI Tryz.underlying84 (by unfold maxLen;omega) (keyOf_int_mk Tryz.underlying3 hi) unitElem_mk;refine ⟨w',hrun,⟨_,ho,fun j hj=>?_⟩,hg⟩;by_cases e:j=i
 ·subst e
  rw [has_put_same h1.isMap (by trivial)];simp
 ·rw [has_put_other (fun x=>e (by injection x)),h2 j hj]
  simp [e]
end SetI
def tag (w:World) (x:Nat):Option Nat:=match w.heap[x]? with|some (.cells _ t _)=>some t|_=>none
theorem yQ {w:World} {b t n:Nat} {f:Nat->Value} (h:w.rowIs b t n f):tag w b=some t:=by
 obtain ⟨c,hc,_⟩:=h;unfold tag;rw [hc]
theorem zB2 {w:World} {b:Nat} {l:List Int} (h:RowI w b l):tag w b=some 3:=by
 obtain ⟨c,hc,_⟩:=h;unfold tag;rw [hc]
theorem xC {w:World} {B e s n b:Nat} {v:Value} {xs:List Value} (h:w.ownsRow B e s v n xs) (hb:v.ownBlock=some b):tag w b=some e:=by
 rcases h.2 with ⟨rfl,_⟩|⟨g,c,cur,rfl,_,hg,_⟩
 ·simp [Value.ownBlock] at hb
 ·simp only [Value.ownBlock,Option.some.injEq] at hb
  subst hb;unfold tag;rw [hg]
theorem zP2 {w:World} {b:Nat} (h:∃ es ck,w.heap[b]?=some (.map es ck)):tag w b=none:=by
 obtain ⟨es,ck,hb⟩:=h;unfold tag;rw [hb]
theorem qQ {w:World} {b:Nat} {cs:Array Value} {fr:Nat × Nat} (h:w.heap[b]?=some (.cells cs 5 fr)):tag w b=some 5:=by unfold tag;rw [h]
theorem NoE.of_tag {w:World} {P:Nat->Prop} (h:∀ x,P x->tag w x≠some 75):NoE w P:=fun b hb cs e=>h b hb (by unfold tag;rw [e])
theorem xJ2 {w w':World} {x:Nat} (e:w'.heap[x]?=w.heap[x]?):tag w' x=tag w x:=by unfold tag;rw [e]
structure Mm where
 R:Nat
 EB:Nat
 NC:Nat
 F:Nat->Value
 H:Nat->Nat
 D:Nat->Nat
 vo:Nat->Nat->Value
 ce:Nat
 BB:Nat
 NB:Nat
 FB:Nat->Value
 A:Nat->Nat
 G:Nat->Nat
 vl:Nat->Value
 N:Nat->Nat
 cb:Nat
 po:Value
 vm:Value
 P:List Se.RP
 LB:Nat
 lp:Option Addr
 lc:Nat
 mp:Option Addr
 mc:Nat
abbrev Mm.lv (M:Mm) (c:Cf):Value:=.slice M.lp c.ls.length M.lc
abbrev Mm.mv (M:Mm) (c:Cf):Value:=.slice M.mp c.ms.length M.mc
def wbF (c:Cf) (M:Mm) (n m:Nat):Nat->Value
 | 0=>.int .i64 c.n
 | 1=>M.lv c
 | 2=>.int .i64 c.t
 | 3=>M.mv c
 | 4=>.int .i64 c.cap
 | 5=>.int .i64 0
 | 6=>.int .i64 0
 | 7=>.slice (some ⟨M.EB,0,none⟩) n M.ce
 | 8=>.slice (some ⟨M.BB,0,none⟩) m M.cb
 | _=>.map (some M.LB)
def wbX (c:Cf) (M:Mm) (n m:Nat):Win:=⟨86,10,wbF c M n m⟩
def own (M:Mm) (n m x:Nat):Prop:=x=M.R\/x=M.EB\/isB M.H M.D M.vo n m x\/isBk M.BB M.A M.G M.vl m x\/Se.ownS M.po M.vm x\/x=M.LB
structure WI (B:Nat) (M:Mm) (w:World) (c:Cf) (n m:Nat) (W:Wo) (T S:Nat):Prop where
 br:BrsI w M.EB M.NC M.F M.H M.D M.vo M.lp M.lc n m c.ls W
 bk:BksI B w M.BB M.NB M.FB M.A M.G M.vl M.N m W.bk T
 po:Se.OfI M.R 5 (wbX c M n m) w M.po M.vm M.P W.off S
 lo:SetI w M.LB S W.lost
 lt:∀ x,own M n m x->B<=x
 ne:M.vm≠.map (some M.LB)
 cf:CfI w c (M.lv c) (M.mv c)
 ll:Lies B (M.lv c)
 lm:Lies B (M.mv c)
 tb:∀ k,2<=k->k<=6->w.cell? ⟨0,k,none⟩=some (.int .i64 (k:Nat))
 b0:0<B
 bw:B<=w.heap.size
theorem zH8 {w:World} {EB NC:Nat} {F:Nat->Value} {H D:Nat->Nat} {vo:Nat->Nat->Value} {lp:Option Addr} {lc n m:Nat} {L:List Int} {W:Wo} (h:BrsI w EB NC F H D vo lp lc n m L W) {x:Nat} (hx:isB H D vo n m x) :
  tag w x=some 114\/tag w x=some 166\/tag w x=some 56:=by
 rcases hx with (⟨i,hi,rfl⟩|⟨i,k,⟨hi,hk⟩,e⟩)|⟨i,hi,rfl⟩
 ·exact .inl (yQ (h.go.row i hi))
 ·exact .inr (.inl (xC (h.go.ow i k hi hk) e))
 ·obtain ⟨g,hg⟩:=h.st.rs i hi
  exact .inr (.inr (yQ hg.row))
theorem zB3 {B:Nat} {w:World} {BB NB:Nat} {F:Nat->Value} {A G:Nat->Nat} {vl:Nat->Value} {N:Nat->Nat} {m:Nat} {b:Nat->Bo.Plain.Bk} {T:Nat} (h:BksI B w BB NB F A G vl N m b T) {x:Nat} (hx:isBk BB A G vl m x):tag w x=some 88\/tag w x=some 3:=by
 rcases hx with rfl|⟨k,hk,hx⟩
 ·exact .inl (yQ h.row)
 ·obtain ⟨⟨l,hl⟩,_⟩:=h.own hk hx
  exact .inr (zB2 hl)
theorem zB4 {R oo n:Nat} {XX:Win} {w:World} {vo vm:Value} {P:List Se.RP} {o:Se.Plain.Off} (h:Se.OfI R oo XX w vo vm P o n) {x:Nat} (hx:Se.ownS vo vm x):tag w x=some 181\/(tag w x=none/\vm=.map (some x)):=by
 rcases hx with e|e
 ·exact .inl (xC h.ow e)
 ·exact .inr ⟨zP2 (h.mp.is_map e),e⟩
theorem yG4 {R oo n:Nat} {XX:Win} {w w':World} {vo vm:Value} {P:List Se.RP} {o:Se.Plain.Off} {Q:Nat->Prop} (h:Se.OfI R oo XX w vo vm P o n) (u:Uw Q w w') (hR:¬ Q R) (ho:∀ x,Se.ownS vo vm x->¬ Q x) (hy:∀ x,Q x->tag w x≠some 5):Se.OfI R oo XX w' vo vm P o n :=
 ⟨u.rowIs h.row hR,Se.zB8 h.ow fun b hb=>u.block b (h.own_lt (.inl hb)) (ho b (.inl hb)),fun r hr=>(h.bs r hr).keep ⟨u.os,u.tape,u.output,u.size,fun k hk hp=>u.block k hk (fun q=>by
  rcases hp with x|⟨cs,fr,x⟩
  ·omega
  ·exact hy k q (qQ x))⟩,h.po,h.mp.of_block (fun M e=>u.block M (h.mp.lt e) (ho M (.inr e))),h.nl,h.nb,h.le⟩
namespace WI
variable {B:Nat} {M:Mm} {w w':World} {c:Plain.Cf} {n m:Nat} {W:Plain.Wo} {T S:Nat} {Q:Nat->Prop}
theorem tagR (h:WI B M w c n m W T S):tag w M.R=some 86:=yQ h.po.row
theorem tagE (h:WI B M w c n m W T S):tag w M.EB=some 94:=yQ h.br.st.row
theorem tagL (h:WI B M w c n m W T S):tag w M.LB=none:=zP2 h.lo.is_map
theorem own_lt (h:WI B M w c n m W T S) {x:Nat} (hx:own M n m x):x<w.heap.size:=by
 rcases hx with rfl|rfl|hx|hx|hx|rfl
 ·exact h.po.lt
 ·exact h.br.st.row.lt
 ·exact qG1 h.br hx
 ·exact h.bk.lt hx
 ·exact h.po.own_lt hx
 ·exact h.lo.lt
theorem lab_lt (h:WI B M w c n m W T S):0<c.ls.length->∀ b o,M.lp=some ⟨b,o,none⟩->b<B:=fun h0 b o e=>h.ll ⟨b,o,none⟩ c.ls.length M.lc (by rw [Mm.lv,e]) h0
theorem un (h:WI B M w c n m W T S) (u:Uw Q w w') (hq:∀ x,own M n m x->¬ Q x) (hB:∀ x,Q x->B<=x) (hE:∀ x,Q x->tag w x≠some 75) (hy:∀ x,Q x->tag w x≠some 5):WI B M w' c n m W T S:=by
 have be:Below B w w':=u.below h.bw (fun k hk x=>by have:=hB k x;omega);exact ⟨h.br.un u (NoE.of_tag hE) (fun b hb=>hq b (.inr (.inr (.inl hb)))) (hq _ (.inr (.inl rfl))) (fun h0 b o e x=>by have:=hB b x;have:=h.lab_lt h0 b o e;omega),
  h.bk.un u (fun x hx=>hq x (.inr (.inr (.inr (.inl hx))))),
  yG4 h.po u (hq _ (.inl rfl)) (fun x hx=>hq x (.inr (.inr (.inr (.inr (.inl hx)))))) hy,
  h.lo.of_block (u.block _ h.lo.lt (hq _ (.inr (.inr (.inr (.inr (.inr rfl))))))),h.lt,h.ne,
  ⟨h.cf.sl.below be h.ll,h.ll.mono (zI h.bw u.size),h.cf.sm.below be h.lm,h.lm.mono (zI h.bw u.size),h.cf.rl,h.cf.bl,h.cf.bm⟩,h.ll,h.lm,
  fun k h2 h6=>(be.cell (p:=⟨0,k,none⟩) h.b0).trans (h.tb k h2 h6),h.b0,zI h.bw u.size⟩
theorem grow (h:WI B M w c n m W T S) (g:Below w.heap.size w w'):WI B M w' c n m W T S:=h.un (Q:=fun _=>False) (Uw.of_below g) (fun _ _ x=>x) (fun _ x=>x.elim) (fun _ x=>x.elim) (fun _ x=>x.elim)
theorem later (h:WI B M w c n m W T S) {T' S':Nat} (hT:T<=T') (hS:S<=S'):WI B M w c n m W T' S':=⟨h.br,h.bk.later hT,h.po.mono hS,h.lo.mono hS,h.lt,h.ne,h.cf,h.ll,h.lm,h.tb,h.b0,h.bw⟩
theorem box (h:WI B M w c n m W T S) {b t k:Nat} {f:Nat->Value} (hr:w.rowIs b t k f) (hb:B<=b) (ho:¬ own M n m b) (h1:t≠75) (h2:t≠5) (u:Uw (fun x=>x=b) w w'):WI B M w' c n m W T S :=
 h.un u (fun x hx e=>ho (by rw [<- show x=b from e];exact hx)) (fun x e=>by rw [show x=b from e];exact hb) (fun x e=>by rw [show x=b from e,yQ hr];exact fun y=>h1 (Option.some.inj y)) (fun x e=>by rw [show x=b from e,yQ hr];exact fun y=>h2 (Option.some.inj y))
theorem setBr (h:WI B M w c n m W T S) {vo':Nat->Nat->Value} {W':Plain.Wo} (br:BrsI w' M.EB M.NC M.F M.H M.D vo' M.lp M.lc n m c.ls W') (e1:W'.bk=W.bk) (e2:W'.off=W.off) (e3:W'.lost=W.lost) (u:Uw (isB M.H M.D M.vo n m) w w') (hv:∀ x,isB M.H M.D vo' n m x->isB M.H M.D M.vo n m x\/w.heap.size<=x) :
  WI B { M with vo:=vo' } w' c n m W' T S/\Uw (own M n m) w w'/\∀ x,own { M with vo:=vo' } n m x->own M n m x\/w.heap.size<=x:=by
 have hB:∀ x,isB M.H M.D M.vo n m x->B<=x:=fun x hx=>h.lt x (.inr (.inr (.inl hx)));have be:Below B w w':=u.below h.bw (fun k hk x=>by have:=hB k x;omega);have hn:∀ x,own { M with vo:=vo' } n m x->own M n m x\/w.heap.size<=x:=fun x hx=>by
  rcases hx with e|e|hx|hx|hx|e
  ·exact .inl (.inl e)
  ·exact .inl (.inr (.inl e))
  ·exact (hv x hx).imp (fun y=>.inr (.inr (.inl y))) id
  ·exact .inl (.inr (.inr (.inr (.inl hx))))
  ·exact .inl (.inr (.inr (.inr (.inr (.inl hx)))))
  ·exact .inl (.inr (.inr (.inr (.inr (.inr e)))))
 have tg:∀ x,isB M.H M.D M.vo n m x->tag w x=some 114\/tag w x=some 166\/tag w x=some 56:=fun x hx=>zH8 h.br hx;have dif:∀ x t,tag w x=t->t≠some 114->t≠some 166->t≠some 56->¬ isB M.H M.D M.vo n m x:=fun x t ht a b c hx=>by
  rcases tg x hx with y|y|y
  ·exact a (ht.symm.trans y)
  ·exact b (ht.symm.trans y)
  ·exact c (ht.symm.trans y)
 refine ⟨⟨br,?_,?_,?_,fun x hx=>(hn x hx).elim (h.lt x) (fun y=>zI h.bw y),h.ne,⟨h.cf.sl.below be h.ll,h.ll.mono (zI h.bw u.size),h.cf.sm.below be h.lm,h.lm.mono (zI h.bw u.size),h.cf.rl,h.cf.bl,h.cf.bm⟩,h.ll,h.lm,fun k h2 h6=>(be.cell (p:=⟨0,k,none⟩) h.b0).trans (h.tb k h2 h6),h.b0,zI h.bw u.size⟩,u.mono (fun x _ hx=>.inr (.inr (.inl hx))),hn⟩
 ·rw [e1]
  refine h.bk.un u fun x hx=>?_;rcases zB3 h.bk hx with y|y
  ·exact dif x _ y (by decide) (by decide) (by decide)
  ·exact dif x _ y (by decide) (by decide) (by decide)
 ·rw [e2]
  show Se.OfI M.R 5 (wbX c M n m) w' M.po M.vm M.P W.off S;refine yG4 h.po u (dif _ _ h.tagR (by decide) (by decide) (by decide)) (fun x hx=>?_) (fun x hx=>?_)
  ·rcases zB4 h.po hx with y|⟨y,_⟩
   ·exact dif x _ y (by decide) (by decide) (by decide)
   ·exact dif x _ y (by decide) (by decide) (by decide)
  ·rcases tg x hx with y|y|y<;>rw [y]<;>decide
 ·rw [e3]
  exact h.lo.of_block (u.block _ h.lo.lt (dif _ _ h.tagL (by decide) (by decide) (by decide)))
theorem setBk (h:WI B M w c n m W T S) {FB':Nat->Value} {vl':Nat->Value} {N':Nat->Nat} {b':Nat->Bo.Plain.Bk} {T':Nat} (bk:BksI B w' M.BB M.NB FB' M.A M.G vl' N' m b' T') (u:Uw (isBk M.BB M.A M.G M.vl m) w w') (hv:∀ x,isBk M.BB M.A M.G vl' m x->isBk M.BB M.A M.G M.vl m x\/w.heap.size<=x) :
  WI B { M with FB:=FB',vl:=vl',N:=N' } w' c n m { W with bk:=b' } T' S/\Uw (own M n m) w w'/\∀ x,own { M with FB:=FB',vl:=vl',N:=N' } n m x->own M n m x\/w.heap.size<=x:=by
 have hB:∀ x,isBk M.BB M.A M.G M.vl m x->B<=x:=fun x hx=>h.lt x (.inr (.inr (.inr (.inl hx))));have be:Below B w w':=u.below h.bw (fun k hk x=>by have:=hB k x;omega);have hn:∀ x,own { M with FB:=FB',vl:=vl',N:=N' } n m x->own M n m x\/w.heap.size<=x:=fun x hx=>by
  rcases hx with e|e|hx|hx|hx|e
  ·exact .inl (.inl e)
  ·exact .inl (.inr (.inl e))
  ·exact .inl (.inr (.inr (.inl hx)))
  ·exact (hv x hx).imp (fun y=>.inr (.inr (.inr (.inl y)))) id
  ·exact .inl (.inr (.inr (.inr (.inr (.inl hx)))))
  ·exact .inl (.inr (.inr (.inr (.inr (.inr e)))))
 have tg:∀ x,isBk M.BB M.A M.G M.vl m x->tag w x=some 88\/tag w x=some 3:=fun x hx=>zB3 h.bk hx;have dif:∀ x t,tag w x=t->t≠some 88->t≠some 3->¬ isBk M.BB M.A M.G M.vl m x:=fun x t ht a b hx=>by
  rcases tg x hx with y|y
  ·exact a (ht.symm.trans y)
  ·exact b (ht.symm.trans y)
 refine ⟨⟨?_,bk,?_,?_,fun x hx=>(hn x hx).elim (h.lt x) (fun y=>zI h.bw y),h.ne,⟨h.cf.sl.below be h.ll,h.ll.mono (zI h.bw u.size),h.cf.sm.below be h.lm,h.lm.mono (zI h.bw u.size),h.cf.rl,h.cf.bl,h.cf.bm⟩,h.ll,h.lm,fun k h2 h6=>(be.cell (p:=⟨0,k,none⟩) h.b0).trans (h.tb k h2 h6),h.b0,zI h.bw u.size⟩,u.mono (fun x _ hx=>.inr (.inr (.inr (.inl hx)))),hn⟩
 ·have b0:=h.br.un u (NoE.of_tag fun x hx=>by rcases tg x hx with y|y<;>rw [y]<;>decide) (fun x hx=>by
   rcases zH8 h.br hx with y|y|y
   ·exact dif x _ y (by decide) (by decide)
   ·exact dif x _ y (by decide) (by decide)
   ·exact dif x _ y (by decide) (by decide)) (dif _ _ h.tagE (by decide) (by decide)) (fun h0 b o e x=>by have:=hB b x;have:=h.lab_lt h0 b o e;omega)
  exact ⟨b0.st,b0.go,b0.lb⟩
 ·show Se.OfI M.R 5 (wbX c M n m) w' M.po M.vm M.P W.off S
  refine (yG4 h.po u (dif _ _ h.tagR (by decide) (by decide)) (fun x hx=>?_) (fun x hx=>?_))
  ·rcases zB4 h.po hx with y|⟨y,_⟩
   ·exact dif x _ y (by decide) (by decide)
   ·exact dif x _ y (by decide) (by decide)
  ·rcases tg x hx with y|y<;>rw [y]<;>decide
 ·exact (h.lo.of_block (u.block _ h.lo.lt (dif _ _ h.tagL (by decide) (by decide))))
theorem setOf (h:WI B M w c n m W T S) {po' vm':Value} {P':List Se.RP} {o':Se.Plain.Off} {S':Nat} (hT:S<=S') (of:Se.OfI M.R 5 (wbX c M n m) w' po' vm' P' o' S') (k:Kp (Se.ownS M.po M.vm) M.R w w') (hv:∀ x,Se.ownS po' vm' x->Se.ownS M.po M.vm x\/w.heap.size<=x) :
  WI B { M with po:=po',vm:=vm',P:=P' } w' c n m { W with off:=o' } T S'/\Uw (own M n m) w w'/\∀ x,own { M with po:=po',vm:=vm',P:=P' } n m x->own M n m x\/w.heap.size<=x:=by
 have u:Uw (fun x=>x=M.R\/Se.ownS M.po M.vm x) w w':=Uw.of_kp k;have hB:∀ x,(x=M.R\/Se.ownS M.po M.vm x)->B<=x:=fun x hx=>h.lt x (hx.elim .inl (fun y=>.inr (.inr (.inr (.inr (.inl y))))));have be:Below B w w':=u.below h.bw (fun k hk x=>by have:=hB k x;omega);have hn:∀ x,own { M with po:=po',vm:=vm',P:=P' } n m x->own M n m x\/w.heap.size<=x:=fun x hx=>by
  rcases hx with e|e|hx|hx|hx|e
  ·exact .inl (.inl e)
  ·exact .inl (.inr (.inl e))
  ·exact .inl (.inr (.inr (.inl hx)))
  ·exact .inl (.inr (.inr (.inr (.inl hx))))
  ·exact (hv x hx).imp (fun y=>.inr (.inr (.inr (.inr (.inl y))))) id
  ·exact .inl (.inr (.inr (.inr (.inr (.inr e)))))
 have tg:∀ x,(x=M.R\/Se.ownS M.po M.vm x)->tag w x=some 86\/tag w x=some 181\/(tag w x=none/\M.vm=.map (some x)):=fun x hx=>by
  rcases hx with rfl|hx
  ·exact .inl h.tagR
  ·exact .inr (zB4 h.po hx)
 have dif:∀ x t,tag w x=some t->t≠86->t≠181->¬ (x=M.R\/Se.ownS M.po M.vm x):=fun x t ht a b hx=>by
  rcases tg x hx with y|y|⟨y,_⟩
  ·exact a (Option.some.inj (ht.symm.trans y))
  ·exact b (Option.some.inj (ht.symm.trans y))
  ·rw [ht] at y;cases y
 refine ⟨⟨?_,?_,of,?_,fun x hx=>(hn x hx).elim (h.lt x) (fun y=>zI h.bw y),?_,⟨h.cf.sl.below be h.ll,h.ll.mono (zI h.bw u.size),h.cf.sm.below be h.lm,h.lm.mono (zI h.bw u.size),h.cf.rl,h.cf.bl,h.cf.bm⟩,h.ll,h.lm,fun k h2 h6=>(be.cell (p:=⟨0,k,none⟩) h.b0).trans (h.tb k h2 h6),h.b0,zI h.bw u.size⟩,u.mono (fun x _ hx=>hx.elim .inl (fun y=>.inr (.inr (.inr (.inr (.inl y)))))),hn⟩
 ·have b0:=h.br.un u (NoE.of_tag fun x hx=>by rcases tg x hx with y|y|⟨y,_⟩<;>rw [y]<;>decide) (fun x hx=>by
   rcases zH8 h.br hx with y|y|y
   ·exact dif x _ y (by decide) (by decide)
   ·exact dif x _ y (by decide) (by decide)
   ·exact dif x _ y (by decide) (by decide)) (dif _ _ h.tagE (by decide) (by decide)) (fun h0 b o e x=>by have:=hB b x;have:=h.lab_lt h0 b o e;omega)
  exact ⟨b0.st,b0.go,b0.lb⟩
 ·refine h.bk.un u fun x hx=>?_
  rcases zB3 h.bk hx with y|y
  ·exact dif x _ y (by decide) (by decide)
  ·exact dif x _ y (by decide) (by decide)
 ·refine (h.lo.of_block (u.block _ h.lo.lt fun hx=>?_)).mono hT
  rcases tg _ hx with y|y|⟨_,y⟩
  ·rw [h.tagL] at y;cases y
  ·rw [h.tagL] at y;cases y
  ·exact h.ne y
 ·intro e
  have e':vm'=.map (some M.LB):=e;rcases hv M.LB (.inr e') with y|y
  ·rcases y with z|z
   ·have:=xC h.po.ow z
    rw [h.tagL] at this;cases this
   ·exact h.ne z
  ·have:=h.lo.lt;omega
theorem setLo (h:WI B M w c n m W T S) {l':List Int} {S':Nat} (hT:S<=S') (lo:SetI w' M.LB S' l') (u:Uw (fun x=>x=M.LB) w w') :
  WI B M w' c n m { W with lost:=l' } T S'/\Uw (own M n m) w w':=by
 have hB:∀ x,x=M.LB->B<=x:=fun x hx=>h.lt x (.inr (.inr (.inr (.inr (.inr hx)))));have be:Below B w w':=u.below h.bw (fun k hk x=>by have:=hB k x;omega);have dif:∀ x t,tag w x=some t->¬ x=M.LB:=fun x t ht e=>by rw [e,h.tagL] at ht;cases ht
 refine ⟨⟨?_,?_,?_,lo,h.lt,h.ne,⟨h.cf.sl.below be h.ll,h.ll.mono (zI h.bw u.size),h.cf.sm.below be h.lm,h.lm.mono (zI h.bw u.size),h.cf.rl,h.cf.bl,h.cf.bm⟩,h.ll,h.lm,fun k h2 h6=>(be.cell (p:=⟨0,k,none⟩) h.b0).trans (h.tb k h2 h6),h.b0,zI h.bw u.size⟩,u.mono (fun x _ hx=>.inr (.inr (.inr (.inr (.inr hx)))))⟩
 ·have b0:=h.br.un u (NoE.of_tag fun x hx=>by rw [show x=M.LB from hx,h.tagL];decide) (fun x hx=>by
   rcases zH8 h.br hx with y|y|y
   ·exact dif x _ y
   ·exact dif x _ y
   ·exact dif x _ y) (dif _ _ h.tagE) (fun h0 b o e x=>by have:=hB b x;have:=h.lab_lt h0 b o e;omega)
  exact ⟨b0.st,b0.go,b0.lb⟩
 ·refine h.bk.un u fun x hx=>?_
  rcases zB3 h.bk hx with y|y
  ·exact dif x _ y
  ·exact dif x _ y
 ·refine (yG4 h.po u (dif _ _ h.tagR) (fun x hx e=>?_) (fun x hx=>by rw [show x=M.LB from hx,h.tagL];decide)).mono hT
  rcases zB4 h.po hx with y|⟨_,y⟩
  ·exact dif x _ y e
  ·exact h.ne (by rw [y,show x=M.LB from e])
theorem cell (h:WI B M w c n m W T S) {j:Nat} (hj:j<5\/(7<=j/\j<10)):w.cell? ⟨M.R,j,none⟩=some (wbF c M n m j):=by
 rw [h.po.row.cell (i:=j) (show j<10 by omega),Win.f_out (by omega)];rfl
end WI
end Go.Proofs.YtleaknfjbbccgaaGreatDoor
namespace Go.Proofs.YtleaknfjbbccgaaGreatDoor.Se
set_option maxHeartbeats 16000000
set_option maxRecDepth 100000
open Go.RowKit Go.Shelf Go.Sort Go.Lib
theorem qG3 {C:Nat} {w:World} {a:Addr} {c:Nat} {l:List Int} (h:encB.Holds w (some a) l) (hl:l.length<=1000):∃ p' c' w',(Builtin.append_ #[40,40] 40 #[.slice (some ⟨w.heap.size,0,none⟩) 0 0,.slice (some a) l.length c]).run Tryz.prog (w.alloc (.cells #[] 5))=.ok (.slice p' l.length c') w'/\By C w' p' c' l/\Below w.heap.size w w':=by
 have hb:Below w.heap.size w (w.alloc (.cells #[] 5)):=yO.alloc yN _;obtain ⟨i0,hi,hz0,hz1,hz2⟩:=info_parts Tryz.infoByte;obtain ⟨v',w',h1,h2,h3⟩:=encB.app (w:=w.alloc (.cells #[] 5)) (B:=w.heap.size) (n:=0) (l:=[]) (c:=c) (v:=.slice (some ⟨w.heap.size,0,none⟩) 0 0) Tryz.underlying40 hi hz0 hz1 hz2 rfl ⟨rfl,.inr ⟨w.heap.size,0,#[],rfl,yN,yF _ _,yN,zG _,rfl,rfl⟩⟩ (h.grow hb) rfl (fun e=>by cases e) (by omega) (by omega) (by simp);rw [List.nil_append,Nat.zero_add] at h2;obtain ⟨p',c',rfl,hby⟩:=By.of_owns (B:=C) h2 rfl;exact ⟨p',c',w',h1,hby,⟨h3.os,h3.tape,h3.output,zI hb.size h3.size,fun k hk=>(h3.block k (by simp;omega) (by simp [Value.ownBlock];omega)).trans (hb.block k hk)⟩⟩
theorem xW7 (C:Nat) (p:Option Addr) (n c:Nat) (l:List Int) (hn:l.length=n) (hl:n<=1000) (w:World) (h:encB.Holds w p l) :
  Calls Tryz.prog 142 #[.slice p n c] w fun e w'=>∃ p' c',e=.returned (.slice p' n c')/\By C w' p' c' l/\Below w.heap.size w w':=by
 cases p with
 | none =>
  have hl0:n=0:=by
   rcases Nat.eq_zero_or_pos l.length with x|x
   ·omega
   ·obtain ⟨b,o,e,_⟩:=h x;cases e
  subst hl0;have hl1:l=[]:=zP.1 hn;subst hl1;clear h;have heq:=run_eql_slice_nil (P:=Tryz.prog) w 40 5 none 0 c 0 0 Tryz.underlying40;go_enter Tryz.func142,Tryz.ntmps142
  go_wp2;go_ret
  exact ⟨none,0,rfl,By.nil _ _,yO⟩
 | some a =>
  subst hn;obtain ⟨p',c',w',hrun,hb,hg⟩:=qG3 (C:=C) (c:=c) h hl;have HR:=hid hrun;have HB:=hid hb;have HG:=hid hg;clear h hrun hb hg;have heq:=run_eql_slice_nil (P:=Tryz.prog) w 40 5 (some a) l.length c 0 0 Tryz.underlying40;generalize l.length=n at *;go_enter Tryz.func142,Tryz.ntmps142
  go_wp2_with (first|(at_builtin;refine xE _ _ 40 HR.out (by rfl) (by rfl) (by rfl) (by rfl) (by rfl) ?_)|fail)
  go_wp2;go_ret
  exact ⟨p',c',rfl,HB.out,HG.out⟩
theorem post_z (R oo n:Nat) (XX:Win) (vo vm:Value) (P:List RP) (o:Plain.Off) (hgo:Plain.Good o) (hb:P.length<=100000) (x:Plain.Le) (p:Option Addr) (c:Nat) (hk:x.kind=1) (hf:0<=x.frm/\x.frm<=8) (ht:0<=x.to/\x.to<=8) (hlen:¬ 256<x.data.length)
  (w:World) (h:OfI R oo XX w vo vm P o n) (hy:encB.Holds w p x.data) :
  Calls Tryz.prog 122 #[.pointer (some ⟨R,oo,none⟩),.int .i64 x.frm,.int .i64 x.to,.slice p x.data.length c] w fun e w'=>DoP R oo XX vo vm o x n w e w':=by
 have hE:Plain.leE o x=0:=by
  unfold Plain.leE;rw [if_neg (by omega),if_neg (by omega),if_pos hk,if_neg hlen]
 have HS:=hid (show Plain.leS o x={ o with posted:=o.posted++[⟨x.frm,x.to,x.data⟩] } by unfold Plain.leS;rw [hE,if_neg (by decide),if_pos hk]);have HT:=hid (show Plain.leT o x=⟨0,P.length,x.data.length,[]⟩ by unfold Plain.leT;rw [hE,if_neg (by decide),if_pos hk,h.len]);obtain ⟨WA,hWA⟩:∃ WA,WA=w.alloc zZ0:=⟨_,rfl⟩;have rG:=hid (show WA.rowIs w.heap.size 153 4 (odF ⟨⟨0,0,0,[]⟩,none,0⟩) by rw [hWA];exact jP w ⟨⟨0,0,0,[]⟩,none,0⟩);have BA:=hid (show Below w.heap.size w WA by rw [hWA];exact yO.alloc yN _);have HA:=hid (h.grow BA.out);have r0:=HA.out.c0;obtain ⟨po,co,evo,hff⟩:=h.form;clear hff;rw [evo] at r0;have HEV:=hid evo;have HOLD:=hid (fun (k:Nat) (hk:ownS vo vm k)=>h.own_lt hk);have HG:=hid (show w.heap.size≠R from fun e=>by have:=h.row.lt;omega);have hRn:¬ R=w.heap.size:=fun e=>HG.out e.symm;have hRm:¬ w.heap.size=R:=HG.out;have KT:=fun W=>vS ht W;have KF:=fun W=>vS hf W;have HGO:=hid hgo;have HB:=hid hb;have KC:=xW7 0 p x.data.length c x.data rfl (by omega) WA.drew ((hy.grow BA.out).drew 1);have hcm:x.data.length<=9223372036854775807:=by omega
 clear hE hy evo h hgo hb;obtain ⟨m,hm⟩:∃ m,m=x.data.length:=⟨_,rfl⟩;obtain ⟨np,hnp⟩:∃ np,np=P.length:=⟨_,rfl⟩;have HM:=hid hm;have HNP:=hid hnp;rw [<- hm] at KC hcm HT hlen ⊢;rw [<- hnp] at HT r0 HEV;clear hm hnp;obtain ⟨xf,hxf⟩:∃ xf,xf=x.frm:=⟨_,rfl⟩;obtain ⟨xt,hxt⟩:∃ xt,xt=x.to:=⟨_,rfl⟩;rw [<- hxf] at KF hf ⊢;rw [<- hxt] at KT ht ⊢;have HXF:=hid hxf;have HXT:=hid hxt;clear hxf hxt;have hmz:¬ (256:Int)<(m:Int):=by omega
 rw [hWA] at r0;go_enter Tryz.func122,Tryz.ntmps122
 go_wp2_with (first|(go_at_call_of 94 (Value.int .i64 xf);refine (KF _).mono ?_;rintro e w' ⟨rfl,rfl⟩)|(go_at_call_of 94 (Value.int .i64 xt);refine (KT _).mono ?_;rintro e w' ⟨rfl,rfl⟩)|fail)
 rw [<- hWA] at r0 ⊢;clear hWA KF KT;have mixed:Tryz.prog.follows .mixedOrders=true:=by kernel_rfl
 have TS:(fun w':World=>w'.cell? ⟨R,oo,none⟩=some (.slice po np co)) WA.drew:=r0;refine yP.begin (fun w':World=>w'.cell? ⟨R,oo,none⟩=some (.slice po np co)) 14 mixed ?_;refine yP.take 0 (.pointer (some ⟨R,oo,none⟩)) rfl (by kernel_rfl) (by kernel_rfl) (by kernel_rfl) (by kernel_rfl) (fun _ _ _ h=>h) TS (by rfl) (fun w' hS=>?_) ?_
 ·(have q1:=hS;go_simp)
 simp only [Act.put,List.setIfInBounds_toArray,List.set_cons_zero,List.set_cons_succ];refine yP.take 1 (.pointer (some ⟨R,oo,none⟩)) rfl (by kernel_rfl) (by kernel_rfl) (by kernel_rfl) (by kernel_rfl) (fun _ _ _ h=>h) TS (by rfl) (fun w' hS=>?_) ?_
 ·(have q1:=hS;go_simp)
 simp only [Act.put,List.setIfInBounds_toArray,List.set_cons_zero,List.set_cons_succ];refine yP.take 2 (.pointer (some ⟨R,oo,none⟩)) rfl (by kernel_rfl) (by kernel_rfl) (by kernel_rfl) (by kernel_rfl) (fun _ _ _ h=>h) TS (by rfl) (fun w' hS=>?_) ?_
 ·(have q1:=hS;go_simp)
 simp only [Act.put,List.setIfInBounds_toArray,List.set_cons_zero,List.set_cons_succ];refine yP.take 3 (.pointer (some ⟨R,oo,none⟩)) rfl (by kernel_rfl) (by kernel_rfl) (by kernel_rfl) (by kernel_rfl) (fun _ _ _ h=>h) TS (by rfl) (fun w' hS=>?_) ?_
 ·(have q1:=hS;go_simp)
 simp only [Act.put,List.setIfInBounds_toArray,List.set_cons_zero,List.set_cons_succ];refine yP.take 4 (.slice po np co) rfl (by kernel_rfl) (by kernel_rfl) (by kernel_rfl) (by kernel_rfl) (fun _ _ _ h=>h) TS (by rfl) (fun w' hS=>?_) ?_
 ·(have q1:=hS;go_simp)
 simp only [Act.put,List.setIfInBounds_toArray,List.set_cons_zero,List.set_cons_succ];refine yP.take 5 (.int .i64 xf) rfl (by kernel_rfl) (by kernel_rfl) (by kernel_rfl) (by kernel_rfl) (fun _ _ _ h=>h) TS (by rfl) (fun w' hS=>?_) ?_
 ·(have q1:=hS;go_simp)
 simp only [Act.put,List.setIfInBounds_toArray,List.set_cons_zero,List.set_cons_succ];refine yP.take 6 (.int .i64 xt) rfl (by kernel_rfl) (by kernel_rfl) (by kernel_rfl) (by kernel_rfl) (fun _ _ _ h=>h) TS (by rfl) (fun w' hS=>?_) ?_
 ·(have q1:=hS;go_simp)
 simp only [Act.put,List.setIfInBounds_toArray,List.set_cons_zero,List.set_cons_succ];refine yP.take 7 (.slice p m c) rfl (by kernel_rfl) (by kernel_rfl) (by kernel_rfl) (by kernel_rfl) (fun _ _ _ h=>h) TS (by rfl) (fun w' hS=>?_) ?_
 ·(have q1:=hS;go_simp)
 simp only [Act.put,List.setIfInBounds_toArray,List.set_cons_zero,List.set_cons_succ];refine yP.one 8 (by kernel_rfl) rfl (by rfl) (fun K hK=>?_);go_simp;refine KC.mono ?_;rintro e W5 ⟨p',c',rfl,hby,b5⟩;have B5:=hid b5;have O5:=hid ((HA.out.drewN 1).grow b5);obtain ⟨pv,cv,U,hrun,u0,uf,oU,kU,nU⟩:=O5.out.snoc HGO.out HB.out ⟨⟨xf,xt,x.data⟩,p',c'⟩ hby;dsimp only at hrun;rw [<- HNP.out,<- HM.out,HEV.out] at hrun;have RUN:=hid hrun;have OU:=hid oU;have KU:=hid kU;have NU:=hid nU;have r05:=O5.out.c0;rw [HEV.out] at r05 u0;clear hby b5 hrun oU kU nU;have TS2:(fun w':World=>w'.cell? ⟨R,oo,none⟩=some (.slice po np co)) W5:=r05;refine hK.out _ _ (fun _=>TS2) ?_;clear hK K KC;refine yP.take 9 (.agg #[.int .i64 xf,.int .i64 xt,.slice p' m c']) rfl (by kernel_rfl) (by kernel_rfl) (by kernel_rfl) (by kernel_rfl) (fun _ _ _ h=>h) TS2 (by rfl) (fun w' hS=>?_) ?_
 ·(go_simp)
 simp only [Act.put,List.setIfInBounds_toArray,List.set_cons_zero,List.set_cons_succ];refine yP.one 10 (by kernel_rfl) rfl (by rfl) (fun K hK=>?_);go_simp;have TS3:(fun w':World=>w'.cell? ⟨R,oo,none⟩=some (.slice po np co)) (W5.alloc (.cells #[.int .i64 xf,.int .i64 xt,.slice p' m c'] 181)):=by
  show (W5.alloc _).cell? _=_;rw [yJ _ _ _ (zC (w:=W5) (h:=r05))];exact r05
 refine hK.out _ _ (fun _=>TS3) ?_;clear hK K;refine yP.one 11 (by kernel_rfl) rfl (by rfl) (fun K hK=>?_);refine xF _ _ 78 rfl 78 rfl (.slice po np co) (.slice (some ⟨W5.heap.size,0,none⟩) 1 1) (by simp [Act.eval]) (by simp [Act.eval]) RUN.out ?_;have TS4:(fun w':World=>w'.cell? ⟨R,oo,none⟩=some (.slice po np co)) U:=u0;refine hK.out _ _ (fun _=>TS4) ?_;clear hK K;simp only [Act.put,List.setIfInBounds_toArray,List.set_cons_zero,List.set_cons_succ];refine yP.one 12 (by kernel_rfl) rfl (by rfl) (fun K hK=>?_);go_simp;refine hK.out _ _ (fun _=>TS4) ?_;clear hK K;refine yP.one 13 (by kernel_rfl) rfl (by rfl) (fun K hK=>?_);go_simp;refine hK.out _ _ (fun _=>TS4) ?_;clear hK K;refine yP.one 14 (by kernel_rfl) rfl (by rfl) (fun K hK=>?_);go_simp;refine hK.out _ _ (fun h=>absurd rfl h) ?_;clear hK K;refine yP.done (by kernel_rfl) ?_;obtain ⟨W4,hW4⟩:∃ W4,W4=U.setCell ⟨R,oo,none⟩ (.slice pv (np+1) cv):=⟨_,rfl⟩;have ROW:=hid (show W4.rowIs w.heap.size 153 4 (odF ⟨⟨0,0,0,[]⟩,none,0⟩) by
  rw [hW4,HNP.out];refine KU.out.rowIs (rG.out.of_block (B5.out.block _ rG.out.lt)) (fun e=>?_) HG.out;have:=HOLD.out _ e;omega)
 rw [<- hW4];rw [<- HNP.out,<- hW4] at OU KU;rw [<- HNP.out] at NU;clear hW4 u0 uf RUN TS TS2 TS3 TS4 r0 r05;have y0:=ROW.out.cell (i:=0) (by omega);have y1:=ROW.out.cell (i:=1) (by omega);have y2:=ROW.out.cell (i:=2) (by omega);have y3:=ROW.out.cell (i:=3) (by omega);have z0:=ROW.out.frozen 0;have z1:=ROW.out.frozen 1;have z2:=ROW.out.frozen 2;have z3:=ROW.out.frozen 3;go_wp2
 (try simp only [Exit.inBlock,Exit.then])
 obtain ⟨W6,hW6⟩:∃ W6,W6=(((W4.setCell ⟨w.heap.size,0,none⟩ (.int .i64 0)).setCell ⟨w.heap.size,1,none⟩ (.int .i64 np)).setCell ⟨w.heap.size,2,none⟩ (.int .i64 m)).setCell ⟨w.heap.size,3,none⟩ (.slice none 0 0):=⟨_,rfl⟩;rw [<- hW6];have R6:W6.rowIs w.heap.size 153 4 (odF ⟨⟨0,np,m,[]⟩,none,0⟩):=by rw [hW6];exact kH ROW.out ⟨⟨0,np,m,[]⟩,none,0⟩
 have e6:Only1 w.heap.size W4 W6:=by rw [hW6];exact zG6 W4 w.heap.size 0 ⟨⟨0,np,m,[]⟩,none,0⟩
 clear hW6;have KW:Kp (ownS vo vm) R w W4:=((Kp.of_below (BA.out.trans ((below_drewN yO 1).trans (B5.out.mono BA.out.size)))).trans KU.out);refine qI rfl w.heap.size ⟨⟨0,np,m,[]⟩,none,0⟩ rfl R6 rfl ⟨_,_,vm,P++[⟨⟨xf,xt,x.data⟩,p',c'⟩],rfl,HT.out.symm,?_,e6.kp KW yN,By.nil _ _,fun k hk=>(NU.out k hk).imp id (fun y=>zI (zI BA.out.size B5.out.size) y)⟩;rw [HS.out,<- HXF.out,<- HXT.out];exact (e6.off OU.out ROW.out (by decide) (by decide) HG.out).mono (Nat.le_succ _)
end Go.Proofs.YtleaknfjbbccgaaGreatDoor.Se
namespace Go.Proofs.YtleaknfjbbccgaaGreatDoor
open Plain
set_option maxHeartbeats 16000000
set_option maxRecDepth 100000
open Go.RowKit Go.Shelf Go.Sort
structure Fr (M M':Mm) (n m:Nat) (w w':World):Prop where
 u:Uw (own M n m) w w'
 o:∀ x,own M' n m x->own M n m x\/w.heap.size<=x
theorem Fr.of_below {M:Mm} {n m:Nat} {w w':World} (b:Below w.heap.size w w'):Fr M M n m w w':=⟨Uw.of_below b,fun _ x=>.inl x⟩
theorem Fr.trans {M M' M'':Mm} {n m:Nat} {w w' w'':World} (h:Fr M M' n m w w') (g:Fr M' M'' n m w' w''):Fr M M'' n m w w'' :=
 ⟨h.u.and_then g.u (fun k hk x=>(h.o k x).elim id (fun y=>by omega)),fun x hx=>(g.o x hx).elim (h.o x) (fun y=>.inr (zI h.u.size y))⟩
theorem Fr.box {M M':Mm} {n m:Nat} {w w' w'':World} (h:Fr M M' n m w w') {b:Nat} (hb:w.heap.size<=b) (u:Uw (fun x=>x=b) w' w''):Fr M M' n m w w'' :=
 ⟨h.u.and_then u (fun k hk e=>by have e':k=b:=e;omega),h.o⟩
theorem Fr.keep {M M':Mm} {n m:Nat} {w w':World} (h:Fr M M' n m w w') {x:Nat} (hx:x<w.heap.size) (ho:¬ own M n m x):w'.heap[x]?=w.heap[x]?/\¬ own M' n m x :=
 ⟨h.u.block x hx ho,fun y=>(h.o x y).elim ho (fun z=>by omega)⟩
namespace Plain
def xW8 (W:Wo) (p:Se.Plain.Po):Wo:={ W with off:={ W.off with posted:=W.off.posted++[p] } }
end Plain
theorem zH9 {fn:Func} {p:Tmp} {Q:Ending->World->Prop} {a:Act} {w:World} (h:fn.results=#[.cell p 98]) (G:Nat) (x:Se.Plain.Ev) (hp:a.tmps.getD p undef=.pointer (some ⟨G,0,none⟩))
  (hg:w.rowIs G 98 4 (Se.evF x)) (hd:a.defers=[]) (hR:Q (.returned (Se.aggV x)) w):bodyPost Tryz.prog fn Q .ret a w:=by
 obtain ⟨c,hb,hs,hc⟩:=hg;have e:=Se.row4 hs (hc 0 (by omega)) (hc 1 (by omega)) (hc 2 (by omega)) (hc 3 (by omega));subst e;exact bodyPost_ret (results_cell_row (P:=Tryz.prog) h _ _ G 98 _ (0,0) _ hp hb Tryz.underlying98 rfl (by kernel_rfl)) hd hR
theorem kA (W:World) (g:Nat) (x:Se.Plain.Ev):Uw (fun b=>b=g) W (Se.putV W g x):=by
 unfold Se.putV;exact ((((Uw.refl (fun b=>b=g) W).set (b:=g) (.inl rfl) 0 _).set (b:=g) (.inl rfl) 1 _).set (b:=g) (.inl rfl) 2 _).set (b:=g) (.inl rfl) 3 _
def Sm (M M':Mm):Prop:=M'.R=M.R/\M'.EB=M.EB/\M'.ce=M.ce
def SndP (B:Nat) (M:Mm) (c:Cf) (n m:Nat) (W:Wo) (T S:Nat) (p:Se.Plain.Po) (w:World) (e:Ending) (w':World):Prop :=
 e=.returned (Se.aggV ⟨(W.off.posted.length:Int),p.frm,p.«to»,(p.data.length:Int)⟩)/\∃ M',WI B M' w' c n m (xW8 W p) T (S+1)/\Fr M M' n m w w'/\Sm M M'
theorem xO6 (B:Nat) (M:Mm) (c:Cf) (n m:Nat) (W:Wo) (T S:Nat) (p:Se.Plain.Po) (a:Option Addr) (k:Nat) (hf:0<=p.frm/\p.frm<=8) (ht:0<=p.«to»/\p.«to»<=8) (hd:p.data.length<=256) (hg:Se.Plain.Good W.off) (hl:W.off.posted.length<=80000) (w:World) (h:WI B M w c n m W T S) (hy:Se.encB.Holds w a p.data) :
  Calls Tryz.prog 90 #[.pointer (some ⟨M.R,0,none⟩),.int .i64 p.frm,.int .i64 p.«to»,.slice a p.data.length k] w (SndP B M c n m W T S p w):=by
 obtain ⟨WA,hWA⟩:∃ WA,WA=w.alloc (.cells #[.int .i64 0,.int .i64 0,.int .i64 0,.int .i64 0] 98):=⟨_,rfl⟩;have BA:=hid (show Below w.heap.size w WA by rw [hWA];exact yO.alloc yN _);have RA:=hid (show WA.rowIs w.heap.size 98 4 (Se.evF Se.Plain.noEv) by rw [hWA];exact Se.zE1 w Se.Plain.noEv);have hE:Se.Plain.leE W.off ⟨1,p.frm,p.«to»,0,p.data⟩=0:=by
  unfold Se.Plain.leE;rw [if_neg (by simp),if_neg (by simp;omega),if_pos rfl,if_neg (by simp;omega)]
 have e1:Se.Plain.leT W.off ⟨1,p.frm,p.«to»,0,p.data⟩=⟨0,(W.off.posted.length:Int),(p.data.length:Int),[]⟩:=by
  unfold Se.Plain.leT;rw [hE,if_neg (by simp),if_pos rfl]
 have e2:Se.Plain.leS W.off ⟨1,p.frm,p.«to»,0,p.data⟩={ W.off with posted:=W.off.posted++[p] }:=by
  unfold Se.Plain.leS;rw [hE,if_neg (by simp),if_pos rfl]
 have HA:=hid (h.grow BA.out);have K:=Se.post_z M.R 5 S (wbX c M n m) M.po M.vm M.P W.off hg (by have:=HA.out.po.len;omega) ⟨1,p.frm,p.«to»,0,p.data⟩ a k rfl hf ht (by show ¬ 256<p.data.length;omega) WA HA.out.po (hy.grow BA.out);have HE:=hid (And.intro e1 e2);have HI:=hid h;clear h hy e1 e2 hE hg hl hd hf ht;obtain ⟨f,t,data⟩:=p;dsimp only at K HE ⊢;generalize hdl:data.length=dl at *;have HDL:=hid hdl;clear hdl;go_enter Tryz.func90,Tryz.ntmps90
 go_upto_region 1 with fail
 rw [<- hWA];clear hWA
 go_wp2_with fail
 refine K.mono ?_;rintro e w2 ⟨r,po',vm',P',rfl,hr,hof,kp,hby,hown⟩;rw [HE.out.1] at hr;rw [HE.out.2] at hof;obtain ⟨h2,u2,o2⟩:=HA.out.setOf (S':=S+1) (by omega) hof kp hown;have F2:=hid (show Fr M { M with po:=po',vm:=vm',P:=P' } n m w w2 from (Fr.of_below BA.out).trans ⟨u2,o2⟩);have H2:=hid h2;have ho2:¬ own M n m w.heap.size:=fun x=>by have:=HI.out.own_lt x;omega
 have R2:=hid (show w2.rowIs w.heap.size 98 4 (Se.evF Se.Plain.noEv) from u2.rowIs RA.out ho2);have N2:=hid (show ¬ own { M with po:=po',vm:=vm',P:=P' } n m w.heap.size from fun x=>(o2 _ x).elim ho2 (fun y=>by have:=RA.out.lt;omega));obtain ⟨d,q,k2⟩:=r;have hr':d=⟨0,(W.off.posted.length:Int),(dl:Int),[]⟩:=hr;subst hr';clear K hof kp hby hown h2 u2 o2 hr ho2;generalize hpl:W.off.posted.length=pl at *;have HPL:=hid hpl;clear hpl;obtain ⟨W3,hW3⟩:∃ W3,W3=w2.alloc (.cells #[.int .i64 0,.int .i64 (pl:Int),.int .i64 (dl:Int),.slice q 0 k2] 153):=⟨_,rfl⟩
 go_upto_region 2 with fail
 rw [<- hW3];have B3:=hid (show Below w2.heap.size w2 W3 by rw [hW3];exact yO.alloc yN _);have x1:W3.cell? ⟨w2.heap.size,1,none⟩=some (.int .i64 (pl:Int)):=by rw [hW3,zM _ _ _ _ rfl];rfl
 have x2:W3.cell? ⟨w2.heap.size,2,none⟩=some (.int .i64 (dl:Int)):=by rw [hW3,zM _ _ _ _ rfl];rfl
 clear hW3;have R3:=hid (R2.out.of_block (B3.out.block _ R2.out.lt));have y0:=R3.out.cell (i:=0) (by decide);have y1:=R3.out.cell (i:=1) (by decide);have y2:=R3.out.cell (i:=2) (by decide);have y3:=R3.out.cell (i:=3) (by decide);have z0:=R3.out.frozen 0;have z1:=R3.out.frozen 1;have z2:=R3.out.frozen 2;have z3:=R3.out.frozen 3;obtain ⟨W6,hW6⟩:∃ W6,W6=(((W3.setCell ⟨w.heap.size,0,none⟩ (.int .i64 (pl:Int))).setCell ⟨w.heap.size,1,none⟩ (.int .i64 f)).setCell ⟨w.heap.size,2,none⟩ (.int .i64 t)).setCell ⟨w.heap.size,3,none⟩ (.int .i64 (dl:Int)):=⟨_,rfl⟩;go_wp2;rw [<- hW6];have h6:W6=Se.putV W3 w.heap.size ⟨(pl:Int),f,t,(dl:Int)⟩:=hW6;clear hW6 x1 x2 y0 y1 y2 y3 z0 z1 z2 z3;have F6:W6.rowIs w.heap.size 98 4 (Se.evF ⟨(pl:Int),f,t,(dl:Int)⟩):=by rw [h6];exact Se.xE3 R3.out _
 have V6:Uw (fun b=>b=w.heap.size) W3 W6:=by rw [h6];exact kA W3 _ _
 clear h6;refine zH9 rfl w.heap.size ⟨(pl:Int),f,t,(dl:Int)⟩ rfl F6 rfl ⟨by rw [HPL.out,HDL.out],_,?_,(F2.out.trans (Fr.of_below B3.out)).box yN V6,⟨rfl,rfl,rfl⟩⟩;exact (H2.out.grow B3.out).box R3.out (by have:=HI.out.bw;omega) N2.out (by decide) (by decide) V6
namespace Plain
theorem yX4 (wd:Int) (vs:List Int):yU ((fldL wd vs).map Prod.fst)=wd.toNat*vs.length:=by
 unfold yU fldL;induction vs with
 | nil=>rfl
 | cons x l ih =>
  simp only [List.map_cons,List.sum_cons,List.length_cons] at ih ⊢;rw [ih,Nat.mul_add];omega
theorem yG5 (wd:Int) (vs:List Int):(qR (fldL wd vs)).length<=(wd.toNat*vs.length+7)/8:=by
 unfold qR;split
 ·rw [qT]
  unfold szN;split
  ·rw [yX4];exact yN
  ·exact zG _
 ·exact zG _
theorem kI (c:Cf) (l:List Int):(xV c l).length<=256:=by
 unfold xV;split
 ·rename_i h
  split
  ·rename_i h1
   split
   ·have hp:=yG5 21 l
    have hm:=(xJ h).2.2.2.2.1.2;rw [show (21:Int).toNat=21 from rfl] at hp;omega
   ·simp
  ·simp
 ·simp
theorem zP3 (c:Cf) (a b:Int) (st:List (List En)) (h4:c.ls.length<=4):(rumB c a b st).length<=256:=by
 unfold rumB;split
 ·have:=yG5 34 (jT st (comL c.ls a b c.ls.length))
  rw [zH2] at this;have hc:=zH4 c.ls a b c.ls.length;have e:(34:Int).toNat=34:=rfl;rw [e] at this;omega
 ·simp
theorem xG (l:List Nat):(byI l).length=l.length:=by unfold byI;rw [zL]
end Plain
theorem segB_holds {w:World} {u:Value} {l:List Nat} (h:SegB w u l) (hl:Lies w.heap.size u):∃ p k,u=.slice p (byI l).length k/\Se.encB.Holds w p (byI l):=by
 rw [xG];rcases h with ⟨rfl,p,k,rfl⟩|⟨b,off,k,rfl,hc⟩
 ·exact ⟨p,k,rfl,fun h0=>by simp [byI] at h0⟩
 ·refine ⟨_,k,rfl,fun h0=>?_⟩
  rw [xG] at h0;refine ⟨b,off,rfl,hl ⟨b,off,none⟩ _ _ rfl h0,fun j v hv=>?_⟩;have hj:j<l.length:=by
   rcases Nat.lt_or_ge j l.length with x|x
   ·exact x
   ·rw [zN (by rw [Se.encB.vals_len,xG];show l.length*1<=j;omega)] at hv;cases hv
  rw [Se.xS0 (by rw [xG];exact hj)] at hv;rw [<- Option.some.inj hv,hc j hj];congr 2
  unfold byI;rw [zA,zA,zV,zB hj];rfl
structure EvB (M:Mm) (n m:Nat) (w0 w:World) (b:Nat) (f:Nat->Value):Prop where
 row:w.rowIs b 98 4 f
 no:¬ own M n m b
 lt:w0.heap.size<=b
theorem EvB.fr {M M':Mm} {n m:Nat} {w0 w w':World} {b:Nat} {f:Nat->Value} (h:EvB M n m w0 w b f) (g:Fr M M' n m w w'):EvB M' n m w0 w' b f :=
 have k:=g.keep h.row.lt h.no
 ⟨h.row.of_block k.1,k.2,h.lt⟩
theorem zL5 (B:Nat) (M:Mm) (c:Cf) (n m:Nat) (W:Wo) (T S:Nat) (f t:Int) (v:Value) (l:List Int) (hl:l.length<=1000) (hf:0<=f/\f<=8) (ht:0<=t/\t<=8) (hg:Se.Plain.Good W.off) (hp:W.off.posted.length<=80000) (w:World) (h:WI B M w c n m W T S) (hs:Seg w v l) (hy:Lies w.heap.size v) :
  Calls Tryz.prog 71 #[.pointer (some ⟨M.R,0,none⟩),.int .i64 f,.int .i64 t,v] w (SndP B M c n m W T S ⟨f,t,byI (xV c l)⟩ w):=by
 obtain ⟨sp,sc,rfl⟩:=yX hs;obtain ⟨WA,hWA⟩:∃ WA,WA=w.alloc (.cells #[.int .i64 0,.int .i64 0,.int .i64 0,.int .i64 0] 98):=⟨_,rfl⟩;have BA:=hid (show Below w.heap.size w WA by rw [hWA];exact yO.alloc yN _);have RA:=hid (show EvB M n m w WA w.heap.size (Se.evF Se.Plain.noEv) from ⟨by rw [hWA];exact Se.zE1 w Se.Plain.noEv,fun x=>by have:=h.own_lt x;omega,yN⟩);have HA:=hid (h.grow BA.out);have KA:=qE6 c (M.lv c) (M.mv c) (.slice sp l.length sc) l (by omega) WA HA.out.cf (hs.below BA.out hy) (hy.mono BA.out.size);have c0:WA.cell? ⟨M.R,0,none⟩=some (.int .i64 c.n):=HA.out.cell (j:=0) (by omega);have c1:WA.cell? ⟨M.R,1,none⟩=some (M.lv c):=HA.out.cell (j:=1) (by omega);have c2:WA.cell? ⟨M.R,2,none⟩=some (.int .i64 c.t):=HA.out.cell (j:=2) (by omega);have c3:WA.cell? ⟨M.R,3,none⟩=some (M.mv c):=HA.out.cell (j:=3) (by omega);have c4:WA.cell? ⟨M.R,4,none⟩=some (.int .i64 c.cap):=HA.out.cell (j:=4) (by omega);have HI:=hid h;have HDL:=hid (show (byI (xV c l)).length<=256 by rw [xG];exact kI c l);have KS:=hid (fun (X:World) (hX:WI B M X c n m W T S) a k (hd:Se.encB.Holds X a (byI (xV c l)))=>xO6 B M c n m W T S ⟨f,t,byI (xV c l)⟩ a k hf ht HDL.out hg hp X hX hd);clear h hs hy hg hp hf ht;generalize hD:byI (xV c l)=D at *;have HD:=hid hD;clear hD;go_enter Tryz.func71,Tryz.ntmps71
 go_upto_region 1 with fail
 rw [<- hWA];clear hWA
 go_wp2_with fail
 refine KA.mono ?_;rintro e w1 ⟨u,rfl,sb,li,hb⟩;obtain ⟨p,k,rfl,hh⟩:=segB_holds sb li;rw [HD.out] at hh ⊢;have H1:=hid (HA.out.grow hb);have E1:=hid (RA.out.fr (Fr.of_below hb));have F1:=hid (show Fr M M n m w w1 from (Fr.of_below BA.out).trans (Fr.of_below hb));have K:=KS.out w1 H1.out p k hh;clear KA sb li hb hh c0 c1 c2 c3 c4 KS
 go_wp2_with fail
 refine K.mono ?_;rintro e w2 ⟨rfl,M',h2,f2,hR⟩;have H2:=hid h2;have F2:=hid (F1.out.trans f2);have E2:=hid (E1.out.fr f2);clear K h2 f2;generalize hpl:W.off.posted.length=pl at *;have HPL:=hid hpl;dsimp only;generalize hdl:D.length=dl at *;have HL:=hid hdl;clear hpl hdl;have y0:=E2.out.row.cell (i:=0) (by decide);have y1:=E2.out.row.cell (i:=1) (by decide);have y2:=E2.out.row.cell (i:=2) (by decide);have y3:=E2.out.row.cell (i:=3) (by decide);have z0:=E2.out.row.frozen 0;have z1:=E2.out.row.frozen 1;have z2:=E2.out.row.frozen 2;have z3:=E2.out.row.frozen 3;obtain ⟨W6,hW6⟩:∃ W6,W6=(((w2.setCell ⟨w.heap.size,0,none⟩ (.int .i64 (pl:Int))).setCell ⟨w.heap.size,1,none⟩ (.int .i64 f)).setCell ⟨w.heap.size,2,none⟩ (.int .i64 t)).setCell ⟨w.heap.size,3,none⟩ (.int .i64 (dl:Int)):=⟨_,rfl⟩;go_wp2;rw [<- hW6];have h6:W6=Se.putV w2 w.heap.size ⟨(pl:Int),f,t,(dl:Int)⟩:=hW6;clear hW6 y0 y1 y2 y3 z0 z1 z2 z3;have F6:W6.rowIs w.heap.size 98 4 (Se.evF ⟨(pl:Int),f,t,(dl:Int)⟩):=by rw [h6];exact Se.xE3 E2.out.row _
 have V6:Uw (fun b=>b=w.heap.size) w2 W6:=by rw [h6];exact kA w2 _ _
 clear h6;refine zH9 rfl w.heap.size ⟨(pl:Int),f,t,(dl:Int)⟩ rfl F6 rfl ⟨by rw [HPL.out,<- HL.out],M',H2.out.box E2.out.row (by have:=HI.out.bw;omega) E2.out.no (by decide) (by decide) V6,F2.out.box yN V6,hR⟩
namespace Plain
def rumK (c:Cf) (W:Wo) (i k:Nat):List Se.Plain.Po:=((List.range k).filter fun j=>j≠i).map (rumP c W i)
theorem yX5 (c:Cf) (W:Wo) (i:Nat):rumK c W i 0=[]:=rfl
theorem yX6 (c:Cf) (W:Wo) (i:Nat):rumK c W i (i+1)=rumK c W i i:=by
 unfold rumK;rw [List.range_succ,List.filter_append];simp
theorem zW2 (c:Cf) (W:Wo) (i k:Nat) (h:k≠i):rumK c W i (k+1)=rumK c W i k++[rumP c W i k]:=by
 unfold rumK;rw [List.range_succ,List.filter_append];simp [h]
def xA (W:Wo) (l:List Se.Plain.Po):Wo:={ W with off:={ W.off with posted:=W.off.posted++l } }
theorem zC7 (W:Wo):xA W []=W:=by unfold xA;rw [List.append_nil]
theorem vT (W:Wo) (l:List Se.Plain.Po) (p:Se.Plain.Po):xW8 (xA W l) p=xA W (l++[p]):=by unfold xW8 xA;simp
theorem zE4 (k:Nat) (a b:List Se.Plain.Po):evsF k (a++b)=evsF k a++evsF (k+a.length) b:=by
 induction a generalizing k with
 | nil=>simp [evsF]
 | cons x a ih=>simp only [List.cons_append,evsF,ih,List.length_cons];rw [show k+1+a.length=k+(a.length+1) by omega]
theorem zB5 (k:Nat) (a:List Se.Plain.Po):(evsF k a).length=a.length:=by
 induction a generalizing k with
 | nil=>rfl
 | cons x a ih=>simp [evsF,ih]
theorem yB0 (c:Cf) (W:Wo) (i k:Nat):(rumK c W i k).length<=k:=by
 unfold rumK;rw [zL];have:=List.length_filter_le (fun j=>decide (j≠i)) (List.range k);simpa using this
end Plain
def zP4:Enc Se.Plain.Ev:=⟨4,fun r=>[.int .i64 r.id,.int .i64 r.frm,.int .i64 r.tow,.int .i64 r.size],fun _=>rfl,fun a u hu=>by
 simp only [List.mem_cons,List.not_mem_nil,or_false] at hu;rcases hu with rfl|rfl|rfl|rfl<;>rfl,by decide⟩
theorem xO7:(Tryz.prog.info? 98).map (fun i=>(i.zero,i.size,i.bytes))=some (some (.agg #[.int .i64 0,.int .i64 0,.int .i64 0,.int .i64 0]),4,32):=by kernel_rfl
theorem WI.free {B:Nat} {M:Mm} {w:World} {c:Cf} {n m:Nat} {W:Wo} {T S:Nat} (h:WI B M w c n m W T S) {x t:Nat} (ht:tag w x=some t) (h0:t≠86) (h1:t≠94) (h2:t≠114) (h3:t≠166) (h4:t≠56) (h5:t≠88) (h6:t≠3) (h7:t≠181):¬ own M n m x:=by
 have no:∀ u,tag w x=some u->t=u:=fun u e=>Option.some.inj (ht.symm.trans e);rintro (rfl|rfl|hx|hx|hx|rfl)
 ·exact h0 (no _ h.tagR)
 ·exact h1 (no _ h.tagE)
 ·rcases zH8 h.br hx with y|y|y
  ·exact h2 (no _ y)
  ·exact h3 (no _ y)
  ·exact h4 (no _ y)
 ·rcases zB3 h.bk hx with y|y
  ·exact h5 (no _ y)
  ·exact h6 (no _ y)
 ·rcases zB4 h.po hx with y|⟨y,_⟩
  ·exact h7 (no _ y)
  ·rw [ht] at y;cases y
 ·have:=h.tagL
  rw [ht] at this;cases this
def EvR (w0 w:World) (v:Value) (l:List Se.Plain.Ev):Prop:=w.ownsRow w0.heap.size 98 4 v l.length (zP4.vals l)
theorem EvR.nil (w0 w:World):EvR w0 w (.slice none 0 0) []:=World.ownsRow_nil _ _ _ _
theorem EvR.fr {B:Nat} {M M':Mm} {w0 w w':World} {c:Cf} {n m:Nat} {W:Wo} {T S:Nat} {v:Value} {l:List Se.Plain.Ev} (h:EvR w0 w v l) (wi:WI B M w c n m W T S) (f:Fr M M' n m w w'):EvR w0 w' v l:=by
 refine Hd.zB8 h fun b hb=>?_;have ht:=xC h hb;exact (f.keep (qP h hb) (wi.free ht (by decide) (by decide) (by decide) (by decide) (by decide) (by decide) (by decide) (by decide))).1
theorem EvR.snoc {B:Nat} {M:Mm} {w0 w:World} {c:Cf} {n m:Nat} {W:Wo} {T S:Nat} {v:Value} {l:List Se.Plain.Ev} (h:EvR w0 w v l) (wi:WI B M w c n m W T S) (hl:l.length<=1000) (hw:w0.heap.size<=w.heap.size) (hB:B<=w0.heap.size) (x:Se.Plain.Ev) :
  ∃ v' w',(Builtin.append_ #[39,39] 39 #[v,.slice (some ⟨w.heap.size,0,none⟩) 1 1]).run Tryz.prog (w.alloc (Se.boxV x))=.ok v' w'/\EvR w0 w' v' (l++[x])/\WI B M w' c n m W T S/\(∀ M0,Fr M0 M n m w0 w->Fr M0 M n m w0 w')/\w.heap.size<=w'.heap.size/\∀ y,y<w.heap.size->tag w y≠some 98->w'.heap[y]?=w.heap[y]?:=by
 have bA:Below w.heap.size w (w.alloc (Se.boxV x)):=yO.alloc yN _;have hA:EvR w0 (w.alloc (Se.boxV x)) v l:=h.fr wi (Fr.of_below bA);have wA:=wi.grow bA;obtain ⟨i0,hi,hz0,hz1,hz2⟩:=info_parts xO7;obtain ⟨v',w',h1,h2,h3⟩:=zP4.app (w:=w.alloc (Se.boxV x)) (B:=w0.heap.size) (c:=1) (m:=1) (q:=[x]) Tryz.underlying39 hi hz0 hz1 hz2 rfl hA (zP4.one_holds w x 98) rfl (fun e=>by cases e) (by omega) (by omega) (by simp;omega);have u:Uw (fun b=>v.ownBlock=some b) (w.alloc (Se.boxV x)) w':=⟨h3.os,h3.tape,h3.output,h3.size,fun k hk hn=>h3.block k hk (fun e=>hn e.symm)⟩;have tg:∀ b,v.ownBlock=some b->tag (w.alloc (Se.boxV x)) b=some 98:=fun b hb=>xC hA hb;have ge:∀ b,v.ownBlock=some b->w0.heap.size<=b:=fun b hb=>by
  rcases hA.2 with ⟨rfl,_⟩|⟨g,cc,cur,rfl,hg,_⟩
  ·simp [Value.ownBlock] at hb
  ·simp only [Value.ownBlock,Option.some.injEq] at hb
   rw [<- hb];exact hg
 refine ⟨v',w',h1,?_,wA.un u (fun b hb e=>wA.free (tg b e) (by decide) (by decide) (by decide) (by decide) (by decide) (by decide) (by decide) (by decide) hb) (fun b e=>zI hB (ge b e)) (fun b e=>by rw [tg b e];decide) (fun b e=>by rw [tg b e];decide),fun M0 f=>?_,zI bA.size u.size,fun y hy ht=>(u.block y (zF hy bA.size) (fun e=>ht (by rw [<- xJ2 (bA.block y hy)];exact tg y e))).trans (bA.block y hy)⟩
 ·show w'.ownsRow w0.heap.size 98 4 v' (l++[x]).length _
  rw [zD];exact h2
 ·exact ⟨(f.u.and_then (Uw.of_below (P:=own M n m) bA) (fun k hk y=>(f.o k y).elim id (fun z=>by omega))).and_then u (fun k hk e=>by have:=ge k e;omega),f.o⟩
theorem EvR.app {B:Nat} {M:Mm} {w0 w1 w:World} {c:Cf} {n m:Nat} {W:Wo} {T S:Nat} {v u:Value} {l l2:List Se.Plain.Ev} (h:EvR w0 w v l) (h2:EvR w1 w u l2) (wi:WI B M w c n m W T S) (hl:l.length+l2.length<=1000) (hw:w0.heap.size<=w.heap.size) (hB:B<=w0.heap.size) :
  ∃ v' w',(Builtin.append_ #[39,39] 39 #[v,u]).run Tryz.prog w=.ok v' w'/\EvR w0 w' v' (l++l2)/\WI B M w' c n m W T S/\(∀ M0,Fr M0 M n m w0 w->Fr M0 M n m w0 w')/\w.heap.size<=w'.heap.size/\∀ y,y<w.heap.size->tag w y≠some 98->w'.heap[y]?=w.heap[y]?:=by
 obtain ⟨p,k,rfl,hh,hnil,_⟩:=zP4.owns h2 rfl;obtain ⟨i0,hi,hz0,hz1,hz2⟩:=info_parts xO7;obtain ⟨v',w',h1,h2',h3⟩:=zP4.app (w:=w) (B:=w0.heap.size) (c:=k) (m:=l2.length) (q:=l2) Tryz.underlying39 hi hz0 hz1 hz2 rfl h hh rfl hnil (by omega) (by omega) hw;have u:Uw (fun b=>v.ownBlock=some b) w w':=⟨h3.os,h3.tape,h3.output,h3.size,fun k hk hn=>h3.block k hk (fun e=>hn e.symm)⟩;have tg:∀ b,v.ownBlock=some b->tag w b=some 98:=fun b hb=>xC h hb;have ge:∀ b,v.ownBlock=some b->w0.heap.size<=b:=fun b hb=>by
  rcases h.2 with ⟨rfl,_⟩|⟨g,cc,cur,rfl,hg,_⟩
  ·simp [Value.ownBlock] at hb
  ·simp only [Value.ownBlock,Option.some.injEq] at hb
   rw [<- hb];exact hg
 refine ⟨v',w',h1,?_,wi.un u (fun b hb e=>wi.free (tg b e) (by decide) (by decide) (by decide) (by decide) (by decide) (by decide) (by decide) (by decide) hb) (fun b e=>zI hB (ge b e)) (fun b e=>by rw [tg b e];decide) (fun b e=>by rw [tg b e];decide),fun M0 f=>?_,u.size,fun y hy ht=>u.block y hy (fun e=>ht (tg y e))⟩
 ·show w'.ownsRow w0.heap.size 98 4 v' (l++l2).length _
  rw [zD];exact h2'
 ·exact ⟨f.u.and_then u (fun k hk e=>by have:=ge k e;omega),f.o⟩
theorem yL5 {w:World} {G:Nat} {L:List Int} {s:Nat->List En} {f:Nat->Value} {T:Int} (h:RowL w G L.length s f) (hS:Sok T s) (h4:L.length<=4):zA9 w (.slice (some ⟨G,0,none⟩) L.length L.length) (stL s L.length):=by
 have hl:(stL s L.length).length=L.length:=by unfold stL;simp
 refine ⟨by rw [hl];omega,_,_,by rw [hl],fun _=>⟨G,0,rfl,h.row.lt,fun j hj=>?_⟩⟩;rw [hl] at hj;refine ⟨f j,by rw [Nat.zero_add];exact h.row.cell hj,?_⟩;have e:(stL s L.length).getD j []=s j:=by unfold stL;simp [List.getD_eq_getElem?_getD,hj]
 rw [e];exact ⟨(h.sg j hj).1,(h.sg j hj).2,by have:=hS.len j;omega⟩
namespace Plain
theorem kB {W:Wo} {l:List Se.Plain.Po} (h:Se.Plain.Good W.off) (hl:∀ p∈l,(0<=p.frm/\p.frm<=8)/\(0<=p.«to»/\p.«to»<=8)/\p.data.length<=256):Se.Plain.Good (xA W l).off:=by
 refine ⟨fun k hk=>?_,fun y hy=>?_,fun y hy=>?_,fun y hy=>?_⟩
 ·have:=h.op k hk
  show k<(W.off.posted++l).length;rw [zD];omega
 ·rcases yL.1 hy with x|x
  ·exact h.fr y x
  ·exact (hl y x).1
 ·rcases yL.1 hy with x|x
  ·exact h.to y x
  ·exact (hl y x).2.1
 ·rcases yL.1 hy with x|x
  ·exact h.sz y x
  ·exact (hl y x).2.2
theorem yG6 {c:Cf} {W:Wo} {i k:Nat} (hi:i<=8) (hk:k<=9) (h4:c.ls.length<=4):∀ p∈rumK c W i k,(0<=p.frm/\p.frm<=8)/\(0<=p.«to»/\p.«to»<=8)/\p.data.length<=256:=fun p hp=>by
 obtain ⟨j,hj,rfl⟩:=zZ.1 hp;have hjk:j<k:=zY.1 (List.mem_filter.1 hj).1;refine ⟨⟨?_,?_⟩,⟨?_,?_⟩,?_⟩
 ·show (0:Int)<=(i:Int);omega
 ·show (i:Int)<=8;omega
 ·show (0:Int)<=(j:Int);omega
 ·show (j:Int)<=8;omega
 ·show (byI _).length<=256
  rw [xG];exact zP3 c i j _ h4
end Plain
def RusP (B:Nat) (M:Mm) (c:Cf) (n m:Nat) (W:Wo) (T S i:Nat) (w:World) (e:Ending) (w':World):Prop :=
 ∃ v,e=.returned v/\EvR w w' v (evsF W.off.posted.length (rumK c W i n))/\∃ M',M'.R=M.R/\WI B M' w' c n m (xA W (rumK c W i n)) T (S+n)/\Fr M M' n m w w'
theorem zP5 (B:Nat) (M:Mm) (c:Cf) (n m:Nat) (W:Wo) (T S i:Nat) (Tm:Int) (hi:i<n) (hn8:n<=8) (h4:c.ls.length<=4) (hS:Sok Tm (W.st i)) (hg:Se.Plain.Good W.off) (hp:W.off.posted.length<=70000) (w:World) (h:WI B M w c n m W T S) :
  Calls Tryz.prog 74 #[.pointer (some ⟨M.R,0,none⟩),.int .i64 (i:Int)] w (RusP B M c n m W T S i w):=by
 have HI:=hid h;have HS:=hid hS;have HG:=hid (fun k (hk:k<=9)=>kB hg (yG6 (c:=c) (W:=W) (i:=i) (by omega) hk h4));have HB:=hid h.bw;have c7:w.cell? ⟨M.R,7,none⟩=some (.slice (some ⟨M.EB,0,none⟩) n M.ce):=h.cell (j:=7) (by omega);generalize hpl:W.off.posted.length=pl at *;have HPL:=hid hpl;clear hpl h hS hg;have hiz:(i:Int)<(n:Int):=by omega
 go_enter Tryz.func74,Tryz.ntmps74
 go_wp2;clear c7
 go_loopg [5,6,7,8,14] n (fun gg s5 _ _ _ s14 wx=>∃ k:Nat,k<=n/\n-k<=gg/\s14=.int .i64 k/\Aside (∃ M',M'.R=M.R/\WI B M' wx c n m (xA W (rumK c W i k)) T (S+k)/\Fr M M' n m w wx/\EvR w wx s5 (evsF pl (rumK c W i k))))
 case atStart=>exact ⟨0,zG _,by omega,rfl,(show Aside _ from ⟨M,rfl,by rw [yX5,zC7];exact HI.out,Fr.of_below yO,EvR.nil _ _⟩)⟩
 case round =>
  obtain ⟨k,hkk,hgg,rfl,A⟩:=hrel;by_cases hlt:k<n
  ·have hltz:(k:Int)<(n:Int):=by omega
   obtain ⟨M',hR,hw,hf,he⟩:=A.out;have HW:=hid hw;have HF:=hid hf;have HE:=hid he;clear hw hf he A;by_cases hki:k=i
   ·have hkb:((k:Int) != (i:Int))=false:=by rw [hki];simp
    go_wp2
    go_roundg (n-(k+1))
    case measure=>omega
    case rel =>
     have e:rumK c W i (k+1)=rumK c W i k:=by rw [hki];exact yX6 c W i
     refine ⟨k+1,by omega,by omega,by go_num,(show Aside _ from ⟨M',hR,?_,HF.out,?_⟩)⟩
     ·rw [e];exact HW.out.later yN (Nat.le_succ _)
     ·rw [e];exact HE.out
   ·have hkb:((k:Int) != (i:Int))=true:=by rw [bne_iff_ne];omega
    have KE:=fun X (bx:Below wr.heap.size wr X)=>zU9 M'.EB (i*4) ⟨94,M'.NC,M'.F⟩ (M'.H i) i M'.lp M'.lc c.ls (W.st i) Tm h4 HS.out X ((HW.out.br.st.sto hi).grow bx);have KR:=fun X (bx:Below wr.heap.size wr X) v (hs:zA9 X v (stL (W.st i) c.ls.length))=>xH8 c (M'.lv c) (M'.mv c) v (i:Int) (k:Int) (stL (W.st i) c.ls.length) X (HW.out.cf.grow bx) hs;have bD:=hid (show Below wr.heap.size wr wr.drew from yO.drew);have a0:wr.cell? ⟨M.R,0,none⟩=some (.int .i64 c.n):=(by rw [<- hR];exact HW.out.cell (j:=0) (by omega));have a1:wr.cell? ⟨M.R,1,none⟩=some (M'.lv c):=(by rw [<- hR];exact HW.out.cell (j:=1) (by omega));have a2:wr.cell? ⟨M.R,2,none⟩=some (.int .i64 c.t):=(by rw [<- hR];exact HW.out.cell (j:=2) (by omega));have a3:wr.cell? ⟨M.R,3,none⟩=some (M'.mv c):=(by rw [<- hR];exact HW.out.cell (j:=3) (by omega));have a4:wr.cell? ⟨M.R,4,none⟩=some (.int .i64 c.cap):=(by rw [<- hR];exact HW.out.cell (j:=4) (by omega));have a7:wr.cell? ⟨M.R,7,none⟩=some (.slice (some ⟨M'.EB,0,none⟩) n M'.ce):=(by rw [<- hR];exact HW.out.cell (j:=7) (by omega))
    go_upto_region 6 with fail
    go_region_held3 (fun w'=>w'.cell? ⟨M.R,0,none⟩=some (.int .i64 c.n)/\w'.cell? ⟨M.R,1,none⟩=some (M'.lv c)/\w'.cell? ⟨M.R,2,none⟩=some (.int .i64 c.t)/\w'.cell? ⟨M.R,3,none⟩=some (M'.mv c)/\w'.cell? ⟨M.R,4,none⟩=some (.int .i64 c.cap)/\w'.cell? ⟨M.R,7,none⟩=some (.slice (some ⟨M'.EB,0,none⟩) n M'.ce)) (go_keep)
     ((
      first
      | (go_at_call 31;refine (KE _ bD.out).mono ?_;rintro e w4 ⟨G,rfl,⟨fl,rl⟩,hG,hb⟩;have B4:=hid (bD.out.trans hb);have SL:=hid (yL5 rl HS.out h4);have H4:=hid (HW.out.grow B4.out);have d0:w4.cell? ⟨M.R,0,none⟩=some (.int .i64 c.n):=(by rw [<- hR];exact H4.out.cell (j:=0) (by omega));have d1:w4.cell? ⟨M.R,1,none⟩=some (M'.lv c):=(by rw [<- hR];exact H4.out.cell (j:=1) (by omega));have d2:w4.cell? ⟨M.R,2,none⟩=some (.int .i64 c.t):=(by rw [<- hR];exact H4.out.cell (j:=2) (by omega));have d3:w4.cell? ⟨M.R,3,none⟩=some (M'.mv c):=(by rw [<- hR];exact H4.out.cell (j:=3) (by omega));have d4:w4.cell? ⟨M.R,4,none⟩=some (.int .i64 c.cap):=(by rw [<- hR];exact H4.out.cell (j:=4) (by omega));have d7:w4.cell? ⟨M.R,7,none⟩=some (.slice (some ⟨M'.EB,0,none⟩) n M'.ce):=(by rw [<- hR];exact H4.out.cell (j:=7) (by omega));clear rl hG hb)
      | (go_at_call 91;refine (KR _ B4.out _ SL.out).mono ?_;rintro e w5 ⟨u,rfl,sb,li,hb⟩;have B5:=hid (B4.out.trans (hb.mono B4.out.size));have SB:=hid (And.intro sb li);have H5:=hid (HW.out.grow B5.out);have e0:w5.cell? ⟨M.R,0,none⟩=some (.int .i64 c.n):=(by rw [<- hR];exact H5.out.cell (j:=0) (by omega));have e1:w5.cell? ⟨M.R,1,none⟩=some (M'.lv c):=(by rw [<- hR];exact H5.out.cell (j:=1) (by omega));have e2:w5.cell? ⟨M.R,2,none⟩=some (.int .i64 c.t):=(by rw [<- hR];exact H5.out.cell (j:=2) (by omega));have e3:w5.cell? ⟨M.R,3,none⟩=some (M'.mv c):=(by rw [<- hR];exact H5.out.cell (j:=3) (by omega));have e4:w5.cell? ⟨M.R,4,none⟩=some (.int .i64 c.cap):=(by rw [<- hR];exact H5.out.cell (j:=4) (by omega));have e7:w5.cell? ⟨M.R,7,none⟩=some (.slice (some ⟨M'.EB,0,none⟩) n M'.ce):=(by rw [<- hR];exact H5.out.cell (j:=7) (by omega));clear sb li hb)))
    rename_i hlast;clear hlast;obtain ⟨p,q,rfl,hh⟩:=segB_holds SB.out.1 SB.out.2;have F5:=hid (show Fr M M' n m w w5 from HF.out.trans (Fr.of_below B5.out));have E5:=hid (HE.out.fr HW.out (Fr.of_below B5.out));have GD:=HG.out k (by omega);have hlen:(xA W (rumK c W i k)).off.posted.length=pl+(rumK c W i k).length:=by show (W.off.posted++_).length=_;rw [zD,HPL.out]
    have hle:=yB0 c W i k;have K:=xO6 B M' c n m (xA W (rumK c W i k)) T (S+k) (rumP c W i k) p q ⟨show (0:Int)<=(i:Int) by omega,show (i:Int)<=8 by omega⟩ ⟨show (0:Int)<=(k:Int) by omega,show (k:Int)<=8 by omega⟩ (by show (byI _).length<=256;rw [xG];exact zP3 c i k _ h4) GD (by rw [hlen];omega) w5 H5.out hh;rw [hR] at K;have HLEN:=hid hlen;clear hh SB KE KR a0 a1 a2 a3 a4 a7 d0 d1 d2 d3 d4 d7 e0 e1 e2 e3 e4 e7 bD B4 SL H4 GD hlen;dsimp only [rumP] at K;generalize hrl:(byI (rumB c (i:Int) (k:Int) (stL (W.st i) c.ls.length))).length=rl at K ⊢;have HRL:=hid hrl;clear hrl
    go_wp2_with fail
    refine K.mono ?_;rintro e w6 ⟨rfl,M6,h6,f6,hR6⟩;rw [vT,<- show rumP c W i k=⟨(i:Int),(k:Int),_⟩ from rfl,<- zW2 c W i k hki] at h6;have F6:=hid (F5.out.trans f6);have E6:=E5.out.fr H5.out f6;have hev:evsF pl (rumK c W i (k+1))=evsF pl (rumK c W i k)++[⟨((pl+(rumK c W i k).length:Nat):Int),(i:Int),(k:Int),(rl:Int)⟩]:=by
     rw [zW2 c W i k hki,zE4,<- HRL.out];rfl
    obtain ⟨v7,w7,hr7,e7,i7,f7,s7⟩:=E6.snoc h6 (by rw [zB5];omega) F6.out.u.size HB.out ⟨((pl+(rumK c W i k).length:Nat):Int),(i:Int),(k:Int),(rl:Int)⟩;rw [<- hev] at e7;have RUN:=hid hr7;have E7:=hid e7;have I7:=hid i7;have F7:=hid (f7 M F6.out);have HR7:=hid (hR6.1.trans hR);clear K h6 f6 E6 hr7 e7 i7 f7 s7 hev;rw [HLEN.out];dsimp only;rw [HRL.out];generalize hpk:(pl+(rumK c W i k).length)=pk at *;clear hpk
    go_wp2_with (first|(at_builtin;refine xE _ _ 39 RUN.out (by rfl) (by rfl) (by rfl) (by rfl) (by rfl) ?_)|fail)
    go_roundg (n-(k+1))
    case measure=>omega
    case rel=>exact ⟨k+1,by omega,by omega,by go_num,(show Aside _ from ⟨M6,HR7.out,I7.out,F7.out,E7.out⟩)⟩
  ·have hltz:¬ (k:Int)<(n:Int):=by omega
   have ek:k=n:=by omega
   subst ek;have HA:=hid A.out;clear A;go_wp2;go_ret
   obtain ⟨M',hR,hw,hf,he⟩:=HA.out;exact ⟨_,rfl,by rw [HPL.out];exact he,M',hR,hw,hf⟩
def encN:Enc Int:=⟨1,fun z=>[.int .i64 z],fun _=>rfl,fun a u hu=>by simp only [List.mem_singleton] at hu;subst hu;rfl,by decide⟩
theorem infoN:(Tryz.prog.info? 3).map (fun i=>(i.zero,i.size,i.bytes))=some (some (.int .i64 0),1,8):=by kernel_rfl
def NumR (w0 w:World) (v:Value) (l:List Int):Prop:=w.ownsRow w0.heap.size 3 1 v l.length (encN.vals l)
theorem NumR.nil (w0 w:World):NumR w0 w (.slice none 0 0) []:=World.ownsRow_nil _ _ _ _
theorem NumR.lt {w0 w:World} {v:Value} {l:List Int} (h:NumR w0 w v l) {b:Nat} (hb:v.ownBlock=some b):b<w.heap.size/\w0.heap.size<=b:=by
 rcases h.2 with ⟨rfl,_⟩|⟨g,cc,cur,rfl,hg,hh,_⟩
 ·simp [Value.ownBlock] at hb
 ·simp only [Value.ownBlock,Option.some.injEq] at hb
  rw [<- hb];exact ⟨(zJ.1 hh).1,hg⟩
theorem NumR.tag {w0 w:World} {v:Value} {l:List Int} (h:NumR w0 w v l) {b:Nat} (hb:v.ownBlock=some b):tag w b=some 3:=xC h hb
theorem NumR.keep {w0 w w':World} {v:Value} {l:List Int} (h:NumR w0 w v l) (hb:∀ b,v.ownBlock=some b->w'.heap[b]?=w.heap[b]?):NumR w0 w' v l:=Hd.zB8 h hb
theorem NumR.seg {w0 w:World} {v:Value} {l:List Int} (h:NumR w0 w v l):Seg w v l/\Lies w.heap.size v/\∃ p c,v=.slice p l.length c:=by
 obtain ⟨p,c,rfl,hh,_,_⟩:=encN.owns h rfl;by_cases h0:0<l.length
 ·obtain ⟨b,off,rfl,hb,hc⟩:=hh.at 0 h0
  refine ⟨.inr ⟨b,off,c,rfl,fun j hj=>?_⟩,qF hb,_,_,rfl⟩;have:=hc j 0 _ hj (by decide) rfl;rwa [show j*encN.n+0=j from by show j*1+0=j;omega] at this
 ·have e:l=[]:=zP.1 (by omega)
  subst e;exact ⟨.inl ⟨rfl,p,c,rfl⟩,fun q n c' e hn=>by injection e with _ e2 _;simp at e2;omega,_,_,rfl⟩
theorem NumR.snoc {w0 w:World} {v:Value} {l:List Int} (h:NumR w0 w v l) (hl:l.length<=1000) (hw:w0.heap.size<=w.heap.size) (x:Int) :
  ∃ v' w',(Builtin.append_ #[22,22] 22 #[v,.slice (some ⟨w.heap.size,0,none⟩) 1 1]).run Tryz.prog (w.alloc (.cells #[.int .i64 x] 3))=.ok v' w'/\NumR w0 w' v' (l++[x])/\Uw (fun b=>v.ownBlock=some b) w w'/\(∀ b,v'.ownBlock=some b->v.ownBlock=some b\/w.heap.size<=b)/\∃ p c,v'=.slice p (l.length+1) c:=by
 have bA:Below w.heap.size w (w.alloc (.cells #[.int .i64 x] 3)):=yO.alloc yN _;have hA:NumR w0 (w.alloc (.cells #[.int .i64 x] 3)) v l:=h.keep fun b hb=>bA.block b (h.lt hb).1;obtain ⟨i0,hi,hz0,hz1,hz2⟩:=info_parts infoN;obtain ⟨v',w',h1,h2,h3,h4⟩:=Enc.appW (E:=encN) (w:=w.alloc (.cells #[.int .i64 x] 3)) (B:=w0.heap.size) (c:=1) (m:=1) (q:=[x]) Tryz.underlying22 hi hz0 hz1 hz2 rfl hA (encN.one_holds w x 3) rfl (fun e=>by cases e) (by omega) (by omega) (by simp;omega);have h2':NumR w0 w' v' (l++[x]):=by
  show w'.ownsRow w0.heap.size 3 1 v' (l++[x]).length _;rw [zD];exact h2
 refine ⟨v',w',h1,h2',⟨h3.os,h3.tape,h3.output,zI bA.size h3.size,fun k hk hn=>(h3.block k (by simp;omega) (fun e=>hn e.symm)).trans (bA.block k hk)⟩,fun b hb=>(h4 b hb).imp id (fun e=>by rw [e];simp),?_⟩;obtain ⟨_,_,p,c,e⟩:=h2'.seg;rw [zD] at e;exact ⟨p,c,e⟩
structure RnI (M:Mm) (n m:Nat) (w0 w:World) (GV:Nat) (f:Nat->Value) (L:Nat->List Int) (rv:Value) (rl:List Int):Prop where
 gv:w.rowIs GV 22 n f
 ge:w0.heap.size<=GV
 rw:∀ a,a<n->NumR w0 w (f a) (L a)
 rr:NumR w0 w rv rl
 di:∀ a b x,a<n->b<n->(f a).ownBlock=some x->(f b).ownBlock=some x->a=b
 dr:∀ a x,a<n->(f a).ownBlock=some x->rv.ownBlock≠some x
 no:∀ a x,a<n->(f a).ownBlock=some x->¬ own M n m x
 nr:∀ x,rv.ownBlock=some x->¬ own M n m x
namespace RnI
variable {B:Nat} {M M' M0:Mm} {w0 w w':World} {c:Plain.Cf} {n m:Nat} {W:Plain.Wo} {T S:Nat} {GV:Nat} {f:Nat->Value} {L:Nat->List Int} {rv:Value} {rl:List Int}
theorem gfree (h:RnI M n m w0 w GV f L rv rl) (wi:WI B M w c n m W T S):¬ own M n m GV:=wi.free (yQ h.gv) (by decide) (by decide) (by decide) (by decide) (by decide) (by decide) (by decide) (by decide)
theorem fr (h:RnI M n m w0 w GV f L rv rl) (wi:WI B M w c n m W T S) (g:Fr M M' n m w w'):RnI M' n m w0 w' GV f L rv rl :=
 ⟨h.gv.of_block (g.keep h.gv.lt (h.gfree wi)).1,h.ge,fun a ha=>(h.rw a ha).keep fun b hb=>(g.keep ((h.rw a ha).lt hb).1 (h.no a b ha hb)).1,h.rr.keep fun b hb=>(g.keep (h.rr.lt hb).1 (h.nr b hb)).1,h.di,h.dr,fun a x ha hx=>(g.keep ((h.rw a ha).lt hx).1 (h.no a x ha hx)).2,fun x hx=>(g.keep (h.rr.lt hx).1 (h.nr x hx)).2⟩
theorem xO8 (wi:WI B M w c n m W T S) {v:Value} {l:List Int} (hv:NumR w0 w v l) (hn:∀ x,v.ownBlock=some x->¬ own M n m x) (hB:B<=w0.heap.size) (u:Uw (fun b=>v.ownBlock=some b) w w'):WI B M w' c n m W T S :=
 wi.un u (fun x hx e=>hn x e hx) (fun x e=>zI hB (hv.lt e).2) (fun x e=>by rw [hv.tag e];decide) (fun x e=>by rw [hv.tag e];decide)
theorem xO9 (g:Fr M0 M n m w0 w) {v:Value} {l:List Int} (hv:NumR w0 w v l) (u:Uw (fun b=>v.ownBlock=some b) w w'):Fr M0 M n m w0 w' :=
 ⟨g.u.and_then u (fun k hk e=>by have:=(hv.lt e).2;omega),g.o⟩
theorem snoc (h:RnI M n m w0 w GV f L rv rl) (wi:WI B M w c n m W T S) (hB:B<=w0.heap.size) (hw:w0.heap.size<=w.heap.size) {a:Nat} (ha:a<n) (hl:(L a).length<=1000) (x:Int) :
  ∃ v' w',(Builtin.append_ #[22,22] 22 #[f a,.slice (some ⟨w.heap.size,0,none⟩) 1 1]).run Tryz.prog (w.alloc (.cells #[.int .i64 x] 3))=.ok v' w'/\(∃ p k,v'=.slice p ((L a).length+1) k)/\w'.rowIs GV 22 n f /\
   RnI M n m w0 (w'.setCell ⟨GV,a,none⟩ v') GV (up1 f a v') (up1 L a (L a++[x])) rv rl/\WI B M (w'.setCell ⟨GV,a,none⟩ v') c n m W T S/\(∀ M0,Fr M0 M n m w0 w->Fr M0 M n m w0 (w'.setCell ⟨GV,a,none⟩ v'))/\Uw (fun b=>(f a).ownBlock=some b\/b=GV) w (w'.setCell ⟨GV,a,none⟩ v')/\∀ b,v'.ownBlock=some b->(f a).ownBlock=some b\/w.heap.size<=b:=by
 obtain ⟨v',w',h1,h2,u,hb,hp⟩:=(h.rw a ha).snoc hl hw x;have wi':=xO8 wi (h.rw a ha) (fun x=>h.no a x ha) hB u;have gne:∀ y,(f a).ownBlock=some y->GV≠y:=fun y hy e=>by
  have:=(h.rw a ha).tag hy;rw [<- e,yQ h.gv] at this;exact absurd this (by decide)
 have gv':w'.rowIs GV 22 n f:=u.rowIs h.gv (fun e=>gne GV e rfl);have uS:Uw (fun y=>y=GV) w' (w'.setCell ⟨GV,a,none⟩ v'):=(Uw.refl (fun y=>y=GV) w').set (b:=GV) (.inl rfl) a v';have num:∀ v l,NumR w0 w' v l->NumR w0 (w'.setCell ⟨GV,a,none⟩ v') v l:=fun v l hv=>hv.keep fun y hy=>uS.block y (hv.lt hy).1 (fun e=>by
  have:=hv.tag hy;rw [show y=GV from e,yQ gv'] at this;exact absurd this (by decide))
 have old:∀ y,v'.ownBlock=some y->¬ own M n m y:=fun y hy=>(hb y hy).elim (h.no a y ha) (fun z o=>by have:=wi.own_lt o;omega);refine ⟨v',w',h1,hp,gv',⟨?_,h.ge,fun b hb'=>?_,num _ _ (h.rr.keep fun y hy=>u.block y (h.rr.lt hy).1 (fun e=>h.dr a y ha e hy)),fun p q y hp' hq' e1 e2=>?_,fun p y hp' e1 e2=>?_,fun p y hp' e1=>?_,h.nr⟩,?_,fun M0 g=>?_,?_,hb⟩
 ·exact (gv'.set a v').congr fun j _=>by unfold up1;rfl
 ·by_cases e:b=a
  ·subst e
   rw [yR,yR];exact num _ _ h2
  ·rw [yY f a v' e,yY L a _ e]
   exact num _ _ ((h.rw b hb').keep fun y hy=>u.block y ((h.rw b hb').lt hy).1 (fun z=>e (h.di b a y hb' ha hy z)))
 ·have step:∀ p1 q1,p1<n->q1<n->p1≠a->(up1 f a v' p1).ownBlock=some y->(up1 f a v' q1).ownBlock=some y->p1=q1:=fun p1 q1 hpn hqn hpa d1 d2=>by
   rw [yY f a v' hpa] at d1;by_cases c2:q1=a
   ·rw [c2,yR] at d2
    rcases hb y d2 with z|z
    ·exact absurd (h.di p1 a y hpn ha d1 z) hpa
    ·have:=((h.rw p1 hpn).lt d1).1;omega
   ·rw [yY f a v' c2] at d2
    exact h.di p1 q1 y hpn hqn d1 d2
  by_cases c1:p=a
  ·by_cases c2:q=a
   ·rw [c1,c2]
   ·exact (step q p hq' hp' c2 e2 e1).symm
  ·exact step p q hp' hq' c1 e1 e2
 ·by_cases c1:p=a
  ·subst c1
   rw [yR] at e1;rcases hb y e1 with z|z
   ·exact h.dr p y hp' z e2
   ·have:=(h.rr.lt e2).1;omega
  ·rw [yY f a v' c1] at e1
   exact h.dr p y hp' e1 e2
 ·by_cases c1:p=a
  ·subst c1
   rw [yR] at e1;exact old y e1
  ·rw [yY f a v' c1] at e1
   exact h.no p y hp' e1
 ·exact wi'.box gv' (zI hB h.ge) (h.gfree wi) (by decide) (by decide) uS
 ·exact (xO9 g (h.rw a ha) u).box h.ge uS
 ·exact (u.mono (fun _ _ x=>.inl x)).and_then uS (fun _ _ x=>.inr x)
theorem rep (h:RnI M n m w0 w GV f L rv rl) (wi:WI B M w c n m W T S) (hB:B<=w0.heap.size) (hw:w0.heap.size<=w.heap.size) (hl:rl.length<=1000) (x:Int) :
  ∃ v' w',(Builtin.append_ #[22,22] 22 #[rv,.slice (some ⟨w.heap.size,0,none⟩) 1 1]).run Tryz.prog (w.alloc (.cells #[.int .i64 x] 3))=.ok v' w' /\
   RnI M n m w0 w' GV f L v' (rl++[x])/\WI B M w' c n m W T S/\(∀ M0,Fr M0 M n m w0 w->Fr M0 M n m w0 w')/\w.heap.size<=w'.heap.size/\∃ p k,v'=.slice p (rl.length+1) k:=by
 obtain ⟨v',w',h1,h2,u,hb,hp⟩:=h.rr.snoc hl hw x;refine ⟨v',w',h1,⟨u.rowIs h.gv (fun e=>?_),h.ge,fun a ha=>(h.rw a ha).keep fun y hy=>u.block y ((h.rw a ha).lt hy).1 (fun e=>h.dr a y ha hy e),h2,h.di,fun a y ha hy e=>?_,h.no,fun y hy=>(hb y hy).elim (h.nr y) (fun z o=>by have:=wi.own_lt o;omega)⟩,xO8 wi h.rr h.nr hB u,fun M0 g=>xO9 g h.rr u,u.size,hp⟩
 ·have:=h.rr.tag e
  rw [yQ h.gv] at this;exact absurd this (by decide)
 ·rcases hb y e with z|z
  ·exact h.dr a y ha hy z
  ·have:=((h.rw a ha).lt hy).1;omega
end RnI
namespace Plain
def rndW (W:Wo) (k:Nat):Wo:={ W with bk:=fun j=>if j<k then Bo.Plain.zT7 (W.bk j) else W.bk j }
def givL (W:Wo) (a k:Nat):List Int:=Bo.Plain.mapN k fun j=>(Bo.Plain.zT7 (W.bk j)).given.getD a 0
def repL (W:Wo) (k:Nat):List Int:=(Bo.Plain.mapN k fun j=>Bo.Plain.xR8 (W.bk j)).filter fun x=>decide (0<=x)
theorem yX7 (W:Wo):rndW W 0=W:=by
 unfold rndW;have:(fun j=>if j<0 then Bo.Plain.zT7 (W.bk j) else W.bk j)=W.bk:=funext fun j=>by rw [if_neg (by omega)]
 rw [this]
theorem yX8 (W:Wo) (k:Nat):{ rndW W k with bk:=up1 (rndW W k).bk k (Bo.Plain.zT7 ((rndW W k).bk k)) }=rndW W (k+1):=by
 unfold rndW;have:up1 (fun j=>if j<k then Bo.Plain.zT7 (W.bk j) else W.bk j) k (Bo.Plain.zT7 ((fun j=>if j<k then Bo.Plain.zT7 (W.bk j) else W.bk j) k))=fun j=>if j<k+1 then Bo.Plain.zT7 (W.bk j) else W.bk j:=funext fun j=>by
  unfold up1;dsimp only;by_cases e:j=k
  ·subst e
   rw [if_pos rfl,if_neg (Nat.lt_irrefl _),if_pos (Nat.lt_succ_self _)]
  ·rw [if_neg e]
   by_cases c:j<k
   ·rw [if_pos c,if_pos (by omega)]
   ·rw [if_neg c,if_neg (by omega)]
 dsimp only;rw [this]
theorem xW9 (W:Wo) (k:Nat):(rndW W k).bk k=W.bk k:=by unfold rndW;dsimp only;rw [if_neg (by omega)]
end Plain
end Go.Proofs.YtleaknfjbbccgaaGreatDoor
