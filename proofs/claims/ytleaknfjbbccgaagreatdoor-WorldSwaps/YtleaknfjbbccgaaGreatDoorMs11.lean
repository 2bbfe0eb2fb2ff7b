/- Laid together. -/
import Derived.Deep.LoopGhost
import Derived.Deep.RegionHeld3
import Derived.Deep.QuietTactic
import Derived.BigQuiet
import Derived.Deep.DeepCutAuto
import Derived.Test.YtleaknfjbbccgaaGreatDoorMs02
import Derived.Test.YtleaknfjbbccgaaGreatDoorMs05
import Derived.Test.YtleaknfjbbccgaaGreatDoorMs06
import Derived.Test.YtleaknfjbbccgaaGreatDoorMs07
import Derived.Test.YtleaknfjbbccgaaGreatDoorMs08
import Derived.Test.YtleaknfjbbccgaaGreatDoorMs09
import Derived.Test.YtleaknfjbbccgaaGreatDoorMs10
namespace Go.Proofs.YtleaknfjbbccgaaGreatDoor
open Plain
set_option maxHeartbeats 16000000
set_option maxRecDepth 100000
open Go.RowKit Go.Shelf Go.Sort
structure Uw (P:Nat->Prop) (w w':World):Prop where
 os:w'.os=w.os
 tape:w'.tape=w.tape
 output:w'.output=w.output
 size:w.heap.size<=w'.heap.size
 block:∀ k,k<w.heap.size->¬ P k->w'.heap[k]?=w.heap[k]?
namespace Uw
variable {P Q:Nat->Prop} {w w' w'':World}
theorem of_below (h:Below w.heap.size w w'):Uw P w w':=⟨h.os,h.tape,h.output,h.size,fun k hk _=>h.block k hk⟩
theorem refl (P:Nat->Prop) (w:World):Uw P w w:=of_below yO
theorem and_then (h:Uw P w w') (g:Uw Q w' w'') (hq:∀ k,k<w.heap.size->Q k->P k):Uw P w w'' :=
 ⟨g.os.trans h.os,g.tape.trans h.tape,g.output.trans h.output,zI h.size g.size,fun k hk hp =>
  (g.block k (zF hk h.size) (fun x=>hp (hq k hk x))).trans (h.block k hk hp)⟩
theorem trans (h:Uw P w w') (g:Uw P w' w''):Uw P w w'':=h.and_then g fun _ _ x=>x
theorem mono (h:Uw P w w') (hq:∀ k,k<w.heap.size->P k->Q k):Uw Q w w':=⟨h.os,h.tape,h.output,h.size,fun k hk hp=>h.block k hk (fun x=>hp (hq k hk x))⟩
theorem of_kp {R:Nat} (h:Kp P R w w'):Uw (fun b=>b=R\/P b) w w':=⟨h.os,h.tape,h.output,h.size,fun k hk hp=>h.block k hk (fun e=>hp (.inl e)) (fun x=>hp (.inr x))⟩
theorem set (h:Uw P w w') {b:Nat} (hb:P b\/w.heap.size<=b) (i:Nat) (v:Value):Uw P w (w'.setCell ⟨b,i,none⟩ v) :=
 ⟨h.os,h.tape,h.output,by simpa using h.size,fun k hk hp=>(zE w' ⟨b,i,none⟩ v k (fun e=>by have e':k=b:=e;exact hb.elim (fun y=>hp (by rw [e'];exact y)) (fun y=>by omega))).trans (h.block k hk hp)⟩
theorem below {B:Nat} (h:Uw P w w') (hB:B<=w.heap.size) (hp:∀ k,k<B->¬ P k):Below B w w':=⟨h.os,h.tape,h.output,h.size,fun k hk=>h.block k (by omega) (hp k hk)⟩
theorem rowIs (h:Uw P w w') {b t n:Nat} {f:Nat->Value} (hr:w.rowIs b t n f) (hp:¬ P b):w'.rowIs b t n f:=hr.of_block (h.block b hr.lt hp)
end Uw
theorem qP {w:World} {B e s n:Nat} {v:Value} {xs:List Value} (h:w.ownsRow B e s v n xs) {b:Nat} (hb:v.ownBlock=some b):b<w.heap.size:=by
 rcases h.2 with ⟨rfl,_⟩|⟨g',c,cur,rfl,_,hb',_⟩
 ·simp [Value.ownBlock] at hb
 ·simp only [Value.ownBlock,Option.some.injEq] at hb
  rw [<- hb];exact (zJ.1 hb').1
def gdF (a g:Nat->Int) (r:Nat->Hd.Plain.Rk) (v:Nat->Value) (j:Nat):Value :=
 if j%6=0 then .int .i64 (a (j/6)) else if j%6=1 then .int .i64 (g (j/6)) else Hd.brF (r (j/6)).free (r (j/6)).used (v (j/6)) ((r (j/6)).cs.length:Int) (j%6-2)
def gdW (m:Nat) (a g:Nat->Int) (r:Nat->Hd.Plain.Rk) (v:Nat->Value):Win:=⟨114,m*6,gdF a g r v⟩
theorem yW4 (m:Nat) (a g:Nat->Int) (r:Nat->Hd.Plain.Rk) (v:Nat->Value) (k:Nat) (r':Hd.Plain.Rk) (v':Value) (j:Nat) :
  (gdW m a g r v).f (k*6+2) 4 (Hd.brF r'.free r'.used v' (r'.cs.length:Int)) j=gdF a g (fun b=>if b=k then r' else r b) (fun b=>if b=k then v' else v b) j:=by
 unfold Win.f;by_cases h:k*6+2<=j/\j<k*6+2+4
 ·have e:j/6=k:=by omega
  rw [if_pos h];unfold gdF;dsimp only;rw [if_neg (show ¬ j%6=0 by omega),if_neg (show ¬ j%6=1 by omega),e,if_pos rfl,if_pos rfl,show j%6-2=j-(k*6+2) by omega]
 ·rw [if_neg h]
  show gdF a g r v j=_;unfold gdF;dsimp only;by_cases h0:j%6=0
  ·rw [if_pos h0,if_pos h0]
  ·by_cases h1:j%6=1
   ·rw [if_neg h0,if_pos h1,if_neg h0,if_pos h1]
   ·rw [if_neg h0,if_neg h1,if_neg h0,if_neg h1,if_neg (show ¬ j/6=k by omega),if_neg (show ¬ j/6=k by omega)]
theorem gdW_f (m:Nat) (a g:Nat->Int) (r:Nat->Hd.Plain.Rk) (v:Nat->Value) (k j:Nat):(gdW m a g r v).f (k*6+2) 4 (Hd.brF (r k).free (r k).used (v k) ((r k).cs.length:Int)) j=gdF a g r v j:=by
 rw [yW4];have e1:(fun b=>if b=k then r k else r b)=r:=by
  funext b
  by_cases e:b=k
  ·rw [if_pos e,e]
  ·rw [if_neg e]
 have e2:(fun b=>if b=k then v k else v b)=v:=by
  funext b
  by_cases e:b=k
  ·rw [if_pos e,e]
  ·rw [if_neg e]
 rw [e1,e2]
def up2 {α:Type} (f:Nat->Nat->α) (i k:Nat) (x:α):Nat->Nat->α:=fun a b=>if a=i/\b=k then x else f a b
theorem zO6 {α:Type} (f:Nat->Nat->α) (i k:Nat) (x:α):up2 f i k x i=fun b=>if b=k then x else f i b:=by
 funext b
 unfold up2;by_cases e:b=k
 ·rw [if_pos ⟨rfl,e⟩,if_pos e]
 ·rw [if_neg (fun y=>e y.2),if_neg e]
theorem zB0 {α:Type} (f:Nat->Nat->α) (i k:Nat) (x:α) {a:Nat} (h:a≠i):up2 f i k x a=f a:=by
 funext b
 unfold up2;rw [if_neg (fun y=>h y.1)]
theorem zW0 {α:Type} (f:Nat->Nat->α) (i k:Nat) (x:α):up2 f i k x i k=x:=by unfold up2;rw [if_pos ⟨rfl,rfl⟩]
theorem zD4 {α:Type} (f:Nat->Nat->α) (i k:Nat) (x:α) {a b:Nat} (h:¬ (a=i/\b=k)):up2 f i k x a b=f a b:=by unfold up2;rw [if_neg h]
def isGo (D:Nat->Nat) (vo:Nat->Nat->Value) (n m b:Nat):Prop:=(∃ i,i<n/\b=D i)\/∃ i k,(i<n/\k<m)/\(vo i k).ownBlock=some b
structure GoI (w:World) (D:Nat->Nat) (vo:Nat->Nat->Value) (n m:Nat) (a g:Nat->Nat->Int) (r:Nat->Nat->Hd.Plain.Rk):Prop where
 row:∀ i,i<n->w.rowIs (D i) 114 (m*6) (gdF (a i) (g i) (r i) (vo i))
 ow:∀ i k,i<n->k<m->Hd.OwnP w 0 (vo i k) (Hd.Plain.xQ 0 (r i k).cs (r i k).ls)
 ds:∀ i j,i<n->j<n->D i=D j->i=j
 dv:∀ i k j l b,i<n->k<m->j<n->l<m->(vo i k).ownBlock=some b->(vo j l).ownBlock=some b->i=j/\k=l
namespace GoI
variable {w w':World} {D:Nat->Nat} {vo:Nat->Nat->Value} {n m:Nat} {a g:Nat->Nat->Int} {r:Nat->Nat->Hd.Plain.Rk} {P:Nat->Prop}
theorem un (h:GoI w D vo n m a g r) (u:Uw P w w') (hp:∀ b,isGo D vo n m b->¬ P b):GoI w' D vo n m a g r :=
 ⟨fun i hi=>u.rowIs (h.row i hi) (hp _ (.inl ⟨i,hi,rfl⟩)),fun i k hi hk=>Hd.zB8 (h.ow i k hi hk) fun b hb=>u.block b (qP (h.ow i k hi hk) hb) (hp b (.inr ⟨i,k,⟨hi,hk⟩,hb⟩)),h.ds,h.dv⟩
theorem grow (h:GoI w D vo n m a g r) (b:Below w.heap.size w w'):GoI w' D vo n m a g r:=h.un (P:=fun _=>False) (Uw.of_below b) fun _ _ x=>x
theorem lt (h:GoI w D vo n m a g r) {b:Nat} (hb:isGo D vo n m b):b<w.heap.size:=by
 rcases hb with ⟨i,hi,rfl⟩|⟨i,k,hik,e⟩
 ·exact (h.row i hi).lt
 ·exact qP (h.ow i k hik.1 hik.2) e
theorem stock (h:GoI w D vo n m a g r) {i k:Nat} (hi:i<n) (hk:k<m):Hd.BrR (Hd.Near w (vo i k)) (D i) (k*6+2) (gdW m (a i) (g i) (r i) (vo i)) w (vo i k) (r i k) :=
 ⟨World.rowIs.congr (g:=(gdW m (a i) (g i) (r i) (vo i)).f (k*6+2) 4 _) (show w.rowIs (D i) 114 (m*6) _ from h.row i hi) fun j _=>(gdW_f m (a i) (g i) (r i) (vo i) k j).symm,
  h.ow i k hi hk,fun _ e=>.inl e,fun _ e=>.inr e,by show (114:Nat)≠166;decide,by show k*6+2+4<=m*6;omega⟩
theorem take (h:GoI w D vo n m a g r) {i k:Nat} (hi:i<n) (hk:k<m) {r':Hd.Plain.Rk} {v':Value} (br:Hd.BrR (Hd.Near w (vo i k)) (D i) (k*6+2) (gdW m (a i) (g i) (r i) (vo i)) w' v' r') (kp:Kp (Hd.Near w (vo i k)) (D i) w w') :
  GoI w' D (up2 vo i k v') n m a g (up2 r i k r')/\Uw (isGo D vo n m) w w':=by
 have hne:∀ i' k',i'<n->k'<m->∀ b,(vo i' k').ownBlock=some b->b≠D i:=fun i' k' hi' hk' b hb e=>Hd.xW (h.row i hi) (h.ow i' k' hi' hk') (by decide) (by rw [hb,e]);refine ⟨⟨fun i' hi'=>?_,fun i' k' hi' hk'=>?_,h.ds,fun i1 k1 i2 k2 b h1 h2 h3 h4 e1 e2=>?_⟩,⟨kp.os,kp.tape,kp.output,kp.size,fun b hb hp=>kp.block b hb (fun e=>hp (.inl ⟨i,hi,e⟩)) (fun x=>x.elim (fun e=>hp (.inr ⟨i,k,⟨hi,hk⟩,e⟩)) (fun e=>by omega))⟩⟩
 ·by_cases e:i'=i
  ·subst e
   rw [zO6,zO6];exact World.rowIs.congr (show w'.rowIs (D i') 114 (m*6) _ from br.row) fun j _=>yW4 m (a i') (g i') (r i') (vo i') k r' v' j
  ·rw [zB0 r i k r' e,zB0 vo i k v' e]
   have hr:=h.row i' hi';refine hr.of_block (kp.block _ hr.lt (fun x=>e (h.ds i' i hi' hi x)) (fun x=>x.elim (fun y=>?_) (fun y=>by have:=hr.lt;omega)));exact Hd.xW hr (h.ow i k hi hk) (by decide) y
 ·by_cases e:i'=i/\k'=k
  ·obtain ⟨rfl,rfl⟩:=e
   rw [zW0,zW0];exact br.ow
  ·rw [zD4 r i k r' e,zD4 vo i k v' e]
   have ho:=h.ow i' k' hi' hk';exact Hd.zB8 ho fun b hb=>kp.block b (qP ho hb) (hne i' k' hi' hk' b hb) (fun x=>x.elim (fun y=>e (h.dv i' k' i k b hi' hk' hi hk hb y)) (fun y=>by have:=qP ho hb;omega))
 ·have old:∀ j l,j<n->l<m->(vo j l).ownBlock=some b->Hd.Near w (vo i k) b->j=i/\l=k:=fun j l hj hl e x=>x.elim (fun y=>h.dv j l i k b hj hl hi hk e y) (fun y=>by have:=qP (h.ow j l hj hl) e;omega)
  by_cases c1:i1=i/\k1=k
  ·by_cases c2:i2=i/\k2=k
   ·exact ⟨c1.1.trans c2.1.symm,c1.2.trans c2.2.symm⟩
   ·rw [c1.1,c1.2,zW0] at e1
    rw [zD4 vo i k v' c2] at e2;exact absurd (old i2 k2 h3 h4 e2 (br.own b e1)) c2
  ·rw [zD4 vo i k v' c1] at e1
   by_cases c2:i2=i/\k2=k
   ·rw [c2.1,c2.2,zW0] at e2
    exact absurd (old i1 k1 h1 h2 e1 (br.own b e2)) c1
   ·rw [zD4 vo i k v' c2] at e2
    exact h.dv i1 k1 i2 k2 b h1 h2 h3 h4 e1 e2
end GoI
def NoE (w:World) (P:Nat->Prop):Prop:=∀ b,P b->∀ cs:Array Value,w.heap[b]?≠some (Obj.cells cs 75 (0,0))
theorem NoE.of_row {w:World} {b T n:Nat} {f:Nat->Value} (h:w.rowIs b T n f) (hT:T≠75):∀ cs:Array Value,w.heap[b]?≠some (Obj.cells cs 75 (0,0)):=fun cs e=>by
 obtain ⟨c,hb,_⟩:=h;rw [hb] at e;simp at e;exact hT e.2
theorem NoE.of_owns {w:World} {B T s n b:Nat} {v:Value} {xs:List Value} (h:w.ownsRow B T s v n xs) (hb:v.ownBlock=some b) (hT:T≠75):∀ cs:Array Value,w.heap[b]?≠some (Obj.cells cs 75 (0,0)):=fun cs e=>by
 rcases h.2 with ⟨rfl,_⟩|⟨g',c,cur,rfl,_,hb',_⟩
 ·simp [Value.ownBlock] at hb
 ·simp only [Value.ownBlock,Option.some.injEq] at hb
  subst hb;rw [hb'] at e;simp at e;exact hT e.2
theorem qF9 {w w':World} {v:Value} {l:List En} (h:SegN w v l) (ht:TyE w v) {P:Nat->Prop} (u:Uw P w w') (nb:NoE w P):SegN w' v l:=by
 rcases h with ⟨rfl,p1,c1,rfl⟩|⟨b1,o1,c1,rfl,hc1,g1⟩
 ·exact .inl ⟨rfl,p1,c1,rfl⟩
 ·refine .inr ⟨b1,o1,c1,rfl,hc1,fun j hj=>?_⟩
  obtain ⟨cs,hb⟩:=ht b1 o1 _ _ rfl (by omega);have e:=u.block b1 (zJ.1 hb).1 (fun x=>nb b1 x cs hb);obtain ⟨d0,d1,d2,d3,d4⟩:=g1 j hj;exact ⟨by rw [<- d0];simp only [World.cell?,e],by rw [<- d1];simp only [World.cell?,e],by rw [<- d2];simp only [World.cell?,e],by rw [<- d3];simp only [World.cell?,e],by rw [<- d4];simp only [World.cell?,e]⟩
theorem RowL.uw {w w':World} {g m:Nat} {s:Nat->List En} {f:Nat->Value} (h:RowL w g m s f) {P:Nat->Prop} (u:Uw P w w') (nb:NoE w P) (hp:¬ P g):RowL w' g m s f :=
 ⟨u.rowIs h.row hp,fun j hj=>⟨qF9 (h.sg j hj).1 (h.ty j hj) u nb,(h.sg j hj).2.mono u.size⟩,fun j hj=>(h.ty j hj).keep fun b cs hb=>u.block b (zJ.1 hb).1 (fun x=>nb b x cs hb)⟩
theorem GoI.noe {w:World} {D:Nat->Nat} {vo:Nat->Nat->Value} {n m:Nat} {a g:Nat->Nat->Int} {r:Nat->Nat->Hd.Plain.Rk} (h:GoI w D vo n m a g r):NoE w (isGo D vo n m):=fun b hb=>by
 rcases hb with ⟨i,hi,rfl⟩|⟨i,k,hik,e⟩
 ·exact NoE.of_row (h.row i hi) (by decide)
 ·exact NoE.of_owns (h.ow i k hik.1 hik.2) e (by decide)
def eaF (lp:Option Addr) (lc mL:Nat) (H D:Nat->Nat) (m:Nat) (j:Nat):Value :=
 if j%4=3 then .slice (some ⟨D (j/4),0,none⟩) m m else stoF (j/4) lp lc mL (H (j/4)) (j%4)
def isH (H:Nat->Nat) (n b:Nat):Prop:=∃ i,i<n/\b=H i
structure StsI (w:World) (EB NC:Nat) (F:Nat->Value) (H D:Nat->Nat) (lp:Option Addr) (lc n m:Nat) (L:List Int) (s:Stt):Prop where
 row:w.rowIs EB 94 NC F
 hF:∀ j,j<n*4->F j=eaF lp lc L.length H D m j
 hN:n*4<=NC
 rs:∀ i,i<n->∃ f,RowL w (H i) L.length (s i) f
 ds:∀ i j,i<n->j<n->H i=H j->i=j
 lab:Nums w lp L
namespace StsI
variable {w w':World} {EB NC:Nat} {F:Nat->Value} {H D:Nat->Nat} {lp:Option Addr} {lc n m:Nat} {L:List Int} {s s':Plain.Stt} {P:Nat->Prop}
theorem un (h:StsI w EB NC F H D lp lc n m L s) (u:Uw P w w') (nb:NoE w P) (he:¬ P EB) (hh:∀ i,i<n->¬ P (H i)) (hl:Nums w' lp L):StsI w' EB NC F H D lp lc n m L s :=
 ⟨u.rowIs h.row he,h.hF,h.hN,fun i hi=>by obtain ⟨f,hf⟩:=h.rs i hi;exact ⟨f,hf.uw u nb (hh i hi)⟩,h.ds,hl⟩
theorem grow (h:StsI w EB NC F H D lp lc n m L s) (b:Below w.heap.size w w'):StsI w' EB NC F H D lp lc n m L s :=
 ⟨h.row.of_block (b.block _ h.row.lt),h.hF,h.hN,fun i hi=>by obtain ⟨f,hf⟩:=h.rs i hi;exact ⟨f,hf.grow b⟩,h.ds,h.lab.grow b⟩
theorem nob (h:StsI w EB NC F H D lp lc n m L s):NoE w (isH H n):=fun b ⟨i,hi,e⟩=>by
 obtain ⟨f,hf⟩:=h.rs i hi;rw [e];exact NoE.of_row hf.row (by decide)
theorem neE (h:StsI w EB NC F H D lp lc n m L s) {i:Nat} (hi:i<n):EB≠H i:=fun e=>by
 obtain ⟨f,hf⟩:=h.rs i hi;obtain ⟨c,h1,_⟩:=h.row;obtain ⟨c',h2,_⟩:=hf.row;rw [e,h2] at h1;simp at h1
theorem sto (h:StsI w EB NC F H D lp lc n m L s) {i:Nat} (hi:i<n):StI EB (i*4) ⟨94,NC,F⟩ (H i) w i lp lc L (s i) :=
 ⟨World.rowIs.congr (show w.rowIs EB 94 NC F from h.row) fun j _=>by
   unfold Win.f;by_cases c:i*4<=j/\j<i*4+3
   ·rw [if_pos c,h.hF j (by omega)]
    unfold eaF;rw [if_neg (show ¬ j%4=3 by omega),show j/4=i by omega,show j%4=j-i*4 by omega]
   ·rw [if_neg c],
  h.rs i hi,h.lab,by show i*4+3<=NC;have:=h.hN;omega,by show (94:Nat)≠56;decide⟩
theorem goods (h:StsI w EB NC F H D lp lc n m L s) {i:Nat} (hi:i<n):w.cell? ⟨EB,i*4+3,none⟩=some (.slice (some ⟨D i,0,none⟩) m m):=by
 have:=h.hN;rw [h.row.cell (by omega),h.hF _ (by omega)];unfold eaF;rw [if_pos (by omega),show (i*4+3)/4=i by omega]
theorem put (h:StsI w EB NC F H D lp lc n m L s) {i:Nat} (hi:i<n) {t:Nat->List Plain.En} (p:PutP EB (i*4) ⟨94,NC,F⟩ (H i) i lp lc L t w w') :
  StsI w' EB NC F H D lp lc n m L (fun a=>if a=i then t else s a)/\Uw (isH H n) w w':=by
 obtain ⟨st,k⟩:=p;have u:Uw (fun b=>b=H i) w w':=⟨k.os,k.tape,k.output,k.size,fun b hb hp=>k.block b hb hp (fun x=>x)⟩;have nb:NoE w (fun b=>b=H i):=fun b e=>h.nob b ⟨i,hi,e⟩;refine ⟨⟨u.rowIs h.row (h.neE hi),h.hF,h.hN,fun a ha=>?_,h.ds,st.lab⟩,u.mono fun b _ e=>⟨i,hi,e⟩⟩;by_cases e:a=i
 ·subst e
  rw [if_pos rfl];exact st.hs
 ·rw [if_neg e]
  obtain ⟨fa,hfa⟩:=h.rs a ha;exact ⟨fa,hfa.uw u nb (fun x=>e (h.ds a i ha hi x))⟩
theorem apart (h:StsI w EB NC F H D lp lc n m L s) {vo:Nat->Nat->Value} {a g:Nat->Nat->Int} {r:Nat->Nat->Hd.Plain.Rk} (hg:GoI w D vo n m a g r):∀ b,isGo D vo n m b->b≠EB/\¬ isH H n b:=fun b hb=>by
 rcases hb with ⟨i,hi,rfl⟩|⟨i,k,hik,e⟩
 ·refine ⟨fun e=>?_,fun ⟨j,hj,e⟩=>?_⟩
  ·obtain ⟨c,h1,_⟩:=h.row
   obtain ⟨c',h2,_⟩:=hg.row i hi;rw [e,h1] at h2;simp at h2
  ·obtain ⟨f,hf⟩:=h.rs j hj
   obtain ⟨c,h1,_⟩:=hf.row;obtain ⟨c',h2,_⟩:=hg.row i hi;rw [e,h1] at h2;simp at h2
 ·refine ⟨fun x=>Hd.xW h.row (hg.ow i k hik.1 hik.2) (by decide) (by rw [e,x]),fun ⟨j,hj,x⟩=>?_⟩
  obtain ⟨f,hf⟩:=h.rs j hj;exact Hd.xW hf.row (hg.ow i k hik.1 hik.2) (by decide) (by rw [e,x])
end StsI
theorem xW1 {a g:Nat->Int} {r:Nat->Hd.Plain.Rk} {v:Nat->Value} (k:Nat) (x:Int) (j:Nat):(if j=k*6 then .int .i64 x else gdF a g r v j)=gdF (fun b=>if b=k then x else a b) g r v j:=by
 unfold gdF;dsimp only;by_cases e:j=k*6
 ·rw [if_pos e,if_pos (show j%6=0 by omega),if_pos (show j/6=k by omega)]
 ·rw [if_neg e]
  by_cases h0:j%6=0
  ·rw [if_pos h0,if_pos h0,if_neg (show ¬ j/6=k by omega)]
  ·rw [if_neg h0,if_neg h0]
theorem xI7 {a g:Nat->Int} {r:Nat->Hd.Plain.Rk} {v:Nat->Value} (k:Nat) (x:Int) (j:Nat):(if j=k*6+1 then .int .i64 x else gdF a g r v j)=gdF a (fun b=>if b=k then x else g b) r v j:=by
 unfold gdF;dsimp only;by_cases e:j=k*6+1
 ·rw [if_pos e,if_neg (show ¬ j%6=0 by omega),if_pos (show j%6=1 by omega),if_pos (show j/6=k by omega)]
 ·rw [if_neg e]
  by_cases h0:j%6=0
  ·rw [if_pos h0,if_pos h0]
  ·rw [if_neg h0,if_neg h0]
   by_cases h1:j%6=1
   ·rw [if_pos h1,if_pos h1,if_neg (show ¬ j/6=k by omega)]
   ·rw [if_neg h1,if_neg h1]
namespace GoI
variable {w w':World} {D:Nat->Nat} {vo:Nat->Nat->Value} {n m:Nat} {a g:Nat->Nat->Int} {r:Nat->Nat->Hd.Plain.Rk}
theorem set (h:GoI w D vo n m a g r) {i:Nat} (hi:i<n) (o:Nat) (x:Value) {a' g':Nat->Nat->Int} (ho:∀ j,(if j=o then x else gdF (a i) (g i) (r i) (vo i) j)=gdF (a' i) (g' i) (r i) (vo i) j) (ha:∀ b,b≠i->a' b=a b) (hg:∀ b,b≠i->g' b=g b) :
  GoI (w.setCell ⟨D i,o,none⟩ x) D vo n m a' g' r/\Uw (isGo D vo n m) w (w.setCell ⟨D i,o,none⟩ x):=by
 refine ⟨⟨fun b hb=>?_,fun b k hb hk=>Hd.zB8 (h.ow b k hb hk) fun c hc=>zE w ⟨D i,o,none⟩ x c (fun e=>Hd.xW (h.row i hi) (h.ow b k hb hk) (by decide) (by rw [hc,e])),h.ds,h.dv⟩,(Uw.refl _ w).set (.inl (.inl ⟨i,hi,rfl⟩)) o x⟩;by_cases e:b=i
 ·subst e
  exact ((h.row b hb).set o x).congr fun j _=>ho j
 ·rw [ha b e,hg b e]
  exact (h.row b hb).of_block (zE w ⟨D i,o,none⟩ x (D b) (fun y=>e (h.ds b i hb hi y)))
theorem setA (h:GoI w D vo n m a g r) {i:Nat} (hi:i<n) (k:Nat) (x:Int):GoI (w.setCell ⟨D i,k*6,none⟩ (.int .i64 x)) D vo n m (up2 a i k x) g r/\Uw (isGo D vo n m) w (w.setCell ⟨D i,k*6,none⟩ (.int .i64 x)) :=
 h.set hi (k*6) _ (fun j=>by rw [zO6];exact xW1 k x j) (fun b e=>zB0 a i k x e) (fun _ _=>rfl)
theorem setG (h:GoI w D vo n m a g r) {i:Nat} (hi:i<n) (k:Nat) (x:Int):GoI (w.setCell ⟨D i,k*6+1,none⟩ (.int .i64 x)) D vo n m a (up2 g i k x) r/\Uw (isGo D vo n m) w (w.setCell ⟨D i,k*6+1,none⟩ (.int .i64 x)) :=
 h.set hi (k*6+1) _ (fun j=>by rw [zO6];exact xI7 k x j) (fun _ _=>rfl) (fun b e=>zB0 g i k x e)
theorem cA (h:GoI w D vo n m a g r) {i k:Nat} (hi:i<n) (hk:k<m):w.cell? ⟨D i,k*6,none⟩=some (.int .i64 (a i k)):=by
 rw [(h.row i hi).cell (by omega)];unfold gdF;rw [if_pos (by omega),show k*6/6=k by omega]
theorem cG (h:GoI w D vo n m a g r) {i k:Nat} (hi:i<n) (hk:k<m):w.cell? ⟨D i,k*6+1,none⟩=some (.int .i64 (g i k)):=by
 rw [(h.row i hi).cell (by omega)];unfold gdF;rw [if_neg (by omega),if_pos (by omega),show (k*6+1)/6=k by omega]
end GoI
def afE (a cnt:Int):Nat:=if cnt<1\/1048576<cnt then 2 else if 1048576<a+cnt then 12 else 0
theorem xI8 (D:Nat->Nat) (vo:Nat->Nat->Value) (n m:Nat) (a g:Nat->Nat->Int) (r:Nat->Nat->Hd.Plain.Rk) (i k:Nat) (hi:i<n) (hk:k<m) (ha:0<=a i k/\a i k<=1048576) (cnt:Int) (w:World) (h:GoI w D vo n m a g r) :
  Calls Tryz.prog 84 #[.pointer (some ⟨D i,k*6,none⟩),.int .i64 cnt] w fun e w'=>e=.returned (.int .i64 (afE (a i k) cnt:Nat))/\GoI w' D vo n m (if afE (a i k) cnt=0 then up2 a i k (a i k+cnt) else a) g r/\Uw (isGo D vo n m) w w':=by
 unfold afE;by_cases h1:cnt<1\/1048576<cnt
 ·rw [if_pos h1,if_neg (by decide)]
  have HI:=hid (And.intro h (Uw.refl (isGo D vo n m) w));clear h;rcases h1 with h1|h1
  all_goals
   go_enter Tryz.func84,Tryz.ntmps84
   go_wp2;go_ret
   exact ⟨rfl,HI.out⟩
 rw [if_neg h1];have x0:=h.cA hi hk;have z0:=(h.row i hi).frozen (k*6);have HS:=hid (h.setA hi k (a i k+cnt));have HI:=hid (And.intro h (Uw.refl (isGo D vo n m) w));have h2:¬ cnt<1:=by omega
 have h3:¬ 1048576<cnt:=by omega
 clear h h1;generalize a i k=x at *;by_cases ho:1048576<x+cnt
 ·rw [if_pos ho,if_neg (by decide)]
  clear HS;go_enter Tryz.func84,Tryz.ntmps84
  go_wp2;go_ret
  exact ⟨rfl,HI.out⟩
 ·rw [if_neg ho,if_pos rfl]
  clear HI;go_enter Tryz.func84,Tryz.ntmps84
  go_wp2;go_ret
  exact ⟨rfl,HS.out⟩
def numF (f:Nat->Int) (k j:Nat):Value:=.int .i64 (if j<k then f j else 0)
theorem yW5 (w:World) (m:Nat) (f:Nat->Int):(w.alloc (.cells (madeCells #[.int .i64 0] m) 3)).rowIs w.heap.size 3 m (numF f 0) :=
 ⟨_,yF _ _,size_madeCells _ _,fun i hi=>by simp [madeCells,hi,Nat.mod_one,numF]⟩
theorem xI9 (f:Nat->Int) (k j:Nat):(if j=k then .int .i64 (f k) else numF f k j)=numF f (k+1) j:=by
 unfold numF;by_cases e:j=k
 ·rw [if_pos e,if_pos (by omega),e]
 ·rw [if_neg e]
  by_cases l:j<k
  ·rw [if_pos l,if_pos (by omega)]
  ·rw [if_neg l,if_neg (by omega)]
theorem xW2 (EB NC:Nat) (F:Nat->Value) (H D:Nat->Nat) (vo:Nat->Nat->Value) (lp:Option Addr) (lc n m:Nat) (L:List Int) (s:Stt) (a g:Nat->Nat->Int) (r:Nat->Nat->Hd.Plain.Rk) (i:Nat) (hi:i<n) (hm:m<=3) (w:World)
  (hS:StsI w EB NC F H D lp lc n m L s) (hG:GoI w D vo n m a g r) :
  Calls Tryz.prog 73 #[.pointer (some ⟨EB,i*4,none⟩)] w fun e w'=>e=.returned (.slice (some ⟨w.heap.size,0,none⟩) m m)/\w'.rowIs w.heap.size 3 m (numF (a i) m)/\Below w.heap.size w w':=by
 have hmk:=run_make_row' (P:=Tryz.prog) 22 3 (.int .i64 0) 8 Tryz.underlying22 Tryz.infoInt rfl .i64 .i64 m (by omega) (by omega);obtain ⟨WA,hWA⟩:∃ WA,WA=w.alloc (.cells (madeCells #[.int .i64 0] m) 3):=⟨_,rfl⟩;have BA:=hid (show Below w.heap.size w WA by rw [hWA];exact yO.alloc yN _);have RA:=hid (show WA.rowIs w.heap.size 3 m (numF (a i) 0) by rw [hWA];exact yW5 w m (a i));have x3:=hS.goods hi;have x3A:=(hS.grow BA.out).goods hi;rw [hWA] at x3A;have HS:=hid hS;have HG:=hid hG;clear hS hG;go_enter Tryz.func73,Tryz.ntmps73
 go_wp2;rw [<- hWA];clear hWA hmk x3 x3A
 go_loopg [4,16] m (fun gg _ s16 wx=>∃ k:Nat,k<=m/\m-k<=gg/\s16=.int .i64 k/\Aside (Below w.heap.size w wx/\wx.rowIs w.heap.size 3 m (numF (a i) k)))
 case atStart=>exact ⟨0,zG _,by omega,rfl,(show Aside _ from ⟨BA.out,RA.out⟩)⟩
 case round =>
  obtain ⟨k,hk,hg,rfl,AR⟩:=hrel;clear BA RA;by_cases hlt:k<m
  ·have hltz:(k:Int)<(m:Int):=by omega
   have x3:=(HS.out.grow AR.out.1).goods hi;have xa:=(HG.out.grow AR.out.1).cA hi hlt;have yk:=AR.out.2.cell (i:=k) hlt;have zk:=AR.out.2.frozen k;have NX:=hid (show Below w.heap.size w (wr.setCell ⟨w.heap.size,k,none⟩ (.int .i64 (a i k)))/\(wr.setCell ⟨w.heap.size,k,none⟩ (.int .i64 (a i k))).rowIs w.heap.size 3 m (numF (a i) (k+1)) from
    ⟨AR.out.1.setCell yN _,(AR.out.2.set k (.int .i64 (a i k))).congr fun j _=>xI9 (a i) k j⟩)
   clear AR;generalize a i k=x at xa NX;go_wp2
   go_roundg (m-(k+1))
   case measure=>omega
   case rel=>exact ⟨k+1,by omega,by omega,by go_num,(show Aside _ from NX.out)⟩
  ·have hltz:¬ (k:Int)<(m:Int):=by omega
   have ek:k=m:=by omega
   subst ek;go_wp2;go_ret
   exact ⟨rfl,AR.out.2,AR.out.1⟩
namespace Plain
structure Sp where
 kind:Int
 who:Int
 item:Int
 count:Int
 life:Int
 id:Int
 label:Int
 key:Int
 deriving DecidableEq,Inhabited
structure Tl where
 code:Nat
 who:Int
 sk:Hd.Plain.St
 value:Int
 sent:List Se.Plain.Ev
 frame:List Int
 report:List Int
structure Wo where
 ask:Nat->Nat->Int
 gain:Nat->Nat->Int
 rk:Nat->Nat->Hd.Plain.Rk
 bk:Nat->Bo.Plain.Bk
 st:Stt
 off:Se.Plain.Off
 lost:List Int
def noS:Hd.Plain.St:=⟨0,0,0,0,0⟩
def tlE (e:Nat):Tl:=⟨e,0,noS,0,[],[],[]⟩
def byI (l:List Nat):List Int:=l.map fun k:Nat=>(k:Int)
def stL (s:Nat->List En) (m:Nat):List (List En):=(List.range m).map s
def bk0 (c:Cf) (k:Nat):Bo.Plain.Bk :=
 if c.ms.getD k 0≠0 then Bo.Plain.caB (Bo.Plain.Bk.new c.n.toNat c.cap c.t.toNat) ⟨1,0,c.ms.getD k 0⟩ else Bo.Plain.Bk.new c.n.toNat c.cap c.t.toNat
def Wo.start (c:Cf):Wo:=⟨fun _ _=>0,fun _ _=>0,fun _ _=>Hd.Plain.Rk.nil,bk0 c,Stt.nil,Se.Plain.Off.nil,[]⟩
def brT (c:Cf) (W:Wo) (i:Nat) (s:Sp):Tl :=
 if s.kind=7 then tlE (wrE c.ls i s.label s.key s.count)
 else if s.kind=8 then { tlE (valE c.ls i (W.st i) s.label s.key) with value:=valV c.ls i (W.st i) s.label s.key }
 else if s.item<0\/(c.ms.length:Int)<=s.item then tlE 2
 else if s.kind=1 then tlE (afE (W.ask i s.item.toNat) s.count)
 else { tlE (Hd.Plain.toldR (W.rk i s.item.toNat) ⟨s.kind,s.count,s.life,s.id⟩).code with sk:={ Hd.Plain.toldR (W.rk i s.item.toNat) ⟨s.kind,s.count,s.life,s.id⟩ with code:=0 } }
def brW (c:Cf) (W:Wo) (i:Nat) (s:Sp):Wo :=
 if s.kind=7 then { W with st:=fun a=>if a=i then wrS c.ls i (W.st i) s.label s.key s.count else W.st a }
 else if s.kind=8 then W
 else if s.item<0\/(c.ms.length:Int)<=s.item then W
 else if s.kind=1 then (if afE (W.ask i s.item.toNat) s.count=0 then { W with ask:=up2 W.ask i s.item.toNat (W.ask i s.item.toNat+s.count) } else W)
 else { W with rk:=up2 W.rk i s.item.toNat (Hd.Plain.yH6 (W.rk i s.item.toNat) ⟨s.kind,s.count,s.life,s.id⟩) }
end Plain
namespace Plain
def xW3 (W:Wo):Wo:={ W with rk:=fun i k=>Hd.Plain.yH6 (W.rk i k) ⟨7,0,0,0⟩ }
def vL (c:Cf) (W:Wo) (i:Nat):Se.Plain.Po:=⟨(i:Int),c.n,byI (xV c (Bo.Plain.mapN c.ms.length (W.ask i)))⟩
def rumP (c:Cf) (W:Wo) (i j:Nat):Se.Plain.Po:=⟨(i:Int),(j:Int),byI (rumB c i j (stL (W.st i) c.ls.length))⟩
def sends (c:Cf) (W:Wo) (i:Nat):List Se.Plain.Po:=vL c W i :: ((List.range c.n.toNat).filter fun j=>j≠i).map (rumP c W i)
def givP (c:Cf) (W:Wo) (i:Nat):Se.Plain.Po:=⟨c.n,(i:Int),byI (xV c (Bo.Plain.mapN c.ms.length fun k=>(Bo.Plain.zT7 (W.bk k)).given.getD i 0))⟩
def qS (c:Cf) (W:Wo):List Se.Plain.Po:=(List.range c.n.toNat).flatMap (sends c W)++(List.range c.n.toNat).map (givP c W)
def xJ0 (c:Cf) (W:Wo):List Int:=(Bo.Plain.mapN c.ms.length fun k=>Bo.Plain.xR8 (W.bk k)).filter fun x=>decide (0<=x)
def evsF (k:Nat):List Se.Plain.Po->List Se.Plain.Ev
 | []=>[]
 | p :: l=>⟨(k:Int),p.frm,p.«to»,(p.data.length:Int)⟩ :: evsF (k+1) l
def zD8 (c:Cf) (W:Wo):Wo:={ xW3 W with off:={ W.off with posted:=W.off.posted++qS c W },bk:=fun k=>Bo.Plain.zT7 (W.bk k) }
def zC5 (c:Cf) (W:Wo):Tl:={ tlE 0 with sent:=evsF W.off.posted.length (qS c W),report:=xJ0 c W }
def xN (W:Wo) (i:Int):Nat:=if Se.Plain.seenE W.off i≠0 then 6 else if i∈W.lost\/Se.Plain.oldO W.off i.toNat=true then 10 else 0
def natL (l:List Int):List Nat:=l.map Int.toNat
def yL4 (W:Wo) (frm:Int) (l:List Int):Wo:={ W with bk:=fun k=>if k<l.length then Bo.Plain.caB (W.bk k) ⟨2,frm,l.getD k 0⟩ else W.bk k }
def zO7 (W:Wo) (i:Nat) (l:List Int):Wo :=
 { W with
   rk:=fun a k=>if a=i/\k<l.length/\W.gain a k<l.getD k 0 then Hd.Plain.yH6 (W.rk a k) ⟨1,l.getD k 0-W.gain a k,0,0⟩ else W.rk a k,
   gain:=fun a k=>if a=i/\k<l.length/\W.gain a k<l.getD k 0 then l.getD k 0 else W.gain a k }
def yW6 (c:Cf) (W:Wo) (frm i:Nat) (t:List (List En)):Wo:={ W with st:=fun a=>if a=i then heaK c.ls frm i (W.st i) (fun j=>t.getD j []) c.ls.length else W.st a }
def qM (c:Cf) (W:Wo) (p:Se.Plain.Po):Wo :=
 if p.«to»=c.n then yL4 W p.frm (askV c (natL p.data))
 else if p.frm=c.n then zO7 W p.«to».toNat (askV c (natL p.data))
 else yW6 c W p.frm.toNat p.«to».toNat (heaV c p.frm p.«to» (natL p.data))
def delW (c:Cf) (W:Wo) (i:Int):Wo :=
 if xN W i≠0 then W else qM c { W with off:={ W.off with opened:=W.off.opened++[i.toNat] } } (W.off.at i.toNat)
def delT (W:Wo) (i:Int):Tl :=
 if xN W i≠0 then { tlE (xN W i) with who:=(Se.Plain.seenV W.off i).tow } else { tlE 0 with who:=(W.off.at i.toNat).«to»,frame:=(W.off.at i.toNat).data }
def losW (W:Wo) (i:Int):Wo:=if xN W i≠0 then W else { W with lost:=W.lost++[i] }
def stT (c:Cf) (W:Wo) (s:Sp):Tl :=
 if s.kind=9 then zC5 c W
 else if s.kind=10 then delT W s.id
 else if s.kind=11 then tlE (xN W s.id)
 else if s.kind<1\/8<s.kind then tlE 3
 else if s.who<0\/c.n<=s.who then tlE 2
 else { brT c W s.who.toNat s with who:=s.who }
def stW (c:Cf) (W:Wo) (s:Sp):Wo :=
 if s.kind=9 then zD8 c W
 else if s.kind=10 then delW c W s.id
 else if s.kind=11 then losW W s.id
 else if s.kind<1\/8<s.kind then W
 else if s.who<0\/c.n<=s.who then W
 else brW c W s.who.toNat s
def tlsF (c:Cf) (W:Wo):List Sp->List Tl
 | []=>[]
 | s :: l=>stT c W s :: tlsF c (stW c W s) l
def runW (c:Cf) (W:Wo):List Sp->Wo
 | []=>W
 | s :: l=>runW c (stW c W s) l
theorem zO8 (c:Cf) (W:Wo) (l:List Sp):(tlsF c W l).length=l.length:=by
 induction l generalizing W with
 | nil=>rfl
 | cons s l ih=>simp [tlsF,ih]
theorem zB1 (c:Cf) (W:Wo) (x y:List Sp):runW c W (x++y)=runW c (runW c W x) y:=by
 induction x generalizing W with
 | nil=>rfl
 | cons s x ih=>simp only [List.cons_append,runW,ih]
theorem xJ1 (c:Cf) (W:Wo) (x y:List Sp):tlsF c W (x++y)=tlsF c W x++tlsF c (runW c W x) y:=by
 induction x generalizing W with
 | nil=>rfl
 | cons s x ih=>simp only [List.cons_append,tlsF,runW,ih]
theorem zW1 (c:Cf) (W:Wo) (l:List Sp) (k:Nat) (hk:k<l.length):runW c W (l.take (k+1))=stW c (runW c W (l.take k)) (l.getD k default):=by
 rw [zO hk,zB1,zA,zB hk];rfl
theorem yW7 (c:Cf) (W:Wo) (l:List Sp) (k:Nat) (hk:k<l.length):tlsF c W (l.take (k+1))=tlsF c W (l.take k)++[stT c (runW c W (l.take k)) (l.getD k default)]:=by
 rw [zO hk,xJ1,zA,zB hk];rfl
end Plain
def tlV (code who:Int) (k:Hd.Plain.St) (val:Int) (sv fv rv:Value):Nat->Value
 | 0=>.int .i64 code
 | 1=>.int .i64 who
 | 2=>.int .i64 (k.code:Nat)
 | 3=>.int .i64 k.id
 | 4=>.int .i64 k.free
 | 5=>.int .i64 k.held
 | 6=>.int .i64 k.used
 | 7=>.int .i64 val
 | 8=>sv
 | 9=>fv
 | _=>rv
abbrev aggL (v:Nat->Value):Value:=.agg #[v 0,v 1,v 2,v 3,v 4,v 5,v 6,v 7,v 8,v 9,v 10]
abbrev boxL (v:Nat->Value):Obj:=.cells #[v 0,v 1,v 2,v 3,v 4,v 5,v 6,v 7,v 8,v 9,v 10] 42
def putL (W:World) (g:Nat) (v:Nat->Value):World:=(((((((((((W.setCell ⟨g,0,none⟩ (v 0)).setCell ⟨g,1,none⟩ (v 1)).setCell ⟨g,2,none⟩ (v 2)).setCell ⟨g,3,none⟩ (v 3)).setCell ⟨g,4,none⟩ (v 4)).setCell ⟨g,5,none⟩ (v 5)).setCell ⟨g,6,none⟩ (v 6)).setCell ⟨g,7,none⟩ (v 7)).setCell ⟨g,8,none⟩ (v 8)).setCell ⟨g,9,none⟩ (v 9)).setCell ⟨g,10,none⟩ (v 10))
theorem zC6 {P:Nat->Prop} {W0 W:World} (h:Uw P W0 W) {g:Nat} (hg:W0.heap.size<=g) (v:Nat->Value):Uw P W0 (putL W g v):=by
 unfold putL;exact (((((((((((h.set (.inr hg) 0 (v 0)).set (.inr hg) 1 (v 1)).set (.inr hg) 2 (v 2)).set (.inr hg) 3 (v 3)).set (.inr hg) 4 (v 4)).set (.inr hg) 5 (v 5)).set (.inr hg) 6 (v 6)).set (.inr hg) 7 (v 7)).set (.inr hg) 8 (v 8)).set (.inr hg) 9 (v 9)).set (.inr hg) 10 (v 10))
theorem xK (W:World) (g:Nat) (v:Nat->Value):Uw (fun b=>b=g) W (putL W g v):=by
 unfold putL;exact ((((((((((((Uw.refl (fun b=>b=g) W).set (b:=g) (.inl rfl) 0 (v 0)).set (b:=g) (.inl rfl) 1 (v 1)).set (b:=g) (.inl rfl) 2 (v 2)).set (b:=g) (.inl rfl) 3 (v 3)).set (b:=g) (.inl rfl) 4 (v 4)).set (b:=g) (.inl rfl) 5 (v 5)).set (b:=g) (.inl rfl) 6 (v 6)).set (b:=g) (.inl rfl) 7 (v 7)).set (b:=g) (.inl rfl) 8 (v 8)).set (b:=g) (.inl rfl) 9 (v 9)).set (b:=g) (.inl rfl) 10 (v 10))
theorem xL {W:World} {g:Nat} {f:Nat->Value} (h:W.rowIs g 42 11 f) (v:Nat->Value):(putL W g v).rowIs g 42 11 v:=by
 have e0:=h.set 0 (v 0);have e1:=e0.set 1 (v 1);have e2:=e1.set 2 (v 2);have e3:=e2.set 3 (v 3);have e4:=e3.set 4 (v 4);have e5:=e4.set 5 (v 5);have e6:=e5.set 6 (v 6);have e7:=e6.set 7 (v 7);have e8:=e7.set 8 (v 8);have e9:=e8.set 9 (v 9);have e10:=e9.set 10 (v 10);clear e0 e1 e2 e3 e4 e5 e6 e7 e8 e9;unfold putL;refine e10.congr fun j hj=>?_;have:j=0\/j=1\/j=2\/j=3\/j=4\/j=5\/j=6\/j=7\/j=8\/j=9\/j=10:=by omega
 rcases this with rfl|rfl|rfl|rfl|rfl|rfl|rfl|rfl|rfl|rfl|rfl<;>simp
theorem row11 {c:Array Value} {v:Nat->Value} (hs:c.size=11) (h:∀ i,i<11->c[i]?=some (v i)):c=#[v 0,v 1,v 2,v 3,v 4,v 5,v 6,v 7,v 8,v 9,v 10]:=by
 apply Array.ext_getElem?;intro i
 match i with
 | 0=>simpa using h 0 (by omega)
 | 1=>simpa using h 1 (by omega)
 | 2=>simpa using h 2 (by omega)
 | 3=>simpa using h 3 (by omega)
 | 4=>simpa using h 4 (by omega)
 | 5=>simpa using h 5 (by omega)
 | 6=>simpa using h 6 (by omega)
 | 7=>simpa using h 7 (by omega)
 | 8=>simpa using h 8 (by omega)
 | 9=>simpa using h 9 (by omega)
 | 10=>simpa using h 10 (by omega)
 | i+11=>rw [yI (by omega),yI (by simp)]
theorem yV {fn:Func} {p:Tmp} {Q:Ending->World->Prop} {a:Act} {w:World} (h:fn.results=#[.cell p 42]) (G:Nat) (v:Nat->Value) (hp:a.tmps.getD p undef=.pointer (some ⟨G,0,none⟩))
  (hg:w.rowIs G 42 11 v) (hd:a.defers=[]) (hR:Q (.returned (aggL v)) w):bodyPost Tryz.prog fn Q .ret a w:=by
 obtain ⟨c,hb,hs,hc⟩:=hg;have e:=row11 hs hc;subst e;exact bodyPost_ret (results_cell_row (P:=Tryz.prog) h _ _ G 42 _ (0,0) _ hp hb Tryz.underlying42 rfl (by kernel_rfl)) hd hR
abbrev qH:Nat->Value:=tlV 0 0 ⟨0,0,0,0,0⟩ 0 (.slice none 0 0) (.slice none 0 0) (.slice none 0 0)
theorem zO9 (w:World) (v:Nat->Value):(w.alloc (boxL v)).rowIs w.heap.size 42 11 v:=by
 refine yK w _ 42 _ fun j hi=>?_;have hi5:j<11:=hi;have:j=0\/j=1\/j=2\/j=3\/j=4\/j=5\/j=6\/j=7\/j=8\/j=9\/j=10:=by omega
 rcases this with rfl|rfl|rfl|rfl|rfl|rfl|rfl|rfl|rfl|rfl|rfl<;>rfl
theorem zP0 {x k:Int} (h:0<=x/\x<k) (w:World):Calls Tryz.prog 52 #[.int .i64 x,.int .i64 k] w fun e w'=>e=.returned (.bool true)/\w'=w:=by
 have h0:0<=x:=h.1;have h1:x<k:=h.2;clear h;go_enter Tryz.func52,Tryz.ntmps52
 go_wp2;go_ret
 exact ⟨rfl,rfl⟩
theorem yG3 {x k:Int} (h:¬ (0<=x/\x<k)) (w:World):Calls Tryz.prog 52 #[.int .i64 x,.int .i64 k] w fun e w'=>e=.returned (.bool false)/\w'=w:=by
 by_cases h0:0<=x
 ·have h1:¬ x<k:=fun y=>h ⟨h0,y⟩
  clear h;go_enter Tryz.func52,Tryz.ntmps52
  go_wp2;go_ret
  exact ⟨rfl,rfl⟩
 ·clear h
  go_enter Tryz.func52,Tryz.ntmps52
  go_wp2;go_ret
  exact ⟨rfl,rfl⟩
abbrev aggX (s:Sp):Value:=.agg #[.int .i64 s.kind,.int .i64 s.who,.int .i64 s.item,.int .i64 s.count,.int .i64 s.life,.int .i64 s.id,.int .i64 s.label,.int .i64 s.key]
abbrev boxX (s:Sp):Obj:=.cells #[.int .i64 s.kind,.int .i64 s.who,.int .i64 s.item,.int .i64 s.count,.int .i64 s.life,.int .i64 s.id,.int .i64 s.label,.int .i64 s.key] 32
abbrev boxZ:Obj:=.cells #[.int .i64 0,.int .i64 0,.int .i64 0,.int .i64 0,.int .i64 0,.int .i64 0,.int .i64 0,.int .i64 0,.slice none 0 0,.slice none 0 0,.slice none 0 0] 42
theorem rowZ (w:World):(w.alloc boxZ).rowIs w.heap.size 42 11 qH:=zO9 w qH
def isB (H D:Nat->Nat) (vo:Nat->Nat->Value) (n m b:Nat):Prop:=isGo D vo n m b\/isH H n b
theorem Nums.uw {w w':World} {lp:Option Addr} {L:List Int} (h:Nums w lp L) {P:Nat->Prop} (u:Uw P w w') (hp:0<L.length->∀ b o,lp=some ⟨b,o,none⟩->¬ P b):Nums w' lp L:=fun h0=>by
 obtain ⟨b,off,e,hb,hc⟩:=h h0;refine ⟨b,off,e,zF hb u.size,fun j hj=>?_⟩;rw [<- hc j hj];simp only [World.cell?,u.block b hb (hp h0 b off e)]
structure BrsI (w:World) (EB NC:Nat) (F:Nat->Value) (H D:Nat->Nat) (vo:Nat->Nat->Value) (lp:Option Addr) (lc n m:Nat) (L:List Int) (W:Wo):Prop where
 st:StsI w EB NC F H D lp lc n m L W.st
 go:GoI w D vo n m W.ask W.gain W.rk
 lb:0<L.length->∀ b o,lp=some ⟨b,o,none⟩->¬ isB H D vo n m b
theorem BrsI.grow {w w':World} {EB NC:Nat} {F:Nat->Value} {H D:Nat->Nat} {vo:Nat->Nat->Value} {lp:Option Addr} {lc n m:Nat} {L:List Int} {W:Wo} (h:BrsI w EB NC F H D vo lp lc n m L W) (b:Below w.heap.size w w'):BrsI w' EB NC F H D vo lp lc n m L W:=⟨h.st.grow b,h.go.grow b,h.lb⟩
def tlOf (t:Tl) (sv fv rv:Value):Nat->Value:=tlV t.code t.who t.sk t.value sv fv rv
abbrev nilS:Value:=.slice none 0 0
def BdP (EB NC:Nat) (F:Nat->Value) (H D:Nat->Nat) (vo:Nat->Nat->Value) (lp:Option Addr) (lc n m:Nat) (c:Cf) (W:Wo) (i:Nat) (s:Sp) (w:World) (e:Ending) (w':World):Prop :=
 e=.returned (aggL (tlOf (brT c W i s) nilS nilS nilS))/\(∃ vo',BrsI w' EB NC F H D vo' lp lc n m c.ls (brW c W i s)/\∀ x,isB H D vo' n m x->isB H D vo n m x\/w.heap.size<=x)/\Uw (isB H D vo n m) w w'
theorem xW4 (EB NC:Nat) (F:Nat->Value) (H D:Nat->Nat) (vo:Nat->Nat->Value) (lp:Option Addr) (lc n m:Nat) (c:Cf) (W:Wo) (i:Nat) (s:Sp) (hi:i<n) (hm:c.ms.length=m) (h7:s.kind≠7) (h8:s.kind≠8) (hit:¬ (0<=s.item/\s.item<(m:Int)))
  (w:World) (h:BrsI w EB NC F H D vo lp lc n m c.ls W) :
  Calls Tryz.prog 53 #[.pointer (some ⟨EB,i*4,none⟩),aggX s] w fun e w'=>BdP EB NC F H D vo lp lc n m c W i s w e w':=by
 have e1:brT c W i s=tlE 2:=by unfold brT;rw [if_neg h7,if_neg h8,if_pos (by rw [hm];omega)]
 have e2:brW c W i s=W:=by unfold brW;rw [if_neg h7,if_neg h8,if_pos (by rw [hm];omega)]
 have K:=fun X=>yG3 hit X;obtain ⟨WA,hWA⟩:∃ WA,WA=(w.alloc (boxX s)).alloc boxZ:=⟨_,rfl⟩;have BA:=hid (show Below w.heap.size w WA by rw [hWA];exact (yO.alloc yN _).alloc (by simp) _);have RA:=hid (show WA.rowIs (w.heap.size+1) 42 11 qH by
  have:=rowZ (w.alloc (boxX s));rw [show (w.alloc (boxX s)).heap.size=w.heap.size+1 by simp] at this;rw [hWA];exact this)
 have x3:=(h.grow BA.out).st.goods hi;rw [hWA] at x3;have HI:=hid h;have HE:=hid (And.intro e1 e2);clear h e1 e2 hit;obtain ⟨kd,who,it,cnt,life,id',la,ke⟩:=s;dsimp only at h7 h8 K;have b7:(kd==7)=false:=by simpa using h7
 have b8:(kd==8)=false:=by simpa using h8
 clear h7 h8;go_enter Tryz.func53,Tryz.ntmps53
 go_wp2
 go_quiet ((go_at_call 52;exact Calls.quiet_of_same (K _)))
 go_wp2;rw [<- hWA];clear hWA x3;obtain ⟨WQ,hWQ⟩:∃ WQ,WQ=WA.drewN nq:=⟨_,rfl⟩;rw [<- hWQ];have BQ:Below w.heap.size w WQ:=by rw [hWQ];exact below_drewN BA.out nq
 have RQ:WQ.rowIs (w.heap.size+1) 42 11 qH:=by rw [hWQ];exact RA.out.of_block rfl
 clear hWQ BA RA;obtain ⟨W6,hW6⟩:∃ W6,W6=(((((((((((WQ.setCell ⟨w.heap.size+1,0,none⟩ (.int .i64 2)).setCell ⟨w.heap.size+1,1,none⟩ (.int .i64 0)).setCell ⟨w.heap.size+1,2,none⟩ (.int .i64 0)).setCell ⟨w.heap.size+1,3,none⟩ (.int .i64 0)).setCell ⟨w.heap.size+1,4,none⟩ (.int .i64 0)).setCell ⟨w.heap.size+1,5,none⟩ (.int .i64 0)).setCell ⟨w.heap.size+1,6,none⟩ (.int .i64 0)).setCell ⟨w.heap.size+1,7,none⟩ (.int .i64 0)).setCell ⟨w.heap.size+1,8,none⟩ (.slice none 0 0)).setCell ⟨w.heap.size+1,9,none⟩ (.slice none 0 0)).setCell ⟨w.heap.size+1,10,none⟩ (.slice none 0 0)):=⟨_,rfl⟩;rw [<- hW6];have h6:W6=putL WQ (w.heap.size+1) (tlOf (tlE 2) nilS nilS nilS):=hW6;clear hW6;have F6:W6.rowIs (w.heap.size+1) 42 11 (tlOf (tlE 2) nilS nilS nilS):=by rw [h6];exact xL RQ _
 have U6:∀ P,Uw P w W6:=fun P=>by rw [h6];exact zC6 (Uw.of_below BQ) (by omega) _
 clear h6 RQ BQ;refine yV rfl (w.heap.size+1) (tlOf (tlE 2) nilS nilS nilS) rfl F6 rfl ⟨by rw [HE.out.1],⟨vo,?_,fun _ x=>.inl x⟩,U6 _⟩;rw [HE.out.2];exact HI.out.grow ((U6 fun _=>False).below yN (fun _ _ x=>x))
def spF (s:Sp):Nat->Value
 | 0=>.int .i64 s.kind
 | 1=>.int .i64 s.who
 | 2=>.int .i64 s.item
 | 3=>.int .i64 s.count
 | 4=>.int .i64 s.life
 | 5=>.int .i64 s.id
 | 6=>.int .i64 s.label
 | _=>.int .i64 s.key
theorem rowX (w:World) (s:Sp):(w.alloc (boxX s)).rowIs w.heap.size 32 8 (spF s):=by
 refine yK w _ 32 _ fun j hi=>?_;have hi5:j<8:=hi;have:j=0\/j=1\/j=2\/j=3\/j=4\/j=5\/j=6\/j=7:=by omega
 rcases this with rfl|rfl|rfl|rfl|rfl|rfl|rfl|rfl<;>rfl
structure BxI (w wx:World) (s:Sp) (f:Nat->Value):Prop where
 x:wx.rowIs w.heap.size 32 8 (spF s)
 t:wx.rowIs (w.heap.size+1) 42 11 f
namespace BxI
variable {w wx wy:World} {s:Plain.Sp} {f:Nat->Value} {P:Nat->Prop}
theorem start (w:World) (s:Plain.Sp):BxI w ((w.alloc (boxX s)).alloc boxZ) s qH:=by
 refine ⟨(rowX w s).alloc _,?_⟩;have:=rowZ (w.alloc (boxX s));rw [show (w.alloc (boxX s)).heap.size=w.heap.size+1 by simp] at this;exact this
theorem un (h:BxI w wx s f) (u:Uw P wx wy) (h1:¬ P w.heap.size) (h2:¬ P (w.heap.size+1)):BxI w wy s f:=⟨u.rowIs h.x h1,u.rowIs h.t h2⟩
theorem grow (h:BxI w wx s f) (b:Below wx.heap.size wx wy):BxI w wy s f:=h.un (P:=fun _=>False) (Uw.of_below b) (fun x=>x) (fun x=>x)
end BxI
theorem qG0 (EB NC:Nat) (F:Nat->Value) (H D:Nat->Nat) (vo:Nat->Nat->Value) (lp:Option Addr) (lc n m:Nat) (c:Cf) (W:Wo) (i:Nat) (s:Sp) (hi:i<n) (hm:c.ms.length=m) (h1:s.kind=1) (hit:0<=s.item/\s.item<(m:Int))
  (ha:0<=W.ask i s.item.toNat/\W.ask i s.item.toNat<=1048576) (w:World) (h:BrsI w EB NC F H D vo lp lc n m c.ls W) :
  Calls Tryz.prog 53 #[.pointer (some ⟨EB,i*4,none⟩),aggX s] w fun e w'=>BdP EB NC F H D vo lp lc n m c W i s w e w':=by
 have K:=fun X=>zP0 hit X;obtain ⟨WA,hWA⟩:∃ WA,WA=(w.alloc (boxX s)).alloc boxZ:=⟨_,rfl⟩;have BA:=hid (show Below w.heap.size w WA by rw [hWA];exact (yO.alloc yN _).alloc (by simp) _);have XA:=hid (show BxI w WA s qH by rw [hWA];exact BxI.start w s);have x3:=(h.grow BA.out).st.goods hi;rw [hWA] at x3;have e1:brT c W i s=tlE (afE (W.ask i s.item.toNat) s.count):=by unfold brT;rw [if_neg (by omega),if_neg (by omega),if_neg (by rw [hm];omega),if_pos h1]
 have e2:brW c W i s=(if afE (W.ask i s.item.toNat) s.count=0 then { W with ask:=up2 W.ask i s.item.toNat (W.ask i s.item.toNat+s.count) } else W):=by unfold brW;rw [if_neg (by omega),if_neg (by omega),if_neg (by rw [hm];omega),if_pos h1]
 have HE:=hid (And.intro e1 e2);obtain ⟨k,hk⟩:∃ k:Nat,s.item=(k:Int):=⟨s.item.toNat,by omega⟩;rw [hk] at hit;have hkm:k<m:=by omega
 have hkz:(k:Int)<(m:Int):=by omega
 have HI:=hid h;have HA:=hid ha;clear h e1 e2 hit ha;obtain ⟨kd,who,it,cnt,life,id',la,ke⟩:=s;dsimp only at h1 hk K HE HA;subst h1;subst hk;rw [zK] at HE HA;go_enter Tryz.func53,Tryz.ntmps53
 go_wp2
 go_quiet ((go_at_call 52;exact Calls.quiet_of_same (K _)))
 rw [<- hWA];clear hWA x3 K;obtain ⟨WQ,hWQ⟩:∃ WQ,WQ=WA.drewN nq:=⟨_,rfl⟩;rw [<- hWQ];have BQ:=hid (show Below w.heap.size w WQ by rw [hWQ];exact below_drewN BA.out nq);have XQ:=hid (show BxI w WQ ⟨1,who,(k:Int),cnt,life,id',la,ke⟩ qH by rw [hWQ];exact XA.out.grow (below_drewN yO nq));clear hWQ BA XA;have x3:=(HI.out.grow BQ.out).st.goods hi;have c0:WQ.cell? ⟨w.heap.size,0,none⟩=some (.int .i64 1):=XQ.out.x.cell (i:=0) (by omega);have c2:WQ.cell? ⟨w.heap.size,2,none⟩=some (.int .i64 (k:Int)):=XQ.out.x.cell (i:=2) (by omega);have c3:WQ.cell? ⟨w.heap.size,3,none⟩=some (.int .i64 cnt):=XQ.out.x.cell (i:=3) (by omega);have KA:=fun q=>xI8 D vo n m W.ask W.gain W.rk i k hi hkm HA.out cnt (WQ.drewN q) ((HI.out.grow BQ.out).go.grow (below_drewN yO q));have HST:=hid (HI.out.grow BQ.out);go_wp2
 go_quiet (fail)
 go_wp2_with fail
 refine (KA _).mono ?_;rintro e w2 ⟨rfl,hg2,u2⟩;have U2:=hid (show Uw (isGo D vo n m) WQ w2 from (Uw.of_below (below_drewN yO _)).trans u2);have G2:=hid hg2;clear hg2 u2 KA x3 c0 c2 c3;have NG:=hid (fun b (hb:isGo D vo n m b)=>(HI.out.go.lt hb:b<w.heap.size));have X2:=hid (XQ.out.un U2.out (fun x=>by have:=NG.out _ x;omega) (fun x=>by have:=NG.out _ x;omega));have S2:=hid (show StsI w2 EB NC F H D lp lc n m c.ls W.st from HST.out.st.un U2.out HST.out.go.noe (fun x=>(HST.out.st.apart HST.out.go _ x).1 rfl) (fun j hj x=>(HST.out.st.apart HST.out.go _ x).2 ⟨j,hj,rfl⟩) (HST.out.st.lab.uw U2.out (fun h0 b o e x=>HST.out.lb h0 b o e (.inl x))));have UW:=hid (show Uw (isB H D vo n m) w w2 from (Uw.of_below BQ.out).and_then U2.out (fun b _ x=>.inl x));generalize afE (W.ask i k) cnt=E at HE G2 ⊢;have y0:w2.cell? ⟨w.heap.size+1,0,none⟩=some (.int .i64 0):=X2.out.t.cell (i:=0) (by omega);have z0:=X2.out.t.frozen 0;have y1:w2.cell? ⟨w.heap.size+1,1,none⟩=some (.int .i64 0):=X2.out.t.cell (i:=1) (by omega);have z1:=X2.out.t.frozen 1;have y2:w2.cell? ⟨w.heap.size+1,2,none⟩=some (.int .i64 0):=X2.out.t.cell (i:=2) (by omega);have z2:=X2.out.t.frozen 2;have y3:w2.cell? ⟨w.heap.size+1,3,none⟩=some (.int .i64 0):=X2.out.t.cell (i:=3) (by omega);have z3:=X2.out.t.frozen 3;have y4:w2.cell? ⟨w.heap.size+1,4,none⟩=some (.int .i64 0):=X2.out.t.cell (i:=4) (by omega);have z4:=X2.out.t.frozen 4;have y5:w2.cell? ⟨w.heap.size+1,5,none⟩=some (.int .i64 0):=X2.out.t.cell (i:=5) (by omega);have z5:=X2.out.t.frozen 5;have y6:w2.cell? ⟨w.heap.size+1,6,none⟩=some (.int .i64 0):=X2.out.t.cell (i:=6) (by omega);have z6:=X2.out.t.frozen 6;have y7:w2.cell? ⟨w.heap.size+1,7,none⟩=some (.int .i64 0):=X2.out.t.cell (i:=7) (by omega);have z7:=X2.out.t.frozen 7;have y8:w2.cell? ⟨w.heap.size+1,8,none⟩=some (.slice none 0 0):=X2.out.t.cell (i:=8) (by omega);have z8:=X2.out.t.frozen 8;have y9:w2.cell? ⟨w.heap.size+1,9,none⟩=some (.slice none 0 0):=X2.out.t.cell (i:=9) (by omega);have z9:=X2.out.t.frozen 9;have y10:w2.cell? ⟨w.heap.size+1,10,none⟩=some (.slice none 0 0):=X2.out.t.cell (i:=10) (by omega);have z10:=X2.out.t.frozen 10;go_wp2;obtain ⟨W6,hW6⟩:∃ W6,W6=(((((((((((w2.setCell ⟨w.heap.size+1,0,none⟩ (.int .i64 (E:Nat))).setCell ⟨w.heap.size+1,1,none⟩ (.int .i64 0)).setCell ⟨w.heap.size+1,2,none⟩ (.int .i64 0)).setCell ⟨w.heap.size+1,3,none⟩ (.int .i64 0)).setCell ⟨w.heap.size+1,4,none⟩ (.int .i64 0)).setCell ⟨w.heap.size+1,5,none⟩ (.int .i64 0)).setCell ⟨w.heap.size+1,6,none⟩ (.int .i64 0)).setCell ⟨w.heap.size+1,7,none⟩ (.int .i64 0)).setCell ⟨w.heap.size+1,8,none⟩ (.slice none 0 0)).setCell ⟨w.heap.size+1,9,none⟩ (.slice none 0 0)).setCell ⟨w.heap.size+1,10,none⟩ (.slice none 0 0)):=⟨_,rfl⟩;rw [<- hW6];have h6:W6=putL w2 (w.heap.size+1) (tlOf (tlE E) nilS nilS nilS):=hW6;clear hW6 y0 z0 y1 z1 y2 z2 y3 z3 y4 z4 y5 z5 y6 z6 y7 z7 y8 z8 y9 z9 y10 z10;have F6:W6.rowIs (w.heap.size+1) 42 11 (tlOf (tlE E) nilS nilS nilS):=by rw [h6];exact xL X2.out.t _
 have U6:Uw (isB H D vo n m) w W6:=by rw [h6];exact zC6 UW.out (by omega) _
 have V6:Uw (fun b=>b=w.heap.size+1) w2 W6:=by rw [h6];exact xK w2 _ _
 clear h6;have LA:0<c.ls.length->∀ b o,lp=some ⟨b,o,none⟩->b≠w.heap.size+1:=fun h0 b o e=>by
  obtain ⟨b',o',e',hb',_⟩:=HI.out.st.lab h0;rw [e] at e';have e3:b=b':=congrArg Addr.block (Option.some.inj e');omega
 have S6:StsI W6 EB NC F H D lp lc n m c.ls W.st:=S2.out.un V6 (fun b hb=>by rw [show b=w.heap.size+1 from hb];exact NoE.of_row X2.out.t (by decide)) (by have:=HI.out.st.row.lt;omega) (fun j hj=>by obtain ⟨f,hf⟩:=HI.out.st.rs j hj;have:=hf.row.lt;omega) (S2.out.lab.uw V6 LA);have G6:=G2.out.un V6 (fun b hb x=>by have:=NG.out b hb;omega);refine yV rfl (w.heap.size+1) (tlOf (tlE E) nilS nilS nilS) rfl F6 rfl ⟨by rw [HE.out.1],⟨vo,?_,fun _ x=>.inl x⟩,U6⟩;rw [HE.out.2];by_cases h0:E=0
 ·rw [if_pos h0] at G6 ⊢
  exact ⟨S6,G6,HI.out.lb⟩
 ·rw [if_neg h0] at G6 ⊢
  exact ⟨S6,G6,HI.out.lb⟩
theorem xW5 (EB NC:Nat) (F:Nat->Value) (H D:Nat->Nat) (vo:Nat->Nat->Value) (lp:Option Addr) (lc n m:Nat) (c:Cf) (W:Wo) (i:Nat) (s:Sp) (T:Int) (hi:i<n) (hn:n<=8) (h1:s.kind=7) (hL4:c.ls.length<=4) (hL:∀ x,x∈c.ls->0<=x/\x<256) (hT:0<=T/\T<1000000) (hS:Sok T (W.st i))
  (w:World) (h:BrsI w EB NC F H D vo lp lc n m c.ls W) :
  Calls Tryz.prog 53 #[.pointer (some ⟨EB,i*4,none⟩),aggX s] w fun e w'=>BdP EB NC F H D vo lp lc n m c W i s w e w':=by
 obtain ⟨WA,hWA⟩:∃ WA,WA=(w.alloc (boxX s)).alloc boxZ:=⟨_,rfl⟩;have BA:=hid (show Below w.heap.size w WA by rw [hWA];exact (yO.alloc yN _).alloc (by simp) _);have XA:=hid (show BxI w WA s qH by rw [hWA];exact BxI.start w s);have e1:brT c W i s=tlE (wrE c.ls i s.label s.key s.count):=by unfold brT;rw [if_pos h1]
 have e2:brW c W i s={ W with st:=fun a=>if a=i then wrS c.ls i (W.st i) s.label s.key s.count else W.st a }:=by unfold brW;rw [if_pos h1]
 have HE:=hid (And.intro e1 e2);have HI:=hid h;have HST:=hid (h.grow BA.out);have KW:=xT2 EB (i*4) _ (H i) i lp lc c.ls (W.st i) s.label s.key s.count T (by omega) hL4 hL hT hS WA.drew ((HST.out.grow (yO.drew)).st.sto hi);clear h e1 e2 hS hL;obtain ⟨kd,who,it,cnt,life,id',la,ke⟩:=s;dsimp only at h1 HE KW;subst h1;have c3:WA.drew.cell? ⟨w.heap.size,3,none⟩=some (.int .i64 cnt):=XA.out.x.cell (i:=3) (by omega);have c6:WA.drew.cell? ⟨w.heap.size,6,none⟩=some (.int .i64 la):=XA.out.x.cell (i:=6) (by omega);have c7:WA.drew.cell? ⟨w.heap.size,7,none⟩=some (.int .i64 ke):=XA.out.x.cell (i:=7) (by omega);have hlt:w.heap.size<WA.heap.size:=XA.out.x.lt;have NH:=hid (fun b (hb:isH H n b)=>show b<w.heap.size by obtain ⟨j,hj,e⟩:=hb;obtain ⟨f,hf⟩:=HI.out.st.rs j hj;rw [e];exact hf.row.lt);have HFIN:=hid (fun (w2:World) (p:PutP EB (i*4) ⟨94,NC,F⟩ (H i) i lp lc c.ls (wrS c.ls i (W.st i) la ke cnt) WA.drew w2)=>show StsI w2 EB NC F H D lp lc n m c.ls (fun a=>if a=i then wrS c.ls i (W.st i) la ke cnt else W.st a)/\GoI w2 D vo n m W.ask W.gain W.rk/\BxI w w2 ⟨7,who,it,cnt,life,id',la,ke⟩ qH/\Uw (isB H D vo n m) w w2 by
  have g0:=HST.out.grow ((Below.refl WA.heap.size WA).drew);obtain ⟨q1,q2⟩:=g0.st.put hi p;exact ⟨q1,g0.go.un q2 (fun b hb x=>(g0.st.apart g0.go b hb).2 x),(XA.out.grow (yO.drew)).un q2 (fun x=>by have:=NH.out _ x;omega) (fun x=>by have:=NH.out _ x;omega),(Uw.of_below (BA.out.drew)).and_then q2 (fun b _ x=>.inr x)⟩)
 go_enter Tryz.func53,Tryz.ntmps53
 go_upto_region 3 with fail
 rw [<- hWA];clear hWA;obtain ⟨E,hE⟩:∃ E,E=wrE c.ls i la ke cnt:=⟨_,rfl⟩;rw [<- hE] at KW HE;clear hE
 go_region_held3 (fun w'=>w'.cell? ⟨w.heap.size,3,none⟩=some (.int .i64 cnt)/\w'.cell? ⟨w.heap.size,6,none⟩=some (.int .i64 la)/\w'.cell? ⟨w.heap.size,7,none⟩=some (.int .i64 ke)) (go_keep)
  ((go_at_call 82;refine KW.mono ?_;rintro e w2 ⟨rfl,hp⟩;have FF:=hid (HFIN.out w2 hp);clear hp;have X2:=hid FF.out.2.2.1;have d3:w2.cell? ⟨w.heap.size,3,none⟩=some (.int .i64 cnt):=X2.out.x.cell (i:=3) (by omega);have d6:w2.cell? ⟨w.heap.size,6,none⟩=some (.int .i64 la):=X2.out.x.cell (i:=6) (by omega);have d7:w2.cell? ⟨w.heap.size,7,none⟩=some (.int .i64 ke):=X2.out.x.cell (i:=7) (by omega);have y0:w2.cell? ⟨w.heap.size+1,0,none⟩=some (.int .i64 0):=X2.out.t.cell (i:=0) (by omega);have z0:=X2.out.t.frozen 0;have y1:w2.cell? ⟨w.heap.size+1,1,none⟩=some (.int .i64 0):=X2.out.t.cell (i:=1) (by omega);have z1:=X2.out.t.frozen 1;have y2:w2.cell? ⟨w.heap.size+1,2,none⟩=some (.int .i64 0):=X2.out.t.cell (i:=2) (by omega);have z2:=X2.out.t.frozen 2;have y3:w2.cell? ⟨w.heap.size+1,3,none⟩=some (.int .i64 0):=X2.out.t.cell (i:=3) (by omega);have z3:=X2.out.t.frozen 3;have y4:w2.cell? ⟨w.heap.size+1,4,none⟩=some (.int .i64 0):=X2.out.t.cell (i:=4) (by omega);have z4:=X2.out.t.frozen 4;have y5:w2.cell? ⟨w.heap.size+1,5,none⟩=some (.int .i64 0):=X2.out.t.cell (i:=5) (by omega);have z5:=X2.out.t.frozen 5;have y6:w2.cell? ⟨w.heap.size+1,6,none⟩=some (.int .i64 0):=X2.out.t.cell (i:=6) (by omega);have z6:=X2.out.t.frozen 6;have y7:w2.cell? ⟨w.heap.size+1,7,none⟩=some (.int .i64 0):=X2.out.t.cell (i:=7) (by omega);have z7:=X2.out.t.frozen 7;have y8:w2.cell? ⟨w.heap.size+1,8,none⟩=some (.slice none 0 0):=X2.out.t.cell (i:=8) (by omega);have z8:=X2.out.t.frozen 8;have y9:w2.cell? ⟨w.heap.size+1,9,none⟩=some (.slice none 0 0):=X2.out.t.cell (i:=9) (by omega);have z9:=X2.out.t.frozen 9;have y10:w2.cell? ⟨w.heap.size+1,10,none⟩=some (.slice none 0 0):=X2.out.t.cell (i:=10) (by omega);have z10:=X2.out.t.frozen 10))
 all_goals
  obtain ⟨W6,hW6⟩:∃ W6,W6=(((((((((((w2.setCell ⟨w.heap.size+1,0,none⟩ (.int .i64 (E:Nat))).setCell ⟨w.heap.size+1,1,none⟩ (.int .i64 0)).setCell ⟨w.heap.size+1,2,none⟩ (.int .i64 0)).setCell ⟨w.heap.size+1,3,none⟩ (.int .i64 0)).setCell ⟨w.heap.size+1,4,none⟩ (.int .i64 0)).setCell ⟨w.heap.size+1,5,none⟩ (.int .i64 0)).setCell ⟨w.heap.size+1,6,none⟩ (.int .i64 0)).setCell ⟨w.heap.size+1,7,none⟩ (.int .i64 0)).setCell ⟨w.heap.size+1,8,none⟩ (.slice none 0 0)).setCell ⟨w.heap.size+1,9,none⟩ (.slice none 0 0)).setCell ⟨w.heap.size+1,10,none⟩ (.slice none 0 0)):=⟨_,rfl⟩;rw [<- hW6];have h6:W6=putL w2 (w.heap.size+1) (tlOf (tlE E) nilS nilS nilS):=hW6;clear hW6 y0 z0 y1 z1 y2 z2 y3 z3 y4 z4 y5 z5 y6 z6 y7 z7 y8 z8 y9 z9 y10 z10;have F6:=hid (show W6.rowIs (w.heap.size+1) 42 11 (tlOf (tlE E) nilS nilS nilS) by rw [h6];exact xL X2.out.t _);have U6:=hid (show Uw (isB H D vo n m) w W6 by rw [h6];exact zC6 FF.out.2.2.2 (by omega) _);have V6:=hid (show Uw (fun b=>b=w.heap.size+1) w2 W6 by rw [h6];exact xK w2 _ _);clear h6;go_wp2;have LA:0<c.ls.length->∀ b o,lp=some ⟨b,o,none⟩->b≠w.heap.size+1:=fun h0 b o e=>by
   obtain ⟨b',o',e',hb',_⟩:=HI.out.st.lab h0;rw [e] at e';have e3:b=b':=congrArg Addr.block (Option.some.inj e');omega
  have S6:=FF.out.1.un V6.out (fun b hb=>by rw [show b=w.heap.size+1 from hb];exact NoE.of_row X2.out.t (by decide)) (by have:=HI.out.st.row.lt;omega) (fun j hj=>by have:=NH.out _ ⟨j,hj,rfl⟩;omega) (FF.out.1.lab.uw V6.out LA);have G6:=FF.out.2.1.un V6.out (fun b hb x=>by have:=HI.out.go.lt hb;omega);refine yV rfl (w.heap.size+1) (tlOf (tlE E) nilS nilS nilS) rfl F6.out rfl ⟨by rw [HE.out.1],⟨vo,?_,fun _ x=>.inl x⟩,U6.out⟩;rw [HE.out.2];exact ⟨S6,G6,HI.out.lb⟩
theorem xW6 (EB NC:Nat) (F:Nat->Value) (H D:Nat->Nat) (vo:Nat->Nat->Value) (lp:Option Addr) (lc n m:Nat) (c:Cf) (W:Wo) (i:Nat) (s:Sp) (T:Int) (hi:i<n) (hn:n<=8) (h1:s.kind=8) (hL4:c.ls.length<=4) (hL:∀ x,x∈c.ls->0<=x/\x<256) (hS:Sok T (W.st i))
  (w:World) (h:BrsI w EB NC F H D vo lp lc n m c.ls W) :
  Calls Tryz.prog 53 #[.pointer (some ⟨EB,i*4,none⟩),aggX s] w fun e w'=>BdP EB NC F H D vo lp lc n m c W i s w e w':=by
 obtain ⟨WA,hWA⟩:∃ WA,WA=(w.alloc (boxX s)).alloc boxZ:=⟨_,rfl⟩;have BA:=hid (show Below w.heap.size w WA by rw [hWA];exact (yO.alloc yN _).alloc (by simp) _);have XA:=hid (show BxI w WA s qH by rw [hWA];exact BxI.start w s);have e1:brT c W i s={ tlE (valE c.ls i (W.st i) s.label s.key) with value:=valV c.ls i (W.st i) s.label s.key }:=by unfold brT;rw [if_neg (by omega),if_pos h1]
 have e2:brW c W i s=W:=by unfold brW;rw [if_neg (by omega),if_pos h1]
 have HE:=hid (And.intro e1 e2);have HI:=hid h;have HST:=hid (h.grow BA.out);have KW:=xT0 EB (i*4) _ (H i) i lp lc c.ls (W.st i) s.label s.key T (by omega) hL4 hL hS WA.drew ((HST.out.grow (yO.drew)).st.sto hi);clear h e1 e2 hS hL;obtain ⟨kd,who,it,cnt,life,id',la,ke⟩:=s;dsimp only at h1 HE KW;subst h1;have c6:WA.drew.cell? ⟨w.heap.size,6,none⟩=some (.int .i64 la):=XA.out.x.cell (i:=6) (by omega);have c7:WA.drew.cell? ⟨w.heap.size,7,none⟩=some (.int .i64 ke):=XA.out.x.cell (i:=7) (by omega);have hlt:w.heap.size<WA.heap.size:=XA.out.x.lt;have HFIN:=hid (fun (w2:World) (b:Below WA.drew.heap.size WA.drew w2)=>show BrsI w2 EB NC F H D vo lp lc n m c.ls W/\BxI w w2 ⟨8,who,it,cnt,life,id',la,ke⟩ qH/\Below w.heap.size w w2 from
  ⟨(HST.out.grow ((Below.refl WA.heap.size WA).drew)).grow b,(XA.out.grow (yO.drew)).grow b,BA.out.drew.trans (b.mono BA.out.drew.size)⟩)
 go_enter Tryz.func53,Tryz.ntmps53
 go_upto_region 5 with fail
 rw [<- hWA];clear hWA;obtain ⟨E,hE⟩:∃ E,E=valE c.ls i (W.st i) la ke:=⟨_,rfl⟩;obtain ⟨V,hV⟩:∃ V,V=valV c.ls i (W.st i) la ke:=⟨_,rfl⟩;rw [<- hE,<- hV] at KW HE;clear hE hV
 go_region_held3 (fun w'=>w'.cell? ⟨w.heap.size,6,none⟩=some (.int .i64 la)/\w'.cell? ⟨w.heap.size,7,none⟩=some (.int .i64 ke)) (go_keep)
  ((go_at_call 83;refine KW.mono ?_;rintro e w2 ⟨rfl,hp⟩;have FF:=hid (HFIN.out w2 hp);clear hp;have X2:=hid FF.out.2.1;have d6:w2.cell? ⟨w.heap.size,6,none⟩=some (.int .i64 la):=X2.out.x.cell (i:=6) (by omega);have d7:w2.cell? ⟨w.heap.size,7,none⟩=some (.int .i64 ke):=X2.out.x.cell (i:=7) (by omega);have y0:w2.cell? ⟨w.heap.size+1,0,none⟩=some (.int .i64 0):=X2.out.t.cell (i:=0) (by omega);have z0:=X2.out.t.frozen 0;have y1:w2.cell? ⟨w.heap.size+1,1,none⟩=some (.int .i64 0):=X2.out.t.cell (i:=1) (by omega);have z1:=X2.out.t.frozen 1;have y2:w2.cell? ⟨w.heap.size+1,2,none⟩=some (.int .i64 0):=X2.out.t.cell (i:=2) (by omega);have z2:=X2.out.t.frozen 2;have y3:w2.cell? ⟨w.heap.size+1,3,none⟩=some (.int .i64 0):=X2.out.t.cell (i:=3) (by omega);have z3:=X2.out.t.frozen 3;have y4:w2.cell? ⟨w.heap.size+1,4,none⟩=some (.int .i64 0):=X2.out.t.cell (i:=4) (by omega);have z4:=X2.out.t.frozen 4;have y5:w2.cell? ⟨w.heap.size+1,5,none⟩=some (.int .i64 0):=X2.out.t.cell (i:=5) (by omega);have z5:=X2.out.t.frozen 5;have y6:w2.cell? ⟨w.heap.size+1,6,none⟩=some (.int .i64 0):=X2.out.t.cell (i:=6) (by omega);have z6:=X2.out.t.frozen 6;have y7:w2.cell? ⟨w.heap.size+1,7,none⟩=some (.int .i64 0):=X2.out.t.cell (i:=7) (by omega);have z7:=X2.out.t.frozen 7;have y8:w2.cell? ⟨w.heap.size+1,8,none⟩=some (.slice none 0 0):=X2.out.t.cell (i:=8) (by omega);have z8:=X2.out.t.frozen 8;have y9:w2.cell? ⟨w.heap.size+1,9,none⟩=some (.slice none 0 0):=X2.out.t.cell (i:=9) (by omega);have z9:=X2.out.t.frozen 9;have y10:w2.cell? ⟨w.heap.size+1,10,none⟩=some (.slice none 0 0):=X2.out.t.cell (i:=10) (by omega);have z10:=X2.out.t.frozen 10))
 all_goals
  go_wp2;obtain ⟨W6,hW6⟩:∃ W6,W6=(((((((((((w2.setCell ⟨w.heap.size+1,0,none⟩ (.int .i64 (E:Nat))).setCell ⟨w.heap.size+1,1,none⟩ (.int .i64 0)).setCell ⟨w.heap.size+1,2,none⟩ (.int .i64 0)).setCell ⟨w.heap.size+1,3,none⟩ (.int .i64 0)).setCell ⟨w.heap.size+1,4,none⟩ (.int .i64 0)).setCell ⟨w.heap.size+1,5,none⟩ (.int .i64 0)).setCell ⟨w.heap.size+1,6,none⟩ (.int .i64 0)).setCell ⟨w.heap.size+1,7,none⟩ (.int .i64 V)).setCell ⟨w.heap.size+1,8,none⟩ (.slice none 0 0)).setCell ⟨w.heap.size+1,9,none⟩ (.slice none 0 0)).setCell ⟨w.heap.size+1,10,none⟩ (.slice none 0 0)):=⟨_,rfl⟩;rw [<- hW6];have h6:W6=putL w2 (w.heap.size+1) (tlOf { tlE E with value:=V } nilS nilS nilS):=hW6;clear hW6 y0 z0 y1 z1 y2 z2 y3 z3 y4 z4 y5 z5 y6 z6 y7 z7 y8 z8 y9 z9 y10 z10;have F6:W6.rowIs (w.heap.size+1) 42 11 (tlOf { tlE E with value:=V } nilS nilS nilS):=by rw [h6];exact xL X2.out.t _
  have U6:∀ P,Uw P w W6:=fun P=>by rw [h6];exact zC6 (Uw.of_below FF.out.2.2) (by omega) _
  clear h6;refine yV rfl (w.heap.size+1) (tlOf { tlE E with value:=V } nilS nilS nilS) rfl F6 rfl ⟨by rw [HE.out.1],⟨vo,?_,fun _ x=>.inl x⟩,U6 _⟩;rw [HE.out.2];exact HI.out.grow ((U6 fun _=>False).below yN (fun _ _ x=>x))
theorem Uw.cell {P:Nat->Prop} {w w':World} (u:Uw P w w') (b o:Nat) (hb:b<w.heap.size) (hp:¬ P b):w'.cell? ⟨b,o,none⟩=w.cell? ⟨b,o,none⟩:=by
 simp only [World.cell?,u.block b hb hp]
theorem yW8 {w:World} {b c t u n k:Nat} {f g:Nat->Value} (h:w.rowIs b t n f) (h':w.rowIs c u k g) (ht:t≠u):b≠c:=fun e=>by
 obtain ⟨x,hx,_⟩:=h;obtain ⟨y,hy,_⟩:=h';subst e;rw [hx] at hy;injection hy with hy;injection hy with _ hy _;exact ht hy
theorem BrsI.un {w w':World} {EB NC:Nat} {F:Nat->Value} {H D:Nat->Nat} {vo:Nat->Nat->Value} {lp:Option Addr} {lc n m:Nat} {L:List Int} {W:Wo} {P:Nat->Prop} (h:BrsI w EB NC F H D vo lp lc n m L W) (u:Uw P w w') (nb:NoE w P) (hp:∀ b,isB H D vo n m b->¬ P b) (he:¬ P EB) (hl:0<L.length->∀ b o,lp=some ⟨b,o,none⟩->¬ P b):BrsI w' EB NC F H D vo lp lc n m L W :=
 ⟨h.st.un u nb he (fun i hi=>hp _ (.inr ⟨i,hi,rfl⟩)) (h.st.lab.uw u hl),h.go.un u (fun b hb=>hp b (.inl hb)),h.lb⟩
theorem BrsI.aside {w:World} {EB NC:Nat} {F:Nat->Value} {H D:Nat->Nat} {vo:Nat->Nat->Value} {lp:Option Addr} {lc n m:Nat} {L:List Int} {W:Wo} (h:BrsI w EB NC F H D vo lp lc n m L W) {b T k:Nat} {f:Nat->Value} (hr:w.rowIs b T k f) (h1:T≠114) (h2:T≠166) (h3:T≠56) (h4:T≠94):¬ isB H D vo n m b/\b≠EB:=by
 refine ⟨fun x=>?_,yW8 hr h.st.row h4⟩;rcases x with (⟨i,hi,e⟩|⟨i,k,⟨hi,hk⟩,e⟩)|⟨i,hi,e⟩
 ·exact yW8 hr (h.go.row i hi) h1 e
 ·exact Hd.xW hr (h.go.ow i k hi hk) h2 e
 ·obtain ⟨g,hg⟩:=h.st.rs i hi
  exact yW8 hr hg.row h3 e
theorem qG1 {w:World} {EB NC:Nat} {F:Nat->Value} {H D:Nat->Nat} {vo:Nat->Nat->Value} {lp:Option Addr} {lc n m:Nat} {L:List Int} {W:Wo} (h:BrsI w EB NC F H D vo lp lc n m L W) {b:Nat} (hb:isB H D vo n m b):b<w.heap.size:=by
 rcases hb with x|⟨i,hi,e⟩
 ·exact h.go.lt x
 ·obtain ⟨g,hg⟩:=h.st.rs i hi
  rw [e];exact hg.row.lt
theorem BrsI.box {w w':World} {EB NC:Nat} {F:Nat->Value} {H D:Nat->Nat} {vo:Nat->Nat->Value} {lp:Option Addr} {lc n m:Nat} {L:List Int} {W:Wo} (h:BrsI w EB NC F H D vo lp lc n m L W) {b T k:Nat} {f:Nat->Value} (hr:w.rowIs b T k f) (h1:T≠114) (h2:T≠166) (h3:T≠56) (h4:T≠94) (h5:T≠75) (u:Uw (fun x=>x=b) w w') (hl:0<L.length->∀ x o,lp=some ⟨x,o,none⟩->x≠b):BrsI w' EB NC F H D vo lp lc n m L W :=
 h.un u (fun x hx=>by rw [show x=b from hx];exact NoE.of_row hr h5) (fun x hx e=>(h.aside hr h1 h2 h3 h4).1 (by rw [<- show x=b from e];exact hx)) (fun e=>(h.aside hr h1 h2 h3 h4).2 e.symm) hl
theorem BrsI.lab_ne {w:World} {EB NC:Nat} {F:Nat->Value} {H D:Nat->Nat} {vo:Nat->Nat->Value} {lp:Option Addr} {lc n m:Nat} {L:List Int} {W:Wo} (h:BrsI w EB NC F H D vo lp lc n m L W) {b:Nat} (hb:w.heap.size<=b):0<L.length->∀ x o,lp=some ⟨x,o,none⟩->x≠b:=fun h0 x o e=>by
 obtain ⟨b',o',e',hb',_⟩:=h.st.lab h0;rw [e] at e';have e3:x=b':=congrArg Addr.block (Option.some.inj e');omega
theorem yW9 (EB NC:Nat) (F:Nat->Value) (H D:Nat->Nat) (vo:Nat->Nat->Value) (lp:Option Addr) (lc n m:Nat) (L:List Int) (W:Wo) (i k:Nat) (hi:i<n) (hk:k<m) (o:Hd.Plain.Or) (gg:Int) (hv:Hd.Plain.Hv (W.rk i k) gg) (hcs:(W.rk i k).cs.length<=1000) (w:World) (h:BrsI w EB NC F H D vo lp lc n m L W) :
  Calls Tryz.prog 70 #[.pointer (some ⟨D i,k*6+2,none⟩),Hd.aggO o] w fun e w'=>e=.returned (Hd.aggS (Hd.Plain.toldR (W.rk i k) o))/\(∃ vo',BrsI w' EB NC F H D vo' lp lc n m L { W with rk:=up2 W.rk i k (Hd.Plain.yH6 (W.rk i k) o) }/\∀ x,isB H D vo' n m x->isB H D vo n m x\/w.heap.size<=x)/\Uw (isGo D vo n m) w w':=by
 refine (Hd.take_c _ _ _ _ _ _ gg hv hcs o w (h.go.stock hi hk)).mono ?_;rintro e w' ⟨rfl,⟨v',br⟩,kp⟩;obtain ⟨g',u⟩:=h.go.take hi hk br kp;have hnew:∀ x,isB H D (up2 vo i k v') n m x->isB H D vo n m x\/w.heap.size<=x:=fun x hx=>by
  rcases hx with (⟨j,hj,e2⟩|⟨j,l,⟨hj,hl⟩,e2⟩)|y
  ·exact .inl (.inl (.inl ⟨j,hj,e2⟩))
  ·by_cases c:j=i/\l=k
   ·obtain ⟨rfl,rfl⟩:=c
    rw [zW0] at e2;rcases br.own x e2 with z|z
    ·exact .inl (.inl (.inr ⟨j,l,⟨hj,hl⟩,z⟩))
    ·exact .inr z
   ·rw [zD4 vo i k v' c] at e2
    exact .inl (.inl (.inr ⟨j,l,⟨hj,hl⟩,e2⟩))
  ·exact .inl (.inr y)
 refine ⟨rfl,⟨_,⟨h.st.un u h.go.noe (fun x=>(h.st.apart h.go _ x).1 rfl) (fun j hj x=>(h.st.apart h.go _ x).2 ⟨j,hj,rfl⟩) (h.st.lab.uw u (fun h0 b o e x=>h.lb h0 b o e (.inl x))),g',fun h0 b o e x=>?_⟩,hnew⟩,u⟩;have hb:b<w.heap.size:=by
  obtain ⟨b',o',e',hb',_⟩:=h.st.lab h0;rw [e] at e';have e3:b=b':=congrArg Addr.block (Option.some.inj e');omega
 exact (hnew b x).elim (h.lb h0 b o e) (fun y=>by omega)
structure OrI (EB NC:Nat) (F:Nat->Value) (H D:Nat->Nat) (lp:Option Addr) (lc n m:Nat) (L:List Int) (W:Wo) (P:Nat->Prop) (s:Sp) (w wx:World) (sb:Nat) (T:Hd.Plain.St):Prop where
 row:wx.rowIs sb 38 5 (Hd.stF T)
 bx:BxI w wx s qH
 br:∃ vo',BrsI wx EB NC F H D vo' lp lc n m L W/\∀ x,isB H D vo' n m x->P x\/w.heap.size<=x
 u:Uw P w wx
 lt:w.heap.size+2<=sb
theorem xO5 (W:World) (g:Nat) (T:Hd.Plain.St):(((((W.setCell ⟨g,0,none⟩ (.int .i64 (T.code:Nat))).setCell ⟨g,1,none⟩ (.int .i64 T.id)).setCell ⟨g,2,none⟩ (.int .i64 T.free)).setCell ⟨g,3,none⟩ (.int .i64 T.held)).setCell ⟨g,4,none⟩ (.int .i64 T.used))=Hd.putS W g 0 T:=by
 simp only [Hd.putS,Nat.zero_add]
theorem yX0 {W:World} {g:Nat} {f:Nat->Value} (h:W.rowIs g 38 5 f) (T:Hd.Plain.St):(Hd.putS W g 0 T).rowIs g 38 5 (Hd.stF T):=by
 have e5:=((((h.set 0 (.int .i64 (T.code:Nat))).set 1 (.int .i64 T.id)).set 2 (.int .i64 T.free)).set 3 (.int .i64 T.held)).set 4 (.int .i64 T.used);rw [<- xO5];refine e5.congr fun j hj=>?_;have:j=0\/j=1\/j=2\/j=3\/j=4:=by omega
 rcases this with rfl|rfl|rfl|rfl|rfl<;>simp [Hd.stF]
theorem yX1 (W:World) (g:Nat) (T:Hd.Plain.St):Uw (fun b=>b=g) W (Hd.putS W g 0 T) :=
 ⟨Hd.yN8 _ _ _ _,Hd.zS8 _ _ _ _,Hd.zG0 _ _ _ _,by rw [Hd.zF9];exact yN,fun b _ hb=>Hd.zB9 W g 0 T b hb⟩
theorem OrI.made {EB NC:Nat} {F:Nat->Value} {H D:Nat->Nat} {lp:Option Addr} {lc n m:Nat} {L:List Int} {W:Wo} {P:Nat->Prop} {s:Sp} {w wx:World} {T:Hd.Plain.St} (bx:BxI w wx s qH) (br:∃ vo',BrsI wx EB NC F H D vo' lp lc n m L W/\∀ x,isB H D vo' n m x->P x\/w.heap.size<=x) (u:Uw P w wx) (hl:w.heap.size+2<=wx.heap.size) :
  OrI EB NC F H D lp lc n m L W P s w (wx.alloc (.cells #[.int .i64 (T.code:Nat),.int .i64 T.id,.int .i64 T.free,.int .i64 T.held,.int .i64 T.used] 38)) wx.heap.size T:=by
 have b:Below wx.heap.size wx (wx.alloc (.cells #[.int .i64 (T.code:Nat),.int .i64 T.id,.int .i64 T.free,.int .i64 T.held,.int .i64 T.used] 38)):=yO.alloc yN _;obtain ⟨vo',br,hx⟩:=br;exact ⟨Hd.yD0 wx T,bx.grow b,⟨vo',br.grow b,hx⟩,u.trans (Uw.of_below b),hl⟩
theorem OrI.chain {EB NC:Nat} {F:Nat->Value} {H D:Nat->Nat} {lp:Option Addr} {lc n m:Nat} {L:List Int} {W:Wo} {P:Nat->Prop} {s:Sp} {w wx:World} {sb:Nat} {f:Nat->Value} {T:Hd.Plain.St} (hr:wx.rowIs sb 38 5 f) (bx:BxI w wx s qH) (br:∃ vo',BrsI wx EB NC F H D vo' lp lc n m L W/\∀ x,isB H D vo' n m x->P x\/w.heap.size<=x) (u:Uw P w wx) (hl:w.heap.size+2<=sb)
  (la:0<L.length->∀ x o,lp=some ⟨x,o,none⟩->x≠sb) :
  OrI EB NC F H D lp lc n m L W P s w ((((((wx.setCell ⟨sb,0,none⟩ (.int .i64 (T.code:Nat))).setCell ⟨sb,1,none⟩ (.int .i64 T.id)).setCell ⟨sb,2,none⟩ (.int .i64 T.free)).setCell ⟨sb,3,none⟩ (.int .i64 T.held)).setCell ⟨sb,4,none⟩ (.int .i64 T.used))) sb T:=by
 rw [xO5];obtain ⟨vo',br,hx⟩:=br;have us:=yX1 wx sb T;refine ⟨yX0 hr T,bx.un us (fun e=>by have e':w.heap.size=sb:=e;omega) (fun e=>by have e':w.heap.size+1=sb:=e;omega),⟨vo',br.box hr (by decide) (by decide) (by decide) (by decide) (by decide) us la,hx⟩,⟨us.os.trans u.os,us.tape.trans u.tape,us.output.trans u.output,zI u.size us.size,fun b hb hp=>(us.block b (zF hb u.size) (fun e=>by have e':b=sb:=e;omega)).trans (u.block b hb hp)⟩,hl⟩
theorem qG2 (EB NC:Nat) (F:Nat->Value) (H D:Nat->Nat) (vo:Nat->Nat->Value) (lp:Option Addr) (lc n m:Nat) (c:Cf) (W:Wo) (i:Nat) (s:Sp) (hi:i<n) (hm:c.ms.length=m) (h1:2<=s.kind/\s.kind<=6) (hit:0<=s.item/\s.item<(m:Int))
  (gg:Int) (hv:Hd.Plain.Hv (W.rk i s.item.toNat) gg) (hcs:(W.rk i s.item.toNat).cs.length<=1000) (w:World) (h0:w.cell? ⟨0,s.kind.toNat,none⟩=some (.int .i64 s.kind)) (hz0:¬ isB H D vo n m 0) (h:BrsI w EB NC F H D vo lp lc n m c.ls W) :
  Calls Tryz.prog 53 #[.pointer (some ⟨EB,i*4,none⟩),aggX s] w fun e w'=>BdP EB NC F H D vo lp lc n m c W i s w e w':=by
 have e1:brT c W i s={ tlE (Hd.Plain.toldR (W.rk i s.item.toNat) ⟨s.kind,s.count,s.life,s.id⟩).code with sk:={ Hd.Plain.toldR (W.rk i s.item.toNat) ⟨s.kind,s.count,s.life,s.id⟩ with code:=0 } }:=by unfold brT;rw [if_neg (by omega),if_neg (by omega),if_neg (by rw [hm];omega),if_neg (by omega)]
 have e2:brW c W i s={ W with rk:=up2 W.rk i s.item.toNat (Hd.Plain.yH6 (W.rk i s.item.toNat) ⟨s.kind,s.count,s.life,s.id⟩) }:=by unfold brW;rw [if_neg (by omega),if_neg (by omega),if_neg (by rw [hm];omega),if_neg (by omega)]
 have HE:=hid (And.intro e1 e2);clear e1 e2;have K:=fun X=>zP0 hit X;obtain ⟨WA,hWA⟩:∃ WA,WA=(w.alloc (boxX s)).alloc boxZ:=⟨_,rfl⟩;have BA:=hid (show Below w.heap.size w WA by rw [hWA];exact (yO.alloc yN _).alloc (by simp) _);have XA:=hid (show BxI w WA s qH by rw [hWA];exact BxI.start w s);have x3:=(h.grow BA.out).st.goods hi;rw [hWA] at x3;have HO:=hid (show ∀ X,Below w.heap.size w X->X.cell? ⟨0,s.kind.toNat,none⟩=some (.int .i64 s.kind) from fun X bb=>(bb.cell (p:=⟨0,s.kind.toNat,none⟩) (zC (w:=w) (h:=h0))).trans h0);have hw0:0<w.heap.size:=zC (w:=w) (h:=h0);obtain ⟨kn,hkn⟩:∃ kn:Nat,s.kind=(kn:Int):=⟨s.kind.toNat,by omega⟩;obtain ⟨k,hk⟩:∃ k:Nat,s.item=(k:Int):=⟨s.item.toNat,by omega⟩;rw [hk] at hit;have hkm:k<m:=by omega
 have hkz:(k:Int)<(m:Int):=by omega
 have HI:=hid h;have HV:=hid hv;have HCS:=hid hcs;have HZ0:=hid hz0;clear h h0 hit hv hcs hz0;obtain ⟨kd,who,it,cnt,life,id',la,ke⟩:=s;dsimp only at h1 hk hkn K HO HV HCS HE;subst hk;subst hkn;rw [zK] at HV HCS HO HE;have b1:((kn:Int)==1)=false:=by simp;omega
 have b7:((kn:Int)==7)=false:=by simp;omega
 have b8:((kn:Int)==8)=false:=by simp;omega
 have hk7:(kn:Int)<7:=by omega
 clear h1;go_enter Tryz.func53,Tryz.ntmps53
 go_wp2
 go_quiet ((go_at_call 52;exact Calls.quiet_of_same (K _)))
 rw [<- hWA];clear hWA x3 K;obtain ⟨WQ,hWQ⟩:∃ WQ,WQ=WA.drewN nq:=⟨_,rfl⟩;rw [<- hWQ];have BQ:=hid (show Below w.heap.size w WQ by rw [hWQ];exact below_drewN BA.out nq);have XQ:=hid (show BxI w WQ ⟨(kn:Int),who,(k:Int),cnt,life,id',la,ke⟩ qH by rw [hWQ];exact XA.out.grow (below_drewN yO nq));clear hWQ BA XA;have x3:=(HI.out.grow BQ.out).st.goods hi;have c0:WQ.cell? ⟨w.heap.size,0,none⟩=some (.int .i64 (kn:Int)):=XQ.out.x.cell (i:=0) (by omega);have c2:WQ.cell? ⟨w.heap.size,2,none⟩=some (.int .i64 (k:Int)):=XQ.out.x.cell (i:=2) (by omega);go_wp2
 go_quiet (fail)
 go_wp2;clear x3 c0 c2;obtain ⟨WR,hWR⟩:∃ WR,WR=WQ.drewN nq:=⟨_,rfl⟩;rw [<- hWR];have BR:=hid (show Below w.heap.size w WR by rw [hWR];exact below_drewN BQ.out nq);have XR:=hid (show BxI w WR ⟨(kn:Int),who,(k:Int),cnt,life,id',la,ke⟩ qH by rw [hWR];exact XQ.out.grow (below_drewN yO nq));clear hWR BQ XQ;have cg:WR.cell? ⟨0,kn,none⟩=some (.int .i64 (kn:Int)):=HO.out WR BR.out;have c0:WR.cell? ⟨w.heap.size,0,none⟩=some (.int .i64 (kn:Int)):=XR.out.x.cell (i:=0) (by omega);have c3:WR.cell? ⟨w.heap.size,3,none⟩=some (.int .i64 cnt):=XR.out.x.cell (i:=3) (by omega);have c4:WR.cell? ⟨w.heap.size,4,none⟩=some (.int .i64 life):=XR.out.x.cell (i:=4) (by omega);have c5:WR.cell? ⟨w.heap.size,5,none⟩=some (.int .i64 id'):=XR.out.x.cell (i:=5) (by omega);have hsR:w.heap.size+2<=WR.heap.size:=XR.out.t.lt;have neA:¬ WR.heap.size=w.heap.size:=by omega
 have neB:¬ WR.heap.size=0:=by omega
 have NG:=hid (fun b (hb:isGo D vo n m b)=>(HI.out.go.lt hb:b<w.heap.size));have KT:=fun X (bx:Below WR.heap.size WR X)=>yW9 EB NC F H D vo lp lc n m c.ls W i k hi hkm ⟨(kn:Int),cnt,life,id'⟩ gg HV.out HCS.out X ((HI.out.grow BR.out).grow bx);have bA:=hid (show Below WR.heap.size WR WR.drew from yO.drew);have bB:=hid (show Below WR.heap.size WR (WR.alloc (.cells #[.int .i64 0,.int .i64 0,.int .i64 0,.int .i64 0,.int .i64 0] 38)).drew from (yO.alloc yN _).drew);have LA:=hid (fun b (hb:w.heap.size<=b)=>HI.out.lab_ne hb);generalize hT:Hd.Plain.toldR (W.rk i k) ⟨(kn:Int),cnt,life,id'⟩=T at KT HE;generalize hW2:({ W with rk:=up2 W.rk i k (Hd.Plain.yH6 (W.rk i k) ⟨(kn:Int),cnt,life,id'⟩) }:Wo)=W2 at KT HE;clear hT hW2
 go_cut [8] (fun sa wx=>∃ sb,sa=.pointer (some ⟨sb,0,none⟩)/\OrI EB NC F H D lp lc n m c.ls W2 (isB H D vo n m) ⟨(kn:Int),who,(k:Int),cnt,life,id',la,ke⟩ w wx sb T)
 case first =>
  go_region_held3 (fun w'=>w'.cell? ⟨0,kn,none⟩=some (.int .i64 (kn:Int))/\w'.cell? ⟨w.heap.size,0,none⟩=some (.int .i64 (kn:Int))/\w'.cell? ⟨w.heap.size,3,none⟩=some (.int .i64 cnt)/\w'.cell? ⟨w.heap.size,4,none⟩=some (.int .i64 life)/\w'.cell? ⟨w.heap.size,5,none⟩=some (.int .i64 id')) (go_keep)
   ((
    go_at_call 70;first
    | (refine (KT _ bA.out).mono ?_;rintro e w3 ⟨rfl,⟨vo3,br3,hx3⟩,u3⟩;have B3:=hid (show ∃ vo',BrsI w3 EB NC F H D vo' lp lc n m c.ls W2/\∀ x,isB H D vo' n m x->isB H D vo n m x\/w.heap.size<=x from ⟨vo3,br3,fun x y=>(hx3 x y).imp id (fun z=>zI (zI BR.out.size (Below.size bA.out)) z)⟩);have U3:=hid (show Uw (isB H D vo n m) w w3 from (Uw.of_below (BR.out.trans (bA.out.mono BR.out.size))).and_then u3 (fun _ _ x=>.inl x));have X3:=hid ((XR.out.grow bA.out).un u3 (fun x=>by have:=NG.out _ x;omega) (fun x=>by have:=NG.out _ x;omega));have hs3:=u3.size;have neC:¬ w3.heap.size=w.heap.size:=(by have:WR.heap.size<=w3.heap.size:=hs3;omega);have neD:¬ w3.heap.size=0:=(by have:WR.heap.size<=w3.heap.size:=hs3;omega);have hl3:w.heap.size+2<=w3.heap.size:=(by have:WR.heap.size<=w3.heap.size:=hs3;omega);have d0:w3.cell? ⟨0,kn,none⟩=some (.int .i64 (kn:Int)):=(u3.cell 0 kn (show 0<WR.heap.size by omega) (fun x=>HZ0.out (.inl x))).trans cg;have d1:w3.cell? ⟨w.heap.size,0,none⟩=some (.int .i64 (kn:Int)):=X3.out.x.cell (i:=0) (by omega);have d4:w3.cell? ⟨w.heap.size,3,none⟩=some (.int .i64 cnt):=X3.out.x.cell (i:=3) (by omega);have d5:w3.cell? ⟨w.heap.size,4,none⟩=some (.int .i64 life):=X3.out.x.cell (i:=4) (by omega);have d6:w3.cell? ⟨w.heap.size,5,none⟩=some (.int .i64 id'):=X3.out.x.cell (i:=5) (by omega);clear br3 u3 hs3 hx3)
    | (refine (KT _ bB.out).mono ?_;rintro e w3 ⟨rfl,⟨vo3,br3,hx3⟩,u3⟩;have B3:=hid (show ∃ vo',BrsI w3 EB NC F H D vo' lp lc n m c.ls W2/\∀ x,isB H D vo' n m x->isB H D vo n m x\/w.heap.size<=x from ⟨vo3,br3,fun x y=>(hx3 x y).imp id (fun z=>zI (zI BR.out.size (Below.size bB.out)) z)⟩);have U3:=hid (show Uw (isB H D vo n m) w w3 from (Uw.of_below (BR.out.trans (bB.out.mono BR.out.size))).and_then u3 (fun _ _ x=>.inl x));have X3:=hid ((XR.out.grow bB.out).un u3 (fun x=>by have:=NG.out _ x;omega) (fun x=>by have:=NG.out _ x;omega));have RZ:=hid (u3.rowIs (show (WR.alloc (.cells #[.int .i64 0,.int .i64 0,.int .i64 0,.int .i64 0,.int .i64 0] 38)).drew.rowIs WR.heap.size 38 5 (Hd.stF ⟨0,0,0,0,0⟩) from Hd.yD0 WR ⟨0,0,0,0,0⟩) (fun x=>by have:=NG.out _ x;omega));have d0:w3.cell? ⟨0,kn,none⟩=some (.int .i64 (kn:Int)):=(u3.cell 0 kn (show 0<(WR.alloc _).heap.size by simp) (fun x=>HZ0.out (.inl x))).trans ((bB.out.cell (p:=⟨0,kn,none⟩) (show 0<WR.heap.size by omega)).trans cg);have d1:w3.cell? ⟨w.heap.size,0,none⟩=some (.int .i64 (kn:Int)):=X3.out.x.cell (i:=0) (by omega);have d4:w3.cell? ⟨w.heap.size,3,none⟩=some (.int .i64 cnt):=X3.out.x.cell (i:=3) (by omega);have d5:w3.cell? ⟨w.heap.size,4,none⟩=some (.int .i64 life):=X3.out.x.cell (i:=4) (by omega);have d6:w3.cell? ⟨w.heap.size,5,none⟩=some (.int .i64 id'):=X3.out.x.cell (i:=5) (by omega);have y0:=RZ.out.cell (i:=0) (by decide);have z0:=RZ.out.frozen 0;have y1:=RZ.out.cell (i:=1) (by decide);have z1:=RZ.out.frozen 1;have y2:=RZ.out.cell (i:=2) (by decide);have z2:=RZ.out.frozen 2;have y3:=RZ.out.cell (i:=3) (by decide);have z3:=RZ.out.frozen 3;have y4:=RZ.out.cell (i:=4) (by decide);have z4:=RZ.out.frozen 4;clear br3 u3 hx3)))
  all_goals (try go_wp2_with fail)
  all_goals go_meet
  ·exact ⟨_,rfl,OrI.made X3.out B3.out U3.out hl3⟩
  ·exact ⟨_,rfl,OrI.chain RZ.out X3.out B3.out U3.out hsR (LA.out _ (by omega))⟩
 case rest =>
  obtain ⟨sb,rfl,hor⟩:=hcut;have HOR:=hid hor;clear hor KT bA bB cg c0 c3 c4 c5 neA neB hsR;have s0:wc.cell? ⟨sb,0,none⟩=some (.int .i64 (T.code:Nat)):=HOR.out.row.cell (i:=0) (by decide);have s1:wc.cell? ⟨sb,1,none⟩=some (.int .i64 T.id):=HOR.out.row.cell (i:=1) (by decide);have s2:wc.cell? ⟨sb,2,none⟩=some (.int .i64 T.free):=HOR.out.row.cell (i:=2) (by decide);have s3:wc.cell? ⟨sb,3,none⟩=some (.int .i64 T.held):=HOR.out.row.cell (i:=3) (by decide);have s4:wc.cell? ⟨sb,4,none⟩=some (.int .i64 T.used):=HOR.out.row.cell (i:=4) (by decide);obtain ⟨WT,hWT⟩:∃ WT,WT=wc.alloc (.cells #[.int .i64 (T.code:Nat),.int .i64 0,.int .i64 0,.int .i64 T.id,.int .i64 T.free,.int .i64 T.held,.int .i64 T.used,.int .i64 0,.slice none 0 0,.slice none 0 0,.slice none 0 0] 42):=⟨_,rfl⟩
  go_upto_region 15 with fail
  rw [<- hWT];have bT:=hid (show Below wc.heap.size wc WT by rw [hWT];exact yO.alloc yN _);have RT:=hid (show WT.rowIs wc.heap.size 42 11 (tlOf { tlE T.code with sk:={ T with code:=0 } } nilS nilS nilS) by rw [hWT];exact zO9 wc (tlOf { tlE T.code with sk:={ T with code:=0 } } nilS nilS nilS));clear hWT s0 s1 s2 s3 s4;have XT:=hid (HOR.out.bx.grow bT.out);have t0:WT.cell? ⟨wc.heap.size,0,none⟩=some (.int .i64 (T.code:Nat)):=RT.out.cell (i:=0) (by decide);have t1:WT.cell? ⟨wc.heap.size,1,none⟩=some (.int .i64 0):=RT.out.cell (i:=1) (by decide);have t2:WT.cell? ⟨wc.heap.size,2,none⟩=some (.int .i64 0):=RT.out.cell (i:=2) (by decide);have t3:WT.cell? ⟨wc.heap.size,3,none⟩=some (.int .i64 T.id):=RT.out.cell (i:=3) (by decide);have t4:WT.cell? ⟨wc.heap.size,4,none⟩=some (.int .i64 T.free):=RT.out.cell (i:=4) (by decide);have t5:WT.cell? ⟨wc.heap.size,5,none⟩=some (.int .i64 T.held):=RT.out.cell (i:=5) (by decide);have t6:WT.cell? ⟨wc.heap.size,6,none⟩=some (.int .i64 T.used):=RT.out.cell (i:=6) (by decide);have t7:WT.cell? ⟨wc.heap.size,7,none⟩=some (.int .i64 0):=RT.out.cell (i:=7) (by decide);have t8:WT.cell? ⟨wc.heap.size,8,none⟩=some (.slice none 0 0):=RT.out.cell (i:=8) (by decide);have t9:WT.cell? ⟨wc.heap.size,9,none⟩=some (.slice none 0 0):=RT.out.cell (i:=9) (by decide);have t10:WT.cell? ⟨wc.heap.size,10,none⟩=some (.slice none 0 0):=RT.out.cell (i:=10) (by decide);have y0:=XT.out.t.cell (i:=0) (by decide);have z0:=XT.out.t.frozen 0;have y1:=XT.out.t.cell (i:=1) (by decide);have z1:=XT.out.t.frozen 1;have y2:=XT.out.t.cell (i:=2) (by decide);have z2:=XT.out.t.frozen 2;have y3:=XT.out.t.cell (i:=3) (by decide);have z3:=XT.out.t.frozen 3;have y4:=XT.out.t.cell (i:=4) (by decide);have z4:=XT.out.t.frozen 4;have y5:=XT.out.t.cell (i:=5) (by decide);have z5:=XT.out.t.frozen 5;have y6:=XT.out.t.cell (i:=6) (by decide);have z6:=XT.out.t.frozen 6;have y7:=XT.out.t.cell (i:=7) (by decide);have z7:=XT.out.t.frozen 7;have y8:=XT.out.t.cell (i:=8) (by decide);have z8:=XT.out.t.frozen 8;have y9:=XT.out.t.cell (i:=9) (by decide);have z9:=XT.out.t.frozen 9;have y10:=XT.out.t.cell (i:=10) (by decide);have z10:=XT.out.t.frozen 10;obtain ⟨W6,hW6⟩:∃ W6,W6=(((((((((((WT.setCell ⟨w.heap.size+1,0,none⟩ (.int .i64 (T.code:Nat))).setCell ⟨w.heap.size+1,1,none⟩ (.int .i64 0)).setCell ⟨w.heap.size+1,2,none⟩ (.int .i64 0)).setCell ⟨w.heap.size+1,3,none⟩ (.int .i64 T.id)).setCell ⟨w.heap.size+1,4,none⟩ (.int .i64 T.free)).setCell ⟨w.heap.size+1,5,none⟩ (.int .i64 T.held)).setCell ⟨w.heap.size+1,6,none⟩ (.int .i64 T.used)).setCell ⟨w.heap.size+1,7,none⟩ (.int .i64 0)).setCell ⟨w.heap.size+1,8,none⟩ (.slice none 0 0)).setCell ⟨w.heap.size+1,9,none⟩ (.slice none 0 0)).setCell ⟨w.heap.size+1,10,none⟩ (.slice none 0 0)):=⟨_,rfl⟩;go_wp2;rw [<- hW6];have h6:W6=putL WT (w.heap.size+1) (tlOf { tlE T.code with sk:={ T with code:=0 } } nilS nilS nilS):=hW6;clear hW6 t0 y0 z0 t1 y1 z1 t2 y2 z2 t3 y3 z3 t4 y4 z4 t5 y5 z5 t6 y6 z6 t7 y7 z7 t8 y8 z8 t9 y9 z9 t10 y10 z10;have F6:W6.rowIs (w.heap.size+1) 42 11 (tlOf { tlE T.code with sk:={ T with code:=0 } } nilS nilS nilS):=by rw [h6];exact xL XT.out.t _
  have U6:Uw (isB H D vo n m) w W6:=by rw [h6];exact zC6 (HOR.out.u.trans (Uw.of_below bT.out)) (by omega) _
  have V6:Uw (fun b=>b=w.heap.size+1) WT W6:=by rw [h6];exact xK WT _ _
  clear h6;obtain ⟨vo',br,hx⟩:=HOR.out.br;have B6:=(br.grow bT.out).box XT.out.t (by decide) (by decide) (by decide) (by decide) (by decide) V6 (LA.out _ (by omega));refine yV rfl (w.heap.size+1) (tlOf { tlE T.code with sk:={ T with code:=0 } } nilS nilS nilS) rfl F6 rfl ⟨by rw [HE.out.1],⟨vo',?_,hx⟩,U6⟩;rw [HE.out.2];exact B6
end Go.Proofs.YtleaknfjbbccgaaGreatDoor
