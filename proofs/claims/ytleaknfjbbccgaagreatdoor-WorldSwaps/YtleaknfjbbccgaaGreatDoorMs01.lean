/- Laid together. -/
import Derived.WalkKit
import Derived.Test.YtleaknfjbbccgaaGreatDoorRows
import Derived.Deep.LoopGhost
import Derived.Laws.OwnMore
import Derived.OneCell
import Derived.Shelf.Abstract
import Derived.Shelf.SlSortCmp.QuietGrown
import Derived.Deep.QuietTactic
import Derived.BigQuiet
import Derived.RegionTactic
import Derived.Laws.CopyRow
import Derived.Laws.CopyOwn
import Derived.Lib.AppendZerosOnto
import Derived.Lib.Overlaps
import Derived.Deep.RegionLaw
import Derived.Test.YtleaknfjbbccgaaGreatDoorMs00
namespace Go.Proofs.YtleaknfjbbccgaaGreatDoor.Hd
set_option maxHeartbeats 16000000
set_option maxRecDepth 100000
namespace Plain
structure Or where
 kind:Int
 count:Int
 life:Int
 id:Int
 deriving DecidableEq,Inhabited
structure St where
 code:Nat
 id:Int
 free:Int
 held:Int
 used:Int
 deriving DecidableEq,Inhabited
structure Rk where
 free:Int
 used:Int
 cs:List Int
 ls:List Int
 deriving DecidableEq,Inhabited
def Rk.nil:Rk:=⟨0,0,[],[]⟩
def qG:List Int->List Int->Int
 | c :: cs,x :: ls=>(if 0<x then c else 0)+qG cs ls
 | _,_=>0
def zB7:List Int->List Int->Int
 | c :: cs,x :: ls=>(if x=1 then c else 0)+zB7 cs ls
 | _,_=>0
def qB:List Int->Int
 | []=>0
 | x :: ls=>(if 0<x then 1 else 0)+qB ls
def zF1 (ls:List Int):List Int:=ls.map fun x=>if 0<x then x-1 else x
def Rk.held (r:Rk):Int:=qG r.cs r.ls
def counted (k:Int):Bool:=decide (k=1\/k=2\/k=3\/k=6)
def ordE (r:Rk) (o:Or):Nat :=
 if o.kind<1\/7<o.kind then 3
 else if counted o.kind=true/\(o.count<1\/1048576<o.count) then 2
 else if o.kind=1 then (if 1048576<r.free+r.held+r.used+o.count then 12 else 0)
 else if o.kind=2 then (if r.free<o.count then 9 else 0)
 else if o.kind=6 then (if r.used<o.count then 9 else 0)
 else if o.kind=3 then (if o.life<1\/20<o.life then 2 else if 4<=qB r.ls then 8 else if r.free<o.count then 9 else 0)
 else if o.kind=7 then 0
 else (if o.id<1\/(r.cs.length:Int)<o.id then 6 else if r.ls.getD (o.id-1).toNat 0=0 then 10 else 0)
def ordR (r:Rk) (o:Or):Rk :=
 if o.kind=1 then { r with free:=r.free+o.count }
 else if o.kind=2 then { r with free:=r.free-o.count,used:=r.used+o.count }
 else if o.kind=6 then { r with free:=r.free+o.count,used:=r.used-o.count }
 else if o.kind=3 then { r with free:=r.free-o.count,cs:=r.cs++[o.count],ls:=r.ls++[o.life] }
 else if o.kind=4 then { r with used:=r.used+r.cs.getD (o.id-1).toNat 0,ls:=r.ls.set (o.id-1).toNat 0 }
 else if o.kind=5 then { r with free:=r.free+r.cs.getD (o.id-1).toNat 0,ls:=r.ls.set (o.id-1).toNat 0 }
 else { r with free:=r.free+zB7 r.cs r.ls,ls:=zF1 r.ls }
def yH6 (r:Rk) (o:Or):Rk:=if ordE r o=0 then ordR r o else r
def ordI (r:Rk) (o:Or):Int:=if ordE r o=0/\o.kind=3 then r.cs.length+1 else 0
def toldR (r:Rk) (o:Or):St:=⟨ordE r o,ordI r o,(yH6 r o).free,(yH6 r o).held,(yH6 r o).used⟩
theorem zS2 {cs ls:List Int} (h:∀ c,c∈cs->0<=c):0<=qG cs ls:=by
 induction cs generalizing ls with
 | nil=>simp [qG]
 | cons c cs ih =>
  cases ls with
  | nil=>simp [qG]
  | cons x ls =>
   have h1:=h c (yD ..);have h2:=ih (ls:=ls) fun d hd=>h d (yC _ hd);simp only [qG];split<;>omega
theorem zS3 {cs ls:List Int} (h:∀ c,c∈cs->0<=c):0<=zB7 cs ls:=by
 induction cs generalizing ls with
 | nil=>simp [zB7]
 | cons c cs ih =>
  cases ls with
  | nil=>simp [zB7]
  | cons x ls =>
   have h1:=h c (yD ..);have h2:=ih (ls:=ls) fun d hd=>h d (yC _ hd);simp only [zB7];split<;>omega
theorem zI9 (cs ls:List Int):qG cs (zF1 ls)+zB7 cs ls=qG cs ls:=by
 induction cs generalizing ls with
 | nil=>simp [qG,zB7]
 | cons c cs ih =>
  cases ls with
  | nil=>simp [qG,zB7,zF1]
  | cons x ls =>
   have:=ih ls;simp only [zF1,List.map_cons] at this ⊢;simp only [qG,zB7];by_cases h1:x=1
   ·subst h1;simp;omega
   ·by_cases h2:0<x
    ·rw [if_pos h2,if_pos (show 0<x-1 by omega),if_neg h1,if_pos h2];omega
    ·rw [if_neg h2,if_neg h2,if_neg h1];omega
theorem yH7 (cs ls:List Int) (c x:Int) (h:cs.length=ls.length) (hx:0<x):qG (cs++[c]) (ls++[x])=qG cs ls+c:=by
 induction cs generalizing ls with
 | nil =>
  have:ls=[]:=zP.1 h.symm;subst this;simp [qG,hx]
 | cons d cs ih =>
  cases ls with
  | nil=>simp at h
  | cons y ls =>
   simp only [List.cons_append,qG,ih ls (by simpa using h)];omega
theorem yM7 (cs ls:List Int) (i:Nat) (h:cs.length=ls.length) (hi:i<ls.length) (hx:0<ls.getD i 0):qG cs (ls.set i 0)+cs.getD i 0=qG cs ls:=by
 induction cs generalizing ls i with
 | nil=>simp at h;omega
 | cons c cs ih =>
  cases ls with
  | nil=>simp at hi
  | cons y ls =>
   cases i with
   | zero =>
    have hy:0<y:=by simpa using hx
    simp [qG,hy];omega
   | succ i =>
    have:=ih ls i (by simpa using h) (by simpa using hi) (by simpa using hx);simp only [List.set_cons_succ,qG,List.getD_cons_succ];omega
theorem zX3 (ls:List Int) (x:Int):qB (ls++[x])=qB ls+if 0<x then 1 else 0:=by
 induction ls with
 | nil=>simp [qB]
 | cons y ls ih=>simp only [List.cons_append,qB,ih];omega
theorem zX4 (ls:List Int):qB (zF1 ls)<=qB ls:=by
 induction ls with
 | nil=>exact Int.le_refl _
 | cons y ls ih =>
  simp only [zF1,List.map_cons] at ih ⊢;simp only [qB];by_cases h:0<y
  ·rw [if_pos h,if_pos h];split<;>omega
  ·rw [if_neg h,if_neg h];omega
theorem yH8 (ls:List Int) (i:Nat):qB (ls.set i 0)<=qB ls:=by
 induction ls generalizing i with
 | nil=>exact Int.le_refl _
 | cons y ls ih =>
  cases i with
  | zero=>simp only [List.set_cons_zero,qB];split<;>(try split)<;>omega
  | succ i=>have:=ih i;simp only [List.set_cons_succ,qB];omega
structure Hv (r:Rk) (g:Int):Prop where
 fr:0<=r.free
 us:0<=r.used
 ln:r.cs.length=r.ls.length
 ct:∀ c,c∈r.cs->1<=c/\c<=1048576
 lf:∀ x,x∈r.ls->0<=x/\x<=20
 sm:r.free+r.held+r.used=g
 gb:0<=g/\g<=1048576
 op:qB r.ls<=4
theorem Hv.nil:Hv Rk.nil 0:=⟨Int.le_refl _,Int.le_refl _,rfl,(fun c h=>nomatch h),(fun c h=>nomatch h),rfl,⟨Int.le_refl _,by omega⟩,by decide⟩
theorem Hv.held {r:Rk} {g:Int} (h:Hv r g):0<=r.held:=zS2 fun c hc=>by have:=h.ct c hc;omega
def xZ8 (r:Rk) (o:Or):Int:=if o.kind=1/\ordE r o=0 then o.count else 0
theorem yH9 {l:List Int} {i:Nat} {x y:Int} (h:x∈l.set i y):x∈l\/x=y:=by
 rcases List.mem_or_eq_of_mem_set h with h|h
 ·exact .inl h
 ·exact .inr h
theorem kY {ls:List Int} {i:Nat} (h:ls.getD i 0≠0):i<ls.length/\ls.getD i 0∈ls:=by
 by_cases hi:i<ls.length
 ·refine ⟨hi,?_⟩
  rw [zA,zB hi];exact zH _
 ·rw [zA,zN (by omega)] at h
  exact absurd rfl h
theorem Hv.step {r:Rk} {g:Int} (h:Hv r g) (o:Or):Hv (yH6 r o) (g+xZ8 r o):=by
 unfold yH6 xZ8;by_cases ne:ordE r o≠0
 ·rw [if_neg ne,if_neg (fun x=>ne x.2),Int.add_zero];exact h
 have e:ordE r o=0:=Classical.not_not.1 ne;clear ne;rw [if_pos e];have hh:=h.held;have sm:=h.sm;have fr:=h.fr;have us:=h.us;have gb:=h.gb;unfold Rk.held at hh sm;have e':=e;unfold ordE at e';have nk:¬ (o.kind<1\/7<o.kind):=by
  intro x;rw [if_pos x] at e';omega
 rw [if_neg nk] at e';have nc:¬ (counted o.kind=true/\(o.count<1\/1048576<o.count)):=by
  intro x;rw [if_pos x] at e';omega
 rw [if_neg nc] at e';unfold counted at nc;rw [decide_eq_true_iff] at nc;unfold Rk.held at e';unfold ordR;by_cases k1:o.kind=1
 ·rw [if_pos k1] at e' ⊢
  rw [if_pos ⟨k1,e⟩];have e2:¬ 1048576<r.free+qG r.cs r.ls+r.used+o.count:=by intro x;rw [if_pos x] at e';omega
  exact ⟨by show 0<=r.free+o.count;omega,us,h.ln,h.ct,h.lf,by show r.free+o.count+qG r.cs r.ls+r.used=_;omega,by omega,h.op⟩
 rw [if_neg k1] at e' ⊢;rw [show (if o.kind=1/\ordE r o=0 then o.count else 0)=0 from if_neg (fun x=>k1 x.1),Int.add_zero];by_cases k2:o.kind=2
 ·rw [if_pos k2] at e' ⊢
  have e2:¬ r.free<o.count:=by intro x;rw [if_pos x] at e';omega
  exact ⟨by show 0<=r.free-o.count;omega,by show 0<=r.used+o.count;omega,h.ln,h.ct,h.lf,by show r.free-o.count+qG r.cs r.ls+(r.used+o.count)=_;omega,gb,h.op⟩
 rw [if_neg k2] at e' ⊢;by_cases k6:o.kind=6
 ·rw [if_pos k6] at e' ⊢
  have e2:¬ r.used<o.count:=by intro x;rw [if_pos x] at e';omega
  exact ⟨by show 0<=r.free+o.count;omega,by show 0<=r.used-o.count;omega,h.ln,h.ct,h.lf,by show r.free+o.count+qG r.cs r.ls+(r.used-o.count)=_;omega,gb,h.op⟩
 rw [if_neg k6] at e' ⊢;by_cases k3:o.kind=3
 ·rw [if_pos k3] at e' ⊢
  have e2:¬ (o.life<1\/20<o.life):=by intro x;rw [if_pos x] at e';omega
  rw [if_neg e2] at e';have e3:¬ 4<=qB r.ls:=by intro x;rw [if_pos x] at e';omega
  rw [if_neg e3] at e';have e4:¬ r.free<o.count:=by intro x;rw [if_pos x] at e';omega
  refine ⟨by show 0<=r.free-o.count;omega,us,by simp [h.ln],fun c hc=>?_,fun x hx=>?_,?_,gb,?_⟩
  ·rcases yL.1 hc with hc|hc
   ·exact h.ct c hc
   ·have:c=o.count:=by simpa using hc
    omega
  ·rcases yL.1 hx with hx|hx
   ·exact h.lf x hx
   ·have:x=o.life:=by simpa using hx
    omega
  ·show r.free-o.count+qG (r.cs++[o.count]) (r.ls++[o.life])+r.used=g
   rw [yH7 _ _ _ _ h.ln (by omega)];omega
  ·show qB (r.ls++[o.life])<=4
   rw [zX3];split<;>omega
 rw [if_neg k3] at e' ⊢;by_cases k7:o.kind=7
 ·rw [if_neg (by omega),if_neg (by omega)]
  have ht:=zI9 r.cs r.ls;have ho:=zS3 (cs:=r.cs) (ls:=r.ls) fun c hc=>by have:=h.ct c hc;omega
  refine ⟨by show 0<=r.free+zB7 r.cs r.ls;omega,us,by simp [zF1,h.ln],h.ct,fun x hx=>?_,?_,gb,?_⟩
  ·obtain ⟨y,hy,rfl⟩:=zZ.1 hx
   have:=h.lf y hy;split<;>omega
  ·show r.free+zB7 r.cs r.ls+qG r.cs (zF1 r.ls)+r.used=g
   omega
  ·show qB (zF1 r.ls)<=4
   have:=zX4 r.ls;have:=h.op;omega
 rw [if_neg k7] at e';have e2:¬ (o.id<1\/(r.cs.length:Int)<o.id):=by intro x;rw [if_pos x] at e';omega
 rw [if_neg e2] at e';have e3:¬ r.ls.getD (o.id-1).toNat 0=0:=by intro x;rw [if_pos x] at e';omega
 obtain ⟨hi,hm⟩:=kY e3;have hp:=h.lf _ hm;have hs:=yM7 r.cs r.ls (o.id-1).toNat h.ln hi (by omega);have hc:=h.ct (r.cs.getD (o.id-1).toNat 0) (by
  rw [zA,zB (by rw [h.ln];exact hi)];exact zH _)
 have hos:=yH8 r.ls (o.id-1).toNat;have op:=h.op;have lfs:∀ x,x∈r.ls.set (o.id-1).toNat 0->0<=x/\x<=20:=fun x hx=>by
  rcases yH9 hx with hx|rfl
  ·exact h.lf x hx
  ·omega
 by_cases k4:o.kind=4
 ·rw [if_pos k4]
  exact ⟨fr,by show 0<=r.used+r.cs.getD (o.id-1).toNat 0;omega,by simp [h.ln],h.ct,lfs,by show r.free+qG r.cs (r.ls.set (o.id-1).toNat 0)+(r.used+r.cs.getD (o.id-1).toNat 0)=g;omega,gb,by show qB (r.ls.set _ 0)<=4;omega⟩
 ·rw [if_neg k4,if_pos (by omega)]
  exact ⟨by show 0<=r.free+r.cs.getD (o.id-1).toNat 0;omega,us,by simp [h.ln],h.ct,lfs,by show r.free+r.cs.getD (o.id-1).toNat 0+qG r.cs (r.ls.set (o.id-1).toNat 0)+r.used=g;omega,gb,by show qB (r.ls.set _ 0)<=4;omega⟩
theorem stepR_no {r:Rk} {o:Or} (h:ordE r o≠0):yH6 r o=r:=if_neg h
end Plain
open Go.ChangeShapes Go.WideShapes Go.ChangeAt Go.RowKit Go.Deep
abbrev aggO (o:Plain.Or):Value:=.agg #[.int .i64 o.kind,.int .i64 o.count,.int .i64 o.life,.int .i64 o.id]
abbrev aggS (s:Plain.St):Value:=.agg #[.int .i64 (s.code:Nat),.int .i64 s.id,.int .i64 s.free,.int .i64 s.held,.int .i64 s.used]
open Go.Shelf
theorem kD {k:IntKind} {x y:Int} (h:x=y):Ending.returned (.int k x)=.returned (.int k y):=by rw [h]
theorem qN {w w':World} {B e s n:Nat} {v:Value} {xs:List Value} (h:w.ownsRow B e s v n xs) (g:Below w.heap.size w w'):w'.ownsRow B e s v n xs :=
 h.kept (row:=none) ⟨g.os,g.tape,g.output,g.size,fun k hk _=>g.block k hk⟩ (by cases hv:v.ownBlock<;>simp)
theorem xW {w:World} {b t n B e s m:Nat} {f:Nat->Value} {v:Value} {xs:List Value} (h:w.rowIs b t n f) (o:w.ownsRow B e s v m xs) (hne:t≠e):v.ownBlock≠some b:=by
 intro e1;obtain ⟨c,hc,_⟩:=h;rcases o.2 with ⟨rfl,_⟩|⟨g,cap,cur,rfl,_,hg,_⟩
 ·simp [Value.ownBlock] at e1
 ·simp only [Value.ownBlock,Option.some.injEq] at e1
  subst e1;rw [hc] at hg;simp at hg;exact hne hg.2
theorem below_drewN {B:Nat} {w w':World} (h:Below B w w') (q:Nat):Below B w (w'.drewN q):=⟨h.os,h.tape,h.output,h.size,h.block⟩
namespace Plain
end Plain
theorem zB8 {w w':World} {B e s n:Nat} {v:Value} {xs:List Value} (h:w.ownsRow B e s v n xs) (hb:∀ b,v.ownBlock=some b->w'.heap[b]?=w.heap[b]?):w'.ownsRow B e s v n xs:=by
 rcases h.2 with ⟨rfl,h0⟩|⟨g,cap,cur,rfl,hg,hblk,rest⟩
 ·exact ⟨h.1,.inl ⟨rfl,h0⟩⟩
 ·exact ⟨h.1,.inr ⟨g,cap,cur,rfl,hg,(hb g rfl).trans hblk,rest⟩⟩
namespace Plain
structure Pt where
 id:Int
 count:Int
 ticks:Int
 deriving DecidableEq,Inhabited
def xQ (b:Nat):List Int->List Int->List Pt
 | c :: cs,x :: ls=>if 0<x then ⟨(b:Int)+1,c,x⟩ :: xQ (b+1) cs ls else xQ (b+1) cs ls
 | _,_=>[]
def sumP:List Pt->Int
 | []=>0
 | p :: l=>p.count+sumP l
def decP (p:Pt):Pt:={ p with ticks:=p.ticks-1 }
def live (p:Pt):Bool:=p.ticks != 0
theorem zS4 (b:Nat) (cs ls:List Int):sumP (xQ b cs ls)=qG cs ls:=by
 induction cs generalizing b ls with
 | nil=>cases ls<;>rfl
 | cons c cs ih =>
  cases ls with
  | nil=>rfl
  | cons x ls =>
   simp only [xQ,qG];by_cases h:0<x
   ·rw [if_pos h,if_pos h];simp only [sumP,ih]
   ·rw [if_neg h,if_neg h,ih];omega
theorem xB3 (b:Nat) (cs ls:List Int) (h:cs.length=ls.length):((xQ b cs ls).length:Int)=qB ls:=by
 induction cs generalizing b ls with
 | nil =>
  have:ls=[]:=zP.1 h.symm;subst this;rfl
 | cons c cs ih =>
  cases ls with
  | nil=>simp at h
  | cons x ls =>
   have:=ih (b+1) ls (by simpa using h);simp only [xQ,qB];by_cases hx:0<x
   ·rw [if_pos hx,if_pos hx];simp only [List.length_cons];omega
   ·rw [if_neg hx,if_neg hx];omega
theorem xZ9 (b:Nat) (cs ls:List Int) (c x:Int) (h:cs.length=ls.length) (hx:0<x):xQ b (cs++[c]) (ls++[x])=xQ b cs ls++[⟨(b:Int)+cs.length+1,c,x⟩]:=by
 induction cs generalizing b ls with
 | nil =>
  have:ls=[]:=zP.1 h.symm;subst this;simp [xQ,hx]
 | cons d cs ih =>
  cases ls with
  | nil=>simp at h
  | cons y ls =>
   have:=ih (b+1) ls (by simpa using h);have e:((b+1:Nat):Int)+(cs.length:Int)+1=(b:Int)+((d :: cs).length:Int)+1:=by simp only [List.length_cons];omega
   rw [e] at this;simp only [List.cons_append,xQ,this];by_cases hy:0<y
   ·rw [if_pos hy,if_pos hy];rfl
   ·rw [if_neg hy,if_neg hy]
theorem yM8 (b:Nat) (cs ls:List Int):xQ b cs (zF1 ls)=((xQ b cs ls).map decP).filter live:=by
 induction cs generalizing b ls with
 | nil=>cases ls<;>rfl
 | cons c cs ih =>
  cases ls with
  | nil=>rfl
  | cons x ls =>
   have:=ih (b+1) ls;simp only [zF1,List.map_cons] at this ⊢;simp only [xQ,this];by_cases hx:0<x
   ·rw [if_pos hx,if_pos hx]
    by_cases h1:x=1
    ·subst h1
     rw [if_neg (by omega)];simp [decP,live]
    ·rw [if_pos (by omega)]
     have h2:live ⟨(b:Int)+1,c,x-1⟩=true:=by simp [live];omega
     simp only [List.map_cons,decP];rw [List.filter_cons_of_pos h2]
   ·rw [if_neg hx,if_neg hx,if_neg hx]
theorem qA0 (b:Nat) (cs ls:List Int):sumP ((xQ b cs ls).map decP)-sumP (((xQ b cs ls).map decP).filter live)=zB7 cs ls:=by
 rw [<- yM8,zS4];have e:∀ l:List Pt,sumP (l.map decP)=sumP l:=by
  intro l;induction l with
  | nil=>rfl
  | cons p l ih=>simp only [List.map_cons,sumP,ih];rfl
 rw [e,zS4];have:=zI9 cs ls;omega
theorem xB4 (b:Nat) (cs ls:List Int):∀ p,p∈xQ b cs ls->(b:Int)<p.id/\p.id<=b+cs.length:=by
 induction cs generalizing b ls with
 | nil=>intro p hp;cases ls<;>simp [xQ] at hp
 | cons c cs ih =>
  cases ls with
  | nil=>intro p hp;simp [xQ] at hp
  | cons x ls =>
   intro p hp;simp only [xQ] at hp;have key:p∈xQ (b+1) cs ls->(b:Int)<p.id/\p.id<=b+((c :: cs).length:Nat):=fun h=>by
    have:=ih (b+1) ls p h;simp only [List.length_cons];omega
   by_cases hx:0<x
   ·rw [if_pos hx] at hp
    rcases List.mem_cons.1 hp with rfl|h
    ·simp only [List.length_cons];omega
    ·exact key h
   ·rw [if_neg hx] at hp
    exact key hp
theorem zX5 (b:Nat) (cs ls:List Int) (h:∀ c,c∈cs->1<=c/\c<=1048576) (hl:∀ x,x∈ls->0<=x/\x<=20):∀ p,p∈xQ b cs ls->(1<=p.count/\p.count<=1048576)/\1<=p.ticks/\p.ticks<=20:=by
 induction cs generalizing b ls with
 | nil=>intro p hp;cases ls<;>simp [xQ] at hp
 | cons c cs ih =>
  cases ls with
  | nil=>intro p hp;simp [xQ] at hp
  | cons x ls =>
   intro p hp;simp only [xQ] at hp;have key:=ih (b+1) ls (fun d hd=>h d (yC _ hd)) (fun d hd=>hl d (yC _ hd)) p;by_cases hx:0<x
   ·rw [if_pos hx] at hp
    rcases List.mem_cons.1 hp with rfl|h'
    ·exact ⟨h c (yD ..),by have:=hl x (yD ..);show 1<=x/\x<=20;omega⟩
    ·exact key h'
   ·rw [if_neg hx] at hp
    exact key hp
theorem zS5 (b:Nat) (cs ls:List Int) (i:Nat) (hx:ls.getD i 0<=0):∀ p,p∈xQ b cs ls->p.id≠(b:Int)+i+1:=by
 induction cs generalizing b ls i with
 | nil=>intro p hp;cases ls<;>simp [xQ] at hp
 | cons c cs ih =>
  cases ls with
  | nil=>intro p hp;simp [xQ] at hp
  | cons x ls =>
   intro p hp;simp only [xQ] at hp;cases i with
   | zero =>
    have hx':¬ 0<x:=by simp at hx;omega
    rw [if_neg hx'] at hp;have:=xB4 (b+1) cs ls p hp;omega
   | succ i =>
    have key:=ih (b+1) ls i (by simpa using hx) p;by_cases hy:0<x
    ·rw [if_pos hy] at hp
     rcases List.mem_cons.1 hp with rfl|h
     ·dsimp only;omega
     ·have:=key h;omega
    ·rw [if_neg hy] at hp
     have:=key hp;omega
theorem qA1 (b:Nat) (cs ls:List Int) (i:Nat) (h:cs.length=ls.length) (hx:0<ls.getD i 0) :
  ∃ k,k<(xQ b cs ls).length/\(xQ b cs ls).getD k default=⟨(b:Int)+i+1,cs.getD i 0,ls.getD i 0⟩/\(∀ j,j<k->((xQ b cs ls).getD j default).id≠(b:Int)+i+1)/\xQ b cs (ls.set i 0)=(xQ b cs ls).eraseIdx k:=by
 induction cs generalizing b ls i with
 | nil =>
  have:ls=[]:=zP.1 h.symm;subst this;simp at hx
 | cons c cs ih =>
  cases ls with
  | nil=>simp at h
  | cons x ls =>
   cases i with
   | zero =>
    have hx':0<x:=by simpa using hx
    refine ⟨0,?_⟩;simp [xQ,hx']
   | succ i =>
    obtain ⟨k,h1,h2,h3,h4⟩:=ih (b+1) ls i (by simpa using h) (by simpa using hx);have e:((b+1:Nat):Int)+(i:Int)+1=(b:Int)+((i+1:Nat):Int)+1:=by omega
    rw [e] at h2 h3;by_cases hy:0<x
    ·refine ⟨k+1,?_⟩
     simp only [xQ,if_pos hy,List.set_cons_succ,List.length_cons,List.getD_cons_succ,List.eraseIdx_cons_succ,h4];refine ⟨by omega,h2,fun j hj=>?_,trivial⟩;cases j with
     | zero=>simp only [List.getD_cons_zero];omega
     | succ j=>simpa using h3 j (by omega)
    ·refine ⟨k,?_⟩
     simp only [xQ,if_neg hy,List.set_cons_succ,List.getD_cons_succ];exact ⟨h1,h2,h3,h4⟩
theorem zF2 {l:List Pt} (h:∀ p,p∈l->0<=p.count):0<=sumP l:=by
 induction l with
 | nil=>exact Int.le_refl _
 | cons p l ih =>
  have:=h p (yD ..);have:=ih fun q hq=>h q (yC _ hq);simp only [sumP];omega
theorem yC6 (a b:List Pt):sumP (a++b)=sumP a+sumP b:=by
 induction a with
 | nil=>simp [sumP]
 | cons p a ih=>simp only [List.cons_append,sumP,ih];omega
theorem qA2 (l:List Pt) (k:Nat) (h:k<l.length):sumP (l.take (k+1))=sumP (l.take k)+(l.getD k default).count:=by
 rw [zO h,yC6,zA,zB h];simp [sumP]
theorem qA3 {l:List Pt} (k:Nat) (h:∀ p,p∈l->0<=p.count):0<=sumP (l.take k)/\sumP (l.take k)<=sumP l:=by
 have h1:=zF2 fun p hp=>h p (List.mem_of_mem_take (i:=k) hp);have h2:=zF2 fun p hp=>h p (List.mem_of_mem_drop (i:=k) hp);have h3:=yC6 (l.take k) (l.drop k);rw [List.take_append_drop] at h3;omega
end Plain
open Go.Sort
def encP:Enc Plain.Pt:=⟨3,fun p=>[.int .i64 p.id,.int .i64 p.count,.int .i64 p.ticks],fun _=>rfl,fun a u hu=>by
 simp only [List.mem_cons,List.not_mem_nil,or_false] at hu;rcases hu with rfl|rfl|rfl<;>rfl,by decide⟩
abbrev aggP (p:Plain.Pt):Value:=.agg #[.int .i64 p.id,.int .i64 p.count,.int .i64 p.ticks]
abbrev boxP (p:Plain.Pt):Obj:=.cells #[.int .i64 p.id,.int .i64 p.count,.int .i64 p.ticks] 166
theorem Tryz.infoPart:(Tryz.prog.info? 166).map (fun i=>(i.zero,i.size,i.bytes))=some (some (.agg #[.int .i64 0,.int .i64 0,.int .i64 0]),3,24):=by kernel_rfl
structure CellP (w:World) (b o:Nat) (d:Plain.Pt):Prop where
 c0:w.cell? ⟨b,o,none⟩=some (.int .i64 d.id)
 c1:w.cell? ⟨b,o+1,none⟩=some (.int .i64 d.count)
 c2:w.cell? ⟨b,o+2,none⟩=some (.int .i64 d.ticks)
theorem CellP.below {w w':World} {b o B:Nat} {d:Plain.Pt} (h:CellP w b o d) (g:Below B w w') (hlt:b<B):CellP w' b o d :=
 ⟨(g.cell (p:=⟨b,o,none⟩) hlt).trans h.c0,(g.cell (p:=⟨b,o+1,none⟩) hlt).trans h.c1,(g.cell (p:=⟨b,o+2,none⟩) hlt).trans h.c2⟩
abbrev OwnP (w:World) (B:Nat) (v:Value) (l:List Plain.Pt):Prop:=w.ownsRow B 166 3 v l.length (encP.vals l)
theorem xS {w:World} {B:Nat} {v:Value} {l:List Plain.Pt} (h:OwnP w B v l):∃ p c,v=.slice p l.length c/\l.length<=c/\c<=maxLen/\(0<l.length->∃ g,p=some ⟨g,0,none⟩/\B<=g/\g<w.heap.size /\
  (∀ j,j<l.length->CellP w g (j*3) (l.getD j default))/\∀ j,w.frozen? ⟨g,j,none⟩=false):=by
 rcases h.2 with ⟨rfl,h0⟩|⟨g,c,cur,rfl,hg,hb,h1,h2,h3,h4⟩
 ·rw [h0];exact ⟨none,0,rfl,yN,zG _,fun h=>by omega⟩
 ·have hlt:g<w.heap.size:=(zJ.1 hb).1
  refine ⟨_,c,rfl,h1,h2,fun _=>⟨g,rfl,hg,hlt,fun j hj=>?_,fun j=>by simp [World.frozen?,hb]⟩⟩;have key:∀ k u,k<3->(encP.enc (l.getD j default))[k]?=some u->w.cell? ⟨g,j*3+k,none⟩=some u:=fun k u hk hu=>by
   have:=h.cells rfl (j*3+k) u (by rw [show j*3+k=j*encP.n+k from rfl,encP.vals_at default l j k hj hk];exact hu);rw [jS,Nat.zero_add] at this;exact this
  exact ⟨key 0 _ (by decide) rfl,key 1 _ (by decide) rfl,key 2 _ (by decide) rfl⟩
def brF (f u:Int) (vo:Value) (m:Int) (j:Nat):Value:=if j=0 then .int .i64 f else if j=1 then .int .i64 u else if j=2 then vo else .int .i64 m
def Near (w:World) (vo:Value) (k:Nat):Prop:=vo.ownBlock=some k\/w.heap.size<=k
structure BrI (ZZ:Nat->Prop) (R oo:Nat) (XX:Win) (w:World) (vo:Value) (f u m:Int) (l:List Plain.Pt):Prop where
 row:w.rowIs R XX.t XX.n (XX.f oo 4 (brF f u vo m))
 ow:OwnP w 0 vo l
 own:∀ g,vo.ownBlock=some g->ZZ g
 up:∀ k,w.heap.size<=k->ZZ k
 ne:XX.t≠166
 le:oo+4<=XX.n
namespace BrI
variable {ZZ:Nat->Prop} {R oo:Nat} {XX:Win} {w w':World} {vo:Value} {f u m:Int} {l:List Plain.Pt}
theorem grow (h:BrI ZZ R oo XX w vo f u m l) (g:Below w.heap.size w w'):BrI ZZ R oo XX w' vo f u m l :=
 ⟨h.row.of_block (g.block _ h.row.lt),qN h.ow g,h.own,fun k hk=>h.up k (zI g.size hk),h.ne,h.le⟩
theorem drewN (h:BrI ZZ R oo XX w vo f u m l) (q:Nat):BrI ZZ R oo XX (w.drewN q) vo f u m l:=h.grow (below_drewN yO q)
theorem lt (h:BrI ZZ R oo XX w vo f u m l):R<w.heap.size:=h.row.lt
theorem c0 (h:BrI ZZ R oo XX w vo f u m l):w.cell? ⟨R,oo,none⟩=some (.int .i64 f):=Win.cell h.row h.le (i:=0) (by omega)
theorem c1 (h:BrI ZZ R oo XX w vo f u m l):w.cell? ⟨R,oo+1,none⟩=some (.int .i64 u):=Win.cell h.row h.le (i:=1) (by omega)
theorem c2 (h:BrI ZZ R oo XX w vo f u m l):w.cell? ⟨R,oo+2,none⟩=some vo:=Win.cell h.row h.le (i:=2) (by omega)
theorem c3 (h:BrI ZZ R oo XX w vo f u m l):w.cell? ⟨R,oo+3,none⟩=some (.int .i64 m):=Win.cell h.row h.le (i:=3) (by omega)
theorem nown (h:BrI ZZ R oo XX w vo f u m l):vo.ownBlock≠some R:=xW h.row h.ow h.ne
theorem upSet (h:BrI ZZ R oo XX w vo f u m l) (a:Addr) (v:Value):∀ k,(w.setCell a v).heap.size<=k->ZZ k:=fun k hk=>h.up k (by simpa using hk)
theorem free (h:BrI ZZ R oo XX w vo f u m l) (x:Int):BrI ZZ R oo XX (w.setCell ⟨R,oo,none⟩ (.int .i64 x)) vo x u m l :=
 ⟨Win.set h.row 0 (by omega) _ fun j hj=>by
  unfold brF;by_cases e:j=0
  ·rw [if_pos e,if_pos e]
  ·rw [if_neg e,if_neg e,if_neg e],ownsRow_setCell_other h.ow h.nown _,h.own,h.upSet _ _,h.ne,h.le⟩
theorem used (h:BrI ZZ R oo XX w vo f u m l) (x:Int):BrI ZZ R oo XX (w.setCell ⟨R,oo+1,none⟩ (.int .i64 x)) vo f x m l :=
 ⟨Win.set h.row 1 (by omega) _ fun j hj=>by
  unfold brF;by_cases e:j=1
  ·rw [if_pos e,if_neg (by omega),if_pos e]
  ·rw [if_neg e];simp only [if_neg e],ownsRow_setCell_other h.ow h.nown _,h.own,h.upSet _ _,h.ne,h.le⟩
theorem made (h:BrI ZZ R oo XX w vo f u m l) (x:Int):BrI ZZ R oo XX (w.setCell ⟨R,oo+3,none⟩ (.int .i64 x)) vo f u x l :=
 ⟨Win.set h.row 3 (by omega) _ fun j hj=>by
  unfold brF;by_cases e:j=3
  ·rw [if_pos e,if_neg (by omega),if_neg (by omega),if_neg (by omega)]
  ·have:j=0\/j=1\/j=2:=by omega
   rcases this with rfl|rfl|rfl<;>simp,ownsRow_setCell_other h.ow h.nown _,h.own,h.upSet _ _,h.ne,h.le⟩
theorem put {vo':Value} {l':List Plain.Pt} (h:BrI ZZ R oo XX w vo f u m l) (row:w'.rowIs R XX.t XX.n (XX.f oo 4 (brF f u vo m))) (ow:OwnP w' 0 vo' l') (own:∀ g,vo'.ownBlock=some g->ZZ g) (hs:w.heap.size<=w'.heap.size):BrI ZZ R oo XX (w'.setCell ⟨R,oo+2,none⟩ vo') vo' f u m l' :=
 ⟨Win.set row 2 (by omega) _ fun j hj=>by
  unfold brF;by_cases e:j=2
  ·rw [if_pos e,if_neg (by omega),if_neg (by omega),if_pos e]
  ·rw [if_neg e];simp only [if_neg e],ownsRow_setCell_other ow (xW row ow h.ne) _,own,fun k hk=>h.up k (zI hs (by simpa using hk)),h.ne,h.le⟩
theorem mono {Z2:Nat->Prop} (h:BrI ZZ R oo XX w vo f u m l) (hz:∀ k,ZZ k->Z2 k):BrI Z2 R oo XX w vo f u m l:=⟨h.row,h.ow,fun g hg=>hz g (h.own g hg),fun k hk=>hz k (h.up k hk),h.ne,h.le⟩
theorem own_lt (h:BrI ZZ R oo XX w vo f u m l) {g:Nat} (hg:vo.ownBlock=some g):g<w.heap.size:=by
 rcases h.ow.2 with ⟨rfl,_⟩|⟨g',c,cur,rfl,_,hb,_⟩
 ·simp [Value.ownBlock] at hg
 ·simp only [Value.ownBlock,Option.some.injEq] at hg
  subst hg;exact (zJ.1 hb).1
theorem near (h:BrI ZZ R oo XX w vo f u m l):BrI (Near w vo) R oo XX w vo f u m l:=⟨h.row,h.ow,fun _ hg=>.inl hg,fun _ hk=>.inr hk,h.ne,h.le⟩
theorem near_le (h:BrI ZZ R oo XX w vo f u m l) (hs:w.heap.size<=w'.heap.size):∀ k,Near w' vo k->ZZ k:=fun k hk=>hk.elim (h.own k) (fun x=>h.up k (zI hs x))
theorem ticks {g c:Nat} (h:BrI ZZ R oo XX w (.slice (some ⟨g,0,none⟩) l.length c) f u m l) (i:Nat) (hi:i<l.length) (x:Int) :
  BrI ZZ R oo XX (w.setCell ⟨g,i*3+2,none⟩ (.int .i64 x)) (.slice (some ⟨g,0,none⟩) l.length c) f u m (l.set i { l.getD i default with ticks:=x }):=by
 have hne:R≠g:=fun e=>h.nown (by simp [Value.ownBlock,e]);have ho:=(h.ow.stored (i*3+2) (.int .i64 x)).1;have ev:(encP.vals l).set (i*3+2) (.int .i64 x)=encP.vals (l.set i { l.getD i default with ticks:=x }):=by
  clear ho h hne;induction l generalizing i with
  | nil=>simp at hi
  | cons p l ih =>
   cases i with
   | zero=>rfl
   | succ i =>
    have:=ih i (by simpa using hi);rw [encP.vals_cons,List.set_cons_succ,encP.vals_cons,List.getD_cons_succ,<- this];rw [List.set_append_right _ _ (by rw [encP.len];show 3<=_;omega),encP.len];congr 2
    show (i+1)*3+2-3=_;omega
 rw [ev] at ho;refine ⟨h.row.setOther (a:=⟨g,i*3+2,none⟩) hne _,?_,h.own,h.upSet _ _,h.ne,h.le⟩;show World.ownsRow _ 0 166 3 _ (l.set i _).length (encP.vals (l.set i _));rw [List.length_set];exact ho
end BrI
theorem zM2 (ZZ:Nat->Prop) (R oo:Nat) (XX:Win) (vo:Value) (f u m:Int) (l:List Plain.Pt) (hc:∀ p,p∈l->0<=p.count) (hs:Plain.sumP l<=1048576) (hb:l.length<=1000) (w:World) (h:BrI ZZ R oo XX w vo f u m l) :
  Calls Tryz.prog 61 #[.pointer (some ⟨R,oo,none⟩)] w fun e w'=>e=.returned (.int .i64 (Plain.sumP l))/\∃ q os',w'=grow (w.drewN q) os':=by
 obtain ⟨p,c,rfl,_,_,hf⟩:=xS h.ow;have r2:=h.c2;have HL:=hid hf;have HP:=hid (fun k=>Plain.qA3 (l:=l) k hc);have HS:=hid hs;have HCT:=hid hc;clear hf h hc hs;generalize hn:l.length=n at *;have HN:=hid hn;clear hn;go_enter Tryz.func61,Tryz.ntmps61
 go_wp2
 go_loopg [3,11] n (fun gg s3 s11 wr=>∃ (k:Nat) (S:Int),k<=n/\n-k<=gg/\s11=.int .i64 k/\s3=.int .i64 S/\Aside (∃ os',wr=grow (w.drewN 0) os')/\Aside (S=Plain.sumP (l.take k)))
 case atStart=>exact ⟨0,0,zG _,by omega,rfl,rfl,(show Aside _ from ⟨#[],by rw [grow_empty];rfl⟩),(show Aside _ by simp only [List.take_zero];rfl)⟩
 case round =>
  obtain ⟨k,S,hkk,hg,rfl,rfl,G,A⟩:=hrel;by_cases hlt:k<n
  ·have hltz:(k:Int)<(n:Int):=by omega
   obtain ⟨gc,rfl,_,hgl,hcc,_⟩:=HL.out (by omega);obtain ⟨os',hos⟩:=G.out;obtain ⟨x0,x1,x2⟩:=(hcc k hlt).below (w':=wr) (B:=w.heap.size) (by rw [hos];exact ⟨rfl,rfl,rfl,by show w.heap.size<=(w.heap++os').size;simp,fun j hj=>by
    show (w.heap++os')[j]?=w.heap[j]?;rw [Array.getElem?_append_left (by omega)]⟩) hgl
   have HOS:=hid hos;clear hcc hos G;have hnx:=hid (Plain.qA2 l k (by rw [HN.out];exact hlt));have hS:=HP.out k;rw [<- A.out] at hS;have hS2:S<=1048576:=by have:=HS.out;omega
   have hS1:=hS.1;have hcb:=HCT.out (l.getD k default) (by
    rw [zA,zB (by rw [HN.out];exact hlt)];exact zH _)
   have hcb2:(l.getD k default).count<=1048576:=by
    have h1:=HP.out (k+1);have h2:=hnx.out;have h3:=HS.out;rw [<- A.out] at h2;omega
   clear hS;generalize l.getD k default=y at x0 x1 x2 hnx hcb hcb2;obtain ⟨yi,yc,yt⟩:=y;dsimp only at x0 x1 x2 hcb hcb2;have RR:=hid (show S+yc=Plain.sumP (l.take (k+1)) by rw [hnx.out,A.out]);clear hnx;go_wp2
   go_roundg (n-(k+1))
   case measure=>omega
   case rel =>
    refine ⟨k+1,S+yc,by omega,by omega,by go_num,rfl,(show Aside _ from ⟨os'++#[boxP ⟨yi,yc,yt⟩],?_⟩),RR.out⟩;rw [HOS.out,alloc_eq_grow,grow_grow]
  ·have hltz:¬ (k:Int)<(n:Int):=by omega
   have F:=hid (show S=Plain.sumP l by rw [A.out,yB (by rw [HN.out];omega)]);go_wp2;go_ret
   exact ⟨kD F.out,0,G.out⟩
theorem xP {B:Nat} {w w':World} (h:Below B w w') (hB:B<=w'.heap.size) (n:Nat) (os:Array Obj):Below B w (grow (w'.drewN n) os) :=
 h.trans ⟨rfl,rfl,rfl,by show w'.heap.size<=(w'.heap++os).size;simp,fun k hk=>by
  show (w'.heap++os)[k]?=w'.heap[k]?;rw [Array.getElem?_append_left (by omega)]⟩
theorem qO (n k:Int) (w:World):Calls Tryz.prog 114 #[.int .i64 n,.int .i64 k] w fun e w'=>e=.returned (.bool (decide (1<=n)&&decide (n<=k)))/\w'=w:=by
 by_cases h1:1<=n
 ·by_cases h2:n<=k
  ·have e:(decide (1<=n)&&decide (n<=k))=true:=by simp [h1,h2]
   rw [e];clear e;go_enter Tryz.func114,Tryz.ntmps114
   go_wp2;go_ret
   exact ⟨rfl,rfl⟩
  ·have e:(decide (1<=n)&&decide (n<=k))=false:=by simp [h2]
   rw [e];clear e;go_enter Tryz.func114,Tryz.ntmps114
   go_wp2;go_ret
   exact ⟨rfl,rfl⟩
 ·have e:(decide (1<=n)&&decide (n<=k))=false:=by simp [h1]
  rw [e];clear e;go_enter Tryz.func114,Tryz.ntmps114
  go_wp2;go_ret
  exact ⟨rfl,rfl⟩
theorem kE (k:Int) (w:World):Calls Tryz.prog 113 #[.int .i64 k] w fun e w'=>e=.returned (.bool (Plain.counted k))/\w'=w:=by
 unfold Plain.counted;by_cases h1:k=1
 ·subst h1
  go_enter Tryz.func113,Tryz.ntmps113
  go_wp2;go_ret
  exact ⟨rfl,rfl⟩
 by_cases h2:k=2
 ·subst h2
  go_enter Tryz.func113,Tryz.ntmps113
  go_wp2;go_ret
  exact ⟨rfl,rfl⟩
 by_cases h3:k=3
 ·subst h3
  go_enter Tryz.func113,Tryz.ntmps113
  go_wp2;go_ret
  exact ⟨rfl,rfl⟩
 by_cases h6:k=6
 ·subst h6
  go_enter Tryz.func113,Tryz.ntmps113
  go_wp2;go_ret
  exact ⟨rfl,rfl⟩
 have e:decide (k=1\/k=2\/k=3\/k=6)=false:=by simp [h1,h2,h3,h6]
 rw [e];have b1:(k==1)=false:=beq_eq_false_iff_ne.2 h1;have b2:(k==2)=false:=beq_eq_false_iff_ne.2 h2;have b3:(k==3)=false:=beq_eq_false_iff_ne.2 h3;have b6:(k==6)=false:=beq_eq_false_iff_ne.2 h6;clear e h1 h2 h3 h6;go_enter Tryz.func113,Tryz.ntmps113
 go_wp2;go_ret
 exact ⟨rfl,rfl⟩
theorem xP4 (ZZ:Nat->Prop) (R oo:Nat) (XX:Win) (vo:Value) (f u m c:Int) (l:List Plain.Pt) (hf:0<=f/\f<=1048576) (hu:0<=u/\u<=1048576) (hc:1<=c/\c<=1048576) (hl:∀ p,p∈l->0<=p.count) (hs:0<=Plain.sumP l/\Plain.sumP l<=1048576) (hb:l.length<=1000) (w:World) (h:BrI ZZ R oo XX w vo f u m l) :
  Calls Tryz.prog 115 #[.pointer (some ⟨R,oo,none⟩),.int .i64 c] w fun e w'=>e=.returned (.int .i64 ((if 1048576<f+Plain.sumP l+u+c then 12 else 0:Nat):Nat))/\BrI ZZ R oo XX w' vo (if 1048576<f+Plain.sumP l+u+c then f else f+c) u m l/\Kp ZZ R w w':=by
 have mixed:Tryz.prog.follows .mixedOrders=true:=by kernel_rfl
 have KH:=fun n os=>zM2 ZZ R oo XX vo f u m l hl hs.2 hb (grow (w.drewN n) os) (h.grow (xP yO yN n os));have p0:=fun n os=>cell_grown (a:=⟨R,oo,none⟩) h.lt h.c0 n os;have p1:=fun n os=>cell_grown (a:=⟨R,oo+1,none⟩) h.lt h.c1 n os;have HB:=hid h;obtain ⟨d,hd⟩:∃ d,d=Plain.sumP l:=⟨_,rfl⟩;rw [<- hd] at KH hs ⊢;clear hd h hl;obtain ⟨f1,f2⟩:=hf;obtain ⟨u1,u2⟩:=hu;obtain ⟨c1,c2⟩:=hc;obtain ⟨s1,s2⟩:=hs;by_cases hlt:1048576<f+d+u+c
 ·rw [if_pos hlt,if_pos hlt]
  obtain ⟨a1,ha1⟩:∃ a1,a1=f+d:=⟨_,rfl⟩;obtain ⟨a2,ha2⟩:∃ a2,a2=a1+u:=⟨_,rfl⟩;obtain ⟨a3,ha3⟩:∃ a3,a3=a2+c:=⟨_,rfl⟩;have hw1:IntKind.i64.wrap (f+d)=a1:=by rw [ha1,IntKind.wrap_i64];omega
  have hw2:IntKind.i64.wrap (a1+u)=a2:=by rw [ha2,IntKind.wrap_i64];omega
  have hw3:IntKind.i64.wrap (a2+c)=a3:=by rw [ha3,IntKind.wrap_i64];omega
  have hdec:decide (1048576<a3)=true:=by simp only [decide_eq_true_iff];omega
  clear ha1 ha2 ha3;go_enter Tryz.func115,Tryz.ntmps115
  go_wp2
  go_quiet_grown (first|(go_at_call 61;exact Calls.grown_of (KH _ _))|fail)
  go_wp2;go_ret
  exact ⟨rfl,HB.out.grow (xP yO yN _ _),Kp.of_below (xP yO yN _ _)⟩
 ·rw [if_neg hlt,if_neg hlt]
  obtain ⟨a1,ha1⟩:∃ a1,a1=f+d:=⟨_,rfl⟩;obtain ⟨a2,ha2⟩:∃ a2,a2=a1+u:=⟨_,rfl⟩;obtain ⟨a3,ha3⟩:∃ a3,a3=a2+c:=⟨_,rfl⟩;have hw1:IntKind.i64.wrap (f+d)=a1:=by rw [ha1,IntKind.wrap_i64];omega
  have hw2:IntKind.i64.wrap (a1+u)=a2:=by rw [ha2,IntKind.wrap_i64];omega
  have hw3:IntKind.i64.wrap (a2+c)=a3:=by rw [ha3,IntKind.wrap_i64];omega
  have hdec:decide (1048576<a3)=false:=by simp only [decide_eq_false_iff_not];omega
  clear ha1 ha2 ha3;go_enter Tryz.func115,Tryz.ntmps115
  go_wp2
  go_quiet_grown (first|(go_at_call 61;exact Calls.grown_of (KH _ _))|fail)
  obtain ⟨W,hW⟩:∃ W,W=grow (w.drewN nq) osq:=⟨_,rfl⟩;rw [<- hW];have H2:=hid (show BrI ZZ R oo XX W vo f u m l by rw [hW];exact HB.out.grow (xP yO yN _ _));have K2:=hid (show Kp ZZ R w W by rw [hW];exact Kp.of_below (xP yO yN _ _));clear hW p0 p1 KH hdec HB hw1 hw2 hw3;have r0:=H2.out.c0;have z0:=H2.out.row.frozen oo;go_wp2;go_ret
  exact ⟨rfl,H2.out.free _,K2.out.trans (Kp.setR _ _)⟩
theorem xP5 (ZZ:Nat->Prop) (R oo:Nat) (XX:Win) (vo:Value) (f u m c:Int) (l:List Plain.Pt) (hf:0<=f/\f<=1048576) (hu:0<=u/\u<=1048576) (hc:1<=c/\c<=1048576) (w:World) (h:BrI ZZ R oo XX w vo f u m l) :
  Calls Tryz.prog 116 #[.pointer (some ⟨R,oo,none⟩),.int .i64 c] w fun e w'=>e=.returned (.int .i64 ((if f<c then 9 else 0:Nat):Nat))/\BrI ZZ R oo XX w' vo (if f<c then f else f-c) (if f<c then u else u+c) m l/\Kp ZZ R w w':=by
 have HB:=hid h;have r0:=h.c0;have r1:=h.c1;have z0:=h.row.frozen oo;have z1:=h.row.frozen (oo+1);clear h;obtain ⟨f1,f2⟩:=hf;obtain ⟨u1,u2⟩:=hu;obtain ⟨c1,c2⟩:=hc;by_cases hlt:f<c
 ·rw [if_pos hlt,if_pos hlt,if_pos hlt]
  go_enter Tryz.func116,Tryz.ntmps116
  go_wp2;go_ret
  exact ⟨rfl,HB.out,Kp.refl _ _ _⟩
 ·rw [if_neg hlt,if_neg hlt,if_neg hlt]
  go_enter Tryz.func116,Tryz.ntmps116
  go_wp2;go_ret
  exact ⟨rfl,(HB.out.free _).used _,(Kp.setR _ _).trans (Kp.setR _ _)⟩
theorem yM9 (ZZ:Nat->Prop) (R oo:Nat) (XX:Win) (vo:Value) (f u m c:Int) (l:List Plain.Pt) (hf:0<=f/\f<=1048576) (hu:0<=u/\u<=1048576) (hc:1<=c/\c<=1048576) (w:World) (h:BrI ZZ R oo XX w vo f u m l) :
  Calls Tryz.prog 119 #[.pointer (some ⟨R,oo,none⟩),.int .i64 c] w fun e w'=>e=.returned (.int .i64 ((if u<c then 9 else 0:Nat):Nat))/\BrI ZZ R oo XX w' vo (if u<c then f else f+c) (if u<c then u else u-c) m l/\Kp ZZ R w w':=by
 have HB:=hid h;have r0:=h.c0;have r1:=h.c1;have z0:=h.row.frozen oo;have z1:=h.row.frozen (oo+1);clear h;obtain ⟨f1,f2⟩:=hf;obtain ⟨u1,u2⟩:=hu;obtain ⟨c1,c2⟩:=hc;by_cases hlt:u<c
 ·rw [if_pos hlt,if_pos hlt,if_pos hlt]
  go_enter Tryz.func119,Tryz.ntmps119
  go_wp2;go_ret
  exact ⟨rfl,HB.out,Kp.refl _ _ _⟩
 ·rw [if_neg hlt,if_neg hlt,if_neg hlt]
  go_enter Tryz.func119,Tryz.ntmps119
  go_wp2;go_ret
  exact ⟨rfl,(HB.out.used _).free _,(Kp.setR _ _).trans (Kp.setR _ _)⟩
end Go.Proofs.YtleaknfjbbccgaaGreatDoor.Hd
namespace Go.Proofs.YtleaknfjbbccgaaGreatDoor
open Plain
set_option maxHeartbeats 16000000
set_option maxRecDepth 100000
open Go.RowKit
theorem jF {P:Program} (w:World) (dT sT ty elem:TypeId) (g o dLen dCap:Nat) (a:Addr) (sLen sCap size:Nat) (cur:Array Value) (t:TypeId) (cs:List Value)
  (hu:P.underlying dT=some (.slice elem)) (hs:(P.info? elem).map (·.size)=some size)
  (hg:w.heap[g]?=some (.cells cur t (0,0))) (hn:cs.length=Nat.min sLen dLen*size)
  (hsrc:∀ j v,cs[j]?=some v->w.cell? (a.add j)=some v) (hfit:o+cs.length<=cur.size) (h1:∀ v∈cs,v.oneCell'=true) :
  (Builtin.copy_ #[dT,sT] ty #[.slice (some ⟨g,o,none⟩) dLen dCap,.slice (some a) sLen sCap]).run P w =
   .ok (goInt (Nat.min sLen dLen)) (w.setRow g (cur.toList.take o++cs++cur.toList.drop (o+cs.length)).toArray):=by
 have hl:=run_loadCells_list (P:=P) w a cs hsrc;have hst:=run_storeCells_at P g o t cs 0 cur w hg (by simpa using hfit) h1;cases hq:P.info? elem with
 | none=>simp [hq] at hs
 | some i =>
  have hi:i.size=size:=by simpa [hq] using hs
  simp only [Nat.add_zero] at hst;simp [Builtin.copy_,run_underlying hu,Builtin.lenOf,Builtin.firstCells,sizeOf,typeInfo,hq,hi,<- hn,hl,hst]
theorem vM {P:Program} (w:World) (dT elem:TypeId) (g o n cap size:Nat) (z:Value) (cur:Array Value) (t:TypeId)
  (hu:P.underlying dT=some (.slice elem)) (hz:∀ w,(zeroValue elem).run P w=.ok z w) (hzs:z.cells.size=size) (h1:∀ v∈z.cells.toList,v.oneCell'=true) (hg:w.heap[g]?=some (.cells cur t (0,0))) (h0:0<n) (hfit:o+n*size<=cur.size) :
  ∃ zs:List Value,zs.length=n*size/\∀ ty,(Builtin.clear_ #[dT] ty #[.slice (some ⟨g,o,none⟩) n cap]).run P w=.ok (.tuple #[]) (w.setRow g (cur.toList.take o++zs++cur.toList.drop (o+zs.length)).toArray):=by
 have hl:(Builtin.zeroCells z.cells n).toList.length=n*size:=by simp [Builtin.zeroCells,hzs]
 have ho:∀ v∈(Builtin.zeroCells z.cells n).toList,v.oneCell'=true:=by
  intro v hv;simp [Builtin.zeroCells] at hv;obtain ⟨k,hk,rfl⟩:=hv;have hp:0<z.cells.size:=Nat.pos_of_ne_zero fun e=>by rw [e,Nat.mul_zero] at hk;omega
  have hm:k%z.cells.size<z.cells.size:=Nat.mod_lt _ hp;rw [getElem!_pos z.cells _ hm];exact h1 _ (by simp)
 refine ⟨(Builtin.zeroCells z.cells n).toList,hl,fun ty=>?_⟩;have hst:=run_storeCells_at P g o t (Builtin.zeroCells z.cells n).toList 0 cur w hg (by rw [hl];omega) ho;simp only [Nat.add_zero] at hst;have hn:n≠0:=by omega
 cases n with
 | zero=>omega
 | succ n=>simp [Builtin.clear_,run_underlying hu,hz,hst]
end Go.Proofs.YtleaknfjbbccgaaGreatDoor
namespace Go.Proofs.YtleaknfjbbccgaaGreatDoor.Hd
set_option maxHeartbeats 16000000
set_option maxRecDepth 100000
open Go.RowKit Go.Shelf Go.Sort
theorem _root_.Go.Proofs.YtleaknfjbbccgaaGreatDoor.Enc.vals_take {α:Type} (E:Enc α) (l:List α) (i:Nat) (hi:i<=l.length):E.vals (l.take i)=(E.vals l).take (i*E.n):=by
 have e:E.vals l=E.vals (l.take i)++E.vals (l.drop i):=by rw [<- E.vals_app,List.take_append_drop]
 have h1:(E.vals (l.take i)).length=i*E.n:=by rw [E.vals_len,zU,Nat.min_eq_left hi]
 rw [e,<- h1,List.take_left]
theorem yC7 {w:World} {B e s g n c i:Nat} {xs:List Value} (h:w.ownsRow B e s (.slice (some ⟨g,0,none⟩) n c) n xs) (hi:i<=n):w.ownsRow B e s (.slice (some ⟨g,0,none⟩) i c) i (xs.take (i*s)):=by
 rcases h.2 with ⟨e,_⟩|⟨g',c',cur,e,hg,hb,h1,h2,h3,h4⟩
 ·cases e
 ·simp only [Value.slice.injEq,Option.some.injEq,Addr.mk.injEq,and_true,true_and] at e
  obtain ⟨rfl,rfl⟩:=e;have him:i*s<=n*s:=Nat.mul_le_mul_right _ hi;refine ⟨by rw [zU,h.1];omega,.inr ⟨g,c,cur,rfl,hg,hb,by omega,h2,h3,?_⟩⟩;rw [<- h4,List.take_take,Nat.min_eq_left him]
theorem zS6 {w:World} {B e s g n c o:Nat} {xs zs:List Value} {cur:Array Value} (h:w.ownsRow B e s (.slice (some ⟨g,0,none⟩) n c) n xs) (hb:w.heap[g]?=some (.cells cur e (0,0))) (ho:n*s<=o) (hz:o+zs.length<=c*s) :
  (w.setRow g (cur.toList.take o++zs++cur.toList.drop (o+zs.length)).toArray).ownsRow B e s (.slice (some ⟨g,0,none⟩) n c) n xs:=by
 rcases h.2 with ⟨e,_⟩|⟨g',c',cur',e,hg,hb',h1,h2,h3,h4⟩
 ·cases e
 ·simp only [Value.slice.injEq,Option.some.injEq,Addr.mk.injEq,and_true,true_and] at e
  obtain ⟨rfl,rfl⟩:=e;rw [hb] at hb';simp only [Option.some.injEq,Obj.cells.injEq,and_true] at hb';obtain ⟨rfl⟩:=hb';have hcl:cur.toList.length=c*s:=by rw [Array.length_toList];exact h3
  refine ⟨h.1,.inr ⟨g,c,_,rfl,hg,setRow_heap w g _ _ _ _ hb,h1,h2,?_,?_⟩⟩
  ·simp only [List.size_toArray,List.length_append,List.length_take,List.length_drop,hcl]
   omega
  ·rw [<- h4]
   show (cur.toList.take o++zs++cur.toList.drop (o+zs.length)).take (n*s)=_;have hlo:(cur.toList.take o).length=o:=by rw [zU];omega
   rw [yG,List.take_append_of_le_length (by omega),List.take_take,Nat.min_eq_left ho]
theorem zF3 {w:World} {B e s g n c:Nat} {xs:List Value} (h:w.ownsRow B e s (.slice (some ⟨g,0,none⟩) n c) n xs):∃ cur,w.heap[g]?=some (.cells cur e (0,0))/\cur.size=c*s/\n<=c/\c<=maxLen/\B<=g:=by
 rcases h.2 with ⟨e,_⟩|⟨g',c',cur,e,hg,hb,h1,h2,h3,h4⟩
 ·cases e
 ·simp only [Value.slice.injEq,Option.some.injEq,Addr.mk.injEq,and_true,true_and] at e
  obtain ⟨rfl,rfl⟩:=e;exact ⟨cur,hb,h3,h1,h2,hg⟩
theorem vN (w:World) (g:Nat) (cs:Array Value):w.grownBy (w.setRow g cs) (some g) :=
 ⟨rfl,rfl,rfl,by simp,fun k _ hk=>setRow_other w g k _ (fun e=>hk (by simp [e]))⟩
theorem xO {w w' w'':World} {r:Option Nat} (h:w.grownBy w' r) (g:w'.grownBy w'' r):w.grownBy w'' r :=
 ⟨g.os.trans h.os,g.tape.trans h.tape,g.output.trans h.output,zI h.size g.size,fun k hk hr=>(g.block k (zF hk h.size) hr).trans (h.block k hk hr)⟩
theorem xR {w w':World} {r:Option Nat} (h:Below w.heap.size w w'):w.grownBy w' r:=⟨h.os,h.tape,h.output,h.size,fun k hk _=>h.block k hk⟩
namespace Plain
def Found (p:Pt->Bool) (l:List Pt) (r:Int):Prop:=(r=-1/\∀ j,j<l.length->p (l.getD j default)=false)\/∃ k:Nat,k<l.length/\r=k/\p (l.getD k default)=true/\∀ j,j<k->p (l.getD j default)=false
theorem qA4 (p:Pt->Bool) (l:List Pt):∃ r,Found p l r:=by
 by_cases h:l.findIdx p<l.length
 ·refine ⟨l.findIdx p,.inr ⟨_,h,rfl,?_,fun j hj=>?_⟩⟩
  ·rw [zA,zB h];exact List.findIdx_getElem
  ·rw [zA,zB (by omega)]
   have:=List.not_of_lt_findIdx hj;simpa using this
 ·refine ⟨-1,.inl ⟨rfl,fun j hj=>?_⟩⟩
  have e:l.findIdx p=l.length:=by have:=List.findIdx_le_length (p:=p) (xs:=l);omega
  rw [List.findIdx_eq_length] at e;rw [zA,zB hj];exact e _ (zH hj)
end Plain
namespace Plain
def zJ0 (p:Pt):Bool:=p.ticks==0
def isNamed (i:Int) (p:Pt):Bool:=p.id==i
end Plain
theorem yN0 (x:Plain.Pt) (w:World):Calls Tryz.prog 140 #[aggP x] w fun e w'=>e=.returned (.bool (Plain.zJ0 x))/\w'=w.alloc (boxP x):=by
 obtain ⟨a,b,c⟩:=x;unfold Plain.zJ0;dsimp only;go_enter Tryz.func140,Tryz.ntmps140
 go_wp2;go_ret
 exact ⟨rfl,rfl⟩
theorem zF4 (p:Option Addr) (n c:Nat) (l:List Plain.Pt) (w:World) (hn:l.length=n) (hbig:n<=1000) (r:Int) (hr:Plain.Found (Plain.zJ0) l r)
  (hp:0<n->∃ b off,p=some ⟨b,off,none⟩/\b<w.heap.size/\∀ j,j<n->CellP w b (off+j*3) (l.getD j default)) :
  Calls Tryz.prog 136 #[.slice p n c,.func (.func 140) #[] #[]] w fun e w'=>e=.returned (.int .i64 r)/\Below w.heap.size w w':=by
 have HP:=hid hp;have HN:=hid hn;have HR:=hid hr;clear hp hn hr;go_enter Tryz.func136,Tryz.ntmps136
 go_wp2
 go_loopg [5,8] n (fun gg _ s8 wr=>∃ kk:Nat,kk<=n/\n-kk<=gg/\s8=.int .i64 kk/\Aside (Below w.heap.size w wr)/\Aside (∀ j,j<kk->(Plain.zJ0) (l.getD j default)=false))
 case atStart=>exact ⟨0,zG _,by omega,rfl,Below.refl _ w,fun j hj=>absurd hj (yE _)⟩
 case round =>
  obtain ⟨kk,hkk,hg,rfl,BW,A⟩:=hrel;by_cases hlt:kk<n
  ·have hltz:(kk:Int)<(n:Int):=by omega
   obtain ⟨b,off,rfl,hb,hc⟩:=HP.out (by omega);obtain ⟨c0,c1,c2⟩:=(hc kk hlt).below BW.out hb;clear hc;have hcall:=yN0 (l.getD kk default) wr;generalize hy:l.getD kk default=y at c0 c1 c2 hcall;have HY:Aside (l.getD kk default=y):=hy;clear hy;cases hq:(Plain.zJ0) y with
   | true =>
    rw [hq] at hcall;have RV:=hid (show r=kk by
     rcases HR.out with ⟨_,hall⟩|⟨k,hk,e,ht,hall⟩
     ·have:=hall kk (by rw [HN.out];exact hlt)
      rw [HY.out,hq] at this;cases this
     ·rcases Nat.lt_trichotomy k kk with h|h|h
      ·have:=A.out k h
       rw [ht] at this;cases this
      ·rw [e,h]
      ·have:=hall kk h
       rw [HY.out,hq] at this;cases this)
    go_wp2_with fail
    refine hcall.mono ?_;rintro e w' ⟨rfl,hw⟩;have B2:=hid (show Below w.heap.size w w' by rw [hw];exact BW.out.alloc BW.out.size _);clear hcall hw;go_wp2;go_ret
    exact ⟨kD RV.out.symm,B2.out⟩
   | false =>
    rw [hq] at hcall
    go_wp2_with fail
    refine hcall.mono ?_;rintro e w' ⟨rfl,hw⟩;have B2:=hid (show Below w.heap.size w w' by rw [hw];exact BW.out.alloc BW.out.size _);clear hcall hw;go_wp2
    go_roundg (n-(kk+1))
    case measure=>omega
    case rel =>
     refine ⟨kk+1,by omega,by omega,by go_num,B2.out,(show Aside _ from fun j hj=>?_)⟩;by_cases e:j=kk
     ·subst e
      rw [HY.out];exact hq
     ·exact A.out j (by omega)
  ·have hltz:¬ (kk:Int)<(n:Int):=by omega
   have RV:=hid (show r=-1 by
    rcases HR.out with ⟨e,_⟩|⟨k,hk,e,ht,hall⟩
    ·exact e
    ·have:=A.out k (by have:=HN.out;omega)
     rw [ht] at this;cases this)
   go_wp2;go_ret
   exact ⟨kD RV.out.symm,BW.out⟩
theorem xB5 (i:Int) (a0:Nat) (x:Plain.Pt) (w:World) (hi:w.cell? ⟨a0,0,none⟩=some (.int .i64 i)):Calls Tryz.prog 137 #[aggP x,.pointer (some ⟨a0,0,none⟩)] w fun e w'=>e=.returned (.bool (Plain.isNamed i x))/\w'=w.alloc (boxP x):=by
 obtain ⟨a,b,c⟩:=x;unfold Plain.isNamed;dsimp only;have hlt:=zC (w:=w) (h:=hi);have hi2:(w.alloc (boxP ⟨a,b,c⟩)).cell? ⟨a0,0,none⟩=some (.int .i64 i):=by rw [yJ _ _ _ hlt];exact hi
 go_enter Tryz.func137,Tryz.ntmps137
 go_wp2;go_ret
 exact ⟨rfl,rfl⟩
theorem zD1 (i:Int) (a0:Nat) (p:Option Addr) (n c:Nat) (l:List Plain.Pt) (w:World) (hn:l.length=n) (hbig:n<=1000) (ha0:a0<w.heap.size) (hi:w.cell? ⟨a0,0,none⟩=some (.int .i64 i)) (r:Int) (hr:Plain.Found (Plain.isNamed i) l r)
  (hp:0<n->∃ b off,p=some ⟨b,off,none⟩/\b<w.heap.size/\∀ j,j<n->CellP w b (off+j*3) (l.getD j default)) :
  Calls Tryz.prog 136 #[.slice p n c,.func (.func 137) #[] #[.pointer (some ⟨a0,0,none⟩)]] w fun e w'=>e=.returned (.int .i64 r)/\Below w.heap.size w w':=by
 have HP:=hid hp;have HN:=hid hn;have HR:=hid hr;have HC0:=hid hi;clear hi;clear hp hn hr;go_enter Tryz.func136,Tryz.ntmps136
 go_wp2
 go_loopg [5,8] n (fun gg _ s8 wr=>∃ kk:Nat,kk<=n/\n-kk<=gg/\s8=.int .i64 kk/\Aside (Below w.heap.size w wr)/\Aside (∀ j,j<kk->(Plain.isNamed i) (l.getD j default)=false))
 case atStart=>exact ⟨0,zG _,by omega,rfl,Below.refl _ w,fun j hj=>absurd hj (yE _)⟩
 case round =>
  obtain ⟨kk,hkk,hg,rfl,BW,A⟩:=hrel;by_cases hlt:kk<n
  ·have hltz:(kk:Int)<(n:Int):=by omega
   obtain ⟨b,off,rfl,hb,hc⟩:=HP.out (by omega);obtain ⟨c0,c1,c2⟩:=(hc kk hlt).below BW.out hb;clear hc;have hcall:=xB5 i a0 (l.getD kk default) wr ((BW.out.cell (p:=⟨a0,0,none⟩) ha0).trans HC0.out);generalize hy:l.getD kk default=y at c0 c1 c2 hcall;have HY:Aside (l.getD kk default=y):=hy;clear hy;cases hq:(Plain.isNamed i) y with
   | true =>
    rw [hq] at hcall;have RV:=hid (show r=kk by
     rcases HR.out with ⟨_,hall⟩|⟨k,hk,e,ht,hall⟩
     ·have:=hall kk (by rw [HN.out];exact hlt)
      rw [HY.out,hq] at this;cases this
     ·rcases Nat.lt_trichotomy k kk with h|h|h
      ·have:=A.out k h
       rw [ht] at this;cases this
      ·rw [e,h]
      ·have:=hall kk h
       rw [HY.out,hq] at this;cases this)
    go_wp2_with fail
    refine hcall.mono ?_;rintro e w' ⟨rfl,hw⟩;have B2:=hid (show Below w.heap.size w w' by rw [hw];exact BW.out.alloc BW.out.size _);clear hcall hw;go_wp2;go_ret
    exact ⟨kD RV.out.symm,B2.out⟩
   | false =>
    rw [hq] at hcall
    go_wp2_with fail
    refine hcall.mono ?_;rintro e w' ⟨rfl,hw⟩;have B2:=hid (show Below w.heap.size w w' by rw [hw];exact BW.out.alloc BW.out.size _);clear hcall hw;go_wp2
    go_roundg (n-(kk+1))
    case measure=>omega
    case rel =>
     refine ⟨kk+1,by omega,by omega,by go_num,B2.out,(show Aside _ from fun j hj=>?_)⟩;by_cases e:j=kk
     ·subst e
      rw [HY.out];exact hq
     ·exact A.out j (by omega)
  ·have hltz:¬ (kk:Int)<(n:Int):=by omega
   have RV:=hid (show r=-1 by
    rcases HR.out with ⟨e,_⟩|⟨k,hk,e,ht,hall⟩
    ·exact e
    ·have:=A.out k (by have:=HN.out;omega)
     rw [ht] at this;cases this)
   go_wp2;go_ret
   exact ⟨kD RV.out.symm,BW.out⟩
theorem yC8 (w:World):(zeroValue 166).run Tryz.prog w=.ok (.agg #[.int .i64 0,.int .i64 0,.int .i64 0]) w:=by
 obtain ⟨i0,hi,hz0,_,_⟩:=info_parts Tryz.infoPart;simp [zeroValue,typeInfo,hi,hz0]
theorem yI0 (l:List Plain.Pt) (k:Nat):l.eraseIdx k=l.take k++l.drop (k+1):=List.eraseIdx_eq_take_drop_succ l k
theorem zF5 {P:Program} {ops:Array Oper} {o:Oper} {a:Act} {w:World} {K:Act->World->Prop} {Q:Exit->Act->World->Prop} {E:Prop} (s x:Operand) (t:TypeId)
  (ho:o.op=.call { callee:=.builtin .append,args:=#[s,x],argTypes:=#[t,t] }) (ty:TypeId) (hty:o.type=ty) (v1 v2:Value) (hs:a.eval s=v1) (hx:a.eval x=v2) {v':Value} {w':World}
  (hr:(Builtin.append_ #[t,t] ty #[v1,v2]).run P w=.ok v' w') (hw:Region.wanted o (yielded ops a.tmps)=true) (h:K (a.put o.dst v') w'):if Region.wanted o (yielded ops a.tmps)=true then o.wp P a w K Q else E:=by
 rw [if_pos hw];unfold Oper.wp execOp;simp only [ho,resolve,invoke,builtin,Sem.run_bind,Sem.run_pure,Result.andThen_ok,List.map_toArray,List.map_cons,List.map_nil,hs,hx,hty,hr];exact h
theorem yN1 {w:World} {B g n c k:Nat} {l:List Plain.Pt} (hn:l.length=n+1) (hk:k<=n) (h:OwnP w B (.slice (some ⟨g,0,none⟩) (n+1) c) l) (A:Addr) (cx:Nat) (hA:k<n->A=⟨g,(k+1)*3,none⟩) :
  ∃ U,(Builtin.append_ #[110,110] 110 #[.slice (some ⟨g,0,none⟩) k c,.slice (some A) (n-k) cx]).run Tryz.prog w=.ok (.slice (some ⟨g,0,none⟩) n c) U /\
   U.ownsRow B 166 3 (.slice (some ⟨g,0,none⟩) n c) n (encP.vals (l.eraseIdx k))/\w.grownBy U (some g):=by
 obtain ⟨j0,ji,jz0,jz1,jz2⟩:=info_parts Tryz.infoPart;have h':w.ownsRow B 166 3 (.slice (some ⟨g,0,none⟩) (n+1) c) (n+1) (encP.vals l):=by rw [<- hn];rw [<- hn] at h;exact h
 obtain ⟨cur,hb,hcs,hnc,hcm,hge⟩:=zF3 h';have h1:=yC7 h' (i:=k) (by omega);have hdl:(l.drop (k+1)).length=n-k:=by rw [List.length_drop,hn];omega
 obtain ⟨U,e1,e2,e3⟩:=run_append_fits (P:=Tryz.prog) w B 110 110 166 j0 3 Tryz.underlying110 ji jz1 g k c _ h1 A (n-k) cx (encP.vals (l.drop (k+1)))
  (by rw [encP.vals_len,hdl];rfl) (fun j u hu=>by
   have hj:j<(n-k)*3:=by
    rcases Nat.lt_or_ge j ((n-k)*3) with x|x
    ·exact x
    ·rw [zN (by rw [encP.vals_len,hdl];exact x)] at hu;cases hu
   rw [hA (by omega),jS];have e:encP.vals l=encP.vals (l.take (k+1))++encP.vals (l.drop (k+1)):=by rw [<- encP.vals_app,List.take_append_drop]
   have e':(encP.vals (l.take (k+1))).length=(k+1)*3:=by rw [encP.vals_len,zU,hn,Nat.min_eq_left (by omega)];rfl
   have hu':(encP.vals l)[(k+1)*3+j]?=some u:=by rw [e,zR (by omega),e',show (k+1)*3+j-(k+1)*3=j by omega];exact hu
   have:=h'.cells rfl ((k+1)*3+j) u hu';rw [jS,Nat.zero_add] at this;exact this) (encP.vals_cell _) (by omega)
 rw [show k+(n-k)=n by omega] at e1 e2;refine ⟨U,e1,?_,e3⟩;rw [yI0,encP.vals_app,encP.vals_take l k (by omega)];exact e2
theorem xB6 (g n N c B k J:Nat) (l:List Plain.Pt) (hN:N=n+1) (hJ:J=k+1) (hn:l.length=N) (hk:k<=n) (w:World) (h:OwnP w B (.slice (some ⟨g,0,none⟩) N c) l) :
  Calls Tryz.prog 138 #[.slice (some ⟨g,0,none⟩) N c,.int .i64 k,.int .i64 J] w fun e w' =>
   e=.returned (.slice (some ⟨g,0,none⟩) n c)/\OwnP w' B (.slice (some ⟨g,0,none⟩) n c) (l.eraseIdx k)/\w.grownBy w' (some g):=by
 have hel:(l.eraseIdx k).length=n:=by rw [List.length_eraseIdx,if_pos (by omega),hn,hN];rfl
 have hD:OwnP w.drew B (.slice (some ⟨g,0,none⟩) (n+1) c) l:=by rw [<- hN];exact qN h (yO.drew)
 have h':w.ownsRow B 166 3 (.slice (some ⟨g,0,none⟩) N c) N (encP.vals l):=by rw [<- hn];rw [<- hn] at h;exact h
 obtain ⟨_,_,_,hnc,hcm,_⟩:=zF3 h';have hc63:c<=9223372036854775807:=by unfold maxLen at hcm;omega
 have key:∀ U:World,Hid (U.ownsRow B 166 3 (.slice (some ⟨g,0,none⟩) n c) n (encP.vals (l.eraseIdx k)))->∃ U',(∀ ty,(Builtin.clear_ #[110] ty #[.slice (some ⟨g,n*3,none⟩) (N-n) (c-n)]).run Tryz.prog U=.ok (.tuple #[]) U')/\Hid (U'.ownsRow B 166 3 (.slice (some ⟨g,0,none⟩) n c) n (encP.vals (l.eraseIdx k))/\U.grownBy U' (some g)):=by
  intro U hU;obtain ⟨cur,hb,hcs,_,_,_⟩:=zF3 hU.out;obtain ⟨zs,hzl,hcl⟩:=vM (P:=Tryz.prog) U 110 166 g (n*3) (N-n) (c-n) 3 _ cur 166 Tryz.underlying110 yC8 rfl (by intro v hv;simp [Value.cells] at hv;subst hv;rfl) hb (by omega) (by rw [hcs];omega);exact ⟨_,hcl,zS6 hU.out hb yN (by rw [hzl];omega),vN _ _ _⟩
 have HEL:=hid hel;have KEY:=hid key;have hkz:(k:Int)<=(J:Int):=by omega
 have hkz2:(0:Int)<=(k:Int):=by omega
 have hkN:(J:Int)<=(N:Int):=by omega
 have hkc:(k:Int)<=(c:Int):=by omega
 have hNc:(N:Int)<=(c:Int):=by omega
 have hnN:(n:Int)<=(N:Int):=by omega
 have b1:((k:Int)==(J:Int))=false:=by rw [beq_eq_false_iff_ne];omega
 have hnck:¬ c=n:=by omega
 have hNk:¬ N=k:=by omega
 have ER:∀ A:Addr,(k<n->A=⟨g,J*3,none⟩)->Hid (∃ U,(Builtin.append_ #[110,110] 110 #[.slice (some ⟨g,0,none⟩) k c,.slice (some A) (N-J) (c-J)]).run Tryz.prog w.drew=.ok (.slice (some ⟨g,0,none⟩) n c) U /\
   U.ownsRow B 166 3 (.slice (some ⟨g,0,none⟩) n c) n (encP.vals (l.eraseIdx k))/\w.drew.grownBy U (some g)):=fun A hA=>by
  have:=yN1 (hn.trans hN) hk hD A (c-J) (by rw [<- hJ];exact hA);rw [show n-k=N-J by omega] at this;exact this
 have hJn:¬ c=J->J<c:=by omega
 clear h h' hel hcm key hD hN hn;by_cases hck:c=J
 ·have hck':(c=J)=True:=by simp [hck]
  have hJn0:c=J:=hck;clear hck;obtain ⟨U,e1,e2,e3⟩:=(ER ⟨g,0,none⟩ (fun x=>by omega)).out;obtain ⟨U',e4,e5⟩:=KEY.out U (hid e2);have E1:=hid e1;have E3:=hid e3;clear e1 e2 e3 KEY ER hJ hJn hJn0;go_enter Tryz.func138,Tryz.ntmps138
  go_wp2
  go_region_law (refine zF5 _ _ 110 rfl 110 rfl (.slice (some ⟨g,0,none⟩) k c) (.slice (some ⟨g,0,none⟩) (N-J) (c-J)) (by simp [Act.eval,Act.put]) (by simp [Act.eval,Act.put]) E1.out (by rfl) ?_)
  all_goals
   go_wp2;go_ret
   exact ⟨rfl,by show World.ownsRow _ _ _ _ _ (l.eraseIdx k).length _;rw [HEL.out];exact e5.out.1,xO (xO (xR (yO.drew)) E3.out) e5.out.2⟩
 ·have hck':(c=J)=False:=by simp [hck]
  have hlt:=hJn hck;obtain ⟨U,e1,e2,e3⟩:=(ER ⟨g,J*3,none⟩ (fun _=>rfl)).out;obtain ⟨U',e4,e5⟩:=KEY.out U (hid e2);have E1:=hid e1;have E3:=hid e3;clear e1 e2 e3 KEY ER hJ hJn;go_enter Tryz.func138,Tryz.ntmps138
  go_wp2
  go_region_law (refine zF5 _ _ 110 rfl 110 rfl (.slice (some ⟨g,0,none⟩) k c) (.slice (some ⟨g,J*3,none⟩) (N-J) (c-J)) (by simp [Act.eval,Act.put]) (by simp [Act.eval,Act.put]) E1.out (by rfl) ?_)
  all_goals
   go_wp2;go_ret
   exact ⟨rfl,by show World.ownsRow _ _ _ _ _ (l.eraseIdx k).length _;rw [HEL.out];exact e5.out.1,xO (xO (xR (yO.drew)) E3.out) e5.out.2⟩
namespace Plain
structure KeptP (l M:List Pt) (i j:Nat):Prop where
 len:M.length=l.length
 lt:i<j
 le:j<=l.length
 low:M.take i=(l.take j).filter live
 high:M.drop j=l.drop j
theorem zA1 (p:Pt):live p=!zJ0 p:=by unfold live zJ0;rfl
theorem zF6 (l:List Pt) (k:Nat) (hk:k<l.length):l.getD k default=l[k]:=by rw [zA,zB hk];rfl
theorem KeptP.start {l:List Pt} {k:Nat} (hk:k<l.length) (hg:zJ0 (l.getD k default)=true) (ha:∀ j,j<k->zJ0 (l.getD j default)=false):KeptP l l k (k+1):=by
 refine ⟨rfl,by omega,hk,?_,rfl⟩;have h1:(l.take k).filter live=l.take k:=by
  rw [List.filter_eq_self];intro x hx;obtain ⟨j,hj,rfl⟩:=List.mem_take_iff_getElem.1 hx;have:=ha j (by omega);rw [zF6 l j (by omega)] at this;rw [zA1,this];rfl
 rw [zF6 l k hk] at hg;have h2:[l[k]].filter live=[]:=by simp [zA1,hg]
 rw [zO hk,List.filter_append,h1,h2,List.append_nil]
theorem KeptP.at {l M:List Pt} {i j:Nat} (h:KeptP l M i j):M.getD j default=l.getD j default:=by
 have e:=congrArg (fun x=>x[0]?) h.high;simp only [List.getElem?_drop,Nat.add_zero] at e;rw [zA,zA,e]
theorem KeptP.keep {l M:List Pt} {i j:Nat} (h:KeptP l M i j) (hj:j<l.length) (hg:zJ0 (l.getD j default)=false):KeptP l (M.set i (l.getD j default)) (i+1) (j+1):=by
 have hi:i<M.length:=by have:=h.len;have:=h.lt;omega
 have hlt:=h.lt;have hlen:=h.len;refine ⟨by rw [List.length_set];exact h.len,by omega,hj,?_,?_⟩
 ·rw [zO hj,List.filter_append,<- h.low,zO (by rw [List.length_set];exact hi),List.getElem_set_self,List.take_set_of_le yN]
  rw [zF6 l j hj] at hg ⊢;congr 1
  simp [zA1,hg]
 ·rw [List.drop_set_of_lt (by omega),<- List.drop_drop,<- List.drop_drop,h.high]
theorem KeptP.skip {l M:List Pt} {i j:Nat} (h:KeptP l M i j) (hj:j<l.length) (hg:zJ0 (l.getD j default)=true):KeptP l M i (j+1):=by
 refine ⟨h.len,Nat.lt_succ_of_lt h.lt,hj,?_,?_⟩
 ·rw [zO hj,List.filter_append,<- h.low]
  rw [zF6 l j hj] at hg;simp [zA1,hg]
 ·rw [<- List.drop_drop,<- List.drop_drop,h.high]
theorem KeptP.done {l M:List Pt} {i:Nat} (h:KeptP l M i l.length):M.take i=l.filter live:=by rw [h.low,List.take_length]
end Plain
def setP (w:World) (g o:Nat) (y:Plain.Pt):World:=((w.setCell ⟨g,o,none⟩ (.int .i64 y.id)).setCell ⟨g,o+1,none⟩ (.int .i64 y.count)).setCell ⟨g,o+2,none⟩ (.int .i64 y.ticks)
theorem yN2 (w:World) (g o:Nat) (y:Plain.Pt):(setP w g o y).heap.size=w.heap.size:=by simp [setP,World.setCell]
theorem yN3 (l:List Plain.Pt) (i:Nat) (hi:i<l.length) (y:Plain.Pt):(((encP.vals l).set (i*3) (.int .i64 y.id)).set (i*3+1) (.int .i64 y.count)).set (i*3+2) (.int .i64 y.ticks)=encP.vals (l.set i y):=by
 induction l generalizing i with
 | nil=>simp at hi
 | cons p l ih =>
  cases i with
  | zero=>rfl
  | succ i =>
   have:=ih i (by simpa using hi);rw [encP.vals_cons,List.set_cons_succ,encP.vals_cons,<- this];have hl:(encP.enc p).length=3:=encP.len p;rw [List.set_append_right _ _ (by omega),List.set_append_right _ _ (by omega),List.set_append_right _ _ (by omega),hl,show (i+1)*3-3=i*3 by omega,show (i+1)*3+1-3=i*3+1 by omega,show (i+1)*3+2-3=i*3+2 by omega]
theorem xB7 {w:World} {B g n c:Nat} {l:List Plain.Pt} (h:w.ownsRow B 166 3 (.slice (some ⟨g,0,none⟩) n c) n (encP.vals l)) (hn:l.length=n) (i:Nat) (hi:i<n) (y:Plain.Pt) :
  (setP w g (i*3) y).ownsRow B 166 3 (.slice (some ⟨g,0,none⟩) n c) n (encP.vals (l.set i y))/\w.grownBy (setP w g (i*3) y) (some g):=by
 have h1:=(h.stored (i*3) (.int .i64 y.id)).1;have h2:=(h1.stored (i*3+1) (.int .i64 y.count)).1;have h3:=(h2.stored (i*3+2) (.int .i64 y.ticks)).1;rw [yN3 l i (by omega)] at h3;refine ⟨h3,⟨rfl,rfl,rfl,by rw [yN2];exact yN,fun k hk hr=>?_⟩⟩;have hne:k≠g:=fun e=>hr (by rw [e]);unfold setP;rw [zE _ ⟨g,_,none⟩ _ k hne,zE _ ⟨g,_,none⟩ _ k hne,zE _ ⟨g,_,none⟩ _ k hne]
theorem zM3 (w:World) (a b:Obj):Below w.heap.size w ((w.alloc a).alloc b):=(yO.alloc yN _).alloc (by simp) _
theorem yN4 (g n c B:Nat) (l:List Plain.Pt) (hn:l.length=n) (h0:0<n) (hl:n<=1000) (w:World) (h:w.ownsRow B 166 3 (.slice (some ⟨g,0,none⟩) n c) n (encP.vals l)) :
  Calls Tryz.prog 139 #[.slice (some ⟨g,0,none⟩) n c,.func (.func 140) #[] #[]] w fun e w' =>
   ∃ m,e=.returned (.slice (some ⟨g,0,none⟩) m c)/\(l.filter Plain.live).length=m/\w'.ownsRow B 166 3 (.slice (some ⟨g,0,none⟩) m c) m (encP.vals (l.filter Plain.live))/\w.grownBy w' (some g):=by
 obtain ⟨cur0,hb0,hcs,hnc,hcm,hge⟩:=zF3 h;have hc63:c<=9223372036854775807:=by unfold maxLen at hcm;omega
 have hgw:g<w.heap.size:=(zJ.1 hb0).1;have cells:∀ (M:List Plain.Pt) (wx:World),M.length=n->wx.ownsRow B 166 3 (.slice (some ⟨g,0,none⟩) n c) n (encP.vals M)->(∀ j,j<n->CellP wx g (j*3) (M.getD j default))/\(∀ j,wx.frozen? ⟨g,j,none⟩=false):=fun M wx hM hx=>by
  have hx':OwnP wx B (.slice (some ⟨g,0,none⟩) n c) M:=by show World.ownsRow _ _ _ _ _ M.length _;rw [hM];exact hx
  obtain ⟨p,c',e,_,_,hf⟩:=xS hx';obtain ⟨g',e',_,_,h1,h2⟩:=hf (by omega);subst e';simp only [Value.slice.injEq,Option.some.injEq,Addr.mk.injEq,and_true] at e;obtain ⟨rfl,_,_⟩:=e;exact ⟨fun j hj=>h1 j (by omega),h2⟩
 obtain ⟨r,hr⟩:=Plain.qA4 Plain.zJ0 l;have KI:=zF4 (some ⟨g,0,none⟩) n c l w hn (by omega) r hr (fun _=>⟨g,0,rfl,hgw,fun j hj=>by rw [Nat.zero_add];exact (cells l w hn h).1 j hj⟩);have HC:=hid cells;have HO:=hid h;have HN:=hid hn;clear h hcm cells hb0 hcs;rcases hr with ⟨e1,hall⟩|⟨k0,hk0,e1,ht,hall⟩
 ·subst e1
  have HF:=hid (show l.filter Plain.live=l by
   rw [List.filter_eq_self];intro x hx;obtain ⟨j,hj,rfl⟩:=List.getElem_of_mem hx;have:=hall j hj;rw [Plain.zF6 l j hj] at this;rw [Plain.zA1,this];rfl)
  clear hall;go_enter Tryz.func139,Tryz.ntmps139
  go_wp2_with fail
  refine KI.mono ?_;rintro e w1 ⟨rfl,b1⟩;go_wp2;go_ret
  exact ⟨n,rfl,by rw [HF.out];exact HN.out,by rw [HF.out];exact qN HO.out b1,xR b1⟩
 ·subst e1
  have hne1:((k0:Int)==-1)=false:=beq_eq_false_iff_ne.2 (by omega);have HK:=hid (Plain.KeptP.start hk0 ht hall);clear hall ht;go_enter Tryz.func139,Tryz.ntmps139
  go_wp2_with fail
  refine KI.mono ?_;rintro e w1 ⟨rfl,b1⟩;go_wp2;have HO1:=hid (qN HO.out b1);have HB1:=hid (xR (r:=some g) b1);clear b1 KI hne1
  go_loopw [5,6] (fun s5 s6 wx=>∃ (i j:Nat) (M:List Plain.Pt),s5=.int .i64 i/\s6=.int .i64 j/\Plain.KeptP l M i j/\wx.ownsRow B 166 3 (.slice (some ⟨g,0,none⟩) n c) n (encP.vals M)/\w.grownBy wx (some g)) (fun _ s6 _=>n-(intOf s6).toNat)
  case atStart=>exact ⟨k0,k0+1,l,rfl,by go_num,HK.out,HO1.out,HB1.out⟩
  case round =>
   obtain ⟨i,j,M,rfl,rfl,hK,hO,hbel⟩:=hrel;have hKl:=hK.len;have hKi:=hK.lt;have hKj:=hK.le;rw [HN.out] at hKl hKj;have HCC:=hid (HC.out M wr hKl hO);by_cases hlt:j<n
   ·have hlt':(j:Int)<(n:Int):=by omega
    obtain ⟨x0,x1,x2⟩:=HCC.out.1 j hlt;obtain ⟨y0,y1,y2⟩:=HCC.out.1 i (by omega);rw [hK.at] at x0 x1 x2;have f0:=HCC.out.2 (i*3);have f1:=HCC.out.2 (i*3+1);have f2:=HCC.out.2 (i*3+2);have HKK:=hid hK;have HOO:=hid hO;have HBB:=hid hbel;have hgr2:g<wr.heap.size:=zF hgw hbel.size;clear hK hO hbel HCC;have KC:=fun W=>yN0 (l.getD j default) W;generalize hy:l.getD j default=y at x0 x1 x2 KC;have HY:=hid hy;clear hy;generalize M.getD i default=z at y0 y1 y2;obtain ⟨ya,yb,yc⟩:=y;obtain ⟨za,zb,zc⟩:=z;dsimp only at x0 x1 x2 y0 y1 y2 KC;have hi':(i:Int)<(n:Int):=by omega
    cases ho:Plain.zJ0 ⟨ya,yb,yc⟩ with
    | true =>
     rw [ho] at KC
     go_wp2_with (go_at_call 140;refine (KC _).mono ?_;rintro e w' ⟨rfl,rfl⟩)
     go_roundw
     case rel=>exact ⟨i,j+1,M,rfl,by go_num,HKK.out.skip (by rw [HN.out];exact hlt) (by rw [HY.out];exact ho),qN HOO.out (zM3 _ _ _),xO HBB.out (xR (zM3 _ _ _))⟩
     case measure=>simp [intOf];omega
    | false =>
     rw [ho] at KC
     go_wp2_with (go_at_call 140;refine (KC _).mono ?_;rintro e w' ⟨rfl,rfl⟩)
     go_roundw
     case rel =>
      have hs:=xB7 HOO.out hKl i (by omega) ⟨ya,yb,yc⟩;refine ⟨i+1,j+1,M.set i ⟨ya,yb,yc⟩,by go_num,by go_num,?_,qN hs.1 (zM3 (setP wr g (i*3) ⟨ya,yb,yc⟩) _ _),xO (xO HBB.out hs.2) (xR (zM3 (setP wr g (i*3) ⟨ya,yb,yc⟩) _ _))⟩;have:=HKK.out.keep (by rw [HN.out];exact hlt) (by rw [HY.out];exact ho);rwa [HY.out] at this
     case measure=>simp [intOf];omega
   ·have ej:j=n:=by omega
    subst ej;obtain ⟨cur,hb,hcs,_,_,_⟩:=zF3 hO;obtain ⟨zs,hzl,hcl⟩:=vM (P:=Tryz.prog) wr 110 166 g (i*3) (j-i) (c-i) 3 _ cur 166 Tryz.underlying110 yC8 rfl (by intro v hv;simp [Value.cells] at hv;subst hv;rfl) hb (by omega) (by rw [hcs];omega);have R1:=hid (zS6 (o:=i*3) (yC7 hO (i:=i) (by omega)) hb yN (show i*3+zs.length<=c*3 by rw [hzl];omega));have R2:=hid (xO hbel (vN wr g (cur.toList.take (i*3)++zs++cur.toList.drop (i*3+zs.length)).toArray));generalize wr.setRow g (cur.toList.take (i*3)++zs++cur.toList.drop (i*3+zs.length)).toArray=W at hcl R1 R2;have HD:=hid (show M.take i=l.filter Plain.live from by have:=hK;rw [<- HN.out] at this;exact this.done);have HV:=hid (show encP.vals (l.filter Plain.live)=(encP.vals M).take (i*3) by rw [<- HD.out];exact encP.vals_take M i (by omega));have HLn:=hid (show (l.filter Plain.live).length=i by rw [<- HD.out,zU];omega);have hci:¬ c=i:=by omega
    have hin:i<=j:=by omega
    have hin':(i:Int)<=(j:Int):=by omega
    have hic:(i:Int)<=(c:Int):=by omega
    clear hK hO hbel hb hcs hzl HCC;go_wp2;go_ret
    exact ⟨i,rfl,HLn.out,by rw [HV.out];exact R1.out,R2.out⟩
theorem xB8 (v:Value) (B:Nat) (l:List Plain.Pt) (hl:l.length<=1000) (w:World) (h:OwnP w B v l) :
  Calls Tryz.prog 139 #[v,.func (.func 140) #[] #[]] w fun e w' =>
   ∃ v',e=.returned v'/\OwnP w' B v' (l.filter Plain.live)/\w.grownBy w' v.ownBlock/\v'.ownBlock=v.ownBlock:=by
 by_cases h0:0<l.length
 ·obtain ⟨p,c,rfl,_,_,hf⟩:=xS h
  obtain ⟨g,rfl,_⟩:=hf h0;refine (yN4 g l.length c B l rfl h0 hl w h).mono ?_;rintro e w' ⟨m,h1,h2,h3,h4⟩;refine ⟨_,h1,?_,h4,rfl⟩;show World.ownsRow _ _ _ _ _ (l.filter Plain.live).length _;rw [h2];exact h3
 ·obtain rfl:l=[]:=zP.1 (by omega)
  obtain ⟨p,c,e,_,_,_⟩:=xS h;obtain ⟨r,hr⟩:=Plain.qA4 Plain.zJ0 [];have er:r=-1:=by
   rcases hr with ⟨e,_⟩|⟨k,hk,_⟩
   ·exact e
   ·simp at hk
  subst er;have KI:=zF4 p 0 c [] w rfl (by omega) (-1) hr (fun h=>by omega);have e':v=.slice p 0 c:=e;have H:=hid h;subst e';clear h hr;go_enter Tryz.func139,Tryz.ntmps139
  go_wp2_with fail
  refine KI.mono ?_;rintro e w1 ⟨rfl,b1⟩;go_wp2;go_ret
  exact ⟨_,rfl,qN H.out b1,xR b1,rfl⟩
theorem BrI.snoc {ZZ:Nat->Prop} {R oo:Nat} {XX:Win} {W:World} {vo:Value} {f u m:Int} {l:List Plain.Pt} (h:BrI ZZ R oo XX W vo f u m l) (hb:l.length<=1000) (x:Plain.Pt) :
  ∃ p c U,(Builtin.append_ #[110,110] 110 #[vo,.slice (some ⟨W.heap.size,0,none⟩) 1 1]).run Tryz.prog (W.alloc (boxP x)).drew=.ok (.slice p (l.length+1) c) U /\
   U.cell? ⟨R,oo+2,none⟩=some vo/\U.frozen? ⟨R,oo+2,none⟩=false/\BrI ZZ R oo XX (U.setCell ⟨R,oo+2,none⟩ (.slice p (l.length+1) c)) (.slice p (l.length+1) c) f u m (l++[x])/\Kp ZZ R W (U.setCell ⟨R,oo+2,none⟩ (.slice p (l.length+1) c)):=by
 obtain ⟨j0,ji,jz0,jz1,jz2⟩:=info_parts Tryz.infoPart;have bel:Below W.heap.size W (W.alloc (boxP x)).drew:=(yO.alloc yN _).drew;have h1:=h.grow bel;have hone:encP.Holds (W.alloc (boxP x)).drew (some ⟨W.heap.size,0,none⟩) [x]:=Enc.Holds.drew (Enc.one_holds (E:=encP) W x 166) 1;obtain ⟨v',U,e1,e2,e3,e4⟩:=Enc.appW (E:=encP) (m:=1) (c:=1) Tryz.underlying110 ji jz0 jz1 jz2 rfl h1.ow hone rfl (fun e=>by cases e) (by omega) (by omega) (zG _);obtain ⟨p,c,rfl,_⟩:=Enc.owns e2 (by simp);have rowU:U.rowIs R XX.t XX.n (XX.f oo 4 (brF f u vo m)):=h1.row.of_block (e3.block _ h1.row.lt (fun e=>h1.nown e.symm));refine ⟨p,c,U,e1,Win.cell rowU h.le (i:=2) (by omega),rowU.frozen (oo+2),h.put rowU ?_ (fun g hg=>(e4 g hg).elim (h1.own g) (fun e=>h1.up g (by omega))) (zI bel.size e3.size),(Kp.of_below bel).trans ((Kp.grown h1.own e3).trans (Kp.setR _ _))⟩;show World.ownsRow _ _ _ _ _ (l++[x]).length _;rw [zD];exact e2
namespace Plain
def hldE (f c life:Int) (n:Nat):Nat:=if life<1\/20<life then 2 else if n=4 then 8 else if f<c then 9 else 0
end Plain
theorem xP6 (ZZ:Nat->Prop) (R oo:Nat) (XX:Win) (vo:Value) (f u m c life:Int) (l:List Plain.Pt) (hf:0<=f/\f<=1048576) (hm:0<=m/\m<=1000) (hc:1<=c/\c<=1048576) (hb:l.length<=1000) (w:World) (h:BrI ZZ R oo XX w vo f u m l) :
  Calls Tryz.prog 117 #[.pointer (some ⟨R,oo,none⟩),.int .i64 c,.int .i64 life] w fun e w' =>
   e=.returned (.tuple #[.int .i64 (if Plain.hldE f c life l.length=0 then m+1 else 0),.int .i64 (Plain.hldE f c life l.length:Nat)]) /\
   (∃ vo',BrI ZZ R oo XX w' vo' (if Plain.hldE f c life l.length=0 then f-c else f) u (if Plain.hldE f c life l.length=0 then m+1 else m) (if Plain.hldE f c life l.length=0 then l++[⟨m+1,c,life⟩] else l))/\Kp ZZ R w w':=by
 obtain ⟨E,hE⟩:∃ E,E=Plain.hldE f c life l.length:=⟨_,rfl⟩;rw [<- hE];unfold Plain.hldE at hE;have KF:=fun W=>qO life 20 W;obtain ⟨f1,f2⟩:=hf;obtain ⟨m1,m2⟩:=hm;obtain ⟨c1,c2⟩:=hc;have HB:=hid h;by_cases hl:life<1\/20<life
 ·rw [if_pos hl] at hE
  subst hE;have e:(decide (1<=life)&&decide (life<=20))=false:=by
   rcases hl with x|x
   ·have:¬ 1<=life:=by omega
    simp [this]
   ·have:¬ life<=20:=by omega
    simp [this]
  rw [e] at KF;clear e hl h;go_enter Tryz.func117,Tryz.ntmps117
  go_wp2_with (go_at_call 114;refine (KF _).mono ?_;rintro e w' ⟨rfl,rfl⟩)
  go_ret2
  exact ⟨rfl,⟨vo,HB.out⟩,Kp.refl _ _ _⟩
 rw [if_neg hl] at hE;have e:(decide (1<=life)&&decide (life<=20))=true:=by
  have h1:1<=life:=by omega
  have h2:life<=20:=by omega
  simp [h1,h2]
 rw [e] at KF;obtain ⟨p0,cp,evo,_⟩:=xS h.ow;have r2:=h.c2;have r0:=h.c0;have r3:=h.c3;have z0:=h.row.frozen oo;have z3:=h.row.frozen (oo+3);rw [evo] at r2;have HEV:=hid evo;clear e hl h evo;obtain ⟨n,hn⟩:∃ n,n=l.length:=⟨_,rfl⟩;rw [<- hn] at hE r2 HEV hb;have HN:=hid hn;clear hn;by_cases h4:n=4
 ·rw [if_pos h4] at hE
  subst hE;have b4:((n:Int)==4)=true:=by rw [beq_iff_eq];omega
  go_enter Tryz.func117,Tryz.ntmps117
  go_wp2_with (go_at_call 114;refine (KF _).mono ?_;rintro e w' ⟨rfl,rfl⟩)
  go_ret2
  exact ⟨rfl,⟨vo,HB.out⟩,Kp.refl _ _ _⟩
 rw [if_neg h4] at hE;have b4:((n:Int)==4)=false:=by rw [beq_eq_false_iff_ne];omega
 by_cases hlt:f<c
 ·rw [if_pos hlt] at hE
  subst hE;go_enter Tryz.func117,Tryz.ntmps117
  go_wp2_with (go_at_call 114;refine (KF _).mono ?_;rintro e w' ⟨rfl,rfl⟩)
  go_ret2
  exact ⟨rfl,⟨vo,HB.out⟩,Kp.refl _ _ _⟩
 rw [if_neg hlt] at hE;subst hE;have H1:=hid ((HB.out.made (m+1)).free (f-c));have K1:=hid ((Kp.setR (ZZ:=ZZ) (R:=R) (w:=w) (oo+3) (.int .i64 (m+1))).trans (Kp.setR (ZZ:=ZZ) (R:=R) oo (.int .i64 (f-c))));obtain ⟨W,hW⟩:∃ W,W=(w.setCell ⟨R,oo+3,none⟩ (.int .i64 (m+1))).setCell ⟨R,oo,none⟩ (.int .i64 (f-c)):=⟨_,rfl⟩;rw [<- hW] at H1 K1;clear HB;go_enter Tryz.func117,Tryz.ntmps117
 go_wp2_with (go_at_call 114;refine (KF _).mono ?_;rintro e w' ⟨rfl,rfl⟩)
 rw [<- hW];clear hW r0 r2 r3 z0 z3 KF b4;have r2:=H1.out.c2;have r3:=H1.out.c3;rw [HEV.out] at r2;obtain ⟨p',c',U,hrun,u2,uf,B4,K4⟩:=H1.out.snoc (by rw [<- HN.out];exact hb) ⟨m+1,c,life⟩;rw [<- HN.out,HEV.out] at hrun;rw [HEV.out] at u2;rw [<- HN.out] at B4 K4;have R4:=hid hrun;have Q4:=hid B4;have QK:=hid (K1.out.trans K4);clear hrun B4 K4 H1 K1 HEV;have r2a:(W.alloc (boxP ⟨m+1,c,life⟩)).cell? ⟨R,oo+2,none⟩=some (.slice p0 n cp):=by rw [yJ _ _ _ (zC (w:=W) (h:=r2))];exact r2
 go_region_law (refine zF5 _ _ 110 rfl 110 rfl (.slice p0 n cp) (.slice (some ⟨W.heap.size,0,none⟩) 1 1) (by simp [Act.eval]) (by simp [Act.eval]) R4.out (by rfl) ?_)
 all_goals
  obtain ⟨W4,hW4⟩:∃ W4,W4=U.setCell ⟨R,oo+2,none⟩ (.slice p' (n+1) c'):=⟨_,rfl⟩;rw [<- hW4] at Q4 QK ⊢;clear hW4 r2 r2a r3 u2 uf R4;have r3:=Q4.out.c3;go_wp2;go_ret2
  exact ⟨rfl,⟨_,Q4.out⟩,QK.out⟩
abbrev boxI (i:Int):Obj:=.cells #[.int .i64 i] 3
theorem zJ1 {i m:Int} (h:i<1\/m<i):(decide (1<=i)&&decide (i<=m))=false:=by
 rcases h with x|x
 ·have:¬ 1<=i:=by omega
  simp [this]
 ·have:¬ i<=m:=by omega
  simp [this]
theorem qU {i m:Int} (h:¬ (i<1\/m<i)):(decide (1<=i)&&decide (i<=m))=true:=by
 have h1:1<=i:=by omega
 have h2:i<=m:=by omega
 simp [h1,h2]
theorem yC9 (ZZ:Nat->Prop) (R oo:Nat) (XX:Win) (vo:Value) (f u m i:Int) (l:List Plain.Pt) (hi:i<1\/m<i) (w:World) (h:BrI ZZ R oo XX w vo f u m l) :
  Calls Tryz.prog 118 #[.pointer (some ⟨R,oo,none⟩),.int .i64 i] w fun e w'=>e=.returned (.tuple #[.int .i64 0,.int .i64 6])/\BrI ZZ R oo XX w' vo f u m l/\Kp ZZ R w w':=by
 obtain ⟨W,hW⟩:∃ W,W=w.alloc (boxI i):=⟨_,rfl⟩;have bel:Below w.heap.size w W:=by rw [hW];exact yO.alloc yN _
 have HB:=hid (h.grow bel);have HK:=hid (Kp.of_below (ZZ:=ZZ) (R:=R) bel);have KF:=fun q=>qO i m (W.drewN q);rw [zJ1 hi] at KF;have r3:=HB.out.c3;have x0:W.cell? ⟨w.heap.size,0,none⟩=some (.int .i64 i):=by rw [hW,zM _ _ _ _ rfl];rfl
 clear h bel hi;go_enter Tryz.func118,Tryz.ntmps118
 go_wp2;rw [<- hW];clear hW
 go_quiet ((go_at_call 114;exact Calls.quiet_of_same (KF _)))
 go_wp2;go_ret2
 exact ⟨rfl,HB.out.drewN _,HK.out.trans (Kp.of_below (below_drewN yO _))⟩
theorem yN5 (ZZ:Nat->Prop) (R oo:Nat) (XX:Win) (vo:Value) (f u m i:Int) (l:List Plain.Pt) (hb:l.length<=1000) (hi:¬ (i<1\/m<i)) (hl:∀ p,p∈l->p.id≠i) (w:World) (h:BrI ZZ R oo XX w vo f u m l) :
  Calls Tryz.prog 118 #[.pointer (some ⟨R,oo,none⟩),.int .i64 i] w fun e w'=>e=.returned (.tuple #[.int .i64 0,.int .i64 10])/\BrI ZZ R oo XX w' vo f u m l/\Kp ZZ R w w':=by
 have hmf:∀ (fn:Fn) (first cap:Array Value) (w:World),(Instr.makeFunc fn first cap).run Tryz.prog w=.ok (.func fn first cap) w:=fun _ _ _ _=>rfl;obtain ⟨W,hW⟩:∃ W,W=w.alloc (boxI i):=⟨_,rfl⟩;have bel:Below w.heap.size w W:=by rw [hW];exact yO.alloc yN _
 have HB:=hid (h.grow bel);have HK:=hid (Kp.of_below (ZZ:=ZZ) (R:=R) bel);have KF:=fun q=>qO i m (W.drewN q);rw [qU hi] at KF;have hlt:w.heap.size<W.heap.size:=by rw [hW];simp
 have x0:W.cell? ⟨w.heap.size,0,none⟩=some (.int .i64 i):=by rw [hW,zM _ _ _ _ rfl];rfl
 obtain ⟨p0,cp,evo,_,_,hf⟩:=xS HB.out.ow;have hr:Plain.Found (Plain.isNamed i) l (-1):=.inl ⟨rfl,fun j hj=>by
  unfold Plain.isNamed;rw [beq_eq_false_iff_ne];exact hl _ (by rw [Plain.zF6 l j hj];exact zH _)⟩
 have KI:=fun q=>zD1 i w.heap.size p0 l.length cp l (W.drewN q) rfl hb hlt (by simpa using x0) (-1) hr (fun h0=>by
  obtain ⟨g,e,_,hg,hc,_⟩:=hf h0;exact ⟨g,0,e,hg,fun j hj=>by
   obtain ⟨a1,a2,a3⟩:=hc j hj;rw [Nat.zero_add];exact ⟨by simpa using a1,by simpa using a2,by simpa using a3⟩⟩)
 have r3:=HB.out.c3;have r2:=HB.out.c2;rw [evo] at r2;clear h bel hi hl hr hf evo;generalize l.length=n at *;go_enter Tryz.func118,Tryz.ntmps118
 go_wp2;rw [<- hW];clear hW
 go_quiet ((go_at_call 114;exact Calls.quiet_of_same (KF _)))
 have K1:=KI nq;obtain ⟨W2,hW2⟩:∃ W2,W2=W.drewN nq:=⟨_,rfl⟩;rw [<- hW2] at K1 ⊢;have r2':W2.cell? ⟨R,oo+2,none⟩=some (.slice p0 n cp):=by rw [hW2];simpa using r2
 have HB2:=hid (show BrI ZZ R oo XX W2 vo f u m l by rw [hW2];exact HB.out.drewN _);have HK2:=hid (show Kp ZZ R w W2 by rw [hW2];exact HK.out.trans (Kp.of_below (below_drewN yO _)));clear hW2 r2 r3 x0 KF KI HB HK
 go_wp2_with fail
 refine K1.mono ?_;rintro e W3 ⟨rfl,b3⟩;have HB3:=hid (HB2.out.grow b3);have HK3:=hid (HK2.out.trans (Kp.of_below b3));clear K1 b3 r2' HB2 HK2;go_wp2;go_ret2
 exact ⟨rfl,HB3.out,HK3.out⟩
theorem xM9 (ZZ:Nat->Prop) (R oo:Nat) (XX:Win) (vo:Value) (f u m i:Int) (l:List Plain.Pt) (k:Nat) (hb:l.length<=1000) (hi:¬ (i<1\/m<i)) (hk:k<l.length) (hid0:(l.getD k default).id=i) (hl:∀ j,j<k->(l.getD j default).id≠i) (w:World) (h:BrI ZZ R oo XX w vo f u m l) :
  Calls Tryz.prog 118 #[.pointer (some ⟨R,oo,none⟩),.int .i64 i] w fun e w'=>e=.returned (.tuple #[.int .i64 (l.getD k default).count,.int .i64 0])/\(∃ vo',BrI ZZ R oo XX w' vo' f u m (l.eraseIdx k))/\Kp ZZ R w w':=by
 obtain ⟨y,hy⟩:∃ y,y=(l.getD k default).count:=⟨_,rfl⟩;rw [<- hy];have HY:=hid hy;clear hy;have hmf:∀ (fn:Fn) (first cap:Array Value) (w:World),(Instr.makeFunc fn first cap).run Tryz.prog w=.ok (.func fn first cap) w:=fun _ _ _ _=>rfl;obtain ⟨W,hW⟩:∃ W,W=w.alloc (boxI i):=⟨_,rfl⟩;have bel:Below w.heap.size w W:=by rw [hW];exact yO.alloc yN _
 have HB:=hid (h.grow bel);have HK:=hid (Kp.of_below (ZZ:=ZZ) (R:=R) bel);have KF:=fun q=>qO i m (W.drewN q);rw [qU hi] at KF;have hlt:w.heap.size<W.heap.size:=by rw [hW];simp
 have x0:W.cell? ⟨w.heap.size,0,none⟩=some (.int .i64 i):=by rw [hW,zM _ _ _ _ rfl];rfl
 obtain ⟨p0,cp,evo,_,_,hf⟩:=xS HB.out.ow;obtain ⟨g,rfl,hge,hg,hc,_⟩:=hf (by omega);have hr:Plain.Found (Plain.isNamed i) l k:=.inr ⟨k,hk,rfl,by unfold Plain.isNamed;rw [beq_iff_eq];exact hid0,fun j hj=>by
  unfold Plain.isNamed;rw [beq_eq_false_iff_ne];exact hl j hj⟩
 have KI:=fun q=>zD1 i w.heap.size (some ⟨g,0,none⟩) l.length cp l (W.drewN q) rfl hb hlt (by simpa using x0) k hr (fun h0 =>
  ⟨g,0,rfl,hg,fun j hj=>by
   obtain ⟨a1,a2,a3⟩:=hc j hj;rw [Nat.zero_add];exact ⟨by simpa using a1,by simpa using a2,by simpa using a3⟩⟩)
 have r3:=HB.out.c3;have r2:=HB.out.c2;rw [evo] at r2;subst evo;clear h bel hi hl hr hf hc hid0;obtain ⟨n,hn⟩:∃ n,n+1=l.length:=⟨l.length-1,by omega⟩;obtain ⟨N,hN⟩:∃ N,N=l.length:=⟨_,rfl⟩;have HN:=hid hN;have HN1:=hid (show N=n+1 by rw [hN,hn]);rw [<- hN] at HB KI r2 hb hk;clear hN hn;obtain ⟨J,hJ⟩:∃ J,J=k+1:=⟨_,rfl⟩;have HJ:=hid hJ;have hkz:(k:Int)+1=(J:Int):=by omega
 clear hJ;have hkN:(k:Int)<(N:Int):=by omega
 have hk0:¬ (k:Int)<0:=by omega
 go_enter Tryz.func118,Tryz.ntmps118
 go_wp2;rw [<- hW];clear hW
 go_quiet ((go_at_call 114;exact Calls.quiet_of_same (KF _)))
 have K1:=KI nq;obtain ⟨W2,hW2⟩:∃ W2,W2=W.drewN nq:=⟨_,rfl⟩;rw [<- hW2] at K1 ⊢;have r2':W2.cell? ⟨R,oo+2,none⟩=some (.slice (some ⟨g,0,none⟩) N cp):=by rw [hW2];simpa using r2
 have HB2:=hid (show BrI ZZ R oo XX W2 (.slice (some ⟨g,0,none⟩) N cp) f u m l by rw [hW2];exact HB.out.drewN _);have HK2:=hid (show Kp ZZ R w W2 by rw [hW2];exact HK.out.trans (Kp.of_below (below_drewN yO _)));clear hW2 r2 r3 x0 KF KI HB HK
 go_wp2_with fail
 refine K1.mono ?_;rintro e W3 ⟨rfl,b3⟩;have HB3:=hid (HB2.out.grow b3);have HK3:=hid (HK2.out.trans (Kp.of_below b3));clear K1 b3 r2' HB2 HK2;have r2:=HB3.out.c2;have hcc:=xS HB3.out.ow;obtain ⟨p',c',e',_,_,hf'⟩:=hcc;obtain ⟨g',e'',_,_,hc',_⟩:=hf' (by rw [<- HN.out];omega);rw [e''] at e';simp only [Value.slice.injEq,Option.some.injEq,Addr.mk.injEq,and_true] at e';obtain ⟨rfl,en1,en2⟩:=e';obtain ⟨x0,x1,x2⟩:=hc' k (by rw [<- HN.out];exact hk);clear hf' hc' e'' en1 en2 x0 x2;have KD:=xB6 g n N cp 0 k J l HN1.out HJ.out HN.out.symm (by have:=HN1.out;omega) W3 HB3.out.ow;rw [<- HY.out] at x1
 go_wp2_with fail
 refine KD.mono ?_;rintro e W4 ⟨rfl,o4,g4⟩;have rowU:W4.rowIs R XX.t XX.n (XX.f oo 4 (brF f u (.slice (some ⟨g,0,none⟩) N cp) m)):=HB3.out.row.of_block (g4.block _ HB3.out.row.lt (fun e=>HB3.out.nown e.symm));have u2:=Win.cell rowU HB3.out.le (i:=2) (by omega);have uf:=rowU.frozen (oo+2);have Q4:=hid (HB3.out.put rowU o4 (fun x hx=>HB3.out.own x (by simpa [Value.ownBlock] using hx)) g4.size);have QK:=hid (HK3.out.trans ((Kp.grown HB3.out.own g4).trans (Kp.setR (ZZ:=ZZ) (R:=R) (oo+2) (.slice (some ⟨g,0,none⟩) n cp))));clear KD o4 g4 rowU HB3 HK3 r2 x1;go_wp2;go_ret2
 exact ⟨rfl,⟨_,Q4.out⟩,QK.out⟩
end Go.Proofs.YtleaknfjbbccgaaGreatDoor.Hd
