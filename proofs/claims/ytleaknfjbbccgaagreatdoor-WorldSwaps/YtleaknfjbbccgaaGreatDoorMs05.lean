/- Laid together. -/
import Derived.Deep.LoopGhost
import Derived.Laws.OwnMore
import Derived.OneCell
import Derived.Shelf.Abstract
import Derived.Maps.AppendAt
import Derived.Deep.RegionLaw
import Derived.Shelf.SlSortCmp.QuietGrown
import Derived.WalkKit
import Derived.Test.YtleaknfjbbccgaaGreatDoorRows
import Derived.Deep.QuietTactic
import Derived.BigQuiet
import Derived.Maps.OwnSet
import Derived.Maps.Views
import Derived.WideKeyPair
import Derived.DeepKeys4
import Derived.Lib.SliceRun
import Derived.Deep.RegionHeld3
import Derived.Deep.RegionWith
import Derived.Deep.DeepCutAuto
import Derived.Deep.CutBlock
import Derived.Test.YtleaknfjbbccgaaGreatDoorMs00
import Derived.Test.YtleaknfjbbccgaaGreatDoorMs03
import Derived.Test.YtleaknfjbbccgaaGreatDoorMs04
namespace Go.Proofs.YtleaknfjbbccgaaGreatDoor.Se
set_option maxHeartbeats 16000000
set_option maxRecDepth 100000
open Go.RowKit Go.Shelf Go.Sort
theorem qN {w w':World} {B e s n:Nat} {v:Value} {xs:List Value} (h:w.ownsRow B e s v n xs) (g:Below w.heap.size w w'):w'.ownsRow B e s v n xs :=
 h.kept (row:=none) ⟨g.os,g.tape,g.output,g.size,fun k hk _=>g.block k hk⟩ (by cases hv:v.ownBlock<;>simp)
theorem xW {w:World} {b t n B e s m:Nat} {f:Nat->Value} {v:Value} {xs:List Value} (h:w.rowIs b t n f) (o:w.ownsRow B e s v m xs) (hne:t≠e):v.ownBlock≠some b:=by
 intro e1;obtain ⟨c,hc,_⟩:=h;rcases o.2 with ⟨rfl,_⟩|⟨g,cap,cur,rfl,_,hg,_⟩
 ·simp [Value.ownBlock] at e1
 ·simp only [Value.ownBlock,Option.some.injEq] at e1
  subst e1;rw [hc] at hg;simp at hg;exact hne hg.2
theorem below_drewN {B:Nat} {w w':World} (h:Below B w w') (q:Nat):Below B w (w'.drewN q):=⟨h.os,h.tape,h.output,h.size,h.block⟩
theorem zB8 {w w':World} {B e s n:Nat} {v:Value} {xs:List Value} (h:w.ownsRow B e s v n xs) (hb:∀ b,v.ownBlock=some b->w'.heap[b]?=w.heap[b]?):w'.ownsRow B e s v n xs:=by
 rcases h.2 with ⟨rfl,h0⟩|⟨g,cap,cur,rfl,hg,hblk,rest⟩
 ·exact ⟨h.1,.inl ⟨rfl,h0⟩⟩
 ·exact ⟨h.1,.inr ⟨g,cap,cur,rfl,hg,(hb g rfl).trans hblk,rest⟩⟩
theorem xR9 {W1 U:World} {B e s n:Nat} {v:Value} {xs:List Value} {b t m:Nat} {f:Nat->Value} (h:W1.rowIs b t m f) (ho:W1.ownsRow B e s v n xs) (hne:t≠e) (g:W1.grownBy U v.ownBlock):U.rowIs b t m f :=
 h.of_block (g.block _ h.lt (fun x=>xW h ho hne x.symm))
namespace Plain
structure Le where
 kind:Int
 frm:Int
 «to»:Int
 id:Int
 data:List Int
 deriving DecidableEq,Inhabited
structure Od where
 code:Nat
 id:Int
 size:Int
 data:List Int
 deriving DecidableEq,Inhabited
structure Po where
 frm:Int
 «to»:Int
 data:List Int
 deriving DecidableEq,Inhabited
structure Off where
 posted:List Po
 opened:List Nat
 deriving DecidableEq,Inhabited
def Off.nil:Off:=⟨[],[]⟩
def Off.at (o:Off) (k:Nat):Po:=o.posted.getD k default
def oldO (o:Off) (i:Nat):Bool:=o.opened.any fun k=>decide (i<=k/\(o.at k).frm=(o.at i).frm/\(o.at k).to=(o.at i).to)
def leE (o:Off) (x:Le):Nat :=
 if x.kind≠1/\x.kind≠2 then 3
 else if (x.to<0\/8<x.to)\/(x.kind=1/\(x.frm<0\/8<x.frm)) then 2
 else if x.kind=1 then (if 256<x.data.length then 1 else 0)
 else if x.id<0\/(o.posted.length:Int)<=x.id then 6
 else if (o.at x.id.toNat).to≠x.to then 11
 else if oldO o x.id.toNat=true then 10 else 0
def leS (o:Off) (x:Le):Off :=
 if leE o x≠0 then o
 else if x.kind=1 then { o with posted:=o.posted++[⟨x.frm,x.to,x.data⟩] }
 else { o with opened:=o.opened++[x.id.toNat] }
def leT (o:Off) (x:Le):Od :=
 if leE o x≠0 then ⟨leE o x,0,0,[]⟩
 else if x.kind=1 then ⟨0,o.posted.length,x.data.length,[]⟩
 else ⟨0,x.id,(o.at x.id.toNat).data.length,(o.at x.id.toNat).data⟩
theorem qC5 (o:Off) (x:Po) (k:Nat) (h:k<o.posted.length):(o.posted++[x]).getD k default=o.at k:=by
 unfold Off.at
 rw [zA,zA,zX h]
/-! ### What others' letters hold does not matter -/
/-! ### What others open does not matter -/
/-! ### A letter is opened once -/
end Plain
namespace Plain
def vR (q:Nat->Bool):List Nat->Nat
 | []=>0
 | k :: l=>if q k then max (k+1) (vR q l) else vR q l
def wayB (o:Off) (f t:Int) (k:Nat):Bool:=decide ((o.at k).frm=f/\(o.at k).to=t)
def zY8 (o:Off) (f t:Int):Nat:=vR (wayB o f t) o.opened
theorem xE1 (q:Nat->Bool) (l:List Nat) (i:Nat):i<vR q l ↔ ∃ k,k∈l/\q k=true/\i<=k:=by
 induction l with
 | nil=>simp [vR]
 | cons k l ih =>
  unfold vR;by_cases h:q k=true
  ·rw [if_pos h]
   constructor
   ·intro hlt
    by_cases h1:i<=k
    ·exact ⟨k,yD,h,h1⟩
    ·obtain ⟨k',a,b,c⟩:=ih.1 (by omega)
     exact ⟨k',yC _ a,b,c⟩
   ·rintro ⟨k',a,b,c⟩
    rcases List.mem_cons.1 a with e|e
    ·subst e;omega
    ·have:=ih.2 ⟨k',e,b,c⟩
     omega
  ·rw [if_neg h,ih]
   constructor
   ·rintro ⟨k',a,b,c⟩
    exact ⟨k',yC _ a,b,c⟩
   ·rintro ⟨k',a,b,c⟩
    rcases List.mem_cons.1 a with e|e
    ·subst e;exact absurd b h
    ·exact ⟨k',e,b,c⟩
theorem yJ5 (q:Nat->Bool) (l:List Nat) (i:Nat):vR q (l++[i])=if q i then max (i+1) (vR q l) else vR q l:=by
 induction l with
 | nil=>simp [vR]
 | cons k l ih =>
  rw [List.cons_append];simp only [vR,ih];by_cases h1:q k=true<;>by_cases h2:q i=true<;>simp only [h1,h2,if_true,if_false,Bool.false_eq_true]<;>omega
theorem zY9 {q r:Nat->Bool} {l:List Nat} (h:∀ k,k∈l->q k=r k):vR q l=vR r l:=by
 induction l with
 | nil=>rfl
 | cons k l ih =>
  unfold vR;rw [h k yD,ih fun k' hk=>h k' (yC _ hk)]
theorem xE2 (o:Off) (i:Nat):oldO o i=decide (i<zY8 o (o.at i).frm (o.at i).to):=by
 rw [yM,decide_eq_true_iff];unfold zY8;rw [xE1];unfold oldO;rw [List.any_eq_true];constructor
 ·rintro ⟨k,a,b⟩
  rw [decide_eq_true_iff] at b;exact ⟨k,a,by unfold wayB;rw [decide_eq_true_iff];exact b.2,b.1⟩
 ·rintro ⟨k,a,b,c⟩
  unfold wayB at b;rw [decide_eq_true_iff] at b;exact ⟨k,a,by rw [decide_eq_true_iff];exact ⟨c,b⟩⟩
structure Good (o:Off):Prop where
 op:∀ k,k∈o.opened->k<o.posted.length
 fr:∀ y,y∈o.posted->0<=y.frm/\y.frm<=8
 «to»:∀ y,y∈o.posted->0<=y.to/\y.to<=8
 sz:∀ y,y∈o.posted->y.data.length<=256
theorem Good.nil:Good Off.nil:=⟨fun _ h=>(nomatch h),fun _ h=>(nomatch h),fun _ h=>(nomatch h),fun _ h=>(nomatch h)⟩
theorem Good.at {o:Off} (h:Good o) {k:Nat} (hk:k<o.posted.length):(0<=(o.at k).frm/\(o.at k).frm<=8)/\(0<=(o.at k).to/\(o.at k).to<=8)/\(o.at k).data.length<=256:=by
 have m:o.at k∈o.posted:=by
  unfold Off.at
  rw [zA,zB hk];exact zH _
 exact ⟨h.fr _ m,h.to _ m,h.sz _ m⟩
theorem qC6 {o:Off} (h:Good o) (y:Po) (f t:Int):zY8 { o with posted:=o.posted++[y] } f t=zY8 o f t:=by
 refine zY9 fun k hk=>?_;have:=qC5 o y k (h.op k hk);unfold wayB;show decide ((Off.at { o with posted:=o.posted++[y] } k).frm=f/\(Off.at { o with posted:=o.posted++[y] } k).to=t)=_;unfold Off.at at this ⊢;rw [this]
theorem qC7 {o:Off} {i:Nat} (hold:oldO o i=false) (f t:Int):zY8 { o with opened:=o.opened++[i] } f t=if (o.at i).frm=f/\(o.at i).to=t then i+1 else zY8 o f t:=by
 show vR (wayB o f t) (o.opened++[i])=_;rw [yJ5];rw [xE2,decide_eq_false_iff_not] at hold;unfold wayB;by_cases h:(o.at i).frm=f/\(o.at i).to=t
 ·rw [if_pos h,if_pos (decide_eq_true h)]
  obtain ⟨rfl,rfl⟩:=h;unfold zY8 wayB at hold;omega
 ·rw [if_neg h,if_neg (by rw [decide_eq_true_iff];exact h)]
  rfl
end Plain
theorem Tryz.infoByte:(Tryz.prog.info? 5).map (fun i=>(i.zero,i.size,i.bytes))=some (some (.int .u8 0),1,1):=by kernel_rfl
def encB:Enc Int:=⟨1,fun x=>[.int .u8 x],fun _=>rfl,fun a u hu=>by
 simp only [List.mem_cons,List.not_mem_nil,or_false] at hu;subst hu;rfl,by decide⟩
theorem xS0 {l:List Int} {j:Nat} (h:j<l.length):(encB.vals l)[j]?=some (.int .u8 (l.getD j 0)):=by
 have:=encB.vals_at 0 l j 0 h (by decide);rw [show j*encB.n+0=j by show j*1+0=j;omega] at this;rw [this];rfl
structure By (B:Nat) (w:World) (p:Option Addr) (c:Nat) (l:List Int):Prop where
 le:l.length<=c
 cm:c<=9223372036854775807
 nl:p=none->c=0
 cl:0<l.length->∃ b off,p=some ⟨b,off,none⟩/\b<w.heap.size/\(b<B\/∃ cs fr,w.heap[b]?=some (.cells cs 5 fr))/\∀ j,j<l.length->w.cell? ⟨b,off+j,none⟩=some (.int .u8 (l.getD j 0))
structure Kb (B:Nat) (w w':World):Prop where
 os:w'.os=w.os
 tape:w'.tape=w.tape
 output:w'.output=w.output
 size:w.heap.size<=w'.heap.size
 block:∀ k,k<w.heap.size->(k<B\/∃ cs fr,w.heap[k]?=some (.cells cs 5 fr))->w'.heap[k]?=w.heap[k]?
namespace Kb
variable {B:Nat} {w w' w'':World}
theorem of_below (h:Below w.heap.size w w'):Kb B w w':=⟨h.os,h.tape,h.output,h.size,fun k hk _=>h.block k hk⟩
end Kb
namespace By
variable {B:Nat} {w w':World} {p:Option Addr} {c:Nat} {l:List Int}
theorem keep (h:By B w p c l) (g:Kb B w w'):By B w' p c l:=⟨h.le,h.cm,h.nl,fun h0=>by
 obtain ⟨b,off,rfl,hb,hk,hc⟩:=h.cl h0;have e:=g.block b hb hk;refine ⟨b,off,rfl,zF hb g.size,?_,fun j hj=>?_⟩
 ·rcases hk with x|⟨cs,fr,x⟩
  ·exact .inl x
  ·exact .inr ⟨cs,fr,e.trans x⟩
 ·rw [<- hc j hj]
  simp only [World.cell?,e]⟩
theorem grow (h:By B w p c l) (g:Below w.heap.size w w'):By B w' p c l:=h.keep (Kb.of_below g)
theorem nil (B:Nat) (w:World):By B w none 0 []:=⟨yN,by omega,fun _=>rfl,fun h=>by simp at h⟩
theorem of_owns {B' n:Nat} {v:Value} (h:w.ownsRow B' 5 1 v n (encB.vals l)) (hn:l.length=n):∃ p c,v=.slice p n c/\By B w p c l:=by
 subst hn;rcases h.2 with ⟨rfl,h0⟩|⟨g,c,cur,rfl,hg,hb,h1,h2,h3,h4⟩
 ·have:l=[]:=zP.1 h0
  subst this;exact ⟨none,0,rfl,By.nil _ _⟩
 ·refine ⟨_,c,rfl,h1,h2,(fun e=>by cases e),fun h0=>⟨g,0,rfl,(zJ.1 hb).1,.inr ⟨_,_,hb⟩,fun j hj=>?_⟩⟩
  have:=h.cells rfl j _ (xS0 hj);rw [jS] at this;exact this
end By
structure RD where
 d:Plain.Od
 p:Option Addr
 c:Nat
 deriving Inhabited
structure RP where
 y:Plain.Po
 p:Option Addr
 c:Nat
 deriving Inhabited
abbrev aggD (r:RD):Value:=.agg #[.int .i64 (r.d.code:Nat),.int .i64 r.d.id,.int .i64 r.d.size,.slice r.p r.d.data.length r.c]
theorem kY {α:Type} (l:List α) (d:α) {k:Nat} (h:k<l.length):l.getD k d∈l:=by
 rw [zA,zB h];exact zH _
theorem getD_map {α β:Type} (f:α->β) (l:List α) (d:α) (e:β) {k:Nat} (h:k<l.length):(l.map f).getD k e=f (l.getD k d):=by
 rw [zA,zV,zA,zB h];rfl
open Go.WideMaps Go.Maps
def encP:Enc RP:=⟨3,fun r=>[.int .i64 r.y.frm,.int .i64 r.y.to,.slice r.p r.y.data.length r.c],fun _=>rfl,fun a u hu=>by
 simp only [List.mem_cons,List.not_mem_nil,or_false] at hu;rcases hu with rfl|rfl|rfl<;>rfl,by decide⟩
theorem Tryz.laidOut':laidOutB Tryz.prog=true:=by kernel_rfl
theorem Tryz.cellsK:Tryz.prog.cellsOf 178=2:=by kernel_rfl
theorem Tryz.arrK:ArrKey Tryz.prog 178 3 2:=⟨Tryz.underlying178,by kernel_rfl,by kernel_rfl,Tryz.cellsK⟩
theorem Tryz.rowK:(178:TypeId)<Tryz.prog.types.size:=of_decide_eq_true (by kernel_rfl)
theorem Tryz.wideK:(match Tryz.prog.underlying 178 with|some (.array _ _)|some (.struct _)=>true|_=>false)=true:=by rw [Tryz.underlying178]
theorem Tryz.lawK:KeyLaw Tryz.prog 178:=deep_law_laid Tryz.laidOut' (m:=2) (by omega) Tryz.rowK (by kernel_rfl) Tryz.wideK
theorem Tryz.keyed:Keyed Tryz.prog 178:=Keyed.of_law Tryz.lawK
theorem Tryz.zeroInt (w:World):(zeroValue 3).run Tryz.prog w=.ok (.int .i64 0) w:=by kernel_rfl
theorem Tryz.someT:∃ m,Tryz.prog.types.size=m+1:=⟨_,(Nat.sub_add_cancel (Nat.lt_of_le_of_lt (zG _) Tryz.rowK)).symm⟩
abbrev keyV (f t:Int):Value:=.agg #[.int .i64 f,.int .i64 t]
def keyL (f t:Int):Lit:=.string (keyBytes [.int .i64 f,.int .i64 t])
theorem wf8 {a:Int} (h:0<=a/\a<=8):(Lit.int .i64 a).wf=true:=by
 have:a=0\/a=1\/a=2\/a=3\/a=4\/a=5\/a=6\/a=7\/a=8:=by omega
 rcases this with rfl|rfl|rfl|rfl|rfl|rfl|rfl|rfl|rfl<;>decide
theorem wfN {a:Nat} (h:a<=100000):(Lit.int .i64 (a:Int)).wf=true:=WalkArith.wf_i64 (by omega)
theorem jY {f t:Int} (hf:0<=f/\f<=8) (ht:0<=t/\t<=8):keyOf Tryz.prog 178 (keyV f t)=some (keyL f t) :=
 keyOf_pair Tryz.arrK Tryz.underlying3 Tryz.someT (wf8 hf) (wf8 ht)
theorem xS1 {f t f' t':Int} (hf:0<=f/\f<=8) (ht:0<=t/\t<=8) (hf':0<=f'/\f'<=8) (ht':0<=t'/\t'<=8) (h:¬ (f=f'/\t=t')):keyL f t≠keyL f' t':=fun e=>by
 have h1:=jY hf ht;have h2:=jY hf' ht';rw [<- e] at h2;have:=Tryz.keyed.inj h1 h2;simp at this;exact h this
def MapI (w:World) (M n:Nat) (g:Int->Int->Nat):Prop :=
 ∃ D:DataW Unit,w.ownsMap Tryz.prog 178 (plainElem Tryz.prog 3) M n D/\∀ f t,(0<=f/\f<=8)->(0<=t/\t<=8)->D.atKey (keyL f t) (.lit (.int .i64 0))=.lit (.int .i64 (g f t:Nat))
namespace MapI
variable {w w':World} {M n:Nat} {g:Int->Int->Nat}
theorem made (w:World):MapI (w.alloc (.map #[] 0)) w.heap.size 0 (fun _ _=>0) :=
 ⟨.map [],World.ownsMap_made w _ _ _,fun _ _ _ _=>rfl⟩
theorem mono (h:MapI w M n g) {n':Nat} (hn:n<=n'):MapI w M n' g:=by
 obtain ⟨D,h1,h2⟩:=h;exact ⟨D,h1.mono hn,h2⟩
theorem of_block (h:MapI w M n g) (e:w'.heap[M]?=w.heap[M]?):MapI w' M n g:=by
 obtain ⟨D,⟨es,ck,hb,r⟩,h2⟩:=h;exact ⟨D,⟨es,ck,e.trans hb,r⟩,h2⟩
theorem congr {g':Int->Int->Nat} (h:MapI w M n g) (e:∀ f t,g f t=g' f t):MapI w M n g':=by
 have:g=g':=funext fun f=>funext fun t=>e f t;rw [<- this];exact h
theorem is_map (h:MapI w M n g):∃ es ck,w.heap[M]?=some (.map es ck):=by
 obtain ⟨D,⟨es,ck,hb,r⟩,h2⟩:=h;exact ⟨es,ck,hb⟩
theorem look (h:MapI w M n g) {f t:Int} (hf:0<=f/\f<=8) (ht:0<=t/\t<=8):(Instr.lookup 79 (.map (some M)) (keyV f t) false).run Tryz.prog w=.ok (.int .i64 (g f t:Nat)) w:=by
 obtain ⟨D,h1,h2⟩:=h;obtain ⟨c,hrun,hat,_⟩:=h1.lookup_int Tryz.keyed Tryz.underlying79 Tryz.underlying3 (Tryz.zeroInt _) (jY hf ht);rw [h2 f t hf ht] at hat;simp at hat;rw [hrun,hat]
theorem put (h:MapI w M n g) (hn:n<=100000) {f t:Int} (hf:0<=f/\f<=8) (ht:0<=t/\t<=8) (x:Nat) (hx:x<=100000) :
  ∃ w',(Instr.mapUpdate 79 (.map (some M)) (keyV f t) (.int .i64 (x:Int))).run Tryz.prog w=.ok () w'/\MapI w' M (n+1) (fun a b=>if f=a/\t=b then x else g a b)/\w.grownBy w' (some M):=by
 obtain ⟨D,h1,h2⟩:=h;obtain ⟨w',hrun,ho,hg⟩:=h1.update Tryz.keyed Tryz.underlying79 (by unfold maxLen;omega) (jY hf ht) (plainElem_int Tryz.underlying3 (wfN hx));refine ⟨w',hrun,⟨_,ho,fun a b ha hb=>?_⟩,hg⟩;dsimp only;by_cases e:f=a/\t=b
 ·rw [if_pos e]
  obtain ⟨rfl,rfl⟩:=e;exact atKey_put_same h1.isMap (by trivial) _ _
 ·rw [if_neg e,atKey_put_other (xS1 ha hb hf ht (fun x=>e ⟨x.1.symm,x.2.symm⟩))]
  exact h2 a b ha hb
end MapI
def MapV (w:World) (vm:Value) (n:Nat) (g:Int->Int->Nat):Prop:=(vm=.map none/\∀ f t,g f t=0)\/∃ M,vm=.map (some M)/\MapI w M n g
theorem look_nil {w:World} {f t:Int} (hf:0<=f/\f<=8) (ht:0<=t/\t<=8):(Instr.lookup 79 (.map none) (keyV f t) false).run Tryz.prog w=.ok (.int .i64 0) w:=by
 have h1:=Tryz.keyed.check w true (jY hf ht);have h2:(Instr.findKey 178 (keyV f t) []).run Tryz.prog w=.ok none w:=by
  rcases Tryz.keyed.find w (jY hf ht) [] (fun e he=>nomatch he) with x|⟨j,e,_,hj,_⟩
  ·exact x.1
  ·simp at hj
 simp [Instr.lookup,run_underlying Tryz.underlying79,h1,h2]
namespace MapV
variable {w w':World} {vm:Value} {n:Nat} {g:Int->Int->Nat}
theorem mono (h:MapV w vm n g) {n':Nat} (hn:n<=n'):MapV w vm n' g:=h.imp id (fun ⟨M,e,x⟩=>⟨M,e,x.mono hn⟩)
theorem look (h:MapV w vm n g) {f t:Int} (hf:0<=f/\f<=8) (ht:0<=t/\t<=8):(Instr.lookup 79 vm (keyV f t) false).run Tryz.prog w=.ok (.int .i64 (g f t:Nat)) w:=by
 rcases h with ⟨rfl,h0⟩|⟨M,rfl,h⟩
 ·rw [look_nil hf ht,h0];rfl
 ·exact h.look hf ht
theorem of_block (h:MapV w vm n g) (e:∀ M,vm=.map (some M)->w'.heap[M]?=w.heap[M]?):MapV w' vm n g:=h.imp id (fun ⟨M,e1,x⟩=>⟨M,e1,x.of_block (e M e1)⟩)
theorem congr {g':Int->Int->Nat} (h:MapV w vm n g) (e:∀ f t,g f t=g' f t):MapV w vm n g':=by
 have:g=g':=funext fun f=>funext fun t=>e f t;rw [<- this];exact h
theorem is_map (h:MapV w vm n g) {M:Nat} (e:vm=.map (some M)):∃ es ck,w.heap[M]?=some (.map es ck):=by
 rcases h with ⟨rfl,_⟩|⟨M',rfl,h⟩
 ·cases e
 ·injection e with e
  injection e with e;rw [<- e];exact h.is_map
theorem lt (h:MapV w vm n g) {M:Nat} (e:vm=.map (some M)):M<w.heap.size:=by
 obtain ⟨es,ck,hb⟩:=h.is_map e;exact (zJ.1 hb).1
end MapV
def offF (vo vm:Value) (j:Nat):Value:=if j=0 then vo else vm
def ownS (vo vm:Value) (k:Nat):Prop:=vo.ownBlock=some k\/vm=.map (some k)
structure OfI (R oo:Nat) (XX:Win) (w:World) (vo vm:Value) (P:List RP) (o:Plain.Off) (n:Nat):Prop where
 row:w.rowIs R XX.t XX.n (XX.f oo 2 (offF vo vm))
 ow:w.ownsRow 0 181 3 vo P.length (encP.vals P)
 bs:∀ r,r∈P->By 0 w r.p r.c r.y.data
 po:o.posted=P.map RP.y
 mp:MapV w vm n (Plain.zY8 o)
 nl:XX.t≠181
 nb:XX.t≠5
 le:oo+2<=XX.n
namespace OfI
variable {R oo n:Nat} {XX:Win} {w w':World} {vo vm:Value} {P:List RP} {o:Plain.Off}
theorem own_lt (h:OfI R oo XX w vo vm P o n) {k:Nat} (hk:ownS vo vm k):k<w.heap.size:=by
 rcases hk with e|e
 ·rcases h.ow.2 with ⟨rfl,_⟩|⟨g',c,cur,rfl,_,hb,_⟩
  ·simp [Value.ownBlock] at e
  ·simp only [Value.ownBlock,Option.some.injEq] at e
   subst e;exact (zJ.1 hb).1
 ·exact h.mp.lt e
theorem not_byte (h:OfI R oo XX w vo vm P o n) {k:Nat} {cs:Array Value} {fr:Nat × Nat} (x:w.heap[k]?=some (.cells cs 5 fr)):k≠R/\¬ ownS vo vm k:=by
 refine ⟨?_,?_⟩
 ·rintro rfl
  obtain ⟨c',hc,_⟩:=h.row;rw [hc] at x;simp at x;exact h.nb x.2.1
 ·rintro (e|e)
  ·rcases h.ow.2 with ⟨rfl,_⟩|⟨g',c,cur,rfl,_,hb,_⟩
   ·simp [Value.ownBlock] at e
   ·simp only [Value.ownBlock,Option.some.injEq] at e
    subst e;rw [hb] at x;simp at x
  ·obtain ⟨es,ck,hb⟩:=h.mp.is_map e
   rw [hb] at x;cases x
theorem kb (h:OfI R oo XX w vo vm P o n) (k:Kp (ownS vo vm) R w w'):Kb 0 w w' :=
 ⟨k.os,k.tape,k.output,k.size,fun j hj hp=>by
  rcases hp with x|⟨cs,fr,x⟩
  ·omega
  ·exact k.block j hj (h.not_byte x).1 (h.not_byte x).2⟩
theorem grow (h:OfI R oo XX w vo vm P o n) (g:Below w.heap.size w w'):OfI R oo XX w' vo vm P o n :=
 ⟨h.row.of_block (g.block _ h.row.lt),qN h.ow g,fun r hr=>(h.bs r hr).grow g,h.po,h.mp.of_block (fun _ e=>g.block _ (h.mp.lt e)),h.nl,h.nb,h.le⟩
theorem drewN (h:OfI R oo XX w vo vm P o n) (q:Nat):OfI R oo XX (w.drewN q) vo vm P o n:=h.grow (below_drewN yO q)
theorem mono (h:OfI R oo XX w vo vm P o n) {n':Nat} (hn:n<=n'):OfI R oo XX w vo vm P o n':=⟨h.row,h.ow,h.bs,h.po,h.mp.mono hn,h.nl,h.nb,h.le⟩
theorem lt (h:OfI R oo XX w vo vm P o n):R<w.heap.size:=h.row.lt
theorem c0 (h:OfI R oo XX w vo vm P o n):w.cell? ⟨R,oo,none⟩=some vo:=Win.cell h.row h.le (i:=0) (by omega)
theorem c1 (h:OfI R oo XX w vo vm P o n):w.cell? ⟨R,oo+1,none⟩=some vm:=Win.cell h.row h.le (i:=1) (by omega)
theorem nown (h:OfI R oo XX w vo vm P o n):¬ ownS vo vm R:=by
 rintro (e|e)
 ·exact xW h.row h.ow h.nl e
 ·obtain ⟨es,ck,hm⟩:=h.mp.is_map e
  obtain ⟨c',hc,_⟩:=h.row;rw [hc] at hm;cases hm
theorem len (h:OfI R oo XX w vo vm P o n):o.posted.length=P.length:=by rw [h.po,zL]
theorem at' (h:OfI R oo XX w vo vm P o n) {k:Nat} (hk:k<P.length):o.at k=(P.getD k default).y:=by
 unfold Plain.Off.at
 rw [h.po,getD_map RP.y P default default hk]
theorem other (h:OfI R oo XX w vo vm P o n) (hb:∀ k,k<w.heap.size->(k=R\/ownS vo vm k\/∃ cs fr,w.heap[k]?=some (.cells cs 5 fr))->w'.heap[k]?=w.heap[k]?) (hs:w.heap.size<=w'.heap.size):OfI R oo XX w' vo vm P o n :=
 ⟨h.row.of_block (hb R h.row.lt (.inl rfl)),zB8 h.ow fun b e=>hb b (h.own_lt (.inl e)) (.inr (.inl (.inl e))),fun r hr=>⟨(h.bs r hr).le,(h.bs r hr).cm,(h.bs r hr).nl,fun h0=>by
  obtain ⟨b,off,e,hlt,hk,hc⟩:=(h.bs r hr).cl h0;rcases hk with x|⟨cs,fr,x⟩
  ·omega
  ·have e2:=hb b hlt (.inr (.inr ⟨cs,fr,x⟩))
   exact ⟨b,off,e,zF hlt hs,.inr ⟨cs,fr,e2.trans x⟩,fun j hj=>by rw [<- hc j hj];simp only [World.cell?,e2]⟩⟩,h.po,h.mp.of_block (fun M e=>hb M (h.mp.lt e) (.inr (.inl (.inr e)))),h.nl,h.nb,h.le⟩
theorem form (h:OfI R oo XX w vo vm P o n):∃ p c,vo=.slice p P.length c/\(0<P.length->∃ g,p=some ⟨g,0,none⟩/\g<w.heap.size /\
  ∀ j,j<P.length->w.cell? ⟨g,j*3,none⟩=some (.int .i64 (P.getD j default).y.frm)/\w.cell? ⟨g,j*3+1,none⟩=some (.int .i64 (P.getD j default).y.to)/\w.cell? ⟨g,j*3+2,none⟩=some (.slice (P.getD j default).p (P.getD j default).y.data.length (P.getD j default).c)):=by
 have ho:=h.ow;rcases ho.2 with ⟨rfl,h0⟩|⟨g,c,cur,rfl,hg,hb,h1,h2,h3,h4⟩
 ·rw [h0];exact ⟨none,0,rfl,fun h=>by omega⟩
 ·refine ⟨_,c,rfl,fun _=>⟨g,rfl,(zJ.1 hb).1,fun j hj=>?_⟩⟩
  have key:∀ k u,k<3->(encP.enc (P.getD j default))[k]?=some u->w.cell? ⟨g,j*3+k,none⟩=some u:=fun k u hk hu=>by
   have:=ho.cells rfl (j*3+k) u (by rw [show j*3+k=j*encP.n+k from rfl,encP.vals_at default P j k hj hk];exact hu);rw [jS,Nat.zero_add] at this;exact this
  exact ⟨key 0 _ (by decide) rfl,key 1 _ (by decide) rfl,key 2 _ (by decide) rfl⟩
end OfI
theorem Tryz.infoPo:(Tryz.prog.info? 181).map (fun i=>(i.zero,i.size,i.bytes))=some (some (.agg #[.int .i64 0,.int .i64 0,.slice none 0 0]),3,40):=by kernel_rfl
open Go.Lib
def odF (r:RD) (j:Nat):Value:=if j=0 then .int .i64 (r.d.code:Nat) else if j=1 then .int .i64 r.d.id else if j=2 then .int .i64 r.d.size else .slice r.p r.d.data.length r.c
theorem row4 {c:Array Value} {x0 x1 x2 x3:Value} (hs:c.size=4) (h0:c[0]?=some x0) (h1:c[1]?=some x1) (h2:c[2]?=some x2) (h3:c[3]?=some x3):c=#[x0,x1,x2,x3]:=by
 apply Array.ext_getElem?;intro i
 match i with
 | 0=>simpa using h0
 | 1=>simpa using h1
 | 2=>simpa using h2
 | 3=>simpa using h3
 | i+4=>rw [yI (by omega),yI (by simp)]
theorem qI {fn:Func} {p:Tmp} {Q:Ending->World->Prop} {a:Act} {w:World} (h:fn.results=#[.cell p 153]) (G:Nat) (r:RD) (hp:a.tmps.getD p undef=.pointer (some ⟨G,0,none⟩))
  (hg:w.rowIs G 153 4 (odF r)) (hd:a.defers=[]) (hR:Q (.returned (aggD r)) w):bodyPost Tryz.prog fn Q .ret a w:=by
 obtain ⟨c,hb,hs,hc⟩:=hg;have e:=row4 hs (hc 0 (by omega)) (hc 1 (by omega)) (hc 2 (by omega)) (hc 3 (by omega));subst e;exact bodyPost_ret (results_cell_row (P:=Tryz.prog) h _ _ G 153 _ (0,0) _ hp hb Tryz.underlying153 rfl (by kernel_rfl)) hd hR
def putD (W:World) (g o:Nat) (r:RD):World :=
 (((W.setCell ⟨g,o,none⟩ (.int .i64 (r.d.code:Nat))).setCell ⟨g,o+1,none⟩ (.int .i64 r.d.id)).setCell ⟨g,o+2,none⟩ (.int .i64 r.d.size)).setCell ⟨g,o+3,none⟩ (.slice r.p r.d.data.length r.c)
theorem zK1 (W:World) (g o:Nat) (r:RD) (b:Nat) (hb:b≠g):(putD W g o r).heap[b]?=W.heap[b]?:=by
 unfold putD;rw [zE _ ⟨g,_,none⟩ _ b hb,zE _ ⟨g,_,none⟩ _ b hb,zE _ ⟨g,_,none⟩ _ b hb,zE _ ⟨g,_,none⟩ _ b hb]
theorem zT8 (W:World) (g o:Nat) (r:RD):(putD W g o r).heap.size=W.heap.size:=by simp [putD,World.setCell]
theorem vF {B:Nat} {W0 W:World} (h:Below B W0 W) {g:Nat} (hg:B<=g) (o:Nat) (r:RD):Below B W0 (putD W g o r) :=
 ⟨h.os,h.tape,h.output,by rw [zT8];exact h.size,fun k hk=>(zK1 W g o r k (by omega)).trans (h.block k hk)⟩
theorem kH {W:World} {G:Nat} {f:Nat->Value} (h:W.rowIs G 153 4 f) (r:RD):(putD W G 0 r).rowIs G 153 4 (odF r):=by
 have e:=(((h.set 0 (.int .i64 (r.d.code:Nat))).set 1 (.int .i64 r.d.id)).set 2 (.int .i64 r.d.size)).set 3 (.slice r.p r.d.data.length r.c);refine e.congr fun j hj=>?_;have:j=0\/j=1\/j=2\/j=3:=by omega
 rcases this with rfl|rfl|rfl|rfl<;>rfl
structure Only1 (G:Nat) (w w':World):Prop where
 os:w'.os=w.os
 tape:w'.tape=w.tape
 output:w'.output=w.output
 size:w'.heap.size=w.heap.size
 block:∀ k,k≠G->w'.heap[k]?=w.heap[k]?
theorem zG6 (W:World) (g o:Nat) (r:RD):Only1 g W (putD W g o r):=⟨rfl,rfl,rfl,zT8 _ _ _ _,zK1 W g o r⟩
namespace Only1
variable {G:Nat} {w w' w'':World}
theorem trans (h:Only1 G w w') (g:Only1 G w' w''):Only1 G w w'':=⟨g.os.trans h.os,g.tape.trans h.tape,g.output.trans h.output,g.size.trans h.size,fun k hk=>(g.block k hk).trans (h.block k hk)⟩
theorem set (w:World) (i:Nat) (v:Value):Only1 G w (w.setCell ⟨G,i,none⟩ v):=⟨rfl,rfl,rfl,by simp,fun k hk=>zE w ⟨G,i,none⟩ v k hk⟩
theorem below {B:Nat} {w0:World} (h:Only1 G w w') (b:Below B w0 w) (hB:B<=G):Below B w0 w' :=
 ⟨h.os.trans b.os,h.tape.trans b.tape,h.output.trans b.output,by rw [h.size];exact b.size,fun k hk=>(h.block k (by omega)).trans (b.block k hk)⟩
theorem kp {ZZ:Nat->Prop} {R:Nat} {w0:World} (h:Only1 G w w') (b:Kp ZZ R w0 w) (hG:w0.heap.size<=G):Kp ZZ R w0 w' :=
 ⟨h.os.trans b.os,h.tape.trans b.tape,h.output.trans b.output,by rw [h.size];exact b.size,fun k hk hR hz=>(h.block k (by omega)).trans (b.block k hk hR hz)⟩
theorem off {R oo n:Nat} {XX:Win} {vo vm:Value} {P:List RP} {o:Plain.Off} {t m:Nat} {f:Nat->Value} (g:Only1 G w w') (h:OfI R oo XX w vo vm P o n) (hr:w.rowIs G t m f) (h1:t≠181) (h2:t≠5) (hR:G≠R):OfI R oo XX w' vo vm P o n :=
 h.other (fun k _ hk=>g.block k (fun e=>by
  subst e;rcases hk with x|(x|x)|⟨cs,fr,x⟩
  ·exact hR x
  ·exact xW hr h.ow h1 x
  ·obtain ⟨es,ck,hm⟩:=h.mp.is_map x
   obtain ⟨c',hc,_⟩:=hr;rw [hc] at hm;cases hm
  ·obtain ⟨c',hc,_⟩:=hr
   rw [hc] at x;simp at x;exact h2 x.2.1)) (by rw [g.size];exact yN)
end Only1
theorem jP (w:World) (r:RD):(w.alloc (.cells #[.int .i64 (r.d.code:Nat),.int .i64 r.d.id,.int .i64 r.d.size,.slice r.p r.d.data.length r.c] 153)).rowIs w.heap.size 153 4 (odF r):=by
 refine yK _ _ 153 _ fun i hi=>?_;have hi4:i<4:=hi;have:i=0\/i=1\/i=2\/i=3:=by omega
 rcases this with rfl|rfl|rfl|rfl<;>rfl
theorem zA3 (code:Nat) (w:World):Calls Tryz.prog 95 #[.int .i64 (code:Nat)] w fun e w'=>e=.returned (aggD ⟨⟨code,0,0,[]⟩,none,0⟩)/\Below w.heap.size w w':=by
 go_enter Tryz.func95,Tryz.ntmps95
 go_wp2
 (try simp only [Exit.inBlock,Exit.then])
 exact qI rfl w.heap.size ⟨⟨code,0,0,[]⟩,none,0⟩ rfl (jP w ⟨⟨code,0,0,[]⟩,none,0⟩) rfl ⟨rfl,yO.alloc yN _⟩
def zT9 (n:Int):Bool:=decide (0<=n/\n<=8)
theorem yQ2 (n:Int) (w:World):Calls Tryz.prog 94 #[.int .i64 n] w fun e w'=>e=.returned (.bool (zT9 n))/\w'=w:=by
 obtain ⟨b,hb⟩:∃ b,b=zT9 n:=⟨_,rfl⟩;rw [<- hb];unfold zT9 at hb;by_cases h1:0<=n
 ·by_cases h2:n<=8
  ·have H:=hid (show b=true by rw [hb];exact decide_eq_true ⟨h1,h2⟩)
   clear hb;go_enter Tryz.func94,Tryz.ntmps94
   go_wp2;go_ret
   exact ⟨by rw [H.out];rfl,rfl⟩
  ·have H:=hid (show b=false by rw [hb];exact decide_eq_false (fun x=>h2 x.2))
   clear hb;go_enter Tryz.func94,Tryz.ntmps94
   go_wp2;go_ret
   exact ⟨by rw [H.out];rfl,rfl⟩
 ·have H:=hid (show b=false by rw [hb];exact decide_eq_false (fun x=>h1 x.1))
  clear hb;go_enter Tryz.func94,Tryz.ntmps94
  go_wp2;go_ret
  exact ⟨by rw [H.out];rfl,rfl⟩
def DoP (R oo:Nat) (XX:Win) (vo vm:Value) (o:Plain.Off) (x:Plain.Le) (n:Nat) (w:World) (e:Ending) (w':World):Prop :=
 ∃ r vo' vm' P,e=.returned (aggD r)/\r.d=Plain.leT o x/\OfI R oo XX w' vo' vm' P (Plain.leS o x) (n+1)/\Kp (ownS vo vm) R w w'/\By 0 w' r.p r.c r.d.data/\∀ k,ownS vo' vm' k->ownS vo vm k\/w.heap.size<=k
theorem yE3 {R oo n E:Nat} {XX:Win} {o:Plain.Off} {x:Plain.Le} {vo vm:Value} {P:List RP} {w w':World} (hE:Plain.leE o x=E) (h0:E≠0) (h:OfI R oo XX w vo vm P o n) (g:Below w.heap.size w w') :
  DoP R oo XX vo vm o x n w (.returned (aggD ⟨⟨E,0,0,[]⟩,none,0⟩)) w':=by
 have hS:Plain.leS o x=o:=by unfold Plain.leS;rw [hE,if_pos h0]
 have hT:Plain.leT o x=⟨E,0,0,[]⟩:=by unfold Plain.leT;rw [hE,if_pos h0]
 exact ⟨_,vo,vm,P,rfl,hT.symm,by rw [hS];exact (h.grow g).mono (Nat.le_succ _),Kp.of_below g,By.nil _ _,fun k hk=>.inl hk⟩
theorem OfI.snoc {R oo n:Nat} {XX:Win} {W:World} {vo vm:Value} {P:List RP} {o:Plain.Off} (h:OfI R oo XX W vo vm P o n) (hgo:Plain.Good o) (hb:P.length<=100000) (y:RP) (hy:By 0 W y.p y.c y.y.data) :
  ∃ p c U,(Builtin.append_ #[78,78] 78 #[vo,.slice (some ⟨W.heap.size,0,none⟩) 1 1]).run Tryz.prog (W.alloc (.cells #[.int .i64 y.y.frm,.int .i64 y.y.to,.slice y.p y.y.data.length y.c] 181))=.ok (.slice p (P.length+1) c) U /\
   U.cell? ⟨R,oo,none⟩=some vo/\U.frozen? ⟨R,oo,none⟩=false/\OfI R oo XX (U.setCell ⟨R,oo,none⟩ (.slice p (P.length+1) c)) (.slice p (P.length+1) c) vm (P++[y]) { o with posted:=o.posted++[y.y] } n /\
   Kp (ownS vo vm) R W (U.setCell ⟨R,oo,none⟩ (.slice p (P.length+1) c))/\(∀ k,ownS (.slice p (P.length+1) c) vm k->ownS vo vm k\/W.heap.size<=k):=by
 obtain ⟨j0,ji,jz0,jz1,jz2⟩:=info_parts Tryz.infoPo;have bel:Below W.heap.size W (W.alloc (.cells #[.int .i64 y.y.frm,.int .i64 y.y.to,.slice y.p y.y.data.length y.c] 181)):=yO.alloc yN _;have k1:=h.grow bel;have hq:encP.Holds (W.alloc (.cells #[.int .i64 y.y.frm,.int .i64 y.y.to,.slice y.p y.y.data.length y.c] 181)) (some ⟨W.heap.size,0,none⟩) [y]:=encP.one_holds W y 181;obtain ⟨v',U,h1,h2,h3,h4⟩:=Enc.appW (E:=encP) (m:=1) (c:=1) (q:=[y]) Tryz.underlying78 ji jz0 jz1 jz2 rfl k1.ow hq rfl (fun e=>by cases e) (by omega) (by omega) (zG _);have hlen:(P++[y]).length=P.length+1:=by simp
 obtain ⟨p,c,rfl,_⟩:=encP.owns h2 hlen;have rowU:U.rowIs R XX.t XX.n (XX.f oo 2 (offF vo vm)):=xR9 k1.row k1.ow h.nl h3;have kf1:Kp (ownS vo vm) R W U:=(Kp.of_below bel).trans (Kp.grown (fun g hg=>.inl hg) h3);have kf2:Kp (ownS vo vm) R W (U.setCell ⟨R,oo,none⟩ (.slice p (P.length+1) c)):=kf1.trans (Kp.setR _ _);have hnv:∀ k,vm=.map (some k)->vo.ownBlock≠some k:=fun k e x=>by
  obtain ⟨es,ck,hm⟩:=h.mp.is_map e;rcases h.ow.2 with ⟨rfl,_⟩|⟨g,cap,cur,rfl,_,hg,_⟩
  ·simp [Value.ownBlock] at x
  ·simp only [Value.ownBlock,Option.some.injEq] at x
   subst x;rw [hg] at hm;cases hm
 refine ⟨p,c,U,h1,Win.cell rowU h.le (i:=0) (by omega),rowU.frozen oo,⟨Win.set rowU 0 (by omega) _ fun j hj=>?_,?_,fun r hr=>?_,?_,?_,h.nl,h.nb,h.le⟩,kf2,fun k hk=>?_⟩
 ·unfold offF
  by_cases e:j=0
  ·rw [if_pos e,if_pos e]
  ·rw [if_neg e,if_neg e,if_neg e]
 ·rw [hlen]
  exact ownsRow_setCell_other h2 (xW rowU h2 h.nl) _
 ·rcases yL.1 hr with m|m
  ·exact (h.bs r m).keep (h.kb kf2)
  ·have e:r=y:=by simpa using m
   subst e;exact hy.keep (h.kb kf2)
 ·show o.posted++[y.y]=_
  rw [h.po,List.map_append];rfl
 ·refine MapV.congr (h.mp.of_block fun M e=>?_) (fun f t=>(Plain.qC6 hgo y.y f t).symm)
  rw [zE U ⟨R,oo,none⟩ _ M (fun e2=>h.nown (by have e3:M=R:=e2;rw [<- e3];exact .inr e)),h3.block M (zF (h.mp.lt e) bel.size) (fun e2=>hnv M e e2.symm),bel.block M (h.mp.lt e)]
 ·rcases hk with x|x
  ·rcases h4 k x with y|y
   ·exact .inl (.inl y)
   ·exact .inr (by rw [y];simp)
  ·exact .inl (.inr x)
abbrev zZ0:Obj:=.cells #[.int .i64 0,.int .i64 0,.int .i64 0,.slice none 0 0] 153
theorem vS {n:Int} (h:0<=n/\n<=8) (w:World):Calls Tryz.prog 94 #[.int .i64 n] w fun e w'=>e=.returned (.bool true)/\w'=w:=by
 have:=yQ2 n w;rw [show zT9 n=true from decide_eq_true h] at this;exact this
theorem xS2 {n:Int} (h:n<0\/8<n) (w:World):Calls Tryz.prog 94 #[.int .i64 n] w fun e w'=>e=.returned (.bool false)/\w'=w:=by
 have:=yQ2 n w;rw [show zT9 n=false from decide_eq_false (by omega)] at this;exact this
namespace Plain
structure Ev where
 id:Int
 frm:Int
 tow:Int
 size:Int
 deriving DecidableEq,Inhabited
def noEv:Ev:=⟨0,0,0,0⟩
def seenE (o:Off) (i:Int):Nat:=if i<0\/(o.posted.length:Int)<=i then 6 else 0
def seenV (o:Off) (i:Int):Ev:=if i<0\/(o.posted.length:Int)<=i then noEv else ⟨i,(o.at i.toNat).frm,(o.at i.toNat).«to»,(o.at i.toNat).data.length⟩
end Plain
abbrev aggV (x:Plain.Ev):Value:=.agg #[.int .i64 x.id,.int .i64 x.frm,.int .i64 x.tow,.int .i64 x.size]
abbrev boxV (x:Plain.Ev):Obj:=.cells #[.int .i64 x.id,.int .i64 x.frm,.int .i64 x.tow,.int .i64 x.size] 98
def evF (x:Plain.Ev) (j:Nat):Value:=if j=0 then .int .i64 x.id else if j=1 then .int .i64 x.frm else if j=2 then .int .i64 x.tow else .int .i64 x.size
theorem zE1 (w:World) (x:Plain.Ev):(w.alloc (boxV x)).rowIs w.heap.size 98 4 (evF x):=by
 refine yK _ _ 98 _ fun i hi=>?_;have hi4:i<4:=hi;have:i=0\/i=1\/i=2\/i=3:=by omega
 rcases this with rfl|rfl|rfl|rfl<;>rfl
theorem zC1 {fn:Func} {p u:Tmp} {Q:Ending->World->Prop} {a:Act} {w:World} (h:fn.results=#[.cell p 98,.tmp u]) (G:Nat) (x:Plain.Ev) (v:Value) (hp:a.tmps.getD p undef=.pointer (some ⟨G,0,none⟩)) (hu:a.tmps.getD u undef=v)
  (hg:w.rowIs G 98 4 (evF x)) (hd:a.defers=[]) (hR:Q (.returned (.tuple #[aggV x,v])) w):bodyPost Tryz.prog fn Q .ret a w:=by
 obtain ⟨c,hb,hs,hc⟩:=hg;have e:=row4 hs (hc 0 (by omega)) (hc 1 (by omega)) (hc 2 (by omega)) (hc 3 (by omega));subst e;refine bodyPost_ret ?_ hd hR;rw [results_cell_tmp h,hp,hu];have hl:=run_loadVar_row (P:=Tryz.prog) w G 98 98 _ (0,0) _ hb Tryz.underlying98 rfl (by kernel_rfl);simp [asAddr,hl,evF]
def putV (W:World) (g:Nat) (x:Plain.Ev):World :=
 (((W.setCell ⟨g,0,none⟩ (.int .i64 x.id)).setCell ⟨g,1,none⟩ (.int .i64 x.frm)).setCell ⟨g,2,none⟩ (.int .i64 x.tow)).setCell ⟨g,3,none⟩ (.int .i64 x.size)
theorem yQ3 (W:World) (g:Nat) (x:Plain.Ev):Only1 g W (putV W g x) :=
 (((Only1.set W 0 _).trans (Only1.set _ 1 _)).trans (Only1.set _ 2 _)).trans (Only1.set _ 3 _)
theorem xE3 {W:World} {G:Nat} {f:Nat->Value} (h:W.rowIs G 98 4 f) (x:Plain.Ev):(putV W G x).rowIs G 98 4 (evF x):=by
 have e0:=h.set 0 (.int .i64 x.id);have e1:=e0.set 1 (.int .i64 x.frm);have e2:=e1.set 2 (.int .i64 x.tow);have e3:=e2.set 3 (.int .i64 x.size);unfold putV;refine e3.congr fun j hj=>?_;have:j=0\/j=1\/j=2\/j=3:=by omega
 unfold evF;rcases this with rfl|rfl|rfl|rfl<;>simp
theorem zU0 (R oo n:Nat) (XX:Win) (vo vm:Value) (P:List RP) (o:Plain.Off) (hb:P.length<=100000) (i:Int) (w:World) (h:OfI R oo XX w vo vm P o n) :
  Calls Tryz.prog 92 #[.pointer (some ⟨R,oo,none⟩),.int .i64 i] w fun e w'=>e=.returned (.tuple #[aggV (Plain.seenV o i),.int .i64 (Plain.seenE o i:Nat)])/\Below w.heap.size w w':=by
 obtain ⟨WA,hWA⟩:∃ WA,WA=w.alloc (.cells #[.int .i64 0,.int .i64 0,.int .i64 0,.int .i64 0] 98):=⟨_,rfl⟩;have rG:=hid (show WA.rowIs w.heap.size 98 4 (evF Plain.noEv) by rw [hWA];exact zE1 w Plain.noEv);have BA:=hid (show Below w.heap.size w WA by rw [hWA];exact yO.alloc yN _);have HA:=h.grow BA.out;have r0:=HA.c0;have hpl:=h.len;unfold Plain.seenV Plain.seenE;rw [hpl];obtain ⟨po,co,rfl,hff⟩:=HA.form;rw [hWA] at r0;have z0:=rG.out.frozen 0;have z1:=rG.out.frozen 1;have z2:=rG.out.frozen 2;have z3:=rG.out.frozen 3;rw [hWA] at z0 z1 z2 z3;have HAT:=hid (fun k (hk:k<P.length)=>h.at' hk);clear hpl h HA;by_cases hno:i<0\/(P.length:Int)<=i
 ·rw [if_pos hno,if_pos hno]
  clear hff HAT;generalize P.length=np at *;by_cases h0:i<0
  ·clear hno
   go_enter Tryz.func92,Tryz.ntmps92
   go_wp2;rw [<- hWA]
   (try simp only [Exit.inBlock,Exit.then])
   exact zC1 rfl w.heap.size Plain.noEv (.int .i64 6) rfl rfl rG.out rfl ⟨rfl,BA.out⟩
  ·have h1:(np:Int)<=i:=by omega
   clear hno;go_enter Tryz.func92,Tryz.ntmps92
   go_wp2;rw [<- hWA]
   (try simp only [Exit.inBlock,Exit.then])
   exact zC1 rfl w.heap.size Plain.noEv (.int .i64 6) rfl rfl rG.out rfl ⟨rfl,BA.out⟩
 ·rw [if_neg hno,if_neg hno]
  obtain ⟨k,rfl⟩:∃ k:Nat,i=k:=⟨i.toNat,by omega⟩;have hk:k<P.length:=by omega
  obtain ⟨gb,rfl,hgl,hcc⟩:=hff (by omega);obtain ⟨c0,c1,c2⟩:=hcc k hk;have ea:=HAT.out k hk;rw [show ((k:Nat):Int).toNat=k by omega,ea];clear hff hcc HAT ea hno;have hkz:(k:Int)<(P.length:Int):=by omega
  have hk0:¬ (k:Int)<0:=by omega
  have hkn:¬ (P.length:Int)<=(k:Int):=by omega
  have hk9:k<=100000:=by omega
  generalize P.length=np at *;generalize P.getD k default=y at *;obtain ⟨⟨yf,yt,yd⟩,yp,yc⟩:=y;dsimp only at c0 c1 c2 ⊢;obtain ⟨m,hm⟩:∃ m,m=yd.length:=⟨_,rfl⟩;rw [<- hm] at c2 ⊢;clear hm;rw [hWA] at c0 c1 c2;go_enter Tryz.func92,Tryz.ntmps92
  go_upto_region 4 with fail
  rw [<- hWA];have HSA:=hid (show WA.heap.size=w.heap.size+1 by rw [hWA];simp);clear hWA c0 c1 c2 r0;obtain ⟨WB,hWB⟩:∃ WB,WB=WA.alloc (.cells #[.int .i64 yf,.int .i64 yt,.slice yp m yc] 181):=⟨_,rfl⟩;rw [<- hWB];have hbx:WB.cell? ⟨w.heap.size+1,0,none⟩=some (.int .i64 yf)/\WB.cell? ⟨w.heap.size+1,1,none⟩=some (.int .i64 yt)/\WB.cell? ⟨w.heap.size+1,2,none⟩=some (.slice yp m yc):=by
   rw [hWB,<- HSA.out];refine ⟨?_,?_,?_⟩<;>rw [zM _ _ _ _ rfl]<;>rfl
  have RB:=hid (show WB.rowIs w.heap.size 98 4 (evF Plain.noEv) by rw [hWB];exact rG.out.alloc _);have BB:=hid (show Below w.heap.size w WB by rw [hWB];exact BA.out.alloc BA.out.size _);clear hWB rG BA z0 z1 z2 z3;obtain ⟨x0,x1,x2⟩:=hbx;have y0:=RB.out.cell (i:=0) (by omega);have y1:=RB.out.cell (i:=1) (by omega);have y2:=RB.out.cell (i:=2) (by omega);have y3:=RB.out.cell (i:=3) (by omega);have z0:=RB.out.frozen 0;have z1:=RB.out.frozen 1;have z2:=RB.out.frozen 2;have z3:=RB.out.frozen 3;go_wp2
  (try simp only [Exit.inBlock,Exit.then])
  obtain ⟨W6,hW6⟩:∃ W6,W6=(((WB.setCell ⟨w.heap.size,0,none⟩ (.int .i64 k)).setCell ⟨w.heap.size,1,none⟩ (.int .i64 yf)).setCell ⟨w.heap.size,2,none⟩ (.int .i64 yt)).setCell ⟨w.heap.size,3,none⟩ (.int .i64 m):=⟨_,rfl⟩;rw [<- hW6];have R6:W6.rowIs w.heap.size 98 4 (evF ⟨k,yf,yt,m⟩):=by rw [hW6];exact xE3 RB.out ⟨k,yf,yt,m⟩
  have B6:Below w.heap.size w W6:=by rw [hW6];exact (yQ3 WB w.heap.size ⟨k,yf,yt,m⟩).below BB.out yN
  clear hW6;exact zC1 rfl w.heap.size ⟨k,yf,yt,m⟩ (.int .i64 0) rfl rfl R6 rfl ⟨rfl,B6⟩
theorem yJ6 {fn:Func} {p:Tmp} {Q:Ending->World->Prop} {a:Act} {w:World} (h:fn.results=#[.cell p 178]) (G:Nat) (f t:Int) (hp:a.tmps.getD p undef=.pointer (some ⟨G,0,none⟩))
  (hg:w.heap[G]?=some (.cells #[.int .i64 f,.int .i64 t] 178 (0,0))) (hd:a.defers=[]) (hR:Q (.returned (keyV f t)) w):bodyPost Tryz.prog fn Q .ret a w :=
 bodyPost_ret (results_cell_row (P:=Tryz.prog) h _ _ G 178 _ (0,0) _ hp hg Tryz.underlying178 rfl (by kernel_rfl)) hd hR
theorem xS3 (x:Plain.Ev) (w:World):Calls Tryz.prog 96 #[aggV x] w fun e w'=>e=.returned (keyV x.frm x.tow)/\Below w.heap.size w w':=by
 obtain ⟨xi,xf,xt,xs⟩:=x;go_enter Tryz.func96,Tryz.ntmps96
 go_wp2
 (try simp only [Exit.inBlock,Exit.then])
 obtain ⟨W1,hW1⟩:∃ W1,W1=w.alloc (boxV ⟨xi,xf,xt,xs⟩):=⟨_,rfl⟩;rw [<- hW1];have hs:W1.heap.size=w.heap.size+1:=by rw [hW1];simp
 have hb:=yF W1 (.cells #[.int .i64 xf,.int .i64 xt] 178);rw [hs] at hb;exact yJ6 rfl (w.heap.size+1) xf xt rfl hb rfl ⟨rfl,by rw [hW1];exact (yO.alloc yN _).alloc (by simp) _⟩
theorem zZ1 (R oo n:Nat) (XX:Win) (vo vm:Value) (P:List RP) (o:Plain.Off) (x:Plain.Ev) (hf:0<=x.frm/\x.frm<=8) (ht:0<=x.tow/\x.tow<=8) (w:World) (h:OfI R oo XX w vo vm P o n) :
  Calls Tryz.prog 93 #[.pointer (some ⟨R,oo,none⟩),aggV x] w fun e w'=>e=.returned (.bool (decide (x.id<(Plain.zY8 o x.frm x.tow:Nat))))/\Below w.heap.size w w':=by
 obtain ⟨WA,hWA⟩:∃ WA,WA=w.alloc (boxV x):=⟨_,rfl⟩;have rG:=show WA.rowIs w.heap.size 98 4 (evF x) by rw [hWA];exact zE1 w x
 have BA:=hid (show Below w.heap.size w WA by rw [hWA];exact yO.alloc yN _);have HA:=hid ((h.grow BA.out).drewN 1);have r1:WA.drew.cell? ⟨R,oo+1,none⟩=some vm:=HA.out.c1;have x0:WA.drew.cell? ⟨w.heap.size,0,none⟩=some (.int .i64 x.id):=rG.cell (i:=0) (by omega);have x1:WA.drew.cell? ⟨w.heap.size,1,none⟩=some (.int .i64 x.frm):=rG.cell (i:=1) (by omega);have x2:WA.drew.cell? ⟨w.heap.size,2,none⟩=some (.int .i64 x.tow):=rG.cell (i:=2) (by omega);have x3:WA.drew.cell? ⟨w.heap.size,3,none⟩=some (.int .i64 x.size):=rG.cell (i:=3) (by omega);have KW:=xS3 x WA.drew;have HX:=hid (fun W (g:Below WA.drew.heap.size WA.drew W)=>show W.cell? ⟨R,oo+1,none⟩=some vm/\W.cell? ⟨w.heap.size,0,none⟩=some (.int .i64 x.id)/\W.cell? ⟨w.heap.size,1,none⟩=some (.int .i64 x.frm)/\W.cell? ⟨w.heap.size,2,none⟩=some (.int .i64 x.tow)/\W.cell? ⟨w.heap.size,3,none⟩=some (.int .i64 x.size) by
  have hlt:w.heap.size<WA.drew.heap.size:=rG.lt;exact ⟨(HA.out.grow g).c1,(g.cell (p:=⟨w.heap.size,0,none⟩) hlt).trans x0,(g.cell (p:=⟨w.heap.size,1,none⟩) hlt).trans x1,(g.cell (p:=⟨w.heap.size,2,none⟩) hlt).trans x2,(g.cell (p:=⟨w.heap.size,3,none⟩) hlt).trans x3⟩)
 have HL:=hid (fun W (g:Below WA.drew.heap.size WA.drew W)=>((HA.out.grow g).mp.look hf ht));obtain ⟨nx,hnx⟩:∃ nx,nx=Plain.zY8 o x.frm x.tow:=⟨_,rfl⟩;rw [<- hnx] at HL ⊢;clear hnx h rG;obtain ⟨xi,xf,xt,xs⟩:=x;dsimp only at *;go_enter Tryz.func93,Tryz.ntmps93
 go_wp2;rw [<- hWA];clear hWA
 go_region_held3 (fun w'=>w'.cell? ⟨R,oo+1,none⟩=some vm/\w'.cell? ⟨w.heap.size,0,none⟩=some (.int .i64 xi)/\w'.cell? ⟨w.heap.size,1,none⟩=some (.int .i64 xf)/\w'.cell? ⟨w.heap.size,2,none⟩=some (.int .i64 xt)/\w'.cell? ⟨w.heap.size,3,none⟩=some (.int .i64 xs)) (go_keep)
  ((go_at_call 96;refine KW.mono ?_;rintro e W5 ⟨rfl,b5⟩;have B5:=hid b5;clear b5;obtain ⟨r15,x05,x15,x25,x35⟩:=HX.out W5 B5.out;have look:=HL.out W5 B5.out))
 all_goals
  clear KW look x05 x15 x25 x35 r15;go_wp2;go_ret
  exact ⟨rfl,BA.out.trans ((below_drewN yO 1).trans (B5.out.mono BA.out.size))⟩
theorem yJ7 (w:World) (d:Nat) (a:Option Nat):(Op.equalIn (d+1) 79 (.map a) (.map none)).run Tryz.prog w=.ok a.isNone w:=by
 cases a<;>simp [Op.equalIn,run_underlying Tryz.underlying79]
theorem zG7 (w:World) (a:Option Nat):(binOp .eql 79 (.map a) (.map none)).run Tryz.prog w=.ok (.bool a.isNone) w:=by
 simp only [binOp];simp [Op.equal,Op.maxDepth,yJ7 w 9999 a]
theorem OfI.opened {R oo n k:Nat} {XX:Win} {W W':World} {vo:Value} {M:Nat} {P:List RP} {o:Plain.Off} (h:OfI R oo XX W vo (.map (some M)) P o n) (hold:Plain.oldO o k=false) {f t:Int} (hf:(o.at k).frm=f) (ht:(o.at k).«to»=t)
  (hm:MapI W' M (n+1) (fun a b=>if f=a/\t=b then k+1 else Plain.zY8 o a b)) (hg:W.grownBy W' (some M)):OfI R oo XX W' vo (.map (some M)) P { o with opened:=o.opened++[k] } (n+1):=by
 have kp:Kp (ownS vo (.map (some M))) R W W':=Kp.grown1 (.inr rfl) hg;have hne:vo.ownBlock≠some M:=fun e=>by
  obtain ⟨es,ck,hb⟩:=h.mp.is_map rfl;rcases h.ow.2 with ⟨rfl,_⟩|⟨g,cap,cur,rfl,_,hg',_⟩
  ·simp [Value.ownBlock] at e
  ·simp only [Value.ownBlock,Option.some.injEq] at e
   subst e;rw [hg'] at hb;cases hb
 have hR:M≠R:=fun e=>h.nown (.inr (by rw [e]));refine ⟨h.row.of_block (hg.block R h.row.lt (fun e=>hR (by injection e with e;exact e.symm))),h.ow.kept hg (.inr hne),fun r hr=>(h.bs r hr).keep (h.kb kp),h.po,.inr ⟨M,rfl,hm.congr fun a b=>?_⟩,h.nl,h.nb,h.le⟩;rw [Plain.qC7 hold,hf,ht]
theorem OfI.mapped {R oo n:Nat} {XX:Win} {W:World} {vo:Value} {P:List RP} {o:Plain.Off} (h:OfI R oo XX W vo (.map none) P o n) :
  OfI R oo XX ((W.alloc (.map #[] 0)).setCell ⟨R,oo+1,none⟩ (.map (some W.heap.size))) vo (.map (some W.heap.size)) P o n:=by
 have bel:Below W.heap.size W (W.alloc (.map #[] 0)):=yO.alloc yN _;have h1:=h.grow bel;have hz:∀ f t,Plain.zY8 o f t=0:=by
  rcases h.mp with ⟨_,x⟩|⟨M,e,_⟩
  ·exact x
  ·cases e
 have hblk:∀ k,k≠R->((W.alloc (.map #[] 0)).setCell ⟨R,oo+1,none⟩ (.map (some W.heap.size))).heap[k]?=(W.alloc (.map #[] 0)).heap[k]?:=fun k hk=>zE _ ⟨R,oo+1,none⟩ _ k hk;refine ⟨Win.set h1.row 1 (by omega) _ fun j hj=>?_,ownsRow_setCell_other h1.ow (fun e=>h1.nown (.inl e)) _,fun r hr=>(h1.bs r hr).keep ⟨rfl,rfl,rfl,by simp,fun k _ hk=>?_⟩,h.po,.inr ⟨_,rfl,?_⟩,h.nl,h.nb,h.le⟩
 ·unfold offF
  by_cases e:j=1
  ·rw [if_pos e,if_neg (by omega)]
  ·rw [if_neg e,if_pos (by omega),if_pos (by omega)]
 ·rcases hk with x|⟨cs,fr,x⟩
  ·omega
  ·exact hblk k (h1.not_byte x).1
 ·refine ((MapI.made W).of_block (hblk _ (fun e=>?_))).mono (zG n) |>.congr fun f t=>(hz f t).symm
  have:=h.row.lt;omega
theorem xS4 (R oo n:Nat) (XX:Win) (vo vm:Value) (P:List RP) (o:Plain.Off) (_hb:P.length<=100000) (x:Plain.Le) (hk:x.kind=2) (ht:x.to<0\/8<x.to)
  (w:World) (h:OfI R oo XX w vo vm P o n) :
  Calls Tryz.prog 77 #[.pointer (some ⟨R,oo,none⟩),.int .i64 x.to,.int .i64 x.id] w fun e w'=>DoP R oo XX vo vm o x n w e w':=by
 have P0:=hid (fun w' gg=>yE3 (w:=w) (w':=w') (x:=x) (E:=2) (by unfold Plain.leE;rw [if_neg (by omega),if_pos (by omega)]) (by decide) h gg);obtain ⟨WA,hWA⟩:∃ WA,WA=w.alloc zZ0:=⟨_,rfl⟩;have rG:=hid (show WA.rowIs w.heap.size 153 4 (odF ⟨⟨0,0,0,[]⟩,none,0⟩) by rw [hWA];exact jP w ⟨⟨0,0,0,[]⟩,none,0⟩);have BA:=hid (show Below w.heap.size w WA by rw [hWA];exact yO.alloc yN _);have K:=zA3 2 WA;have KT:=fun W=>xS2 ht W;clear h ht;generalize x.to=xt at *;go_enter Tryz.func77,Tryz.ntmps77
 go_wp2_with (first|(go_at_call 94;refine (KT _).mono ?_;rintro e w' ⟨rfl,rfl⟩)|fail)
 rw [<- hWA];clear hWA;refine K.mono ?_;rintro e W1 ⟨rfl,b1⟩;have R1:=hid (rG.out.of_block (b1.block _ rG.out.lt));have B1:=hid (BA.out.trans (b1.mono BA.out.size));clear K b1 rG BA;have y0:=R1.out.cell (i:=0) (by omega);have y1:=R1.out.cell (i:=1) (by omega);have y2:=R1.out.cell (i:=2) (by omega);have y3:=R1.out.cell (i:=3) (by omega);have z0:=R1.out.frozen 0;have z1:=R1.out.frozen 1;have z2:=R1.out.frozen 2;have z3:=R1.out.frozen 3;go_wp2
 (try simp only [Exit.inBlock,Exit.then])
 obtain ⟨W6,hW6⟩:∃ W6,W6=(((W1.setCell ⟨w.heap.size,0,none⟩ (.int .i64 2)).setCell ⟨w.heap.size,1,none⟩ (.int .i64 0)).setCell ⟨w.heap.size,2,none⟩ (.int .i64 0)).setCell ⟨w.heap.size,3,none⟩ (.slice none 0 0):=⟨_,rfl⟩;rw [<- hW6];have R6:W6.rowIs (w.heap.size) 153 4 (odF ⟨⟨2,0,0,[]⟩,none,0⟩):=by rw [hW6];exact kH R1.out ⟨⟨2,0,0,[]⟩,none,0⟩
 have B6:Below w.heap.size w W6:=by rw [hW6];exact vF B1.out (by omega) 0 ⟨⟨2,0,0,[]⟩,none,0⟩
 clear hW6;exact qI rfl (w.heap.size) ⟨⟨2,0,0,[]⟩,none,0⟩ rfl R6 rfl (P0.out _ B6)
theorem zS5 (R oo n:Nat) (XX:Win) (vo vm:Value) (P:List RP) (o:Plain.Off) (hb:P.length<=100000) (x:Plain.Le) (hk:x.kind=2) (ht:0<=x.to/\x.to<=8) (hno:x.id<0\/(P.length:Int)<=x.id)
  (w:World) (h:OfI R oo XX w vo vm P o n) :
  Calls Tryz.prog 77 #[.pointer (some ⟨R,oo,none⟩),.int .i64 x.to,.int .i64 x.id] w fun e w'=>DoP R oo XX vo vm o x n w e w':=by
 have P0:=hid (fun w' gg=>yE3 (w:=w) (w':=w') (x:=x) (E:=6) (by unfold Plain.leE;rw [if_neg (by omega),if_neg (by omega),if_neg (by omega),if_pos (by rw [h.len];exact hno)]) (by decide) h gg);obtain ⟨WA,hWA⟩:∃ WA,WA=w.alloc zZ0:=⟨_,rfl⟩;have rG:=hid (show WA.rowIs w.heap.size 153 4 (odF ⟨⟨0,0,0,[]⟩,none,0⟩) by rw [hWA];exact jP w ⟨⟨0,0,0,[]⟩,none,0⟩);have BA:=hid (show Below w.heap.size w WA by rw [hWA];exact yO.alloc yN _);have KT:=fun W=>vS ht W;have KS:=zU0 R oo n XX vo vm P o hb x.id WA (h.grow BA.out);rw [show Plain.seenE o x.id=6 by unfold Plain.seenE;rw [h.len,if_pos hno],show Plain.seenV o x.id=Plain.noEv by unfold Plain.seenV;rw [h.len,if_pos hno]] at KS;clear h hno ht;generalize x.to=xt at *;generalize x.id=xi at *;go_enter Tryz.func77,Tryz.ntmps77
 go_wp2_with (first|(go_at_call 94;refine (KT _).mono ?_;rintro e w' ⟨rfl,rfl⟩)|fail)
 rw [<- hWA];clear hWA KT;refine KS.mono ?_;rintro e WS ⟨rfl,bs⟩;have rS:=hid (rG.out.of_block (bs.block _ rG.out.lt));have BS:=hid (BA.out.trans (bs.mono BA.out.size));clear KS bs rG BA;obtain ⟨WB,hWB⟩:∃ WB,WB=WS.alloc (boxV Plain.noEv):=⟨_,rfl⟩;have rG:=hid (show WB.rowIs w.heap.size 153 4 (odF ⟨⟨0,0,0,[]⟩,none,0⟩) by rw [hWB];exact rS.out.alloc _);have BA:=hid (show Below w.heap.size w WB by rw [hWB];exact BS.out.alloc BS.out.size _);have K:=zA3 6 WB;clear rS BS
 go_wp2_with fail
 rw [<- hWB];clear hWB;refine K.mono ?_;rintro e W1 ⟨rfl,b1⟩;have R1:=hid (rG.out.of_block (b1.block _ rG.out.lt));have B1:=hid (BA.out.trans (b1.mono BA.out.size));clear K b1 rG BA;have y0:=R1.out.cell (i:=0) (by omega);have y1:=R1.out.cell (i:=1) (by omega);have y2:=R1.out.cell (i:=2) (by omega);have y3:=R1.out.cell (i:=3) (by omega);have z0:=R1.out.frozen 0;have z1:=R1.out.frozen 1;have z2:=R1.out.frozen 2;have z3:=R1.out.frozen 3;go_wp2
 (try simp only [Exit.inBlock,Exit.then])
 obtain ⟨W6,hW6⟩:∃ W6,W6=(((W1.setCell ⟨w.heap.size,0,none⟩ (.int .i64 6)).setCell ⟨w.heap.size,1,none⟩ (.int .i64 0)).setCell ⟨w.heap.size,2,none⟩ (.int .i64 0)).setCell ⟨w.heap.size,3,none⟩ (.slice none 0 0):=⟨_,rfl⟩;rw [<- hW6];have R6:W6.rowIs (w.heap.size) 153 4 (odF ⟨⟨6,0,0,[]⟩,none,0⟩):=by rw [hW6];exact kH R1.out ⟨⟨6,0,0,[]⟩,none,0⟩
 have B6:Below w.heap.size w W6:=by rw [hW6];exact vF B1.out (by omega) 0 ⟨⟨6,0,0,[]⟩,none,0⟩
 clear hW6;exact qI rfl (w.heap.size) ⟨⟨6,0,0,[]⟩,none,0⟩ rfl R6 rfl (P0.out _ B6)
theorem zZ2 (R oo n:Nat) (XX:Win) (vo vm:Value) (P:List RP) (o:Plain.Off) (hb:P.length<=100000) (x:Plain.Le) (hk:x.kind=2) (hgo:Plain.Good o) (ht:0<=x.to/\x.to<=8) (hyes:¬ (x.id<0\/(P.length:Int)<=x.id)) (hto:(P.getD x.id.toNat default).y.to≠x.to)
  (w:World) (h:OfI R oo XX w vo vm P o n) :
  Calls Tryz.prog 77 #[.pointer (some ⟨R,oo,none⟩),.int .i64 x.to,.int .i64 x.id] w fun e w'=>DoP R oo XX vo vm o x n w e w':=by
 have P0:=hid (fun w' gg=>yE3 (w:=w) (w':=w') (x:=x) (E:=11) (by unfold Plain.leE;rw [if_neg (by omega),if_neg (by omega),if_neg (by omega),if_neg (by rw [h.len];exact hyes),if_pos (by rw [h.at' (by omega)];exact hto)]) (by decide) h gg);obtain ⟨WA,hWA⟩:∃ WA,WA=w.alloc zZ0:=⟨_,rfl⟩;have rG:=hid (show WA.rowIs w.heap.size 153 4 (odF ⟨⟨0,0,0,[]⟩,none,0⟩) by rw [hWA];exact jP w ⟨⟨0,0,0,[]⟩,none,0⟩);have BA:=hid (show Below w.heap.size w WA by rw [hWA];exact yO.alloc yN _);have KT:=fun W=>vS ht W;have KS:=zU0 R oo n XX vo vm P o hb x.id WA (h.grow BA.out);obtain ⟨k,hxi⟩:∃ k:Nat,x.id=k:=⟨x.id.toNat,by omega⟩;have hkl:k<P.length:=by omega
 have hat:=h.at' hkl;have hgk:=hgo.at (k:=k) (by rw [h.len];exact hkl);rw [show Plain.seenE o x.id=0 by unfold Plain.seenE;rw [h.len,if_neg hyes],show Plain.seenV o x.id=⟨k,(P.getD k default).y.frm,(P.getD k default).y.to,(P.getD k default).y.data.length⟩ by unfold Plain.seenV;rw [h.len,if_neg hyes,hxi,show ((k:Nat):Int).toNat=k by omega,hat]] at KS;rw [hxi,show ((k:Nat):Int).toNat=k by omega] at hto;rw [hxi] at KS ⊢;clear h hat hgk hyes ht;generalize P.getD k default=y at *;obtain ⟨⟨yf,yt,yd⟩,yp,yc⟩:=y;dsimp only at KS hto;generalize yd.length=m at *;have hg:(yt != x.to)=true:=by simpa using hto
 generalize x.to=xt at *;go_enter Tryz.func77,Tryz.ntmps77
 go_wp2_with (first|(go_at_call 94;refine (KT _).mono ?_;rintro e w' ⟨rfl,rfl⟩)|fail)
 rw [<- hWA];clear hWA KT;refine KS.mono ?_;rintro e WS ⟨rfl,bs⟩;have rS:=hid (rG.out.of_block (bs.block _ rG.out.lt));have BS:=hid (BA.out.trans (bs.mono BA.out.size));clear KS bs rG BA;obtain ⟨WB,hWB⟩:∃ WB,WB=WS.alloc (boxV ⟨k,yf,yt,m⟩):=⟨_,rfl⟩;have rG:=hid (show WB.rowIs w.heap.size 153 4 (odF ⟨⟨0,0,0,[]⟩,none,0⟩) by rw [hWB];exact rS.out.alloc _);have BA:=hid (show Below w.heap.size w WB by rw [hWB];exact BS.out.alloc BS.out.size _);have K:=zA3 11 WB;clear rS BS
 go_wp2_with fail
 rw [<- hWB];clear hWB;refine K.mono ?_;rintro e W1 ⟨rfl,b1⟩;have R1:=hid (rG.out.of_block (b1.block _ rG.out.lt));have B1:=hid (BA.out.trans (b1.mono BA.out.size));clear K b1 rG BA;have y0:=R1.out.cell (i:=0) (by omega);have y1:=R1.out.cell (i:=1) (by omega);have y2:=R1.out.cell (i:=2) (by omega);have y3:=R1.out.cell (i:=3) (by omega);have z0:=R1.out.frozen 0;have z1:=R1.out.frozen 1;have z2:=R1.out.frozen 2;have z3:=R1.out.frozen 3;go_wp2
 (try simp only [Exit.inBlock,Exit.then])
 obtain ⟨W6,hW6⟩:∃ W6,W6=(((W1.setCell ⟨w.heap.size,0,none⟩ (.int .i64 11)).setCell ⟨w.heap.size,1,none⟩ (.int .i64 0)).setCell ⟨w.heap.size,2,none⟩ (.int .i64 0)).setCell ⟨w.heap.size,3,none⟩ (.slice none 0 0):=⟨_,rfl⟩;rw [<- hW6];have R6:W6.rowIs (w.heap.size) 153 4 (odF ⟨⟨11,0,0,[]⟩,none,0⟩):=by rw [hW6];exact kH R1.out ⟨⟨11,0,0,[]⟩,none,0⟩
 have B6:Below w.heap.size w W6:=by rw [hW6];exact vF B1.out (by omega) 0 ⟨⟨11,0,0,[]⟩,none,0⟩
 clear hW6;exact qI rfl (w.heap.size) ⟨⟨11,0,0,[]⟩,none,0⟩ rfl R6 rfl (P0.out _ B6)
theorem xE4 (R oo n:Nat) (XX:Win) (vo vm:Value) (P:List RP) (o:Plain.Off) (hb:P.length<=100000) (x:Plain.Le) (hk:x.kind=2) (hgo:Plain.Good o) (ht:0<=x.to/\x.to<=8) (hyes:¬ (x.id<0\/(P.length:Int)<=x.id)) (hto:(P.getD x.id.toNat default).y.to=x.to) (hold:Plain.oldO o x.id.toNat=true)
  (w:World) (h:OfI R oo XX w vo vm P o n) :
  Calls Tryz.prog 77 #[.pointer (some ⟨R,oo,none⟩),.int .i64 x.to,.int .i64 x.id] w fun e w'=>DoP R oo XX vo vm o x n w e w':=by
 have P0:=hid (fun w' gg=>yE3 (w:=w) (w':=w') (x:=x) (E:=10) (by unfold Plain.leE;rw [if_neg (by omega),if_neg (by omega),if_neg (by omega),if_neg (by rw [h.len];exact hyes),if_neg (by rw [h.at' (by omega)];simpa using hto),if_pos hold]) (by decide) h gg);obtain ⟨WA,hWA⟩:∃ WA,WA=w.alloc zZ0:=⟨_,rfl⟩;have rG:=hid (show WA.rowIs w.heap.size 153 4 (odF ⟨⟨0,0,0,[]⟩,none,0⟩) by rw [hWA];exact jP w ⟨⟨0,0,0,[]⟩,none,0⟩);have BA:=hid (show Below w.heap.size w WA by rw [hWA];exact yO.alloc yN _);have KT:=fun W=>vS ht W;have KS:=zU0 R oo n XX vo vm P o hb x.id WA (h.grow BA.out);obtain ⟨k,hxi⟩:∃ k:Nat,x.id=k:=⟨x.id.toNat,by omega⟩;have hkl:k<P.length:=by omega
 have hat:=h.at' hkl;have hgk:=hgo.at (k:=k) (by rw [h.len];exact hkl);rw [show Plain.seenE o x.id=0 by unfold Plain.seenE;rw [h.len,if_neg hyes],show Plain.seenV o x.id=⟨k,(P.getD k default).y.frm,(P.getD k default).y.to,(P.getD k default).y.data.length⟩ by unfold Plain.seenV;rw [h.len,if_neg hyes,hxi,show ((k:Nat):Int).toNat=k by omega,hat]] at KS;rw [hxi,show ((k:Nat):Int).toNat=k by omega] at hto hold;rw [hat] at hgk;have hnx:=Plain.xE2 o k;rw [hat,hold] at hnx;have HH:=hid h;have KO:=fun W (g:Below w.heap.size w W)=>zZ1 R oo n XX vo vm P o ⟨k,(P.getD k default).y.frm,(P.getD k default).y.to,(P.getD k default).y.data.length⟩ hgk.1 hgk.2.1 W (h.grow g);rw [hxi] at KS ⊢;clear h hat hgk hyes ht hold;generalize P.getD k default=y at *;obtain ⟨⟨yf,yt,yd⟩,yp,yc⟩:=y;dsimp only at KS hto KO hnx;generalize yd.length=m at *;rw [hto] at KS KO hnx;clear hto;have hg:(x.to != x.to)=false:=by simp
 obtain ⟨nx,hnx'⟩:∃ nx,nx=Plain.zY8 o yf x.to:=⟨_,rfl⟩;rw [<- hnx'] at KO hnx;clear hnx';have hd:decide ((k:Int)<(nx:Int))=true:=by
  have:=of_decide_eq_true hnx.symm;exact decide_eq_true (by omega)
 rw [hd] at KO;clear hnx;generalize x.to=xt at *;go_enter Tryz.func77,Tryz.ntmps77
 go_wp2_with (first|(go_at_call 94;refine (KT _).mono ?_;rintro e w' ⟨rfl,rfl⟩)|fail)
 rw [<- hWA];clear hWA KT;refine KS.mono ?_;rintro e WS ⟨rfl,bs⟩;have rS:=hid (rG.out.of_block (bs.block _ rG.out.lt));have BS:=hid (BA.out.trans (bs.mono BA.out.size));clear KS bs rG BA;obtain ⟨WB,hWB⟩:∃ WB,WB=WS.alloc (boxV ⟨k,yf,xt,m⟩):=⟨_,rfl⟩;have rB:=hid (show WB.rowIs w.heap.size 153 4 (odF ⟨⟨0,0,0,[]⟩,none,0⟩) by rw [hWB];exact rS.out.alloc _);have BB:=hid (show Below w.heap.size w WB by rw [hWB];exact BS.out.alloc BS.out.size _);have KO2:=KO WB BB.out;clear KO rS BS
 go_wp2_with fail
 rw [<- hWB];clear hWB;refine KO2.mono ?_;rintro e WC ⟨rfl,bc⟩;have rG:=hid (rB.out.of_block (bc.block _ rB.out.lt));have BA:=hid (BB.out.trans (bc.mono BB.out.size));clear KO2 bc rB BB;have K:=zA3 10 WC
 go_wp2_with fail
 refine K.mono ?_;rintro e W1 ⟨rfl,b1⟩;have R1:=hid (rG.out.of_block (b1.block _ rG.out.lt));have B1:=hid (BA.out.trans (b1.mono BA.out.size));clear K b1 rG BA;have y0:=R1.out.cell (i:=0) (by omega);have y1:=R1.out.cell (i:=1) (by omega);have y2:=R1.out.cell (i:=2) (by omega);have y3:=R1.out.cell (i:=3) (by omega);have z0:=R1.out.frozen 0;have z1:=R1.out.frozen 1;have z2:=R1.out.frozen 2;have z3:=R1.out.frozen 3;go_wp2
 (try simp only [Exit.inBlock,Exit.then])
 obtain ⟨W6,hW6⟩:∃ W6,W6=(((W1.setCell ⟨w.heap.size,0,none⟩ (.int .i64 10)).setCell ⟨w.heap.size,1,none⟩ (.int .i64 0)).setCell ⟨w.heap.size,2,none⟩ (.int .i64 0)).setCell ⟨w.heap.size,3,none⟩ (.slice none 0 0):=⟨_,rfl⟩;rw [<- hW6];have R6:W6.rowIs (w.heap.size) 153 4 (odF ⟨⟨10,0,0,[]⟩,none,0⟩):=by rw [hW6];exact kH R1.out ⟨⟨10,0,0,[]⟩,none,0⟩
 have B6:Below w.heap.size w W6:=by rw [hW6];exact vF B1.out (by omega) 0 ⟨⟨10,0,0,[]⟩,none,0⟩
 clear hW6;exact qI rfl (w.heap.size) ⟨⟨10,0,0,[]⟩,none,0⟩ rfl R6 rfl (P0.out _ B6)
theorem zU1 (R oo n:Nat) (XX:Win) (vo:Value) (P:List RP) (o:Plain.Off) (hb:P.length<=90000) (hn:n<=90000) (x:Plain.Le) (hk:x.kind=2) (hgo:Plain.Good o) (ht:0<=x.to/\x.to<=8) (hyes:¬ (x.id<0\/(P.length:Int)<=x.id)) (hto:(P.getD x.id.toNat default).y.to=x.to) (hold:Plain.oldO o x.id.toNat=false)
  (w:World) (h:OfI R oo XX w vo (.map none) P o n) :
  Calls Tryz.prog 77 #[.pointer (some ⟨R,oo,none⟩),.int .i64 x.to,.int .i64 x.id] w fun e w'=>DoP R oo XX vo (.map none) o x n w e w':=by
 have hE0:Plain.leE o x=0:=by
  unfold Plain.leE;rw [if_neg (by omega),if_neg (by omega),if_neg (by omega),if_neg (by rw [h.len];exact hyes),if_neg (by rw [h.at' (by omega)];simpa using hto),if_neg (by rw [hold];decide)]
 obtain ⟨WA,hWA⟩:∃ WA,WA=w.alloc zZ0:=⟨_,rfl⟩;have rG:=hid (show WA.rowIs w.heap.size 153 4 (odF ⟨⟨0,0,0,[]⟩,none,0⟩) by rw [hWA];exact jP w ⟨⟨0,0,0,[]⟩,none,0⟩);have BA:=hid (show Below w.heap.size w WA by rw [hWA];exact yO.alloc yN _);have KT:=fun W=>vS ht W;have KS:=zU0 R oo n XX vo (.map none) P o (by omega) x.id WA (h.grow BA.out);obtain ⟨k,hxi⟩:∃ k:Nat,x.id=k:=⟨x.id.toNat,by omega⟩;have hkl:k<P.length:=by omega
 have hat:=h.at' hkl;have hgk:=hgo.at (k:=k) (by rw [h.len];exact hkl);rw [show Plain.seenE o x.id=0 by unfold Plain.seenE;rw [h.len,if_neg hyes],show Plain.seenV o x.id=⟨k,(P.getD k default).y.frm,(P.getD k default).y.to,(P.getD k default).y.data.length⟩ by unfold Plain.seenV;rw [h.len,if_neg hyes,hxi,show ((k:Nat):Int).toNat=k by omega,hat]] at KS;have HS:=hid (show Plain.leS o x={ o with opened:=o.opened++[k] } by unfold Plain.leS;rw [hE0,if_neg (by decide),if_neg (by omega),hxi,show ((k:Nat):Int).toNat=k by omega]);have HT:=hid (show Plain.leT o x=⟨0,k,(P.getD k default).y.data.length,(P.getD k default).y.data⟩ by unfold Plain.leT;rw [hE0,if_neg (by decide),if_neg (by omega),hxi,show ((k:Nat):Int).toNat=k by omega,hat]);rw [hxi,show ((k:Nat):Int).toNat=k by omega] at hto hold;rw [hat] at hgk;have hnx:=Plain.xE2 o k;rw [hat,hold] at hnx;have HOLD:=hid hold;have KO:=fun W (g:Below w.heap.size w W)=>zZ1 R oo n XX vo (.map none) P o ⟨k,(P.getD k default).y.frm,(P.getD k default).y.to,(P.getD k default).y.data.length⟩ hgk.1 hgk.2.1 W (h.grow g);rw [hxi] at KS ⊢;have HH:=hid h;have HAT:=hid hat;have hRlt:=h.row.lt;have HOW:=hid (fun (q:Nat) (hq:ownS vo (.map none) q)=>h.own_lt hq);clear h hat hyes ht hold hE0;obtain ⟨y,hy⟩:∃ y,y=P.getD k default:=⟨_,rfl⟩;have HY:=hid hy;rw [<- hy] at KS hto KO hnx hgk HAT HT;clear hy;obtain ⟨⟨yf,yt,yd⟩,yp,yc⟩:=y;dsimp only at KS hto KO hnx hgk HAT HT;subst hto;obtain ⟨hrf,hrt,hrs⟩:=hgk;obtain ⟨m,hm⟩:∃ m,m=yd.length:=⟨_,rfl⟩;rw [<- hm] at KS KO HT hrs;have HM:=hid hm;clear hm;have hg:(x.to != x.to)=false:=by simp
 obtain ⟨nx,hnx'⟩:∃ nx,nx=Plain.zY8 o yf x.to:=⟨_,rfl⟩;rw [<- hnx'] at KO hnx;clear hnx';have hd:decide ((k:Int)<(nx:Int))=false:=by
  have:=of_decide_eq_false hnx.symm;exact decide_eq_false (by omega)
 rw [hd] at KO;clear hnx hd;obtain ⟨xt,hxt⟩:∃ xt,xt=x.to:=⟨_,rfl⟩;rw [<- hxt] at KT KS KO hg hrt HAT HY ⊢;have HXT:=hid hxt;clear hxt;go_enter Tryz.func77,Tryz.ntmps77
 go_wp2_with (first|(go_at_call 94;refine (KT _).mono ?_;rintro e w' ⟨rfl,rfl⟩)|fail)
 rw [<- hWA];clear hWA KT;refine KS.mono ?_;rintro e WS ⟨rfl,bs⟩;have rS:=hid (rG.out.of_block (bs.block _ rG.out.lt));have BS:=hid (BA.out.trans (bs.mono BA.out.size));clear KS bs rG BA;obtain ⟨WB,hWB⟩:∃ WB,WB=WS.alloc (boxV ⟨k,yf,xt,m⟩):=⟨_,rfl⟩;have rB:=hid (show WB.rowIs w.heap.size 153 4 (odF ⟨⟨0,0,0,[]⟩,none,0⟩) by rw [hWB];exact rS.out.alloc _);have BB:=hid (show Below w.heap.size w WB by rw [hWB];exact BS.out.alloc BS.out.size _);have vB:=hid (show WB.rowIs WS.heap.size 98 4 (evF ⟨k,yf,xt,m⟩) by rw [hWB];exact zE1 WS _);have KO2:=KO WB BB.out;have hsW:w.heap.size<WS.heap.size:=rS.out.lt;clear KO rS BS
 go_wp2_with fail
 rw [<- hWB];clear hWB;refine KO2.mono ?_;rintro e WC ⟨rfl,bc⟩;have rC:=hid (rB.out.of_block (bc.block _ rB.out.lt));have vC:=hid (vB.out.of_block (bc.block _ vB.out.lt));have BC:=hid (BB.out.trans (bc.mono BB.out.size));have OC:=hid (HH.out.grow BC.out);clear KO2 bc rB BB vB;have r1:=OC.out.c1;have z1:=OC.out.row.frozen (oo+1);have hmm:∀ W:World,(Instr.makeMap 79 none).run Tryz.prog W=.ok (.map (some W.heap.size)) (W.alloc (.map #[] 0)):=fun W=>run_makeMap 79 W;have hRC:R<WC.heap.size:=OC.out.row.lt;have hRne:¬ R=WC.heap.size:=by omega
 obtain ⟨WD,hWD⟩:∃ WD,WD=(WC.alloc (.map #[] 0)).setCell ⟨R,oo+1,none⟩ (.map (some WC.heap.size)):=⟨_,rfl⟩;have OD:=hid (show OfI R oo XX WD vo (.map (some WC.heap.size)) P o n by rw [hWD];exact OC.out.mapped);have KD:=hid (show Kp (ownS vo (.map none)) R w WD by rw [hWD];exact (Kp.of_below (BC.out.alloc BC.out.size _)).trans (Kp.setR _ _));have hneR:w.heap.size≠R/\WS.heap.size≠R:=⟨by omega,by omega⟩;have rD:=hid (show WD.rowIs w.heap.size 153 4 (odF ⟨⟨0,0,0,[]⟩,none,0⟩) by rw [hWD];exact (rC.out.alloc _).setOther (a:=⟨R,oo+1,none⟩) hneR.1 _);have vD:=hid (show WD.rowIs WS.heap.size 98 4 (evF ⟨k,yf,xt,m⟩) by rw [hWD];exact (vC.out.alloc _).setOther (a:=⟨R,oo+1,none⟩) hneR.2 _);have NM:=hid (show w.heap.size<=WC.heap.size from BC.out.size);obtain ⟨M,hM⟩:∃ M,M=WC.heap.size:=⟨_,rfl⟩;rw [<- hM] at OD NM;have HMne:=hid (show w.heap.size≠M/\WS.heap.size≠M from ⟨by have:=rC.out.lt;omega,by have:=vC.out.lt;omega⟩);clear rC vC BC OC;have heq:=zG7 WC none
 go_upto_region 12 with fail
 have eW:(WC.setCell ⟨R,oo+1,none⟩ (.map (some WC.heap.size))).alloc (.map #[] 0)=WD:=by rw [hWD];exact (World.setCell_alloc_past (w:=WC) (.map #[] 0) R (oo+1) _ hRC).symm
 rw [eW,<- hM];have HMR:=hid (show M≠R by omega);have NM:=hid (fun q (hq:q=M)=>show ownS vo (.map none) q\/w.heap.size<=q from .inr (by rw [hq];exact NM.out));clear eW hWD hM hmm heq r1 z1 hRC hRne;have mixed:Tryz.prog.follows .mixedOrders=true:=by kernel_rfl
 have e0:WD.drew.cell? ⟨WS.heap.size,0,none⟩=some (.int .i64 k):=vD.out.cell (i:=0) (by omega);have e1:WD.drew.cell? ⟨WS.heap.size,1,none⟩=some (.int .i64 yf):=vD.out.cell (i:=1) (by omega);have e2:WD.drew.cell? ⟨WS.heap.size,2,none⟩=some (.int .i64 xt):=vD.out.cell (i:=2) (by omega);have e3:WD.drew.cell? ⟨WS.heap.size,3,none⟩=some (.int .i64 m):=vD.out.cell (i:=3) (by omega);have r1D:WD.drew.cell? ⟨R,oo+1,none⟩=some (.map (some M)):=OD.out.c1;have KW:=xS3 ⟨k,yf,xt,m⟩ WD.drew;have HX:=hid (fun W (g:Below WD.drew.heap.size WD.drew W)=>show W.cell? ⟨R,oo+1,none⟩=some (.map (some M))/\W.cell? ⟨WS.heap.size,0,none⟩=some (.int .i64 k)/\W.cell? ⟨WS.heap.size,1,none⟩=some (.int .i64 yf)/\W.cell? ⟨WS.heap.size,2,none⟩=some (.int .i64 xt)/\W.cell? ⟨WS.heap.size,3,none⟩=some (.int .i64 m) by
  have hlt:WS.heap.size<WD.drew.heap.size:=vD.out.lt;exact ⟨((OD.out.drewN 1).grow g).c1,(g.cell (p:=⟨WS.heap.size,0,none⟩) hlt).trans e0,(g.cell (p:=⟨WS.heap.size,1,none⟩) hlt).trans e1,(g.cell (p:=⟨WS.heap.size,2,none⟩) hlt).trans e2,(g.cell (p:=⟨WS.heap.size,3,none⟩) hlt).trans e3⟩)
 have HP:=hid (fun W (g:Below WD.drew.heap.size WD.drew W)=>show ∃ WE,(Instr.mapUpdate 79 (.map (some M)) (keyV yf xt) (.int .i64 (IntKind.i64.wrap ((k:Int)+1)))).run Tryz.prog W=.ok () WE/\MapI WE M (n+1) (fun a b=>if yf=a/\xt=b then k+1 else Plain.zY8 o a b)/\W.grownBy WE (some M) by
  rcases ((OD.out.drewN 1).grow g).mp with ⟨e,_⟩|⟨M',e,hmp⟩
  ·cases e
  ·injection e with e
   injection e with e;subst e;obtain ⟨WE,h1,h2,h3⟩:=hmp.put (by omega) hrf hrt (k+1) (by omega);rw [show (((k+1:Nat)):Int)=IntKind.i64.wrap ((k:Int)+1) by rw [IntKind.wrap_i64];omega] at h1;exact ⟨WE,h1,h2,h3⟩)
 obtain ⟨J,hJ⟩:∃ J,J=IntKind.i64.wrap ((k:Int)+1):=⟨_,rfl⟩;have hJw:IntKind.i64.wrap ((k:Int)+1)=J:=hJ.symm;rw [<- hJ] at HP;clear hJ
 go_region_held3 (fun w'=>w'.cell? ⟨R,oo+1,none⟩=some (.map (some M))/\w'.cell? ⟨WS.heap.size,0,none⟩=some (.int .i64 k)/\w'.cell? ⟨WS.heap.size,1,none⟩=some (.int .i64 yf)/\w'.cell? ⟨WS.heap.size,2,none⟩=some (.int .i64 xt)/\w'.cell? ⟨WS.heap.size,3,none⟩=some (.int .i64 m)) (first|exact SE.out|go_keep)
  ((go_at_call 96;refine KW.mono ?_;rintro e W5 ⟨rfl,b5⟩;have B5:=hid b5;clear b5;obtain ⟨r15,x05,x15,x25,x35⟩:=HX.out W5 B5.out;obtain ⟨WE,hrun,hmE,hgE⟩:=HP.out W5 B5.out;have ME:=hid hmE;have GE:=hid hgE;clear hmE hgE;have SE:=hid (show WE.cell? ⟨R,oo+1,none⟩=some (.map (some M))/\WE.cell? ⟨WS.heap.size,0,none⟩=some (.int .i64 k)/\WE.cell? ⟨WS.heap.size,1,none⟩=some (.int .i64 yf)/\WE.cell? ⟨WS.heap.size,2,none⟩=some (.int .i64 xt)/\WE.cell? ⟨WS.heap.size,3,none⟩=some (.int .i64 m) by
    have k1:=GE.out.block R (zC (w:=W5) (h:=r15)) (fun e=>HMR.out (by injection e with e;exact e.symm));have k2:=GE.out.block WS.heap.size (zC (w:=W5) (h:=x05)) (fun e=>HMne.out.2 (by injection e));simp only [World.cell?] at r15 x05 x15 x25 x35 ⊢;rw [k1,k2];exact ⟨r15,x05,x15,x25,x35⟩)))
 all_goals
  have BDE:=hid (show Below WD.heap.size WD W5 from (below_drewN yO 1).trans B5.out);have O5:=hid (OD.out.grow BDE.out);have OE:=hid (O5.out.opened HOLD.out (by rw [HAT.out]) (by rw [HAT.out]) ME.out GE.out);have rE:=hid (show WE.rowIs w.heap.size 153 4 (odF ⟨⟨0,0,0,[]⟩,none,0⟩) from (rD.out.of_block (BDE.out.block _ rD.out.lt)).of_block (GE.out.block _ (zF rD.out.lt BDE.out.size) (fun e=>HMne.out.1 (by injection e))));have KE:=hid (show Kp (ownS vo (.map none)) R w WE from (KD.out.trans (Kp.of_below BDE.out)).and_then (Kp.grown1 (ZZ:=fun q=>q=M) rfl GE.out) (fun q hq=>NM.out q hq));obtain ⟨s0,s1,s2,s3,s4⟩:=SE.out;clear SE hrun r15 x05 x15 x25 x35 s0 s1 s2 s3 ME GE B5 BDE O5 KW HX HP;have r0:=OE.out.c0;obtain ⟨po,co,evo,hff⟩:=OE.out.form;obtain ⟨gb,egb,hgl,hcc⟩:=hff (by omega);obtain ⟨_,_,c2⟩:=hcc k hkl;rw [<- HY.out] at c2;dsimp only at c2;rw [evo,egb] at r0;have HEV:=hid evo;have HGB:=hid egb;rw [<- HM.out] at c2;have hgbn:gb≠w.heap.size:=fun e=>by
   have hq:ownS vo (.map none) gb:=.inl (by rw [evo,egb];rfl);have:=HOW.out gb hq;omega
  clear hff hcc evo egb;have hkz:(k:Int)<(P.length:Int):=by omega
  have hk0:¬ (k:Int)<0:=by omega
  have HLN:=hid hkl;obtain ⟨np,hnp⟩:∃ np,np=P.length:=⟨_,rfl⟩;rw [<- hnp] at r0 hkz HEV;clear hnp hkl;have hRn:¬ R=w.heap.size:=by omega
  have hRm:¬ w.heap.size=R:=by omega
  have hgbm:¬ w.heap.size=gb:=fun e=>hgbn e.symm;have hsn:¬ WS.heap.size=w.heap.size:=by omega
  have hsm:¬ w.heap.size=WS.heap.size:=by omega
  have y0:=rE.out.cell (i:=0) (by omega);have y1:=rE.out.cell (i:=1) (by omega);have y2:=rE.out.cell (i:=2) (by omega);have y3:=rE.out.cell (i:=3) (by omega);have z0:=rE.out.frozen 0;have z1:=rE.out.frozen 1;have z2:=rE.out.frozen 2;have z3:=rE.out.frozen 3;go_wp2
  go_region_held3 (fun w'=>w'.cell? ⟨R,oo,none⟩=some (.slice (some ⟨gb,0,none⟩) np co)/\w'.cell? ⟨WS.heap.size,3,none⟩=some (.int .i64 m)/\w'.cell? ⟨gb,k*3+2,none⟩=some (.slice yp m yc)) (go_keep) (fail)
  all_goals
   go_wp2
   (try simp only [Exit.inBlock,Exit.then])
   obtain ⟨W6,hW6⟩:∃ W6,W6=(((WE.setCell ⟨w.heap.size,0,none⟩ (.int .i64 0)).setCell ⟨w.heap.size,1,none⟩ (.int .i64 k)).setCell ⟨w.heap.size,2,none⟩ (.int .i64 m)).setCell ⟨w.heap.size,3,none⟩ (.slice yp m yc):=⟨_,rfl⟩;rw [<- hW6];have hm:=HM.out;subst hm;have e6:Only1 w.heap.size WE W6:=by rw [hW6];exact zG6 WE w.heap.size 0 ⟨⟨0,k,yd.length,yd⟩,yp,yc⟩
   have R6:W6.drew.rowIs w.heap.size 153 4 (odF ⟨⟨0,k,yd.length,yd⟩,yp,yc⟩):=by rw [hW6];exact (kH rE.out ⟨⟨0,k,yd.length,yd⟩,yp,yc⟩).of_block rfl
   clear hW6;have OD6:=(e6.off OE.out rE.out (by decide) (by decide) hRm).drewN 1;have K6:=(e6.kp KE.out yN).trans (Kp.of_below (below_drewN yO 1));have hmem:(⟨⟨yf,xt,yd⟩,yp,yc⟩:RP)∈P:=by rw [HY.out];exact kY P default HLN.out
   have Y6:=OD6.bs _ hmem;refine qI rfl w.heap.size ⟨⟨0,k,yd.length,yd⟩,yp,yc⟩ rfl R6 rfl ⟨⟨⟨0,k,yd.length,yd⟩,yp,yc⟩,vo,.map (some M),P,rfl,HT.out.symm,?_,K6,Y6,fun q hq=>?_⟩
   ·rw [HS.out];exact OD6
   ·rcases hq with e|e
    ·exact .inl (.inl e)
    ·exact NM.out q (by injection e with e;injection e with e;exact e.symm)
theorem zU2 (R oo n:Nat) (XX:Win) (vo:Value) (M0:Nat) (P:List RP) (o:Plain.Off) (hb:P.length<=90000) (hn:n<=90000) (x:Plain.Le) (hk:x.kind=2) (hgo:Plain.Good o) (ht:0<=x.to/\x.to<=8) (hyes:¬ (x.id<0\/(P.length:Int)<=x.id)) (hto:(P.getD x.id.toNat default).y.to=x.to) (hold:Plain.oldO o x.id.toNat=false)
  (w:World) (h:OfI R oo XX w vo (.map (some M0)) P o n) :
  Calls Tryz.prog 77 #[.pointer (some ⟨R,oo,none⟩),.int .i64 x.to,.int .i64 x.id] w fun e w'=>DoP R oo XX vo (.map (some M0)) o x n w e w':=by
 have hE0:Plain.leE o x=0:=by
  unfold Plain.leE;rw [if_neg (by omega),if_neg (by omega),if_neg (by omega),if_neg (by rw [h.len];exact hyes),if_neg (by rw [h.at' (by omega)];simpa using hto),if_neg (by rw [hold];decide)]
 obtain ⟨WA,hWA⟩:∃ WA,WA=w.alloc zZ0:=⟨_,rfl⟩;have rG:=hid (show WA.rowIs w.heap.size 153 4 (odF ⟨⟨0,0,0,[]⟩,none,0⟩) by rw [hWA];exact jP w ⟨⟨0,0,0,[]⟩,none,0⟩);have BA:=hid (show Below w.heap.size w WA by rw [hWA];exact yO.alloc yN _);have KT:=fun W=>vS ht W;have KS:=zU0 R oo n XX vo (.map (some M0)) P o (by omega) x.id WA (h.grow BA.out);obtain ⟨k,hxi⟩:∃ k:Nat,x.id=k:=⟨x.id.toNat,by omega⟩;have hkl:k<P.length:=by omega
 have hat:=h.at' hkl;have hgk:=hgo.at (k:=k) (by rw [h.len];exact hkl);rw [show Plain.seenE o x.id=0 by unfold Plain.seenE;rw [h.len,if_neg hyes],show Plain.seenV o x.id=⟨k,(P.getD k default).y.frm,(P.getD k default).y.to,(P.getD k default).y.data.length⟩ by unfold Plain.seenV;rw [h.len,if_neg hyes,hxi,show ((k:Nat):Int).toNat=k by omega,hat]] at KS;have HS:=hid (show Plain.leS o x={ o with opened:=o.opened++[k] } by unfold Plain.leS;rw [hE0,if_neg (by decide),if_neg (by omega),hxi,show ((k:Nat):Int).toNat=k by omega]);have HT:=hid (show Plain.leT o x=⟨0,k,(P.getD k default).y.data.length,(P.getD k default).y.data⟩ by unfold Plain.leT;rw [hE0,if_neg (by decide),if_neg (by omega),hxi,show ((k:Nat):Int).toNat=k by omega,hat]);rw [hxi,show ((k:Nat):Int).toNat=k by omega] at hto hold;rw [hat] at hgk;have hnx:=Plain.xE2 o k;rw [hat,hold] at hnx;have HOLD:=hid hold;have KO:=fun W (g:Below w.heap.size w W)=>zZ1 R oo n XX vo (.map (some M0)) P o ⟨k,(P.getD k default).y.frm,(P.getD k default).y.to,(P.getD k default).y.data.length⟩ hgk.1 hgk.2.1 W (h.grow g);rw [hxi] at KS ⊢;have HH:=hid h;have HAT:=hid hat;have hRlt:=h.row.lt;have HOW:=hid (fun (q:Nat) (hq:ownS vo (.map (some M0)) q)=>h.own_lt hq);clear h hat hyes ht hold hE0;obtain ⟨y,hy⟩:∃ y,y=P.getD k default:=⟨_,rfl⟩;have HY:=hid hy;rw [<- hy] at KS hto KO hnx hgk HAT HT;clear hy;obtain ⟨⟨yf,yt,yd⟩,yp,yc⟩:=y;dsimp only at KS hto KO hnx hgk HAT HT;subst hto;obtain ⟨hrf,hrt,hrs⟩:=hgk;obtain ⟨m,hm⟩:∃ m,m=yd.length:=⟨_,rfl⟩;rw [<- hm] at KS KO HT hrs;have HM:=hid hm;clear hm;have hg:(x.to != x.to)=false:=by simp
 obtain ⟨nx,hnx'⟩:∃ nx,nx=Plain.zY8 o yf x.to:=⟨_,rfl⟩;rw [<- hnx'] at KO hnx;clear hnx';have hd:decide ((k:Int)<(nx:Int))=false:=by
  have:=of_decide_eq_false hnx.symm;exact decide_eq_false (by omega)
 rw [hd] at KO;clear hnx hd;obtain ⟨xt,hxt⟩:∃ xt,xt=x.to:=⟨_,rfl⟩;rw [<- hxt] at KT KS KO hg hrt HAT HY ⊢;have HXT:=hid hxt;clear hxt;go_enter Tryz.func77,Tryz.ntmps77
 go_wp2_with (first|(go_at_call 94;refine (KT _).mono ?_;rintro e w' ⟨rfl,rfl⟩)|fail)
 rw [<- hWA];clear hWA KT;refine KS.mono ?_;rintro e WS ⟨rfl,bs⟩;have rS:=hid (rG.out.of_block (bs.block _ rG.out.lt));have BS:=hid (BA.out.trans (bs.mono BA.out.size));clear KS bs rG BA;obtain ⟨WB,hWB⟩:∃ WB,WB=WS.alloc (boxV ⟨k,yf,xt,m⟩):=⟨_,rfl⟩;have rB:=hid (show WB.rowIs w.heap.size 153 4 (odF ⟨⟨0,0,0,[]⟩,none,0⟩) by rw [hWB];exact rS.out.alloc _);have BB:=hid (show Below w.heap.size w WB by rw [hWB];exact BS.out.alloc BS.out.size _);have vB:=hid (show WB.rowIs WS.heap.size 98 4 (evF ⟨k,yf,xt,m⟩) by rw [hWB];exact zE1 WS _);have KO2:=KO WB BB.out;have hsW:w.heap.size<WS.heap.size:=rS.out.lt;clear KO rS BS
 go_wp2_with fail
 rw [<- hWB];clear hWB;refine KO2.mono ?_;rintro e WC ⟨rfl,bc⟩;have rC:=hid (rB.out.of_block (bc.block _ rB.out.lt));have vC:=hid (vB.out.of_block (bc.block _ vB.out.lt));have BC:=hid (BB.out.trans (bc.mono BB.out.size));have OC:=hid (HH.out.grow BC.out);clear KO2 bc rB BB vB;have r1:=OC.out.c1;have z1:=OC.out.row.frozen (oo+1);have HMR:=hid (show M0≠R from fun e=>OC.out.nown (.inr (by rw [e])));obtain ⟨WD,hWD⟩:∃ WD,WD=WC:=⟨_,rfl⟩;rw [<- hWD] at OC BC rC vC;have OD:=OC;have KD:=hid (show Kp (ownS vo (.map (some M0))) R w WD from Kp.of_below BC.out);have rD:=rC;have vD:=vC;have hM0:=HOW.out M0 (.inr rfl);have HMne:=hid (show w.heap.size≠M0/\WS.heap.size≠M0 from ⟨by omega,by omega⟩);have NM:=hid (fun q (hq:q=M0)=>show ownS vo (.map (some M0)) q\/w.heap.size<=q from .inl (.inr (by rw [hq])));have heq:=zG7 WC (some M0);clear rC vC BC OC
 go_upto_region 12 with fail
 rw [<- hWD];clear hWD heq r1 z1 hM0;have mixed:Tryz.prog.follows .mixedOrders=true:=by kernel_rfl
 have e0:WD.drew.cell? ⟨WS.heap.size,0,none⟩=some (.int .i64 k):=vD.out.cell (i:=0) (by omega);have e1:WD.drew.cell? ⟨WS.heap.size,1,none⟩=some (.int .i64 yf):=vD.out.cell (i:=1) (by omega);have e2:WD.drew.cell? ⟨WS.heap.size,2,none⟩=some (.int .i64 xt):=vD.out.cell (i:=2) (by omega);have e3:WD.drew.cell? ⟨WS.heap.size,3,none⟩=some (.int .i64 m):=vD.out.cell (i:=3) (by omega);have r1D:WD.drew.cell? ⟨R,oo+1,none⟩=some (.map (some M0)):=OD.out.c1;have KW:=xS3 ⟨k,yf,xt,m⟩ WD.drew;have HX:=hid (fun W (g:Below WD.drew.heap.size WD.drew W)=>show W.cell? ⟨R,oo+1,none⟩=some (.map (some M0))/\W.cell? ⟨WS.heap.size,0,none⟩=some (.int .i64 k)/\W.cell? ⟨WS.heap.size,1,none⟩=some (.int .i64 yf)/\W.cell? ⟨WS.heap.size,2,none⟩=some (.int .i64 xt)/\W.cell? ⟨WS.heap.size,3,none⟩=some (.int .i64 m) by
  have hlt:WS.heap.size<WD.drew.heap.size:=vD.out.lt;exact ⟨((OD.out.drewN 1).grow g).c1,(g.cell (p:=⟨WS.heap.size,0,none⟩) hlt).trans e0,(g.cell (p:=⟨WS.heap.size,1,none⟩) hlt).trans e1,(g.cell (p:=⟨WS.heap.size,2,none⟩) hlt).trans e2,(g.cell (p:=⟨WS.heap.size,3,none⟩) hlt).trans e3⟩)
 have HP:=hid (fun W (g:Below WD.drew.heap.size WD.drew W)=>show ∃ WE,(Instr.mapUpdate 79 (.map (some M0)) (keyV yf xt) (.int .i64 (IntKind.i64.wrap ((k:Int)+1)))).run Tryz.prog W=.ok () WE/\MapI WE M0 (n+1) (fun a b=>if yf=a/\xt=b then k+1 else Plain.zY8 o a b)/\W.grownBy WE (some M0) by
  rcases ((OD.out.drewN 1).grow g).mp with ⟨e,_⟩|⟨M',e,hmp⟩
  ·cases e
  ·injection e with e
   injection e with e;subst e;obtain ⟨WE,h1,h2,h3⟩:=hmp.put (by omega) hrf hrt (k+1) (by omega);rw [show (((k+1:Nat)):Int)=IntKind.i64.wrap ((k:Int)+1) by rw [IntKind.wrap_i64];omega] at h1;exact ⟨WE,h1,h2,h3⟩)
 obtain ⟨J,hJ⟩:∃ J,J=IntKind.i64.wrap ((k:Int)+1):=⟨_,rfl⟩;have hJw:IntKind.i64.wrap ((k:Int)+1)=J:=hJ.symm;rw [<- hJ] at HP;clear hJ
 go_region_held3 (fun w'=>w'.cell? ⟨R,oo+1,none⟩=some (.map (some M0))/\w'.cell? ⟨WS.heap.size,0,none⟩=some (.int .i64 k)/\w'.cell? ⟨WS.heap.size,1,none⟩=some (.int .i64 yf)/\w'.cell? ⟨WS.heap.size,2,none⟩=some (.int .i64 xt)/\w'.cell? ⟨WS.heap.size,3,none⟩=some (.int .i64 m)) (first|exact SE.out|go_keep)
  ((go_at_call 96;refine KW.mono ?_;rintro e W5 ⟨rfl,b5⟩;have B5:=hid b5;clear b5;obtain ⟨r15,x05,x15,x25,x35⟩:=HX.out W5 B5.out;obtain ⟨WE,hrun,hmE,hgE⟩:=HP.out W5 B5.out;have ME:=hid hmE;have GE:=hid hgE;clear hmE hgE;have SE:=hid (show WE.cell? ⟨R,oo+1,none⟩=some (.map (some M0))/\WE.cell? ⟨WS.heap.size,0,none⟩=some (.int .i64 k)/\WE.cell? ⟨WS.heap.size,1,none⟩=some (.int .i64 yf)/\WE.cell? ⟨WS.heap.size,2,none⟩=some (.int .i64 xt)/\WE.cell? ⟨WS.heap.size,3,none⟩=some (.int .i64 m) by
    have k1:=GE.out.block R (zC (w:=W5) (h:=r15)) (fun e=>HMR.out (by injection e with e;exact e.symm));have k2:=GE.out.block WS.heap.size (zC (w:=W5) (h:=x05)) (fun e=>HMne.out.2 (by injection e));simp only [World.cell?] at r15 x05 x15 x25 x35 ⊢;rw [k1,k2];exact ⟨r15,x05,x15,x25,x35⟩)))
 all_goals
  have BDE:=hid (show Below WD.heap.size WD W5 from (below_drewN yO 1).trans B5.out);have O5:=hid (OD.out.grow BDE.out);have OE:=hid (O5.out.opened HOLD.out (by rw [HAT.out]) (by rw [HAT.out]) ME.out GE.out);have rE:=hid (show WE.rowIs w.heap.size 153 4 (odF ⟨⟨0,0,0,[]⟩,none,0⟩) from (rD.out.of_block (BDE.out.block _ rD.out.lt)).of_block (GE.out.block _ (zF rD.out.lt BDE.out.size) (fun e=>HMne.out.1 (by injection e))));have KE:=hid (show Kp (ownS vo (.map (some M0))) R w WE from (KD.out.trans (Kp.of_below BDE.out)).and_then (Kp.grown1 (ZZ:=fun q=>q=M0) rfl GE.out) (fun q hq=>NM.out q hq));obtain ⟨s0,s1,s2,s3,s4⟩:=SE.out;clear SE hrun r15 x05 x15 x25 x35 s0 s1 s2 s3 ME GE B5 BDE O5 KW HX HP;have r0:=OE.out.c0;obtain ⟨po,co,evo,hff⟩:=OE.out.form;obtain ⟨gb,egb,hgl,hcc⟩:=hff (by omega);obtain ⟨_,_,c2⟩:=hcc k hkl;rw [<- HY.out] at c2;dsimp only at c2;rw [evo,egb] at r0;have HEV:=hid evo;have HGB:=hid egb;rw [<- HM.out] at c2;have hgbn:gb≠w.heap.size:=fun e=>by
   have hq:ownS vo (.map (some M0)) gb:=.inl (by rw [evo,egb];rfl);have:=HOW.out gb hq;omega
  clear hff hcc evo egb;have hkz:(k:Int)<(P.length:Int):=by omega
  have hk0:¬ (k:Int)<0:=by omega
  have HLN:=hid hkl;obtain ⟨np,hnp⟩:∃ np,np=P.length:=⟨_,rfl⟩;rw [<- hnp] at r0 hkz HEV;clear hnp hkl;have hRn:¬ R=w.heap.size:=by omega
  have hRm:¬ w.heap.size=R:=by omega
  have hgbm:¬ w.heap.size=gb:=fun e=>hgbn e.symm;have hsn:¬ WS.heap.size=w.heap.size:=by omega
  have hsm:¬ w.heap.size=WS.heap.size:=by omega
  have y0:=rE.out.cell (i:=0) (by omega);have y1:=rE.out.cell (i:=1) (by omega);have y2:=rE.out.cell (i:=2) (by omega);have y3:=rE.out.cell (i:=3) (by omega);have z0:=rE.out.frozen 0;have z1:=rE.out.frozen 1;have z2:=rE.out.frozen 2;have z3:=rE.out.frozen 3;go_wp2
  go_region_held3 (fun w'=>w'.cell? ⟨R,oo,none⟩=some (.slice (some ⟨gb,0,none⟩) np co)/\w'.cell? ⟨WS.heap.size,3,none⟩=some (.int .i64 m)/\w'.cell? ⟨gb,k*3+2,none⟩=some (.slice yp m yc)) (go_keep) (fail)
  all_goals
   go_wp2
   (try simp only [Exit.inBlock,Exit.then])
   obtain ⟨W6,hW6⟩:∃ W6,W6=(((WE.setCell ⟨w.heap.size,0,none⟩ (.int .i64 0)).setCell ⟨w.heap.size,1,none⟩ (.int .i64 k)).setCell ⟨w.heap.size,2,none⟩ (.int .i64 m)).setCell ⟨w.heap.size,3,none⟩ (.slice yp m yc):=⟨_,rfl⟩;rw [<- hW6];have hm:=HM.out;subst hm;have e6:Only1 w.heap.size WE W6:=by rw [hW6];exact zG6 WE w.heap.size 0 ⟨⟨0,k,yd.length,yd⟩,yp,yc⟩
   have R6:W6.drew.rowIs w.heap.size 153 4 (odF ⟨⟨0,k,yd.length,yd⟩,yp,yc⟩):=by rw [hW6];exact (kH rE.out ⟨⟨0,k,yd.length,yd⟩,yp,yc⟩).of_block rfl
   clear hW6;have OD6:=(e6.off OE.out rE.out (by decide) (by decide) hRm).drewN 1;have K6:=(e6.kp KE.out yN).trans (Kp.of_below (below_drewN yO 1));have hmem:(⟨⟨yf,xt,yd⟩,yp,yc⟩:RP)∈P:=by rw [HY.out];exact kY P default HLN.out
   have Y6:=OD6.bs _ hmem;refine qI rfl w.heap.size ⟨⟨0,k,yd.length,yd⟩,yp,yc⟩ rfl R6 rfl ⟨⟨⟨0,k,yd.length,yd⟩,yp,yc⟩,vo,.map (some M0),P,rfl,HT.out.symm,?_,K6,Y6,fun q hq=>?_⟩
   ·rw [HS.out];exact OD6
   ·rcases hq with e|e
    ·exact .inl (.inl e)
    ·exact NM.out q (by injection e with e;injection e with e;exact e.symm)
theorem open_c (R oo n:Nat) (XX:Win) (vo vm:Value) (P:List RP) (o:Plain.Off) (hgo:Plain.Good o) (hb:P.length<=90000) (hn:n<=90000) (x:Plain.Le) (hk:x.kind=2) (w:World) (h:OfI R oo XX w vo vm P o n) :
  Calls Tryz.prog 77 #[.pointer (some ⟨R,oo,none⟩),.int .i64 x.to,.int .i64 x.id] w fun e w'=>DoP R oo XX vo vm o x n w e w':=by
 by_cases ht:x.to<0\/8<x.to
 ·exact xS4 R oo n XX vo vm P o (by omega) x hk ht w h
 by_cases hno:x.id<0\/(P.length:Int)<=x.id
 ·exact zS5 R oo n XX vo vm P o (by omega) x hk (by omega) hno w h
 by_cases hto:(P.getD x.id.toNat default).y.to=x.to
 ·cases hold:Plain.oldO o x.id.toNat with
  | true=>exact xE4 R oo n XX vo vm P o (by omega) x hk hgo (by omega) hno hto hold w h
  | false =>
   rcases h.mp with ⟨rfl,_⟩|⟨M0,rfl,_⟩
   ·exact zU1 R oo n XX vo P o hb hn x hk hgo (by omega) hno hto hold w h
   ·exact zU2 R oo n XX vo M0 P o hb hn x hk hgo (by omega) hno hto hold w h
 ·exact zZ2 R oo n XX vo vm P o (by omega) x hk hgo (by omega) hno hto w h
end Go.Proofs.YtleaknfjbbccgaaGreatDoor.Se
namespace Go.Proofs.YtleaknfjbbccgaaGreatDoor.Bo
set_option maxHeartbeats 16000000
set_option maxRecDepth 100000
open Go.RowKit Go.Shelf Go.Sort
def ivals (l:List Int):List Value:=l.map (Value.int .i64)
theorem xE5 {l:List Int} {j:Nat} (h:j<l.length):(ivals l)[j]?=some (.int .i64 (l.getD j 0)):=by
 simp [ivals,h]
end Go.Proofs.YtleaknfjbbccgaaGreatDoor.Bo
