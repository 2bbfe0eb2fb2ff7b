/- Laid together. -/
import Derived.WalkKit
import Derived.Test.YtleaknfjbbccgaaGreatDoorRows
import Derived.Deep.LoopGhost
import Derived.Deep.QuietTactic
import Derived.BigQuiet
import Derived.Shelf.Abstract
import Derived.Test.YtleaknfjbbccgaaGreatDoorMs00
namespace Go.Proofs.YtleaknfjbbccgaaGreatDoor.Bo
set_option maxHeartbeats 16000000
set_option maxRecDepth 100000
namespace Plain
def sumL:List Int->Int
 | []=>0
 | w :: ws=>w+sumL ws
def sm (L:Int):List Int->Int
 | []=>0
 | w :: ws=>min w L+sm L ws
def cnt (L:Int):List Int->Int
 | []=>0
 | w :: ws=>(if L<w then 1 else 0)+cnt L ws
def give (L:Int):Int->List Int->List Int
 | _,[]=>[]
 | r,w :: ws=>if w<=L then w :: give L r ws else if 0<r then (L+1) :: give L (r-1) ws else L :: give L r ws
def Wm (ws:List Int):Prop:=∀ w,w∈ws->0<=w/\w<=1048576
theorem Wm.tail {w:Int} {ws:List Int} (h:Wm (w :: ws)):Wm ws:=fun x hx=>h x (yC _ hx)
theorem Wm.head {w:Int} {ws:List Int} (h:Wm (w :: ws)):0<=w/\w<=1048576:=h w (yD ..)
theorem zC0 (L:Int) (ws:List Int):sm (L+1) ws=sm L ws+cnt L ws:=by
 induction ws with
 | nil=>rfl
 | cons w ws ih=>simp only [sm,cnt,ih];split<;>omega
theorem jW (L:Int) (ws:List Int):0<=cnt L ws:=by
 induction ws with
 | nil=>exact Int.le_refl _
 | cons w ws ih=>simp only [cnt];split<;>omega
theorem zY5 {L M:Int} (h:L<=M) (ws:List Int):sm L ws<=sm M ws:=by
 induction ws with
 | nil=>exact Int.le_refl _
 | cons w ws ih=>simp only [sm];omega
theorem qB0 (L:Int) (ws:List Int):sm L ws<=sumL ws:=by
 induction ws with
 | nil=>exact Int.le_refl _
 | cons w ws ih=>simp only [sm,sumL];omega
theorem yP2 {L:Int} {ws:List Int} (h:∀ w,w∈ws->w<=L):sm L ws=sumL ws:=by
 induction ws with
 | nil=>rfl
 | cons w ws ih =>
  have h1:=h w (yD ..);have h2:=ih fun x hx=>h x (yC _ hx);simp only [sm,sumL];omega
theorem zY6 {ws:List Int} (h:Wm ws):sm 0 ws=0:=by
 induction ws with
 | nil=>rfl
 | cons w ws ih=>have:=h.head;have:=ih h.tail;simp only [sm];omega
theorem yJ2 {L:Int} {ws:List Int} (h:sm L ws<sumL ws):0<cnt L ws:=by
 induction ws with
 | nil=>simp [sm,sumL] at h
 | cons w ws ih =>
  simp only [sm,sumL] at h;simp only [cnt];have:=jW L ws;by_cases c:L<w
  ·rw [if_pos c];omega
  ·rw [if_neg c];have:=ih (by omega);omega
theorem yD8 (L r:Int) (ws:List Int):(give L r ws).length=ws.length:=by
 induction ws generalizing r with
 | nil=>rfl
 | cons w ws ih =>
  simp only [give];by_cases c:w<=L
  ·rw [if_pos c];simp [ih]
  ·rw [if_neg c];split<;>simp [ih]
theorem xC9 (L r:Int) (ws:List Int) (h0:0<=r) (h1:r<=cnt L ws):sumL (give L r ws)=sm L ws+r:=by
 induction ws generalizing r with
 | nil=>simp only [cnt] at h1;simp only [give,sumL,sm];omega
 | cons w ws ih =>
  simp only [cnt] at h1;simp only [give,sm];by_cases c:w<=L
  ·rw [if_neg (by omega)] at h1
   rw [if_pos c];simp only [sumL];rw [ih r h0 (by omega)];omega
  ·rw [if_pos (by omega)] at h1
   rw [if_neg c];by_cases d:0<r
   ·rw [if_pos d];simp only [sumL];rw [ih (r-1) (by omega) (by omega)];omega
   ·rw [if_neg d];simp only [sumL];rw [ih r h0 (by have:=jW L ws;omega)];omega
theorem xR3 (L r:Int) (ws:List Int) (i:Nat) (hi:i<ws.length) :
  (ws.getD i 0<=L->(give L r ws).getD i 0=ws.getD i 0)/\(L<ws.getD i 0->(give L r ws).getD i 0=L\/(give L r ws).getD i 0=L+1):=by
 induction ws generalizing r i with
 | nil=>simp at hi
 | cons w ws ih =>
  simp only [give];cases i with
  | zero =>
   simp only [List.getD_cons_zero];constructor
   ·intro h;rw [if_pos h];rfl
   ·intro h;rw [if_neg (by omega)];split
    ·exact .inr rfl
    ·exact .inl rfl
  | succ i =>
   simp only [List.getD_cons_succ];have hi':i<ws.length:=by simpa using hi
   split
   ·simpa using ih r i hi'
   ·split
    ·simpa using ih (r-1) i hi'
    ·simpa using ih r i hi'
theorem yP3 (L r:Int) (ws:List Int) (h:cnt L ws<=r):give L r ws=give (L+1) 0 ws:=by
 induction ws generalizing r with
 | nil=>rfl
 | cons w ws ih =>
  simp only [cnt] at h;simp only [give];have:=jW L ws;by_cases c:w<=L
  ·rw [if_neg (by omega)] at h
   rw [if_pos c,if_pos (by omega),ih r (by omega)]
  ·rw [if_pos (by omega)] at h
   rw [if_neg c,if_pos (by omega),ih (r-1) (by omega)];by_cases d:w<=L+1
   ·rw [if_pos d];have:w=L+1:=by omega
    rw [this]
   ·rw [if_neg d,if_neg (by omega)]
def lev (t:Int) (ws:List Int):Nat->Nat
 | 0=>0
 | k+1=>if sm (k+1) ws<=t then k+1 else lev t ws k
theorem qB1 (t:Int) (ws:List Int) (h:sm 0 ws<=t) (k:Nat):sm (lev t ws k) ws<=t:=by
 induction k with
 | zero=>exact h
 | succ k ih =>
  simp only [lev];split
  ·rename_i c;simpa using c
  ·exact ih
theorem qB2 (t:Int) (ws:List Int) (k:Nat):lev t ws k<=k:=by
 induction k with
 | zero=>exact yN
 | succ k ih=>simp only [lev];split<;>omega
theorem qB3 (t:Int) (ws:List Int) (k j:Nat) (h1:lev t ws k<j) (h2:j<=k):t<sm j ws:=by
 induction k with
 | zero=>omega
 | succ k ih =>
  simp only [lev] at h1;split at h1
  ·omega
  ·rename_i c
   by_cases e:j=k+1
   ·subst e;simp only [Int.natCast_add,Int.cast_ofNat_Int] at *;omega
   ·exact ih h1 (by omega)
def level (t:Int) (ws:List Int):Nat:=lev t ws 1048576
theorem yD9 {t:Int} {ws:List Int} (hw:Wm ws) (h0:0<=t) (h1:t<sumL ws):sm (level t ws) ws<=t/\t<sm (level t ws+1:Int) ws/\level t ws<1048576:=by
 have a:=qB1 t ws (by rw [zY6 hw];exact h0) 1048576;have b:=qB2 t ws 1048576;have c:lev t ws 1048576≠1048576:=by
  intro e;rw [e] at a;have:sm ((1048576:Nat):Int) ws=sumL ws:=yP2 fun w hw'=>(hw w hw').2;omega
 have d:=qB3 t ws 1048576 (lev t ws 1048576+1) (by omega) (by omega);refine ⟨a,?_,?_⟩
 ·unfold level;simpa using d
 ·unfold level;omega
def qE (t:Int) (ws:List Int):List Int:=if sumL ws<=t then ws else give (level t ws) (t-sm (level t ws) ws) ws
theorem zD2 {t L M:Int} {ws:List Int} (h1:sm L ws<=t) (h2:t<sm (L+1) ws) (h3:sm M ws<=t) (h4:t<sm (M+1) ws):L=M:=by
 by_cases c:L<M
 ·have:=zY5 (show L+1<=M by omega) ws;omega
 ·by_cases d:M<L
  ·have:=zY5 (show M+1<=L by omega) ws;omega
  ·omega
theorem xD0 {t L r:Int} {ws:List Int} (hw:Wm ws) (h0:0<=t) (ht:t<sumL ws) (hr0:0<=r) (hr1:r<=cnt L ws) (he:t=sm L ws+r):qE t ws=give L r ws:=by
 obtain ⟨a,b,_⟩:=yD9 hw h0 ht;unfold qE;rw [if_neg (by omega)];by_cases c:r<cnt L ws
 ·have e:(level t ws:Int)=L:=zD2 a b (by omega) (by rw [zC0];omega)
  rw [e];congr 1
  omega
 ·have e1:sm (L+1) ws=t:=by rw [zC0];omega
  have e2:(level t ws:Int)=L+1:=zD2 a b (by omega) (by
   rw [zC0];have:=yJ2 (L:=L+1) (ws:=ws) (by omega);omega)
  rw [e2,yP3 L r ws (by omega),e1];congr 1
  omega
theorem kP {t:Int} {ws:List Int} (h:sumL ws<=t):qE t ws=ws:=if_pos h
theorem zT5 (t:Int) (ws:List Int):(qE t ws).length=ws.length:=by
 unfold qE;split
 ·rfl
 ·exact yD8 _ _ _
theorem zJ7 {t:Int} {ws:List Int} (hw:Wm ws) (h0:0<=t) (ht:t<sumL ws) :
  ∃ L r:Int,0<=L/\0<=r/\r<cnt L ws/\t=sm L ws+r/\qE t ws=give L r ws:=by
 obtain ⟨a,b,_⟩:=yD9 hw h0 ht;rw [zC0] at b;refine ⟨level t ws,t-sm (level t ws) ws,by omega,by omega,by omega,by omega,?_⟩;unfold qE;rw [if_neg (by omega)]
theorem xD1 {ws:List Int} {i:Nat} (hi:i<ws.length):ws.getD i 0∈ws:=by
 rw [zA,zB hi];exact zH _
theorem xD2 {t:Int} {ws:List Int} (hw:Wm ws) (h0:0<=t) (i:Nat) (hi:i<ws.length):0<=(qE t ws).getD i 0/\(qE t ws).getD i 0<=ws.getD i 0:=by
 have hwi:=hw _ (xD1 hi);by_cases c:sumL ws<=t
 ·rw [kP c];omega
 ·obtain ⟨L,r,hL,_,_,_,e⟩:=zJ7 hw h0 (by omega)
  rw [e];have g:=xR3 L r ws i hi;by_cases d:ws.getD i 0<=L
  ·rw [g.1 d];omega
  ·have:=g.2 (by omega);omega
theorem yP4 {t:Int} {ws:List Int} (hw:Wm ws) (h0:0<=t):sumL (qE t ws)=min t (sumL ws):=by
 by_cases c:sumL ws<=t
 ·rw [kP c];omega
 ·obtain ⟨L,r,hL,hr,hc,ht,e⟩:=zJ7 hw h0 (by omega)
  rw [e,xC9 L r ws hr (by omega)];omega
end Plain
namespace Plain
theorem xR4 (L:Int) (a b:List Int):cnt L (a++b)=cnt L a+cnt L b:=by
 induction a with
 | nil=>simp [cnt]
 | cons w a ih=>simp only [List.cons_append,cnt,ih];omega
theorem zJ8 (ws:List Int) (k:Nat) (hk:k<ws.length):ws.take (k+1)=ws.take k++[ws.getD k 0]:=by
 rw [zO hk,zA,zB hk];rfl
theorem xD3 (L:Int) (ws:List Int) (k:Nat) (hk:k<ws.length):cnt L (ws.take (k+1))=cnt L (ws.take k)+if L<ws.getD k 0 then 1 else 0:=by
 rw [zJ8 ws k hk,xR4];simp [cnt]
theorem xD4 (L r:Int) (a b:List Int) (h:0<=r):give L r (a++b)=give L r a++give L (max (r-cnt L a) 0) b:=by
 induction a generalizing r with
 | nil=>simp only [List.nil_append,give,cnt];rw [show max (r-0) 0=r by omega]
 | cons w a ih =>
  simp only [List.cons_append,give,cnt];by_cases c:w<=L
  ·rw [if_pos c,if_pos c,if_neg (show ¬ L<w by omega),ih r h,List.cons_append,show r-(0+cnt L a)=r-cnt L a by omega]
  ·rw [if_neg c,if_neg c,if_pos (show L<w by omega)]
   by_cases d:0<r
   ·rw [if_pos d,if_pos d,ih (r-1) (by omega),List.cons_append,show r-(1+cnt L a)=r-1-cnt L a by omega]
   ·have:=jW L a
    rw [if_neg d,if_neg d,ih r h,List.cons_append,show max (r-(1+cnt L a)) 0=max (r-cnt L a) 0 by omega]
theorem yJ3 {t L r:Int} {ws:List Int} (hw:Wm ws) (h0:0<=t) (hr0:0<=r) (hr1:r<cnt L ws) (he:t=sm L ws+r):qE t ws=give L r ws:=by
 have h1:=qB0 (L+1) ws;rw [zC0] at h1;exact xD0 hw h0 (by omega) hr0 (by omega) he
end Plain
namespace Plain
def badC (x:Int):Bool:=decide (x<0\/1048576<x)
theorem zN0 {x:Int}:badC x=false ↔ 0<=x/\x<=1048576:=by
 unfold badC;rw [decide_eq_false_iff_not];omega
theorem badC_yes {x:Int}:badC x=true ↔ x<0\/1048576<x:=by
 unfold badC;rw [decide_eq_true_iff]
def yE0 (t:Int) (ws:List Int):Nat:=if 16<ws.length then 1 else if badC t || ws.any badC then 2 else 0
theorem qB4 {ws:List Int} (h:ws.any badC=false):Wm ws:=fun w hw=>by
 have:=List.any_eq_false.1 h w hw;exact zN0.1 (by simpa using this)
theorem qB5 {ws:List Int} (h:Wm ws):ws.any badC=false:=by
 rw [List.any_eq_false];intro w hw e;rw [zN0.2 (h w hw)] at e;cases e
theorem xR5 {t:Int} {ws:List Int} (h:yE0 t ws=0):ws.length<=16/\(0<=t/\t<=1048576)/\Wm ws:=by
 unfold yE0 at h;split at h
 ·omega
 ·split at h
  ·omega
  ·rename_i h1 h2
   simp only [Bool.or_eq_true,not_or,Bool.not_eq_true] at h2;exact ⟨by omega,zN0.1 h2.1,qB4 h2.2⟩
theorem qB6 {t:Int} {ws:List Int} (h1:ws.length<=16) (h2:0<=t/\t<=1048576) (h3:Wm ws):yE0 t ws=0:=by
 unfold yE0;rw [if_neg (by omega),zN0.2 h2,qB5 h3];rfl
theorem qB7 (L:Int) (a b:List Int):sm L (a++b)=sm L a+sm L b:=by
 induction a with
 | nil=>simp [sm]
 | cons w a ih=>simp only [List.cons_append,sm,ih];omega
theorem sm_next (L:Int) (ws:List Int) (k:Nat) (hk:k<ws.length):sm L (ws.take (k+1))=sm L (ws.take k)+min (ws.getD k 0) L:=by
 rw [zJ8 ws k hk,qB7];simp [sm]
theorem wm_take {ws:List Int} (h:Wm ws) (k:Nat):Wm (ws.take k):=fun w hw=>h w (List.mem_of_mem_take hw)
theorem xR6 {ws:List Int} (h:Wm ws):sumL ws<=1048576*ws.length:=by
 induction ws with
 | nil=>simp [sumL]
 | cons w ws ih=>have:=h.head;have:=ih h.tail;simp only [sumL,List.length_cons];omega
theorem sm_bd {L:Int} {ws:List Int} (h:Wm ws) (hL:0<=L):0<=sm L ws/\sm L ws<=1048576*ws.length:=by
 have h1:=zY5 hL ws;rw [zY6 h] at h1;have:=qB0 L ws;have:=xR6 h;omega
theorem xD5 {L:Int} (r:Int) {ws:List Int} (h:∀ w,w∈ws->w<=L):give L r ws=ws:=by
 induction ws with
 | nil=>rfl
 | cons w ws ih =>
  simp only [give];rw [if_pos (h w (yD ..)),ih fun x hx=>h x (yC _ hx)]
theorem xR7 {t:Int} {ws:List Int} (hw:Wm ws) (h0:0<=t) (s:Nat) (hs:s<=1048576) (h1:∀ i:Nat,i<s->decide (t<sm ((i:Int)+1) ws)=false) (h2:∀ i:Nat,s<=i->i<1048576->decide (t<sm ((i:Int)+1) ws)=true) :
  qE t ws=give s (t-sm s ws) ws/\sm s ws<=t:=by
 have a:sm s ws<=t:=by
  cases s with
  | zero=>rw [show ((0:Nat):Int)=0 from rfl,zY6 hw];exact h0
  | succ s =>
   have:=h1 s (by omega);rw [decide_eq_false_iff_not] at this;rw [show ((s+1:Nat):Int)=(s:Int)+1 by omega];omega
 refine ⟨?_,a⟩;by_cases c:s=1048576
 ·have hall:∀ w,w∈ws->w<=(s:Int):=fun w hx=>by have:=(hw w hx).2;omega
  rw [xD5 _ hall,kP];rw [<- yP2 hall];exact a
 ·have:=h2 s yN (by omega)
  rw [decide_eq_true_iff,zC0] at this;exact yJ3 hw h0 (by omega) (by omega) (by omega)
def lft (L r:Int) (ws:List Int) (k:Nat):Int:=max (r-cnt L (ws.take k)) 0
theorem lft_next (L r:Int) (ws:List Int) (k:Nat) (hk:k<ws.length):lft L r ws (k+1)=if L<ws.getD k 0/\0<lft L r ws k then lft L r ws k-1 else lft L r ws k:=by
 unfold lft;rw [xD3 L ws k hk];by_cases c:L<ws.getD k 0
 ·rw [if_pos c]
  by_cases d:0<max (r-cnt L (ws.take k)) 0
  ·rw [if_pos ⟨c,d⟩];omega
  ·rw [if_neg (fun h=>d h.2)];omega
 ·rw [if_neg c,if_neg (fun h=>c h.1),Int.add_zero]
theorem lft_bd (L r:Int) (ws:List Int) (k:Nat):0<=lft L r ws k/\(0<=r->lft L r ws k<=r):=by
 unfold lft;have:=jW L (ws.take k);omega
theorem lft_zero (L r:Int) (ws:List Int) (h:0<=r):lft L r ws 0=r:=by
 unfold lft;simp [cnt];omega
theorem qB8 (L r:Int) (ws:List Int) (k:Nat) (hk:k<ws.length) (h:0<=r):(give L r ws).getD k 0=if ws.getD k 0<=L then ws.getD k 0 else if 0<lft L r ws k then L+1 else L:=by
 have e:ws=ws.take k++(ws.getD k 0 :: ws.drop (k+1)):=by
  conv=>lhs;rw [<- List.take_append_drop k ws,List.drop_eq_getElem_cons hk]
  rw [zA,zB hk];rfl
 have hl:(give L r (ws.take k)).length=k:=by rw [yD8,zU];omega
 have e2:give L r ws=give L r (ws.take k)++give L (lft L r ws k) (ws.getD k 0 :: ws.drop (k+1)):=by
  conv=>lhs;rw [e]
  rw [xD4 L r _ _ h];rfl
 rw [e2,zA,zR (by omega),hl,Nat.sub_self];simp only [give];split
 ·rfl
 ·split<;>rfl
end Plain
open Go.RowKit Go.Shelf
namespace Plain
def idxA {α:Type} (p:α->Bool) (l:List α):Int:=if l.findIdx p<l.length then (l.findIdx p:Nat) else -1
theorem zY7 {α:Type} (l:List α) (d:α) (k:Nat) (hk:k<l.length):l.getD k d=l[k]:=by
 rw [zA,zB hk];rfl
theorem idxA_hit {α:Type} {p:α->Bool} {l:List α} {d:α} {k:Nat} (hk:k<l.length) (h:p (l.getD k d)=true) (ha:∀ j,j<k->p (l.getD j d)=false):idxA p l=k:=by
 have e:l.findIdx p=k:=by
  rw [List.findIdx_eq hk];rw [zY7 _ _ _ hk] at h;refine ⟨h,fun j hj=>?_⟩;have:=ha j hj;rw [zY7 _ _ _ (by omega)] at this;exact this
 unfold idxA;rw [e,if_pos hk]
theorem qB9 {α:Type} {p:α->Bool} {l:List α} {d:α} (ha:∀ j,j<l.length->p (l.getD j d)=false):idxA p l=-1:=by
 have e:l.findIdx p=l.length:=List.findIdx_eq_length.2 fun x hx=>by
  obtain ⟨j,hj,rfl⟩:=List.getElem_of_mem hx;have:=ha j hj;rw [zY7 _ _ _ hj] at this;exact this
 unfold idxA;rw [e,if_neg (by omega)]
theorem idxA_any {α:Type} (p:α->Bool) (l:List α):decide (0<=idxA p l)=l.any p:=by
 unfold idxA;by_cases h:l.findIdx p<l.length
 ·rw [if_pos h,List.any_eq_true.2 ⟨l[l.findIdx p],zH h,List.findIdx_getElem⟩]
  simp
 ·rw [if_neg h]
  have:l.any p=false:=by
   rw [List.any_eq_false];intro x hx hp;exact h (List.findIdx_lt_length_of_exists ⟨x,hx,hp⟩)
  rw [this];rfl
end Plain
theorem kD {k:IntKind} {x y:Int} (h:x=y):Ending.returned (.int k x)=.returned (.int k y):=by rw [h]
def Wants (w:World) (p:Option Addr) (l:List Int):Prop :=
 0<l.length->∃ b off,p=some ⟨b,off,none⟩/\b<w.heap.size/\∀ j,j<l.length->w.cell? ⟨b,off+j,none⟩=some (.int .i64 (l.getD j 0))
theorem Wants.grow {w w':World} {p:Option Addr} {l:List Int} (h:Wants w p l) (g:Below w.heap.size w w'):Wants w' p l:=fun h0=>by
 obtain ⟨b,off,rfl,hb,hc⟩:=h h0;exact ⟨b,off,rfl,zF hb g.size,fun j hj=>(g.cell (p:=⟨b,off+j,none⟩) hb).trans (hc j hj)⟩
theorem Wants.drew {w:World} {p:Option Addr} {l:List Int} (h:Wants w p l) (q:Nat):Wants (w.drewN q) p l:=fun h0=>by
 obtain ⟨b,off,rfl,hb,hc⟩:=h h0;exact ⟨b,off,rfl,hb,fun j hj=>by simpa using hc j hj⟩
theorem zT6 (x:Int) (w:World):Calls Tryz.prog 130 #[.int .i64 x] w fun e w'=>e=.returned (.bool (!Plain.badC x))/\w'=w:=by
 by_cases h0:0<=x
 ·by_cases h1:x<=1048576
  ·rw [Plain.zN0.2 ⟨h0,h1⟩]
   go_enter Tryz.func130,Tryz.ntmps130
   go_wp2;go_ret
   exact ⟨rfl,rfl⟩
  ·rw [Plain.badC_yes.2 (.inr (by omega))]
   go_enter Tryz.func130,Tryz.ntmps130
   go_wp2;go_ret
   exact ⟨rfl,rfl⟩
 ·rw [Plain.badC_yes.2 (.inl (by omega))]
  go_enter Tryz.func130,Tryz.ntmps130
  go_wp2;go_ret
  exact ⟨rfl,rfl⟩
theorem qC0 (x:Int) (w:World):Calls Tryz.prog 131 #[.int .i64 x] w fun e w'=>e=.returned (.bool (Plain.badC x))/\w'=w:=by
 have K:=zT6 x w;generalize Plain.badC x=r at K ⊢;go_enter Tryz.func131,Tryz.ntmps131
 go_wp2_with fail
 refine K.mono ?_;rintro e w' ⟨rfl,rfl⟩;clear K;cases r
 all_goals (go_wp2;go_ret;exact ⟨rfl,rfl⟩)
theorem xD6 (p:Option Addr) (n c:Nat) (l:List Int) (w:World) (hn:l.length=n) (hbig:n<=9223372036854775807) (hp:Wants w p l) :
  Calls Tryz.prog 56 #[.slice p n c,.func (.func 131) #[] #[]] w fun e w'=>e=.returned (.int .i64 (Plain.idxA Plain.badC l))/\w'=w:=by
 have HP:=hid hp;have HN:=hid hn;clear hp hn;go_enter Tryz.func56,Tryz.ntmps56
 go_wp2
 go_loopg [5,8] n (fun gg _ s8 wr=>∃ kk:Nat,kk<=n/\n-kk<=gg/\s8=.int .i64 kk/\wr=w/\Aside (∀ j,j<kk->Plain.badC (l.getD j 0)=false))
 case atStart=>exact ⟨0,zG _,by omega,rfl,rfl,fun j hj=>absurd hj (yE _)⟩
 case round =>
  obtain ⟨kk,hkk,hg,rfl,rfl,A⟩:=hrel;by_cases hlt:kk<n
  ·have hltz:(kk:Int)<(n:Int):=by omega
   obtain ⟨b,off,rfl,_,hc⟩:=HP.out (by rw [HN.out];omega);have c0:=hc kk (by rw [HN.out];exact hlt);clear hc;have hcall:=qC0 (l.getD kk 0) wr;generalize hy:l.getD kk 0=y at c0 hcall;have HY:Aside (l.getD kk 0=y):=hy;clear hy;cases hq:Plain.badC y with
   | true =>
    rw [hq] at hcall
    go_wp2_with fail
    refine hcall.mono ?_;rintro e w' ⟨rfl,rfl⟩;clear hcall;go_wp2;go_ret
    refine ⟨?_,rfl⟩;rw [Plain.idxA_hit (d:=0) (by have:=HN.out;omega) (by rw [HY.out];exact hq) A.out];rfl
   | false =>
    rw [hq] at hcall
    go_wp2_with fail
    refine hcall.mono ?_;rintro e w' ⟨rfl,rfl⟩;clear hcall;go_wp2
    go_roundg (n-(kk+1))
    case measure=>omega
    case rel =>
     refine ⟨kk+1,by omega,by omega,by go_num,rfl,(show Aside _ from fun j hj=>?_)⟩;by_cases e:j=kk
     ·subst e
      rw [HY.out];exact hq
     ·exact A.out j (by omega)
  ·have hltz:¬ (kk:Int)<(n:Int):=by omega
   have:kk=n:=by omega
   subst this;go_wp2;go_ret
   refine ⟨?_,rfl⟩;rw [Plain.qB9 (d:=0) (fun j hj=>A.out j (by have:=HN.out;omega))];rfl
theorem yP5 (p:Option Addr) (n c:Nat) (l:List Int) (w:World) (hn:l.length=n) (hbig:n<=9223372036854775807) (hp:Wants w p l) :
  Calls Tryz.prog 37 #[.slice p n c,.func (.func 131) #[] #[]] w fun e w'=>e=.returned (.bool (l.any Plain.badC))/\w'=w:=by
 rw [<- Plain.idxA_any];have K:=xD6 p n c l w hn hbig hp;clear hp hn;generalize Plain.idxA Plain.badC l=r at K ⊢;go_enter Tryz.func37,Tryz.ntmps37
 go_wp2_with fail
 refine K.mono ?_;rintro e w' ⟨rfl,rfl⟩;clear K;go_wp2;go_ret
 exact ⟨rfl,rfl⟩
theorem zJ9 (p:Option Addr) (n c:Nat) (l:List Int) (L:Int) (hL:0<=L) (hL2:L<=1048577) (hw:Plain.Wm l) (w:World) (hn:l.length=n) (hbig:n<=16) (hp:Wants w p l) :
  Calls Tryz.prog 134 #[.slice p n c,.int .i64 L] w fun e w'=>e=.returned (.int .i64 (Plain.sm L l))/\w'=w:=by
 have HP:=hid hp;have HN:=hid hn;have HW:=hid hw;clear hp hn hw;go_enter Tryz.func134,Tryz.ntmps134
 go_wp2
 go_loopg [5,10] n (fun gg s5 s10 wr=>∃ (k:Nat) (S:Int),k<=n/\n-k<=gg/\s10=.int .i64 k/\s5=.int .i64 S/\wr=w/\Aside (S=Plain.sm L (l.take k)))
 case atStart=>exact ⟨0,0,zG _,by omega,rfl,rfl,rfl,rfl⟩
 case round =>
  obtain ⟨k,S,hkk,hg,rfl,rfl,rfl,A⟩:=hrel;by_cases hlt:k<n
  ·have hltz:(k:Int)<(n:Int):=by omega
   obtain ⟨b,off,rfl,_,hc⟩:=HP.out (by rw [HN.out];omega);have c0:=hc k (by rw [HN.out];exact hlt);clear hc;have hS:=Plain.sm_bd (Plain.wm_take HW.out k) hL;rw [<- A.out,zU] at hS;have hS2:0<=S/\S<=16777216:=by omega
   clear hS;have hy0:=HW.out _ (Plain.xD1 (show k<l.length by rw [HN.out];exact hlt));have hst:=hid (Plain.sm_next L l k (by rw [HN.out];exact hlt));generalize hy:l.getD k 0=y at c0 hy0 hst;clear hy;by_cases hm:L<y
   ·have hst2:=hid (show Plain.sm L (l.take (k+1))=S+L by rw [hst.out,<- A.out];omega)
    clear hst;go_wp2
    go_roundg (n-(k+1))
    case measure=>omega
    case rel=>exact ⟨k+1,S+L,by omega,by omega,by go_num,rfl,rfl,hst2.out.symm⟩
   ·have hst2:=hid (show Plain.sm L (l.take (k+1))=S+y by rw [hst.out,<- A.out];omega)
    clear hst;go_wp2
    go_roundg (n-(k+1))
    case measure=>omega
    case rel=>exact ⟨k+1,S+y,by omega,by omega,by go_num,rfl,rfl,hst2.out.symm⟩
  ·have hltz:¬ (k:Int)<(n:Int):=by omega
   have hk:k=n:=by omega
   have F:=hid (show Plain.sm L l=S by rw [A.out,yB (by rw [HN.out];omega)]);go_wp2;go_ret
   exact ⟨kD F.out.symm,rfl⟩
theorem qC1 (bw bt:Nat) (p:Option Addr) (c:Nat) (l:List Int) (t:Int) (i:Nat) (hi:i<1048576) (hw:Plain.Wm l) (w:World) (hbig:l.length<=16) (hp:Wants w p l)
  (hb:w.cell? ⟨bw,0,none⟩=some (.slice p l.length c)) (ht:w.cell? ⟨bt,0,none⟩=some (.int .i64 t)) :
  Calls Tryz.prog 133 #[.int .i64 i,.pointer (some ⟨bw,0,none⟩),.pointer (some ⟨bt,0,none⟩)] w fun e w'=>e=.returned (.bool (decide (t<Plain.sm ((i:Int)+1) l)))/\∃ q,w'=w.drewN q:=by
 have K:=fun q=>zJ9 p l.length c l ((i:Int)+1) (by omega) (by omega) hw (w.drewN q) rfl hbig (hp.drew q);clear hp hw;generalize Plain.sm ((i:Int)+1) l=S at K ⊢;generalize l.length=n at *;go_enter Tryz.func133,Tryz.ntmps133
 go_wp2
 go_quiet ((go_at_call 134;exact Calls.quiet_of_same (K _)))
 go_wp2;go_ret
 exact ⟨rfl,_,rfl⟩
theorem xD7 (bw bt:Nat) (p:Option Addr) (c:Nat) (l:List Int) (t:Int) (hw:Plain.Wm l) (w:World) (hbig:l.length<=16) (hp:Wants w p l)
  (hb:w.cell? ⟨bw,0,none⟩=some (.slice p l.length c)) (ht:w.cell? ⟨bt,0,none⟩=some (.int .i64 t)) :
  Calls Tryz.prog 132 #[.int .i64 1048576,.func (.func 133) #[] #[.pointer (some ⟨bw,0,none⟩),.pointer (some ⟨bt,0,none⟩)]] w fun e w' =>
   ∃ s q:Nat,e=.returned (.int .i64 s)/\w'=w.drewN q/\s<=1048576/\(∀ i:Nat,i<s->decide (t<Plain.sm ((i:Int)+1) l)=false)/\(∀ i:Nat,s<=i->i<1048576->decide (t<Plain.sm ((i:Int)+1) l)=true):=by
 have K:Aside (∀ (q i:Nat),i<1048576->Calls Tryz.prog 133 #[.int .i64 i,.pointer (some ⟨bw,0,none⟩),.pointer (some ⟨bt,0,none⟩)] (w.drewN q) fun e w'=>e=.returned (.bool (decide (t<Plain.sm ((i:Int)+1) l)))/\∃ q',w'=(w.drewN q).drewN q') :=
  fun q i hi=>qC1 bw bt p c l t i hi hw (w.drewN q) hbig (hp.drew q) (by simpa using hb) (by simpa using ht)
 have M:Aside (∀ i j:Nat,i<=j->decide (t<Plain.sm ((i:Int)+1) l)=true->decide (t<Plain.sm ((j:Int)+1) l)=true):=fun i j hij h=>by
  rw [decide_eq_true_iff] at h ⊢;have:=Plain.zY5 (show (i:Int)+1<=(j:Int)+1 by omega) l;omega
 clear hp hw hb ht hbig;obtain ⟨P,hP⟩:∃ P:Nat->Bool,P=fun i:Nat=>decide (t<Plain.sm ((i:Int)+1) l):=⟨_,rfl⟩;have e:∀ i:Nat,decide (t<Plain.sm ((i:Int)+1) l)=P i:=fun i=>by rw [hP]
 simp only [e] at K M ⊢;clear e hP;go_enter Tryz.func132,Tryz.ntmps132
 go_wp2
 go_loopg [5,6] 1048576 (fun gg s5 s6 wr=>∃ lo hi q:Nat,s5=.int .i64 lo/\s6=.int .i64 hi/\lo<=hi/\hi<=1048576/\hi-lo<=gg/\wr=w.drewN q/\Aside ((∀ i:Nat,i<lo->P i=false)/\(∀ i:Nat,hi<=i->i<1048576->P i=true)))
 case atStart=>exact ⟨0,1048576,0,rfl,rfl,zG _,yN,by omega,rfl,(show Aside _ from ⟨fun i hi=>absurd hi (yE _),fun i h1 h2=>by omega⟩)⟩
 case round =>
  obtain ⟨lo,hi,q,rfl,rfl,hlh,hin,hg,rfl,I⟩:=hrel;by_cases hlt:lo<hi
  ·have hc:=K.out q ((lo+hi)/2) (by omega)
   rw [show (((lo+hi)/2:Nat):Int)=((lo:Int)+(hi:Int))/2 by omega] at hc;cases hp:P ((lo+hi)/2)<;>rw [hp] at hc
   ·have HP:Aside (P ((lo+hi)/2)=false):=hp
    clear hp
    go_wp2_with (go_at_call 133;refine hc.mono ?_;rintro e w' ⟨rfl,nq,rfl⟩)
    go_roundg (hi-((lo+hi)/2+1))
    case measure=>omega
    case rel =>
     refine ⟨(lo+hi)/2+1,hi,q+nq,by rw [show ((lo:Int)+(hi:Int))/2+1=(((lo+hi)/2+1:Nat):Int) by omega],rfl,by omega,hin,yN,rfl,(show Aside _ from ⟨fun i hi2=>?_,I.out.2⟩)⟩;cases h:P i with
     | false=>rfl
     | true=>have:=M.out i ((lo+hi)/2) (by omega) h;rw [HP.out] at this;cases this
   ·have HP:Aside (P ((lo+hi)/2)=true):=hp
    clear hp
    go_wp2_with (go_at_call 133;refine hc.mono ?_;rintro e w' ⟨rfl,nq,rfl⟩)
    go_roundg ((lo+hi)/2-lo)
    case measure=>omega
    case rel =>
     exact ⟨lo,(lo+hi)/2,q+nq,rfl,by rw [show ((lo:Int)+(hi:Int))/2=(((lo+hi)/2:Nat):Int) by omega],by omega,by omega,yN,rfl,(show Aside _ from ⟨I.out.1,fun i h1 h2=>M.out ((lo+hi)/2) i h1 HP.out⟩)⟩
  ·obtain rfl:hi=lo:=by omega
   go_wp2;go_ret
   exact ⟨hi,q,rfl,rfl,hin,I.out.1,I.out.2⟩
theorem below_drewN {B:Nat} {w w':World} (h:Below B w w') (q:Nat):Below B w (w'.drewN q):=⟨h.os,h.tape,h.output,h.size,h.block⟩
theorem yE1 {wr:World} {k n B:Nat} {f:Nat->Int} {x:Int} (hx:f k=x)
  (hrow:wr.rowIs B 3 n (fun j=>if j<k then .int .i64 (f j) else .int .i64 0)) :
  (wr.setCell ⟨B,k,none⟩ (.int .i64 x)).rowIs B 3 n (fun j=>if j<k+1 then .int .i64 (f j) else .int .i64 0):=by
 refine (hrow.set k (.int .i64 x)).congr fun j _=>?_;by_cases c:j=k
 ·subst c;rw [if_pos rfl,if_pos (by omega),hx]
 ·rw [if_neg c]
  by_cases d:j<k
  ·rw [if_pos d,if_pos (by omega)]
  ·rw [if_neg d,if_neg (by omega)]
theorem yP6 {wr:World} {k n B:Nat} {f:Nat->Int} {x y:Int} (hx:f k=x)
  (hrow:wr.rowIs B 3 n (fun j=>if j<k then .int .i64 (f j) else .int .i64 0)) :
  ((wr.setCell ⟨B,k,none⟩ (.int .i64 y)).setCell ⟨B,k,none⟩ (.int .i64 x)).rowIs B 3 n (fun j=>if j<k+1 then .int .i64 (f j) else .int .i64 0):=by
 refine ((hrow.set k (.int .i64 y)).set k (.int .i64 x)).congr fun j _=>?_;by_cases c:j=k
 ·subst c;rw [if_pos rfl,if_pos (by omega),hx]
 ·rw [if_neg c,if_neg c]
  by_cases d:j<k
  ·rw [if_pos d,if_pos (by omega)]
  ·rw [if_neg d,if_neg (by omega)]
theorem Tryz.infoInt:(Tryz.prog.info? 3).map (fun i=>(i.zero,i.size,i.bytes))=some (some (.int .i64 0),1,8):=by kernel_rfl
abbrev boxI (x:Int):Obj:=.cells #[.int .i64 x] 3
abbrev boxS (v:Value):Obj:=.cells #[v] 22
theorem xD8 (p:Option Addr) (n c:Nat) (l:List Int) (t:Int) (hE:Plain.yE0 t l=0) (w:World) (hn:l.length=n) (hp:Wants w p l) :
  Calls Tryz.prog 111 #[.int .i64 t,.slice p n c] w fun e w' =>
   ∃ g,e=.returned (.tuple #[.slice (some ⟨g,0,none⟩) n n,.int .i64 0])/\RowI w' g (Plain.qE t l)/\w.heap.size<=g/\Below w.heap.size w w':=by
 obtain ⟨h16,ht,hw⟩:=Plain.xR5 hE;have hn16:n<=16:=by omega
 have hn16':¬ (16:Int)<(n:Int):=by omega
 obtain ⟨W,hW⟩:∃ W,W=(w.alloc (boxI t)).alloc (boxS (.slice p n c)):=⟨_,rfl⟩;have bel:Below w.heap.size w W:=by rw [hW];exact (yO.alloc yN _).alloc (by simp) _
 have hWs:W.heap.size=w.heap.size+2:=by rw [hW];simp
 have ct:W.cell? ⟨w.heap.size,0,none⟩=some (.int .i64 t):=by
  rw [hW,yJ _ _ _ (by simp),zM _ _ _ _ (by simp)];rfl
 have cw:W.cell? ⟨w.heap.size+1,0,none⟩=some (.slice p n c):=by
  rw [hW,zM _ _ _ _ (by simp)];rfl
 have hpW:=hp.grow bel;have K1:=zT6 t W;have K2:=yP5 p n c l W hn (by omega) hpW;have K3:=xD7 (w.heap.size+1) w.heap.size p c l t hw W h16 hpW (by rw [hn];exact cw) ct;rw [Plain.zN0.2 ht] at K1;rw [Plain.qB5 hw] at K2;rw [hW] at K1 K2 K3;have HW:=hid hW;have HWm:=hid hw;have HP:=hid hpW;have HN:=hid hn;have HB:=hid bel;have HCT:=hid ct;have HCW:=hid cw;clear hW hw hpW hn bel ct cw hp hE;have hmf:∀ (fn:Fn) (first cap:Array Value) (w:World),(Instr.makeFunc fn first cap).run Tryz.prog w=.ok (.func fn first cap) w:=fun _ _ _ _=>rfl;have hmk:=run_make_row' (P:=Tryz.prog) 22 3 (.int .i64 0) 8 Tryz.underlying22 Tryz.infoInt rfl .i64 .i64 n (by omega) (by omega);go_enter Tryz.func111,Tryz.ntmps111
 go_wp2_with fail
 refine K1.mono ?_;rintro e w' ⟨rfl,rfl⟩;clear K1
 go_wp2_with fail
 refine K2.mono ?_;rintro e w' ⟨rfl,rfl⟩;clear K2
 go_wp2_with fail
 refine K3.mono ?_;rw [<- HW.out];rintro e w' ⟨s,q,rfl,rfl,hs,g1,g2⟩;clear K3;obtain ⟨FE,FS⟩:=Plain.xR7 HWm.out ht.1 s hs g1 g2;clear g1 g2;obtain ⟨W2,hW2⟩:∃ W2,W2=W.drewN q:=⟨_,rfl⟩;rw [<- hW2];have c2t:W2.cell? ⟨w.heap.size,0,none⟩=some (.int .i64 t):=by rw [hW2];simpa using HCT.out
 have c2w:W2.cell? ⟨w.heap.size+1,0,none⟩=some (.slice p n c):=by rw [hW2];simpa using HCW.out
 have HP2:=hid (show Wants W2 p l by rw [hW2];exact HP.out.drew q);have HB2:=hid (show Below w.heap.size w W2 by rw [hW2];exact below_drewN HB.out q);have hs2:W2.heap.size=w.heap.size+2:=by rw [hW2];exact hWs
 clear hW2 HP HB HCT HCW HW hWs;have KT:=fun q=>zJ9 p n c l s (by omega) (by omega) HWm.out (W2.drewN q) HN.out hn16 (HP2.out.drew q);have hS0:=(Plain.sm_bd (L:=(s:Int)) HWm.out (by omega)).1;generalize Plain.sm s l=S at KT FE FS hS0;have HFE:=hid FE;clear FE;obtain ⟨h0,h1⟩:=ht;go_wp2
 go_quiet ((go_at_call 134;exact Calls.quiet_of_same (KT _)))
 obtain ⟨W3,hW3⟩:∃ W3,W3=W2.drewN nq:=⟨_,rfl⟩;rw [<- hW3];have c3w:W3.cell? ⟨w.heap.size+1,0,none⟩=some (.slice p n c):=by rw [hW3];simpa using c2w
 have HP3:=hid (show Wants W3 p l by rw [hW3];exact HP2.out.drew nq);have HB3:=hid (show Below w.heap.size w W3 by rw [hW3];exact below_drewN HB2.out nq);have hs3:W3.heap.size=w.heap.size+2:=by rw [hW3];exact hs2
 have c3a:(W3.alloc (.cells (madeCells #[.int .i64 0] n) 3)).cell? ⟨w.heap.size+1,0,none⟩=some (.slice p n c):=by rw [yJ _ _ _ (by simp;omega)];exact c3w
 clear hW3 HP2 HB2 c2t c2w hs2 KT;have hr0:0<=t-S:=by omega
 have hr1:t-S<=1048576:=by omega
 generalize t-S=r at HFE hr0 hr1;have HS3:=hid hs3;clear FS hS0 hmf hs3;go_wp2;clear hmk c3w c3a
 go_loopg [7,33] n (fun gg s7 s33 wr=>∃ (k:Nat) (Lf:Int),k<=n/\n-k<=gg/\s33=.int .i64 k/\s7=.int .i64 Lf/\Aside (Lf=Plain.lft s r l k/\wr.rowIs W3.heap.size 3 n (fun j=>if j<k then .int .i64 ((Plain.give s r l).getD j 0) else .int .i64 0)/\Below W3.heap.size W3 wr))
 case atStart=>exact ⟨0,r,zG _,by omega,rfl,rfl,(show Aside _ from ⟨(Plain.lft_zero _ _ _ hr0).symm,World.rowIs_made W3 (.int .i64 0) n 3,yO.alloc yN _⟩)⟩
 case round =>
  obtain ⟨k,Lf,hkk,hg,rfl,rfl,A⟩:=hrel;by_cases hlt:k<n
  ·have hltz:(k:Int)<(n:Int):=by omega
   have hk0:(0:Int)<=(k:Int):=by omega
   have hll:k<l.length:=by rw [HN.out];exact hlt
   obtain ⟨b,off,rfl,hb,hc⟩:=(HP3.out.grow A.out.2.2) (by omega);have c0:=hc k hll;clear hc;have hy0:=HWm.out _ (Plain.xD1 hll);have hgv:=Plain.qB8 s r l k hll hr0;have hlf:=Plain.lft_next s r l k hll;have hlb:=Plain.lft_bd s r l k;rw [<- A.out.1] at hgv hlf hlb;have hlb1:0<=Lf:=hlb.1;have hlb2:Lf<=1048576:=by have:=hlb.2 hr0;omega
   clear hlb;generalize hy:l.getD k 0=y at c0 hy0 hgv hlf;clear hy;have hsz:=A.out.2.1.lt;have hfz:=A.out.2.1.frozen k;have hcl:=A.out.2.1.cell hlt;by_cases hm:(s:Int)<y
   ·rw [if_neg (by omega)] at hgv
    by_cases hp0:0<Lf
    ·rw [if_pos hp0] at hgv
     rw [if_pos ⟨hm,hp0⟩] at hlf;have R:=hid (yP6 (y:=(s:Int)) hgv A.out.2.1);have RB:=hid (((A.out.2.2.setCell (p:=⟨W3.heap.size,k,none⟩) yN (.int .i64 s))).setCell (p:=⟨W3.heap.size,k,none⟩) yN (.int .i64 ((s:Int)+1)));have HLF:=hid hlf;clear hlf hgv;go_wp2
     go_roundg (n-(k+1))
     case measure=>omega
     case rel=>exact ⟨k+1,Lf-1,by omega,by omega,by go_num,rfl,(show Aside _ from ⟨HLF.out.symm,R.out,RB.out⟩)⟩
    ·rw [if_neg hp0] at hgv
     rw [if_neg (fun h=>hp0 h.2)] at hlf;have R:=hid (yE1 hgv A.out.2.1);have RB:=hid (A.out.2.2.setCell (p:=⟨W3.heap.size,k,none⟩) yN (.int .i64 s));have HLF:=hid hlf;clear hlf hgv;go_wp2
     go_roundg (n-(k+1))
     case measure=>omega
     case rel=>exact ⟨k+1,Lf,by omega,by omega,by go_num,rfl,(show Aside _ from ⟨HLF.out.symm,R.out,RB.out⟩)⟩
   ·rw [if_pos (by omega)] at hgv
    rw [if_neg (fun h=>hm h.1)] at hlf;have R:=hid (yE1 hgv A.out.2.1);have RB:=hid (A.out.2.2.setCell (p:=⟨W3.heap.size,k,none⟩) yN (.int .i64 y));have HLF:=hid hlf;clear hlf hgv;go_wp2
    go_roundg (n-(k+1))
    case measure=>omega
    case rel=>exact ⟨k+1,Lf,by omega,by omega,by go_num,rfl,(show Aside _ from ⟨HLF.out.symm,R.out,RB.out⟩)⟩
  ·have hltz:¬ (k:Int)<(n:Int):=by omega
   have hk:k=n:=by omega
   go_wp2;go_ret2
   refine ⟨W3.heap.size,rfl,?_,by have:=HS3.out;omega,HB3.out.trans (A.out.2.2.mono (by have:=HS3.out;omega))⟩;rw [HFE.out];refine RowI.of_rowIs A.out.2.1 (by rw [Plain.yD8,HN.out];exact yN) fun i hi=>?_;rw [Plain.yD8,HN.out] at hi;rw [if_pos (by omega)]
namespace Plain
structure Ca where
 kind:Int
 who:Int
 count:Int
 deriving DecidableEq,Inhabited
structure Ru where
 code:Nat
 grants:List Int
 report:Int
 deriving DecidableEq,Inhabited
structure Bk where
 n:Nat
 cap:Int
 ticks:Nat
 rounds:Nat
 reserve:Int
 ever:Int
 wants:List Int
 given:List Int
 since:List Int
 quotas:List Int
 deriving DecidableEq,Inhabited
def zeros (n:Nat):List Int:=List.replicate n 0
def Bk.new (n:Nat) (cap:Int) (ticks:Nat):Bk:=⟨n,cap,ticks,0,0,0,zeros n,zeros n,zeros n,zeros n⟩
def amt (b:Bk) (i:Nat):Int:=max 0 (min (b.wants.getD i 0-b.given.getD i 0) (b.quotas.getD i 0-b.since.getD i 0))
def begB (b:Bk):Bk:=if b.rounds=0 then { b with quotas:=qE b.reserve (List.replicate b.n b.cap),since:=zeros b.n } else b
def mapN (n:Nat) (f:Nat->Int):List Int:=(List.range n).map f
def yJ4 (b:Bk):Bk:={ b with rounds:=(b.rounds+1)%b.ticks,given:=mapN b.n fun i=>b.given.getD i 0+amt b i,since:=mapN b.n fun i=>b.since.getD i 0+amt b i,reserve:=b.reserve-sumL (mapN b.n (amt b)) }
def zT7 (b:Bk):Bk:=yJ4 (begB b)
def xR8 (b:Bk):Int:=if b.rounds=0 then b.reserve else -1
def caE (b:Bk) (c:Ca):Nat :=
 if c.kind=3 then 0
 else if c.kind=1 then (if c.count<1\/1048576<c.count then 2 else if 1048576<b.ever+c.count then 12 else 0)
 else if c.kind=2 then (if (c.who<0\/(b.n:Int)<=c.who)\/(c.count<0\/1048576<c.count) then 2 else 0)
 else 3
def caB (b:Bk) (c:Ca):Bk :=
 if caE b c≠0 then b
 else if c.kind=3 then zT7 b
 else if c.kind=1 then { b with ever:=b.ever+c.count,reserve:=b.reserve+c.count }
 else { b with wants:=b.wants.set c.who.toNat (max (b.wants.getD c.who.toNat 0) c.count) }
def caT (b:Bk) (c:Ca):Ru :=
 if caE b c≠0 then ⟨caE b c,[],-1⟩
 else if c.kind=3 then ⟨0,(zT7 b).given,xR8 b⟩
 else ⟨0,[],-1⟩
theorem kG (n:Nat) (f:Nat->Int):(mapN n f).length=n:=by simp [mapN]
theorem vP {n:Nat} {f:Nat->Int} {i:Nat} (h:i<n):(mapN n f).getD i 0=f i:=by
 unfold mapN;rw [zA,zV,yH h];rfl
theorem jO (n i:Nat):(zeros n).getD i 0=0:=by
 unfold zeros;rw [zA,List.getElem?_replicate];split<;>rfl
theorem yP7 (n:Nat) (f:Nat->Int):mapN (n+1) f=mapN n f++[f n]:=by
 unfold mapN;rw [List.range_succ,List.map_append];rfl
theorem xD9 (a b:List Int):sumL (a++b)=sumL a+sumL b:=by
 induction a with
 | nil=>simp [sumL]
 | cons x a ih=>simp only [List.cons_append,sumL,ih];omega
theorem jB (n:Nat) (f:Nat->Int):sumL (mapN (n+1) f)=sumL (mapN n f)+f n:=by
 rw [yP7,xD9];simp [sumL]
theorem yE2 (n:Nat) (f g:Nat->Int):sumL (mapN n fun i=>f i+g i)=sumL (mapN n f)+sumL (mapN n g):=by
 induction n with
 | zero=>rfl
 | succ n ih=>rw [jB,jB,jB,ih];omega
theorem yP8 {n:Nat} {f g:Nat->Int} (h:∀ i,i<n->f i<=g i):sumL (mapN n f)<=sumL (mapN n g):=by
 induction n with
 | zero=>exact Int.le_refl _
 | succ n ih =>
  have h1:=ih fun i hi=>h i (by omega);have h2:=h n (by omega);rw [jB,jB];omega
theorem vQ {n:Nat} {f:Nat->Int} (h:∀ i,i<n->0<=f i):0<=sumL (mapN n f):=by
 induction n with
 | zero=>exact Int.le_refl _
 | succ n ih =>
  have h1:=ih fun i hi=>h i (by omega);have h2:=h n (by omega);rw [jB];omega
theorem yP9 {n k:Nat} {f:Nat->Int} (h:∀ i,i<n->0<=f i) (hk:k<=n):sumL (mapN k f)<=sumL (mapN n f):=by
 induction n with
 | zero =>
  have:k=0:=by omega
  subst this;exact Int.le_refl _
 | succ n ih =>
  rcases Nat.lt_or_ge n k with h1|h1
  ·have:k=n+1:=by omega
   subst this;exact Int.le_refl _
  ·have h2:=ih (fun i hi=>h i (by omega)) h1
   have h3:=h n (by omega);rw [jB];omega
theorem kQ (l:List Int):l=mapN l.length fun i=>l.getD i 0:=by
 apply List.ext_getElem?;intro i;unfold mapN;by_cases h:i<l.length
 ·rw [zV,yH h]
  show l[i]?=some (l.getD i 0);rw [zA,zB h];rfl
 ·rw [zN (by omega),zN (by simp;omega)]
theorem zA2 {l:List Int} {n:Nat} (h:l.length=n):sumL l=sumL (mapN n fun i=>l.getD i 0):=by
 subst h
 conv=>lhs;rw [kQ l]
theorem zE0 (l:List Int) (i j:Nat) (x:Int) (hi:i<l.length):(l.set i x).getD j 0=if j=i then x else l.getD j 0:=by
 rw [zA,List.getElem?_set];by_cases h:j=i
 ·subst h
  rw [if_pos rfl,if_pos rfl,if_pos hi];rfl
 ·rw [if_neg (fun e=>h e.symm),if_neg h,zA]
/-! ### What holds of a broker -/
structure Ok (b:Bk):Prop where
 cap:0<=b.cap/\b.cap<=1048576
 tk:0<b.ticks
 rd:b.rounds<b.ticks
 lw:b.wants.length=b.n
 lg:b.given.length=b.n
 ls:b.since.length=b.n
 lq:b.quotas.length=b.n
 wa:∀ i,i<b.n->0<=b.wants.getD i 0/\b.wants.getD i 0<=1048576
 gi:∀ i,i<b.n->0<=b.given.getD i 0/\b.given.getD i 0<=b.wants.getD i 0
 si:∀ i,i<b.n->0<=b.since.getD i 0/\b.since.getD i 0<=b.quotas.getD i 0
 qu:∀ i,i<b.n->b.quotas.getD i 0<=b.cap
 lf:sumL (mapN b.n fun i=>b.quotas.getD i 0-b.since.getD i 0)<=b.reserve
 re:0<=b.reserve
 ev:b.reserve+sumL b.given=b.ever
 em:b.ever<=1048576
theorem jX (n:Nat):(zeros n).length=n:=by simp [zeros]
theorem zK0 (n:Nat):sumL (zeros n)=0:=by
 induction n with
 | zero=>rfl
 | succ n ih =>
  unfold zeros at ih ⊢;rw [List.replicate_succ];simp only [sumL,ih];rfl
theorem Ok.new {n:Nat} {cap:Int} {ticks:Nat} (h1:0<=cap/\cap<=1048576) (h2:0<ticks):Ok (Bk.new n cap ticks):=by
 refine ⟨h1,h2,h2,jX n,jX n,jX n,jX n,fun i _=>?_,fun i _=>?_,fun i _=>?_,fun i _=>?_,?_,Int.le_refl _,?_,by show (0:Int)<=1048576;decide⟩
 ·show 0<=(zeros n).getD i 0/\(zeros n).getD i 0<=_;rw [jO];omega
 ·show 0<=(zeros n).getD i 0/\(zeros n).getD i 0<=(zeros n).getD i 0;rw [jO];omega
 ·show 0<=(zeros n).getD i 0/\(zeros n).getD i 0<=(zeros n).getD i 0;rw [jO];omega
 ·show (zeros n).getD i 0<=cap;rw [jO];exact h1.1
 ·show sumL (mapN n fun i=>(zeros n).getD i 0-(zeros n).getD i 0)<=0
  have:=yP8 (n:=n) (f:=fun i=>(zeros n).getD i 0-(zeros n).getD i 0) (g:=fun i=>(zeros n).getD i 0) (fun i _=>by simp only [jO];omega);rw [<- zA2 (jX n),zK0] at this;exact this
 ·show 0+sumL (zeros n)=0;rw [zK0];rfl
theorem qC2 {n:Nat} {cap:Int} (h:0<=cap/\cap<=1048576):Wm (List.replicate n cap):=fun w hw=>by
 rw [List.eq_of_mem_replicate hw];exact h
theorem qC3 {n i:Nat} {cap:Int} (h:i<n):(List.replicate n cap).getD i 0=cap:=by
 rw [zA,List.getElem?_replicate,if_pos h];rfl
theorem Ok.beg {b:Bk} (h:Ok b):Ok (begB b):=by
 unfold begB;split
 ·have hw:=qC2 (n:=b.n) h.cap
  have hl:(qE b.reserve (List.replicate b.n b.cap)).length=b.n:=by rw [zT5,yA]
  have hb:=fun i (hi:i<b.n)=>xD2 hw h.re i (by rw [yA];exact hi);refine ⟨h.cap,h.tk,h.rd,h.lw,h.lg,jX _,hl,h.wa,h.gi,fun i hi=>?_,fun i hi=>?_,?_,h.re,h.ev,h.em⟩
  ·show 0<=(zeros b.n).getD i 0/\(zeros b.n).getD i 0<=_
   rw [jO];exact ⟨Int.le_refl _,(hb i hi).1⟩
  ·have:=(hb i hi).2
   rw [qC3 hi] at this;exact this
  ·show sumL (mapN b.n fun i=>(qE b.reserve (List.replicate b.n b.cap)).getD i 0-(zeros b.n).getD i 0)<=b.reserve
   have h1:=yP8 (n:=b.n) (f:=fun i=>(qE b.reserve (List.replicate b.n b.cap)).getD i 0-(zeros b.n).getD i 0) (g:=fun i=>(qE b.reserve (List.replicate b.n b.cap)).getD i 0) (fun i _=>by simp only [jO];omega);rw [<- zA2 hl,yP4 hw h.re] at h1;omega
 ·exact h
theorem yQ0 {b:Bk} (h:Ok b) {i:Nat} (hi:i<b.n):0<=amt b i/\amt b i<=b.wants.getD i 0-b.given.getD i 0/\amt b i<=b.quotas.getD i 0-b.since.getD i 0:=by
 have h1:=h.gi i hi;have h2:=h.si i hi;unfold amt;omega
theorem Ok.give {b:Bk} (h:Ok b):Ok (yJ4 b):=by
 have ha:=fun i (hi:i<b.n)=>yQ0 h hi;have e1:sumL (mapN b.n fun i=>b.quotas.getD i 0-b.since.getD i 0)=sumL (mapN b.n fun i=>b.quotas.getD i 0-(b.since.getD i 0+amt b i))+sumL (mapN b.n (amt b)):=by
  rw [<- yE2];congr 1
  unfold mapN;congr 1
  funext i
  omega
 have e2:sumL (mapN b.n fun i=>b.given.getD i 0+amt b i)=sumL b.given+sumL (mapN b.n (amt b)):=by
  rw [yE2,<- zA2 h.lg]
 have hlf:=h.lf;have h0:=vQ (n:=b.n) (f:=fun i=>b.quotas.getD i 0-(b.since.getD i 0+amt b i)) (fun i hi=>by have:=(ha i hi).2.2;omega);refine ⟨h.cap,h.tk,Nat.mod_lt _ h.tk,h.lw,kG _ _,kG _ _,h.lq,h.wa,fun i hi=>?_,fun i hi=>?_,h.qu,?_,?_,?_,h.em⟩
 ·show 0<=(mapN b.n fun i=>b.given.getD i 0+amt b i).getD i 0/\(mapN b.n fun i=>b.given.getD i 0+amt b i).getD i 0<=_
  rw [vP (show i<b.n from hi)];have:=ha i hi;have:=h.gi i hi;show 0<=_/\_<=b.wants.getD i 0;omega
 ·show 0<=(mapN b.n fun i=>b.since.getD i 0+amt b i).getD i 0/\(mapN b.n fun i=>b.since.getD i 0+amt b i).getD i 0<=_
  rw [vP (show i<b.n from hi)];have:=ha i hi;have:=h.si i hi;show 0<=_/\_<=b.quotas.getD i 0;omega
 ·have e3:(mapN b.n fun i=>b.quotas.getD i 0-(mapN b.n fun i=>b.since.getD i 0+amt b i).getD i 0)=mapN b.n fun i=>b.quotas.getD i 0-(b.since.getD i 0+amt b i):=by
   unfold mapN;refine List.map_congr_left fun i hi=>?_;have:=vP (n:=b.n) (f:=fun i=>b.since.getD i 0+amt b i) (zY.1 hi);unfold mapN at this;rw [this]
  show sumL (mapN b.n fun i=>b.quotas.getD i 0-(mapN b.n fun i=>b.since.getD i 0+amt b i).getD i 0)<=b.reserve-sumL (mapN b.n (amt b));rw [e3];omega
 ·show 0<=b.reserve-sumL (mapN b.n (amt b));omega
 ·show b.reserve-sumL (mapN b.n (amt b))+sumL (mapN b.n fun i=>b.given.getD i 0+amt b i)=b.ever
  have:=h.ev;omega
theorem Ok.round {b:Bk} (h:Ok b):Ok (zT7 b):=h.beg.give
theorem yQ1 {b:Bk} {c:Ca} (h:caE b c=0) (h1:c.kind=1):1<=c.count/\c.count<=1048576/\b.ever+c.count<=1048576:=by
 unfold caE at h;rw [if_neg (by omega),if_pos h1] at h;by_cases x:c.count<1\/1048576<c.count
 ·rw [if_pos x] at h;omega
 rw [if_neg x] at h;by_cases y:1048576<b.ever+c.count
 ·rw [if_pos y] at h;omega
 omega
theorem xE0 {b:Bk} {c:Ca} (h:caE b c=0) (h3:c.kind≠3) (h1:c.kind≠1):c.kind=2/\0<=c.who/\c.who<b.n/\0<=c.count/\c.count<=1048576:=by
 unfold caE at h;rw [if_neg h3,if_neg h1] at h;by_cases h2:c.kind=2
 ·rw [if_pos h2] at h
  by_cases x:(c.who<0\/(b.n:Int)<=c.who)\/(c.count<0\/1048576<c.count)
  ·rw [if_pos x] at h;omega
  omega
 ·rw [if_neg h2] at h;omega
theorem Ok.step {b:Bk} (h:Ok b) (c:Ca):Ok (caB b c):=by
 unfold caB;by_cases he:caE b c≠0
 ·rw [if_pos he];exact h
 rw [if_neg he];have he:=Classical.not_not.1 he;by_cases h3:c.kind=3
 ·rw [if_pos h3];exact h.round
 rw [if_neg h3];by_cases h1:c.kind=1
 ·rw [if_pos h1]
  obtain ⟨x1,x2,x3⟩:=yQ1 he h1;refine ⟨h.cap,h.tk,h.rd,h.lw,h.lg,h.ls,h.lq,h.wa,h.gi,h.si,h.qu,?_,?_,?_,x3⟩
  ·have:=h.lf
   show sumL (mapN b.n fun i=>b.quotas.getD i 0-b.since.getD i 0)<=b.reserve+c.count;omega
  ·have:=h.re
   show 0<=b.reserve+c.count;omega
  ·have:=h.ev
   show b.reserve+c.count+sumL b.given=b.ever+c.count;omega
 ·rw [if_neg h1]
  obtain ⟨_,x1,x2,x3,x4⟩:=xE0 he h3 h1;have hw:c.who.toNat<b.wants.length:=by rw [h.lw];omega
  refine ⟨h.cap,h.tk,h.rd,by show (b.wants.set _ _).length=_;rw [List.length_set];exact h.lw,h.lg,h.ls,h.lq,fun i hi=>?_,fun i hi=>?_,h.si,h.qu,h.lf,h.re,h.ev,h.em⟩
  ·show 0<=(b.wants.set c.who.toNat _).getD i 0/\(b.wants.set c.who.toNat _).getD i 0<=1048576
   rw [zE0 _ _ _ _ hw];have g1:=h.wa i hi;have g2:=h.wa c.who.toNat (by rw [<- h.lw];exact hw);split<;>omega
  ·show 0<=b.given.getD i 0/\b.given.getD i 0<=(b.wants.set c.who.toNat _).getD i 0
   rw [zE0 _ _ _ _ hw];have g1:=h.gi i hi;split
   ·rename_i e;subst e;omega
   ·exact g1
end Plain
namespace Plain
theorem qC4 (b:Bk):(begB b).n=b.n:=by unfold begB;split<;>rfl
theorem xZ3 (b:Bk):(begB b).wants=b.wants:=by unfold begB;split<;>rfl
theorem xZ4 (b:Bk):(begB b).given=b.given:=by unfold begB;split<;>rfl
theorem roundB_n (b:Bk):(zT7 b).n=b.n:=qC4 b
/-! ### Nothing is given twice -/
/-! ### What one branch is given hangs on what it wants alone -/
/-! ### Who waits is served -/
/-! ### Of a greater reserve nobody gets less -/
end Plain
end Go.Proofs.YtleaknfjbbccgaaGreatDoor.Bo
