/- Laid together. -/
import Derived.WalkKit
import Derived.WalkSmall
import Derived.OpenShut
import Derived.ProofKit
import Derived.Deep.OwnRows
import Derived.Test.YtleaknfjbbccgaaGreatDoorRows
import Derived.Laws.AppendOwnNone
import Derived.Deep.Slices
import Derived.SizedLaws
namespace Go.Proofs.YtleaknfjbbccgaaGreatDoor
namespace Plain
end Plain
open Plain
theorem zA:type_of% @List.getD_eq_getElem?_getD:=@List.getD_eq_getElem?_getD
theorem zB:type_of% @List.getElem?_eq_getElem:=@List.getElem?_eq_getElem
theorem zC:type_of% @World.block_lt_of_cell?:=@World.block_lt_of_cell?
theorem zD:type_of% @List.length_append:=@List.length_append
theorem zE:type_of% @RowKit.Below.heap_setCell:=@RowKit.Below.heap_setCell
theorem zF:type_of% @Nat.lt_of_lt_of_le:=@Nat.lt_of_lt_of_le
theorem zG:type_of% @Nat.zero_le:=@Nat.zero_le
theorem zH:type_of% @List.getElem_mem:=@List.getElem_mem
theorem zI:type_of% @Nat.le_trans:=@Nat.le_trans
theorem zJ:type_of% @Array.getElem?_eq_some_iff:=@Array.getElem?_eq_some_iff
theorem zK:type_of% @Int.toNat_natCast:=@Int.toNat_natCast
theorem zL:type_of% @List.length_map:=@List.length_map
theorem zM:type_of% @World.cell?_alloc_at:=@World.cell?_alloc_at
theorem zN:type_of% @List.getElem?_eq_none:=@List.getElem?_eq_none
theorem zO:type_of% @List.take_succ_eq_append_getElem:=@List.take_succ_eq_append_getElem
theorem zP:type_of% @List.length_eq_zero_iff:=@List.length_eq_zero_iff
theorem zQ:type_of% @Bool.and_eq_true:=@Bool.and_eq_true
theorem zR:type_of% @List.getElem?_append_right:=@List.getElem?_append_right
theorem zT:type_of% @List.all_eq_true:=@List.all_eq_true
theorem zU:type_of% @List.length_take:=@List.length_take
theorem zV:type_of% @List.getElem?_map:=@List.getElem?_map
theorem zW:type_of% @Int.eq_ofNat_of_zero_le:=@Int.eq_ofNat_of_zero_le
theorem zX:type_of% @List.getElem?_append_left:=@List.getElem?_append_left
theorem zY:type_of% @List.mem_range:=@List.mem_range
theorem zZ:type_of% @List.mem_map:=@List.mem_map
theorem yA:type_of% @List.length_replicate:=@List.length_replicate
theorem yB:type_of% @List.take_of_length_le:=@List.take_of_length_le
theorem yC:type_of% @List.mem_cons_of_mem:=@List.mem_cons_of_mem
theorem yD:type_of% @List.mem_cons_self:=@List.mem_cons_self
theorem yE:type_of% @Nat.not_lt_zero:=@Nat.not_lt_zero
theorem yF:type_of% @Deep.blk_alloc_new:=@Deep.blk_alloc_new
theorem yG:type_of% @List.append_assoc:=@List.append_assoc
theorem yH:type_of% @List.getElem?_range:=@List.getElem?_range
theorem yI:type_of% @Array.getElem?_eq_none:=@Array.getElem?_eq_none
theorem yJ:type_of% @World.cell?_alloc_lt:=@World.cell?_alloc_lt
theorem yK:type_of% @World.rowIs_alloc:=@World.rowIs_alloc
theorem yL:type_of% @List.mem_append:=@List.mem_append
theorem yM:type_of% @Bool.eq_iff_iff:=@Bool.eq_iff_iff
theorem yN {n:Nat}:n<=n:=Nat.le_refl n
theorem yO {k:Nat} {w:World}:RowKit.Below k w w:=RowKit.Below.refl k w
set_option maxHeartbeats 16000000
set_option maxRecDepth 100000
namespace Plain
def byteOf (g:Nat->Nat) (j:Nat):Nat :=
 128*g (8*j)+64*g (8*j+1)+32*g (8*j+2)+16*g (8*j+3)+8*g (8*j+4)+4*g (8*j+5)+2*g (8*j+6)+g (8*j+7)
def xM (b:List Nat) (p:Nat):Nat:=b.getD (p/8) 0/2^(7-p%8)%2
def num (g:Nat->Nat) (a:Nat):Nat->Nat
 | 0=>0
 | w+1=>2*num g a w+g (a+w)
def fbits (w v:Nat):List Nat:=(List.range w).map (fun i=>v/2^(w-1-i)%2)
def rbits:List (Nat × Nat)->List Nat
 | []=>[]
 | f :: l=>fbits f.1 f.2++rbits l
def at0 (bs:List Nat):Nat->Nat:=fun p=>bs.getD p 0
def bytesOf (bs:List Nat) (n:Nat):List Nat:=(List.range n).map (byteOf (at0 bs))
theorem zE9 (g:Nat->Nat) (hg:∀ p,g p<2) (j:Nat):byteOf g j<256:=by
 unfold byteOf;have:=hg (8*j);have:=hg (8*j+1);have:=hg (8*j+2);have:=hg (8*j+3);have:=hg (8*j+4);have:=hg (8*j+5);have:=hg (8*j+6);have:=hg (8*j+7);omega
theorem zR2 (g h:Nat->Nat) (j:Nat) (e:∀ t,t<8->g (8*j+t)=h (8*j+t)):byteOf g j=byteOf h j:=by
 unfold byteOf;have e0:=e 0 (by omega);have e1:=e 1 (by omega);have e2:=e 2 (by omega);have e3:=e 3 (by omega);have e4:=e 4 (by omega);have e5:=e 5 (by omega);have e6:=e 6 (by omega);have e7:=e 7 (by omega);rw [Nat.add_zero] at e0;rw [e0,e1,e2,e3,e4,e5,e6,e7]
theorem bit8 (g:Nat->Nat) (hg:∀ p,g p<2) (j t:Nat) (ht:t<8):byteOf g j/2^(7-t)%2=g (8*j+t):=by
 unfold byteOf;have h0:=hg (8*j);have h1:=hg (8*j+1);have h2:=hg (8*j+2);have h3:=hg (8*j+3);have h4:=hg (8*j+4);have h5:=hg (8*j+5);have h6:=hg (8*j+6);have h7:=hg (8*j+7);have:t=0\/t=1\/t=2\/t=3\/t=4\/t=5\/t=6\/t=7:=by omega
 rcases this with rfl|rfl|rfl|rfl|rfl|rfl|rfl|rfl<;>simp<;>omega
theorem zM0 (b:List Nat) (p:Nat):xM b p<2:=by unfold xM;omega
theorem zC9 (bs:List Nat) (n j:Nat) (h:j<n):(bytesOf bs n).getD j 0=byteOf (at0 bs) j:=by
 simp [bytesOf,h]
theorem qT (bs:List Nat) (n:Nat):(bytesOf bs n).length=n:=by simp [bytesOf]
theorem vX (bs:List Nat) (hg:∀ p,at0 bs p<2) (n p:Nat) (h:p<8*n):xM (bytesOf bs n) p=at0 bs p:=by
 unfold xM;rw [zC9 bs n _ (by omega),bit8 _ hg _ _ (by omega),show 8*(p/8)+p%8=p by omega]
theorem zR3 (g h:Nat->Nat) (a w:Nat) (e:∀ i,i<w->g (a+i)=h (a+i)):num g a w=num h a w:=by
 induction w with
 | zero=>rfl
 | succ w ih=>simp only [num];rw [ih (fun i hi=>e i (by omega)),e w (by omega)]
theorem xM8 (g:Nat->Nat) (hg:∀ p,g p<2) (a w:Nat):num g a w<2^w:=by
 induction w with
 | zero=>simp [num]
 | succ w ih=>simp only [num];have:=hg (a+w);rw [Nat.pow_succ];omega
theorem xB1 (g:Nat->Nat) (a w:Nat):num g a w=0 ↔ ∀ i,i<w->g (a+i)=0:=by
 induction w with
 | zero=>simp [num]
 | succ w ih =>
  simp only [num];constructor
  ·intro h i hi
   by_cases e:i=w
   ·subst e;omega
   ·exact ih.1 (by omega) i (by omega)
  ·intro h
   have:=ih.2 (fun i hi=>h i (by omega));have:=h w (by omega);omega
theorem jK (w v:Nat):(fbits w v).length=w:=by simp [fbits]
theorem yM1 (w v i:Nat) (h:i<w):(fbits w v).getD i 0=v/2^(w-1-i)%2:=by simp [fbits,h]
theorem zI7 (w v i:Nat) (h:i<w):(fbits w v).take (i+1)=(fbits w v).take i++[v/2^(w-1-i)%2]:=by
 rw [zO (by rw [jK];exact h)];simp [fbits]
theorem yC4 (w v:Nat):∀ x∈fbits w v,x<2:=by
 intro x hx;simp [fbits] at hx;obtain ⟨i,_,rfl⟩:=hx;omega
theorem vY (l:List (Nat × Nat)):∀ x∈rbits l,x<2:=by
 induction l with
 | nil=>intro x hx;simp [rbits] at hx
 | cons f l ih =>
  intro x hx;simp only [rbits,List.mem_append] at hx;rcases hx with h|h
  ·exact yC4 _ _ x h
  ·exact ih x h
theorem zR4 (bs:List Nat) (h:∀ x∈bs,x<2) (p:Nat):at0 bs p<2:=by
 unfold at0;by_cases hp:p<bs.length
 ·rw [zA,zB hp]
  exact h _ (zH hp)
 ·rw [zA,zN (by omega)]
  simp
theorem zR5 (l:List (Nat × Nat)):(rbits l).length=(l.map Prod.fst).sum:=by
 induction l with
 | nil=>rfl
 | cons f l ih=>simp [rbits,jK,ih]
theorem zD0 (l m:List (Nat × Nat)):rbits (l++m)=rbits l++rbits m:=by
 induction l with
 | nil=>rfl
 | cons f l ih=>simp [rbits,ih]
theorem zR6 (w v:Nat) (h:v<2^w) (pre post:List Nat):num (at0 (pre++fbits w v++post)) pre.length w=v:=by
 have key:∀ i,i<=w->num (at0 (pre++fbits w v++post)) pre.length i=v/2^(w-i):=by
  intro i;induction i with
  | zero=>intro _;simp only [num];rw [Nat.sub_zero];exact (Nat.div_eq_of_lt h).symm
  | succ i ih =>
   intro hi;simp only [num];rw [ih (by omega)];have e:at0 (pre++fbits w v++post) (pre.length+i)=v/2^(w-1-i)%2:=by
    unfold at0;rw [<- yM1 w v i (by omega)];have:i<(fbits w v).length:=by rw [jK];omega
    rw [yG,zA,zA,zR (by omega),Nat.add_sub_cancel_left,zX this]
   rw [e,show w-i=(w-1-i)+1 by omega,show w-(i+1)=w-1-i by omega,Nat.pow_succ,<- Nat.div_div_eq_div_mul];omega
 have:=key w yN;rw [this,Nat.sub_self];simp
theorem yM2 (bs:List Nat):at0 (bs++[0])=at0 bs:=by
 funext p
 unfold at0;by_cases h:p<bs.length
 ·rw [zA,zA,zX h]
 ·by_cases e:p=bs.length
  ·subst e;simp
  ·rw [zA,zA,zN (by simp;omega),zN (by omega)]
theorem zR7 (bs:List Nat) (p:Nat):at0 (bs++[1]) p=if p=bs.length then 1 else at0 bs p:=by
 unfold at0;by_cases h:p<bs.length
 ·rw [zA,zA,zX h,if_neg (by omega)]
 ·by_cases e:p=bs.length
  ·subst e;simp
  ·rw [zA,zA,zN (by simp;omega),zN (by omega),if_neg e]
theorem zX2 (bs:List Nat) (p:Nat) (h:bs.length<=p):at0 bs p=0:=by
 unfold at0;rw [zA,zN (by omega)];rfl
theorem zR8 (bs:List Nat) (j:Nat) :
  byteOf (at0 (bs++[1])) j=if j=bs.length/8 then byteOf (at0 bs) j+2^(7-bs.length%8) else byteOf (at0 bs) j:=by
 by_cases e:j=bs.length/8
 ·rw [if_pos e]
  unfold byteOf;simp only [zR7];have:bs.length%8=0\/bs.length%8=1\/bs.length%8=2\/bs.length%8=3\/bs.length%8=4\/bs.length%8=5\/bs.length%8=6\/bs.length%8=7:=by omega
  rcases this with h|h|h|h|h|h|h|h <;>
   (have o0:=zX2 bs bs.length yN
    rw [h];have hl:bs.length=8*j+bs.length%8:=by omega
    rw [h] at hl;rw [hl] at o0 ⊢;simp
    try rw [Nat.add_zero] at o0
    omega)
 ·rw [if_neg e]
  refine zR2 _ _ _ fun t ht=>?_;rw [zR7,if_neg (by omega)]
theorem yH3 (bs:List Nat):byteOf (at0 bs) (bs.length/8)%2^(8-bs.length%8)=0:=by
 unfold byteOf;have o:∀ t,bs.length%8<=t->t<8->at0 bs (8*(bs.length/8)+t)=0:=fun t h1 h2=>zX2 bs _ (by omega);generalize at0 bs=g at o;generalize 8*(bs.length/8)=q at o;have:bs.length%8=0\/bs.length%8=1\/bs.length%8=2\/bs.length%8=3\/bs.length%8=4\/bs.length%8=5\/bs.length%8=6\/bs.length%8=7:=by omega
 have o7:=o 7 (by omega) (by omega);rcases this with h|h|h|h|h|h|h|h <;>
  (rw [h] at o
   have o0:=o 0;have o1:=o 1;have o2:=o 2;have o3:=o 3;have o4:=o 4;have o5:=o 5;have o6:=o 6;simp at o0 o1 o2 o3 o4 o5 o6;rw [h];simp;omega)
end Plain
namespace Plain
def okW (w:Int):Bool:=decide (1<=w)&&decide (w<=60)
def yU (ws:List Int):Nat:=(ws.map Int.toNat).sum
def szE (ws:List Int):Nat:=if 40<ws.length then 1 else if ws.all okW=true then 0 else 2
def szN (ws:List Int):Nat:=if szE ws=0 then (yU ws+7)/8 else 0
def fitB (f:Int × Int):Bool:=decide (0<=f.2)&&decide (f.2<2^f.1.toNat)
def nat2 (f:Int × Int):Nat × Nat:=(f.1.toNat,f.2.toNat)
def kL (l:List (Int × Int)):Nat :=
 if szE (l.map Prod.fst)=0 then (if l.all fitB=true then 0 else 12) else szE (l.map Prod.fst)
def qR (l:List (Int × Int)):List Nat :=
 if kL l=0 then bytesOf (rbits (l.map nat2)) (szN (l.map Prod.fst)) else []
def vals (g:Nat->Nat):Nat->List Nat->List Nat
 | _,[]=>[]
 | a,w :: ws=>num g a w :: vals g (a+w) ws
def yS (ws:List Int) (b:List Nat):Nat :=
 if szE ws=0 then (if b.length=szN ws then (if num (xM b) (yU ws) (8*szN ws-yU ws)=0 then 0 else 4) else 4) else szE ws
def kM (ws:List Int) (b:List Nat):List Nat :=
 if yS ws b=0 then vals (xM b) 0 (ws.map Int.toNat) else []
theorem vO (w:Int):okW w=true ↔ 1<=w/\w<=60:=by simp [okW]
theorem xZ6 (w:Int):okW w=false ↔ ¬ (1<=w/\w<=60):=by rw [<- vO];simp
theorem jG (ws:List Int) (k:Nat) (h:k<ws.length):yU (ws.take (k+1))=yU (ws.take k)+(ws.getD k 0).toNat:=by
 unfold yU;rw [zO h,List.map_append,List.sum_append];simp only [List.map_cons,List.map_nil,List.sum_cons,List.sum_nil,List.getD_eq_getElem?_getD,List.getElem?_eq_getElem h,Option.getD_some,Nat.add_zero]
theorem vZ {α:Type} (p:α->Bool) (l:List α) (d:α) (k:Nat) (h:k<l.length) (h1:(l.take k).all p=true) (h2:p (l.getD k d)=true):(l.take (k+1)).all p=true:=by
 rw [zO h,List.all_append,h1];simp [List.getD_eq_getElem?_getD,List.getElem?_eq_getElem h] at h2 ⊢;exact h2
theorem zR9 {α:Type} (p:α->Bool) (l:List α) (d:α) (k:Nat) (h:k<l.length) (h2:p (l.getD k d)=false):l.all p=false:=by
 simp [List.getD_eq_getElem?_getD,List.getElem?_eq_getElem h] at h2;rw [List.all_eq_false];exact ⟨l[k],zH h,by simp [h2]⟩
theorem yM3 {α:Type} (p:α->Bool) (l:List α) (d:α) (k:Nat) (h:k<l.length) (h1:l.all p=true):p (l.getD k d)=true:=by
 simp [List.getD_eq_getElem?_getD,List.getElem?_eq_getElem h];exact zT.1 h1 _ (zH h)
theorem yC5 (ws:List Int) (h:ws.all okW=true):yU ws<=60*ws.length:=by
 induction ws with
 | nil=>simp [yU]
 | cons w ws ih =>
  simp only [List.all_cons,Bool.and_eq_true] at h;have:=ih h.2;have h1:=(vO w).1 h.1;simp only [yU,List.map_cons,List.sum_cons,List.length_cons] at this ⊢;omega
theorem zI8 (ws:List Int) (k:Nat):yU (ws.take k)<=yU ws:=by
 have e:yU ws=yU (ws.take k)+yU (ws.drop k):=by
  conv=>lhs;rw [<- List.take_append_drop k ws]
  unfold yU;rw [List.map_append,List.sum_append]
 omega
theorem zS0 (ws:List Int) (h:ws.length<=40) (ha:ws.all okW=true):szE ws=0/\szN ws=(yU ws+7)/8:=by
 have:szE ws=0:=by unfold szE;rw [if_neg (by omega),if_pos ha]
 exact ⟨this,by unfold szN;rw [if_pos this]⟩
theorem xZ7 (ws:List Int) (h:ws.length<=40) (ha:ws.all okW=false):szE ws=2/\szN ws=0:=by
 have:szE ws=2:=by unfold szE;rw [if_neg (by omega),if_neg (by simp [ha])]
 exact ⟨this,by unfold szN;rw [if_neg (by omega)]⟩
theorem yM4 (ws:List Int) (h:40<ws.length):szE ws=1/\szN ws=0:=by
 have:szE ws=1:=by unfold szE;rw [if_pos h]
 exact ⟨this,by unfold szN;rw [if_neg (by omega)]⟩
theorem jN (ws:List Int) (h:szE ws=0):ws.length<=40/\ws.all okW=true/\szN ws=(yU ws+7)/8/\yU ws<=2400:=by
 have h1:ws.length<=40:=by
  by_cases c:40<ws.length
  ·rw [(yM4 ws c).1] at h;omega
  ·omega
 have h2:ws.all okW=true:=by
  cases c:ws.all okW
  ·rw [(xZ7 ws h1 c).1] at h;omega
  ·rfl
 exact ⟨h1,h2,(zS0 ws h1 h2).2,by have:=yC5 ws h2;omega⟩
theorem yM5 (ws:List Int):szN ws<=300:=by
 by_cases h:szE ws=0
 ·have:=jN ws h;omega
 ·unfold szN;rw [if_neg h];omega
theorem xP3 (w:Nat) (h:w<=60):2^w<=1152921504606846976:=by
 have:2^w<=2^60:=Nat.pow_le_pow_right (by decide) h;simpa using this
theorem vals_len (g:Nat->Nat) (a:Nat) (ws:List Nat):(vals g a ws).length=ws.length:=by
 induction ws generalizing a with
 | nil=>rfl
 | cons w ws ih=>simp [vals,ih]
theorem zF0 (g:Nat->Nat) (a:Nat) (l m:List Nat):vals g a (l++m)=vals g a l++vals g (a+l.sum) m:=by
 induction l generalizing a with
 | nil=>simp [vals]
 | cons w ws ih=>simp only [List.cons_append,vals,ih,List.sum_cons,Nat.add_assoc]
theorem vals_take (g:Nat->Nat) (ws:List Int) (k:Nat) (h:k<ws.length) :
  vals g 0 ((ws.take (k+1)).map Int.toNat)=vals g 0 ((ws.take k).map Int.toNat)++[num g (yU (ws.take k)) (ws.getD k 0).toNat]:=by
 rw [zO h,List.map_append,zF0];simp [vals,yU,h]
theorem yH4 (l:List (Nat × Nat)) (h:∀ f∈l,f.2<2^f.1) (pre post:List Nat):vals (at0 (pre++rbits l++post)) pre.length (l.map Prod.fst)=l.map Prod.snd:=by
 induction l generalizing pre with
 | nil=>rfl
 | cons f l ih =>
  simp only [List.map_cons,vals,rbits];have e1:=zR6 f.1 f.2 (h f (by simp)) pre (rbits l++post);have e2:=ih (fun x hx=>h x (by simp [hx])) (pre++fbits f.1 f.2);simp only [List.length_append,jK,List.append_assoc] at e1 e2 ⊢;rw [e1,e2]
theorem yH5 (g h:Nat->Nat) (a:Nat) (ws:List Nat) (e:∀ p,p<a+ws.sum->g p=h p):vals g a ws=vals h a ws:=by
 induction ws generalizing a with
 | nil=>rfl
 | cons w ws ih =>
  simp only [vals,List.sum_cons] at e ⊢;rw [zR3 g h a w (fun i hi=>e _ (by omega)),ih (a+w) (fun p hp=>e p (by omega))]
end Plain
open Go.ChangeShapes Go.WideShapes Go.ChangeAt Go.RowKit
theorem hid {p:Prop} (h:p):Hid p:=h
def Seg (w:World) (v:Value) (l:List Int):Prop :=
 (l=[]/\∃ p cap,v=.slice p 0 cap)\/∃ b off cap,v=.slice (some ⟨b,off,none⟩) l.length cap/\∀ j,j<l.length->w.cell? ⟨b,off+j,none⟩=some (.int .i64 (l.getD j 0))
def SegB (w:World) (v:Value) (l:List Nat):Prop :=
 (l=[]/\∃ p cap,v=.slice p 0 cap)\/∃ b off cap,v=.slice (some ⟨b,off,none⟩) l.length cap/\∀ j,j<l.length->w.cell? ⟨b,off+j,none⟩=some (.int .u8 (l.getD j 0:Nat))
def SegF (w:World) (v:Value) (l:List (Int × Int)):Prop :=
 (l=[]/\∃ p cap,v=.slice p 0 cap)\/∃ b off cap,v=.slice (some ⟨b,off,none⟩) l.length cap /\
  ∀ j,j<l.length->w.cell? ⟨b,off+j*2,none⟩=some (.int .i64 (l.getD j (0,0)).1)/\w.cell? ⟨b,off+j*2+1,none⟩=some (.int .i64 (l.getD j (0,0)).2)
def Lies (B:Nat) (v:Value):Prop:=∀ p n c,v=.slice (some p) n c->0<n->p.block<B
theorem Lies.mono {B C:Nat} {v:Value} (h:Lies B v) (hc:B<=C):Lies C v:=fun p n c e hn=>zF (h p n c e hn) hc
theorem yT (B:Nat) (p:Option Addr) (c:Nat):Lies B (.slice p 0 c):=fun q n c' e hn=>by injection e with _ e2 _;omega
theorem qF {B b off n c:Nat} (h:b<B):Lies B (.slice (some ⟨b,off,none⟩) n c):=fun q n c' e _=>by injection e with e1 _ _;injection e1 with e1;subst e1;exact h
theorem Seg.below {w w':World} {v:Value} {l:List Int} {B:Nat} (h:Seg w v l) (hb:Below B w w') (hv:Lies B v):Seg w' v l:=by
 rcases h with ⟨rfl,p1,c1,rfl⟩|⟨b1,o1,c1,rfl,g1⟩
 ·exact .inl ⟨rfl,p1,c1,rfl⟩
 ·exact .inr ⟨b1,o1,c1,rfl,fun j hj=>(hb.cell (p:=⟨b1,o1+j,none⟩) (hv ⟨b1,o1,none⟩ _ _ rfl (Nat.zero_lt_of_lt hj))).trans (g1 j hj)⟩
theorem SegB.below {w w':World} {v:Value} {l:List Nat} {B:Nat} (h:SegB w v l) (hb:Below B w w') (hv:Lies B v):SegB w' v l:=by
 rcases h with ⟨rfl,p1,c1,rfl⟩|⟨b1,o1,c1,rfl,g1⟩
 ·exact .inl ⟨rfl,p1,c1,rfl⟩
 ·exact .inr ⟨b1,o1,c1,rfl,fun j hj=>(hb.cell (p:=⟨b1,o1+j,none⟩) (hv ⟨b1,o1,none⟩ _ _ rfl (Nat.zero_lt_of_lt hj))).trans (g1 j hj)⟩
theorem xB2 {k:IntKind} {w:World} {a:Option Addr} {len cap:Nat} {zs:List Int}
  (h:(a=none/\len=0/\cap=0/\zs=[]) \/
   ∃ x,a=some x/\len<=cap/\cap<=maxLen/\zs.length=cap/\(∀ i,i<zs.length->w.cell? (x.add i)=some (.int k (zs.getD i 0)))/\∀ n∈zs,(Lit.int k n).wf=true) :
  ∃ l:List Int,l.length=len/\len<=cap/\cap<=9223372036854775807/\(∀ n∈l,(Lit.int k n).wf=true)/\Lies w.heap.size (.slice a len cap) /\
   ((l=[]/\len=0)\/∃ b off,a=some ⟨b,off,none⟩/\∀ j,j<l.length->w.cell? ⟨b,off+j,none⟩=some (.int k (l.getD j 0))):=by
 rcases h with ⟨rfl,rfl,rfl,rfl⟩|⟨x,rfl,hlc,hm,hz,hcell,hwf⟩
 ·exact ⟨[],rfl,yN,by decide,fun n hn=>by simp at hn,yT _ _ _,.inl ⟨rfl,rfl⟩⟩
 ·have hml:cap<=9223372036854775807:=hm
  refine ⟨zs.take len,by simp;omega,hlc,hml,fun n hn=>hwf n (List.mem_of_mem_take hn),?_⟩;by_cases h0:len=0
  ·exact ⟨h0 ▸ yT _ _ _,.inl ⟨by rw [h0];rfl,h0⟩⟩
  ·obtain ⟨b,off,rfl,hc⟩:=ints_at hcell (by omega)
   refine ⟨qF ?_,.inr ⟨b,off,rfl,fun j hj=>?_⟩⟩
   ·exact zC (w:=w) (h:=hc 0 (by omega))
   ·have hj2:j<len:=by rw [zU] at hj;omega
    rw [hc j (by omega)];simp [hj2]
theorem zM1 {w:World} {a:Option Addr} {len cap:Nat} {zs:List Int}
  (h:(a=none/\len=0/\cap=0/\zs=[]) \/
   ∃ x,a=some x/\len<=cap/\cap<=maxLen/\zs.length=cap/\(∀ i,i<zs.length->w.cell? (x.add i)=some (.int .i64 (zs.getD i 0)))/\∀ n∈zs,(Lit.int .i64 n).wf=true) :
  ∃ l:List Int,l.length=len/\len<=cap/\cap<=9223372036854775807/\(∀ n∈l,(Lit.int .i64 n).wf=true)/\Lies w.heap.size (.slice a len cap)/\Seg w (.slice a len cap) l:=by
 obtain ⟨l,h1,h2,h3,h4,h5,h6⟩:=xB2 h;refine ⟨l,h1,h2,h3,h4,h5,?_⟩;subst h1;rcases h6 with ⟨rfl,_⟩|⟨b,off,rfl,hc⟩
 ·exact .inl ⟨rfl,_,_,rfl⟩
 ·exact .inr ⟨b,off,cap,rfl,hc⟩
theorem SegB.nil (w:World):SegB w (.slice none 0 0) []:=.inl ⟨rfl,none,0,rfl⟩
theorem Seg.nil (w:World):Seg w (.slice none 0 0) []:=.inl ⟨rfl,none,0,rfl⟩
structure Enc (α:Type) where
 n:Nat
 enc:α->List Value
 len:∀ a,(enc a).length=n
 one:∀ a,∀ u∈enc a,u.oneCell'=true
 pos:0<n
variable {α:Type} (E:Enc α)
def Enc.vals (l:List α):List Value:=l.flatMap E.enc
theorem Enc.vals_cons (a:α) (l:List α):E.vals (a :: l)=E.enc a++E.vals l:=rfl
theorem Enc.vals_app (a b:List α):E.vals (a++b)=E.vals a++E.vals b:=by simp [Enc.vals]
theorem Enc.vals_one (a:α):E.vals [a]=E.enc a:=by simp [Enc.vals]
theorem Enc.vals_len (l:List α):(E.vals l).length=l.length*E.n:=by
 induction l with
 | nil=>simp [Enc.vals]
 | cons a l ih=>rw [E.vals_cons,zD,E.len,ih,List.length_cons,Nat.add_mul,Nat.one_mul];omega
theorem Enc.vals_cell (l:List α):∀ u∈E.vals l,u.oneCell'=true:=by
 intro u hu;obtain ⟨a,_,h⟩:=List.mem_flatMap.1 hu;exact E.one a u h
theorem Enc.vals_at (d:α) (l:List α) (j k:Nat) (hj:j<l.length) (hk:k<E.n):(E.vals l)[j*E.n+k]?=(E.enc (l.getD j d))[k]?:=by
 induction l generalizing j with
 | nil=>simp at hj
 | cons a l ih =>
  rw [E.vals_cons];cases j with
  | zero =>
   rw [Nat.zero_mul,Nat.zero_add,zX (by rw [E.len];exact hk)];rfl
  | succ j =>
   rw [zR (by rw [E.len,Nat.add_mul,Nat.one_mul];omega),E.len,Nat.add_mul,Nat.one_mul,show j*E.n+E.n+k-E.n=j*E.n+k by omega,ih j (by simpa using hj)];rfl
def Enc.Holds (w:World) (p:Option Addr) (l:List α):Prop :=
 0<l.length->∃ b off,p=some ⟨b,off,none⟩/\b<w.heap.size/\∀ j u,(E.vals l)[j]?=some u->w.cell? ⟨b,off+j,none⟩=some u
variable {E}
theorem Enc.Holds.grow {w w':World} {p:Option Addr} {l:List α} (h:E.Holds w p l) (g:Below w.heap.size w w'):E.Holds w' p l:=fun h0=>by
 obtain ⟨b,off,rfl,hb,hc⟩:=h h0;exact ⟨b,off,rfl,zF hb g.size,fun j u hu=>(g.cell (p:=⟨b,off+j,none⟩) hb).trans (hc j u hu)⟩
theorem Enc.Holds.drew {w:World} {p:Option Addr} {l:List α} (h:E.Holds w p l) (q:Nat):E.Holds (w.drewN q) p l:=fun h0=>by
 obtain ⟨b,off,rfl,hb,hc⟩:=h h0;exact ⟨b,off,rfl,hb,fun j u hu=>by simpa using hc j u hu⟩
theorem Enc.Holds.at {w:World} {p:Option Addr} {l:List α} (h:E.Holds w p l) (d:α) (h0:0<l.length):∃ b off,p=some ⟨b,off,none⟩/\b<w.heap.size /\
  ∀ j k u,j<l.length->k<E.n->(E.enc (l.getD j d))[k]?=some u->w.cell? ⟨b,off+(j*E.n+k),none⟩=some u:=by
 obtain ⟨b,off,rfl,hb,hc⟩:=h h0;exact ⟨b,off,rfl,hb,fun j k u hj hk hu=>hc _ _ (by rw [E.vals_at d l j k hj hk];exact hu)⟩
theorem jS (b o j:Nat):(⟨b,o,none⟩:Addr).add j=⟨b,o+j,none⟩:=by unfold Addr.add;split<;>simp_all
theorem Enc.owns {w:World} {B e n:Nat} {v:Value} {l:List α} (h:w.ownsRow B e E.n v n (E.vals l)) (hn:l.length=n):∃ p c,v=.slice p n c/\E.Holds w p l/\(p=none->c=0)/\(0<n->∃ g,p=some ⟨g,0,none⟩/\B<=g):=by
 rcases h.2 with ⟨rfl,h0⟩|⟨g,c,cur,rfl,hg,hb,h1,h2,h3,h4⟩
 ·subst h0
  exact ⟨none,0,rfl,fun h=>by omega,fun _=>rfl,fun h=>by omega⟩
 ·refine ⟨_,c,rfl,fun h0=>⟨g,0,rfl,?_,fun j u hu=>?_⟩,(fun e=>by cases e),fun _=>⟨g,rfl,hg⟩⟩
  ·obtain ⟨hlt,_⟩:=zJ.1 hb
   exact hlt
  ·have:=h.cells rfl j u hu
   rw [jS] at this;exact this
theorem Enc.app {w:World} {B n m c t e bytes:Nat} {i:TypeInfo} {z v:Value} {p:Option Addr} {l q:List α} (ht:Tryz.prog.underlying t=some (.slice e)) (hi:Tryz.prog.info? e=some i) (hz:i.zero=some z) (hsize:i.size=E.n) (hby:i.bytes=bytes) (hzs:z.cells.size=E.n)
  (hown:w.ownsRow B e E.n v n (E.vals l)) (hq:E.Holds w p q) (hm:q.length=m) (hnil:p=none->c=0) (h63:n+m<=1000000) (hbytes:(n+m)*bytes<=140737488355328) (hB:B<=w.heap.size) :
  ∃ v' w',(Builtin.append_ #[t,t] t #[v,.slice p m c]).run Tryz.prog w=.ok v' w'/\w'.ownsRow B e E.n v' (n+m) (E.vals (l++q))/\w.grownBy w' v.ownBlock:=by
 subst hm;cases p with
 | none =>
  have h0:q=[]:=by
   by_cases h:0<q.length
   ·obtain ⟨_,_,e,_⟩:=hq h;cases e
   ·exact zP.1 (by omega)
  subst h0;have hc:=hnil rfl;subst hc;refine ⟨v,w,?_,by simpa using hown,⟨rfl,rfl,rfl,yN,fun _ _ _=>rfl⟩⟩;exact run_append_owned_none (P:=Tryz.prog) (w:=w) B t t e i E.n ht hi v n _ hown
 | some a =>
  obtain ⟨v',w',h1,h2,h3,_⟩:=run_append_own (P:=Tryz.prog) w B t t e i z E.n bytes ht hi hz hsize hby hzs E.pos v n _ hown a q.length c (E.vals q)
   (E.vals_len q) (fun j u hu=>by
    have hpos:0<q.length:=by
     rcases Nat.eq_zero_or_pos q.length with h|h
     ·have:q=[]:=zP.1 h
      subst this;simp [Enc.vals] at hu
     ·exact h
    obtain ⟨b,o,e,_,g⟩:=hq hpos;have e':=Option.some.inj e;subst e';rw [jS];exact g j u hu) (E.vals_cell q) (by unfold maxLen;omega) hbytes hB
  exact ⟨v',w',h1,by rw [E.vals_app];exact h2,h3⟩
theorem Enc.one_holds (w:World) (a:α) (e:TypeId):E.Holds (w.alloc (.cells (E.enc a).toArray e)) (some ⟨w.heap.size,0,none⟩) [a]:=fun _=>by
 refine ⟨w.heap.size,0,rfl,by simp,fun j u hu=>?_⟩;rw [E.vals_one] at hu;rw [zM _ _ _ _ (by rfl),Nat.zero_add];simpa using hu
open Go.Deep
theorem zA0 {H:Type} {enc:TypeId × Value->H} {P:Program} {w:World} {base:Nat} {spare:Nat->Bool} {held:Bool} {t e:TypeId} {fs:Array Field} {N fuel:Nat} {a:Option Addr} {len cap:Nat} {x:DataW H × List MemPlace}
  (ht:P.underlying t=some (.slice e)) (he:P.underlying e=some (.struct fs)) (ce:P.cellsOf e=N) (hfs:fs.size=N) (hf:∀ (j:Nat) (f:Field),fs[j]?=some f->f.offset=j/\P.cellsOf f.type=1)
  (h:DataW.trod enc P w base spare held fuel t [.slice a len cap]=some x) :
  (a=none/\len=0/\cap=0)\/∃ ad,a=some ad/\len<=cap/\cap<=maxLen/\(∃ es sp,x.1=.slice es sp/\es.length=len) /\
   ∀ i,i<len->∀ (j:Nat) (f:Field),fs[j]?=some f->∃ v n y,w.cell? (ad.add (i*N+j))=some v/\DataW.trod enc P w base spare held n f.type [v]=some y:=by
 rcases open_slice ht h with ⟨h0,_⟩|⟨ad,l,c,m,n,D,Pl,hc,hb,hl,hm,hmm,rfl,hx⟩
 ·left
  simp only [List.cons.injEq,Value.slice.injEq,and_true] at h0;exact h0
 right
 simp only [List.cons.injEq,Value.slice.injEq,and_true] at hc;obtain ⟨rfl,rfl,rfl⟩:=hc;refine ⟨ad,rfl,hl,hm,⟨_,_,rfl,by simp⟩,fun i hi j f hj=>?_⟩;have hlm:len<=m:=by rw [hmm];split<;>omega
 obtain ⟨cs',h1,h2⟩:=hx i (by omega);rw [ce] at h1;obtain ⟨_,hlen,hcell⟩:=World.cells?_some h1;obtain ⟨xs,k,_,_,_,hxl,hg⟩:=DataW.trod_struct he h2;have hjN:j<N:=by
  rw [<- hfs];obtain ⟨hlt,_⟩:=zJ.1 hj;exact hlt
 have g:=hg j f hj;obtain ⟨ho,hc1⟩:=hf j f hj;rw [ho,hc1] at g;have e1:=hcell j hjN;rw [add_add] at e1;have hjc:j<cs'.length:=by omega
 have e2:(cs'.drop j).take 1=[cs'[j]]:=by
  rw [List.drop_eq_getElem_cons hjc];rfl
 rw [e2,zB (by omega)] at g;rw [zB hjc] at e1;exact ⟨_,_,_,e1,g⟩
theorem zS1 {b off:Nat} (k:Nat):(⟨b,off,none⟩:Addr).add k=⟨b,off+k,none⟩:=by
 by_cases h:k=0
 ·subst h;simp [Addr.add]
 ·simp [Addr.add,h]
theorem zD7 {H:Type} {enc:TypeId × Value->H} {P:Program} {w:World} {base:Nat} {spare:Nat->Bool} {held:Bool} {t e:TypeId} {fs:Array Field} {N fuel:Nat} {a:Option Addr} {len cap:Nat} {x:DataW H × List MemPlace}
  (ht:P.underlying t=some (.slice e)) (he:P.underlying e=some (.struct fs)) (ce:P.cellsOf e=N) (hN:0<N) (hfs:fs.size=N) (hf:∀ (j:Nat) (f:Field),fs[j]?=some f->f.offset=j/\P.cellsOf f.type=1/\P.underlying f.type=some (.int .i64))
  (h:DataW.trod enc P w base spare held fuel t [.slice a len cap]=some x) :
  ∃ A:Nat->Nat->Int,(∀ i j,i<len->j<N->-9223372036854775808<=A i j/\A i j<=9223372036854775807)/\len<=cap/\cap<=9223372036854775807/\(len=0\/∃ es sp,x.1=.slice es sp/\es.length=len) /\
   (0<len->∃ b off,a=some ⟨b,off,none⟩/\b<w.heap.size/\∀ i j,i<len->j<N->w.cell? ⟨b,off+i*N+j,none⟩=some (.int .i64 (A i j))):=by
 rcases zA0 ht he ce hfs (fun j f hj=>⟨(hf j f hj).1,(hf j f hj).2.1⟩) h with ⟨rfl,rfl,rfl⟩|⟨ad,rfl,hl,hm,hd,hx⟩
 ·exact ⟨fun _ _=>0,fun i j hi=>by omega,yN,by decide,.inl rfl,fun h=>by omega⟩
 ·have hint:∀ i j,i<len->j<N->∃ z:Int,w.cell? (ad.add (i*N+j))=some (.int .i64 z)/\-9223372036854775808<=z/\z<=9223372036854775807:=by
   intro i j hi hj;have hj2:fs[j]?=some (fs[j]'(by omega)):=Array.getElem?_eq_getElem _;obtain ⟨v,n,y,h1,h2⟩:=hx i hi j _ hj2;obtain ⟨z,h3,_,h4⟩:=DataW.trod_int (hf j _ hj2).2.2 h2;simp only [List.cons.injEq,and_true] at h3;subst h3;exact ⟨z,h1,bounds_i64 h4⟩
  refine ⟨fun i j=>if h:i<len/\j<N then (hint i j h.1 h.2).choose else 0,fun i j hi hj=>?_,hl,hm,.inr hd,fun h0=>?_⟩
  ·show _<=(if h:i<len/\j<N then (hint i j h.1 h.2).choose else 0)/\(if h:i<len/\j<N then (hint i j h.1 h.2).choose else 0)<=_
   rw [dif_pos ⟨hi,hj⟩];exact (hint i j hi hj).choose_spec.2
  ·obtain ⟨sb,so,spot⟩:=ad
   obtain ⟨z0,hz0,_⟩:=hint 0 0 h0 hN;have hspot:spot=none:=by simpa [Addr.add] using World.cell?_spot hz0
   subst hspot;refine ⟨sb,so,rfl,?_,fun i j hi hj=>?_⟩
   ·rw [zS1] at hz0;exact zC (w:=w) (h:=hz0)
   ·show _=some (Value.int .i64 (if h:i<len/\j<N then (hint i j h.1 h.2).choose else 0))
    rw [dif_pos ⟨hi,hj⟩];have h5:=(hint i j hi hj).choose_spec.1;generalize (hint i j hi hj).choose=z at h5 ⊢;rw [zS1,<- Nat.add_assoc] at h5;exact h5
structure Win where
 t:Nat
 n:Nat
 F:Nat->Value
def Win.f (X:Win) (o k:Nat) (g:Nat->Value) (j:Nat):Value:=if o<=j/\j<o+k then g (j-o) else X.F j
theorem Win.f_in {X:Win} {o k i:Nat} {g:Nat->Value} (hi:i<k):X.f o k g (o+i)=g i:=by
 unfold Win.f;rw [if_pos ⟨Nat.le_add_right _ _,by omega⟩,Nat.add_sub_cancel_left]
theorem Win.f_out {X:Win} {o k j:Nat} {g:Nat->Value} (h:j<o\/o+k<=j):X.f o k g j=X.F j:=by
 unfold Win.f;rw [if_neg (by omega)]
theorem Win.cell {X:Win} {w:World} {R o k:Nat} {g:Nat->Value} (h:w.rowIs R X.t X.n (X.f o k g)) (le:o+k<=X.n) {i:Nat} (hi:i<k):w.cell? ⟨R,o+i,none⟩=some (g i):=by
 have:=h.cell (i:=o+i) (by omega);rw [Win.f_in hi] at this;exact this
theorem Win.set {X:Win} {w:World} {R o k:Nat} {g:Nat->Value} (h:w.rowIs R X.t X.n (X.f o k g)) (i:Nat) (hi:i<k) (v:Value) {g':Nat->Value} (hg:∀ j,j<k->g' j=if j=i then v else g j) :
  (w.setCell ⟨R,o+i,none⟩ v).rowIs R X.t X.n (X.f o k g'):=by
 refine (h.set (o+i) v).congr fun j _=>?_;by_cases hin:o<=j/\j<o+k
 ·have e:X.f o k g' j=g' (j-o):=by unfold Win.f;rw [if_pos hin]
  have e2:X.f o k g j=g (j-o):=by unfold Win.f;rw [if_pos hin]
  rw [e,e2,hg _ (by omega)];by_cases h1:j=o+i
  ·rw [if_pos h1,if_pos (by omega)]
  ·rw [if_neg h1,if_neg (by omega)]
 ·rw [if_neg (by omega),Win.f_out (by omega),Win.f_out (by omega)]
def Win.all (t n:Nat):Win:=⟨t,n,fun _=>.int .i64 0⟩
theorem Win.of_all {w:World} {R t n:Nat} {g:Nat->Value} (h:w.rowIs R t n g):w.rowIs R (Win.all t n).t (Win.all t n).n ((Win.all t n).f 0 n g) :=
 h.congr fun j hj=>by unfold Win.f;rw [if_pos (by omega)];rfl
theorem Win.to_all {w:World} {R t n:Nat} {g:Nat->Value} (h:w.rowIs R (Win.all t n).t (Win.all t n).n ((Win.all t n).f 0 n g)):w.rowIs R t n g :=
 World.rowIs.congr (show w.rowIs R t n ((Win.all t n).f 0 n g) from h) fun j hj=>by unfold Win.f;rw [if_pos (by omega)];rfl
theorem yM6 {w:World} {B t ty e n m c size bytes:Nat} {i:TypeInfo} {z v v':Value} {xs news:List Value} {a:Addr} {w':World} (ht:Tryz.prog.underlying t=some (.slice e)) (hi:Tryz.prog.info? e=some i) (hz:i.zero=some z)
  (hsize:i.size=size) (hby:i.bytes=bytes) (hsz:0<size)
  (hown:w.ownsRow B e size v n xs) (hl:news.length=m*size) (hnews:∀ j u,news[j]?=some u->w.cell? (a.add j)=some u) (h1:∀ u∈news,u.oneCell'=true)
  (h63:n+m<=maxLen) (hbytes:(n+m)*bytes<=140737488355328) (hr:(Builtin.append_ #[t,t] ty #[v,.slice (some a) m c]).run Tryz.prog w=.ok v' w') :
  ∀ g,v'.ownBlock=some g->v.ownBlock=some g\/g=w.heap.size:=by
 subst hsize;subst hby;intro g hg;have hsmall:n+m<=9223372036854775807:=by simp only [maxLen] at h63;omega
 rcases hown.2 with ⟨rfl,rfl⟩|⟨g0,cap,cur,rfl,hbg,hgg,hnc,hcm,hcs,htake⟩
 ·have hx:xs=[]:=List.eq_nil_of_length_eq_zero (by simpa using hown.1)
  subst hx;by_cases hm:m=0
  ·subst hm
   have hn:news=[]:=List.eq_nil_of_length_eq_zero (by simpa using hl);subst hn;have:(Builtin.append_ #[t,t] ty #[Value.slice none 0 0,.slice (some a) 0 c]).run Tryz.prog w=.ok (.slice none 0 0) w:=by
    simp [Builtin.append_,run_underlying ht,sizeOf,typeInfo,hi,Builtin.lenOf,Builtin.firstCells,loadCells,loadCellsFrom]
   rw [this] at hr;injection hr with e1 e2;subst e1;simp [Value.ownBlock] at hg
  ·have hr2:=run_append_nil (P:=Tryz.prog) w t ty e i z ht hi hz a m c news hl hnews (by omega) (by omega) (by have hb:=hbytes;simp only [Nat.zero_add] at hb;omega)
   rw [hr2] at hr;injection hr with e1 e2;subst e1;simp only [Value.ownBlock,Option.some.injEq] at hg;exact .inr hg.symm
 ·by_cases hroom:n+m<=cap
  ·have hfit:n*i.size+news.length<=cur.size:=by rw [hl,hcs,<- Nat.add_mul];exact Nat.mul_le_mul_right _ hroom
   have hr2:=run_append_room (P:=Tryz.prog) w t ty e i ht hi g0 n cap cur hgg a m c news hl hnews h1 hroom hfit;rw [hr2] at hr;injection hr with e1 e2;subst e1;exact .inl hg
  ·have holds:∀ j u,xs[j]?=some u->w.cell? ((⟨g0,0,none⟩:Addr).add j)=some u:=hown.cells (g:=g0) rfl
   have hr2:=run_append_grow (P:=Tryz.prog) w t ty e i z ht hi hz ⟨g0,0,none⟩ n cap xs hown.1 holds a m c news hl hnews (by omega) (by omega) (growslice_fits (by omega) hbytes);rw [hr2] at hr;injection hr with e1 e2;subst e1;simp only [Value.ownBlock,Option.some.injEq] at hg;exact .inr hg.symm
structure Kp (ZZ:Nat->Prop) (R:Nat) (w w':World):Prop where
 os:w'.os=w.os
 tape:w'.tape=w.tape
 output:w'.output=w.output
 size:w.heap.size<=w'.heap.size
 block:∀ k,k<w.heap.size->k≠R->¬ ZZ k->w'.heap[k]?=w.heap[k]?
namespace Kp
variable {ZZ:Nat->Prop} {R:Nat} {w w' w'':World}
theorem of_below (h:Below w.heap.size w w'):Kp ZZ R w w':=⟨h.os,h.tape,h.output,h.size,fun k hk _ _=>h.block k hk⟩
theorem refl (ZZ:Nat->Prop) (R:Nat) (w:World):Kp ZZ R w w:=of_below yO
theorem trans (h:Kp ZZ R w w') (g:Kp ZZ R w' w''):Kp ZZ R w w'' :=
 ⟨g.os.trans h.os,g.tape.trans h.tape,g.output.trans h.output,zI h.size g.size,fun k hk hne hp =>
  (g.block k (zF hk h.size) hne hp).trans (h.block k hk hne hp)⟩
theorem and_then {Z2:Nat->Prop} (h:Kp ZZ R w w') (g:Kp Z2 R w' w'') (hz:∀ k,Z2 k->ZZ k\/w.heap.size<=k):Kp ZZ R w w'' :=
 ⟨g.os.trans h.os,g.tape.trans h.tape,g.output.trans h.output,zI h.size g.size,fun k hk hne hp =>
  (g.block k (zF hk h.size) hne (fun x=>(hz k x).elim hp (fun y=>by omega))).trans (h.block k hk hne hp)⟩
theorem setR (i:Nat) (v:Value):Kp ZZ R w (w.setCell ⟨R,i,none⟩ v) :=
 ⟨rfl,rfl,rfl,by simp,fun k _ hne _=>zE w ⟨R,i,none⟩ v k hne⟩
theorem setP {g:Nat} (hz:ZZ g) (i:Nat) (v:Value):Kp ZZ R w (w.setCell ⟨g,i,none⟩ v) :=
 ⟨rfl,rfl,rfl,by simp,fun k _ _ hp=>zE w ⟨g,i,none⟩ v k (fun e=>hp (by have e':k=g:=e;rw [e'];exact hz))⟩
theorem grown {vo:Value} (hz:∀ g,vo.ownBlock=some g->ZZ g) (g:w.grownBy w' vo.ownBlock):Kp ZZ R w w' :=
 ⟨g.os,g.tape,g.output,g.size,fun k hk _ hp=>g.block k hk (fun e=>hp (hz k e.symm))⟩
theorem grown1 {M:Nat} (hz:ZZ M) (g:w.grownBy w' (some M)):Kp ZZ R w w' :=
 ⟨g.os,g.tape,g.output,g.size,fun k hk _ hp=>g.block k hk (fun e=>hp (by injection e with e;rw [e];exact hz))⟩
theorem rowIs (h:Kp ZZ R w w') {b t n:Nat} {f:Nat->Value} (hr:w.rowIs b t n f) (hz:¬ ZZ b) (hb:b≠R):w'.rowIs b t n f :=
 hr.of_block (h.block b hr.lt hb hz)
theorem mono {Z2:Nat->Prop} (h:Kp ZZ R w w') (hz:∀ k,ZZ k->Z2 k):Kp Z2 R w w':=⟨h.os,h.tape,h.output,h.size,fun k hk hn hp=>h.block k hk hn (fun x=>hp (hz k x))⟩
end Kp
variable {α:Type} {E:Enc α}
theorem Enc.appW {w:World} {B n m c t e bytes:Nat} {i:TypeInfo} {z v:Value} {p:Option Addr} {l q:List α} (ht:Tryz.prog.underlying t=some (.slice e)) (hi:Tryz.prog.info? e=some i) (hz:i.zero=some z) (hsize:i.size=E.n) (hby:i.bytes=bytes) (hzs:z.cells.size=E.n)
  (hown:w.ownsRow B e E.n v n (E.vals l)) (hq:E.Holds w p q) (hm:q.length=m) (hnil:p=none->c=0) (h63:n+m<=1000000) (hbytes:(n+m)*bytes<=140737488355328) (hB:B<=w.heap.size) :
  ∃ v' w',(Builtin.append_ #[t,t] t #[v,.slice p m c]).run Tryz.prog w=.ok v' w'/\w'.ownsRow B e E.n v' (n+m) (E.vals (l++q))/\w.grownBy w' v.ownBlock/\∀ g,v'.ownBlock=some g->v.ownBlock=some g\/g=w.heap.size:=by
 obtain ⟨v',w',h1,h2,h3⟩:=Enc.app ht hi hz hsize hby hzs hown hq hm hnil h63 hbytes hB;refine ⟨v',w',h1,h2,h3,?_⟩;cases p with
 | none =>
  have h0:q=[]:=by
   by_cases h:0<q.length
   ·obtain ⟨_,_,e,_⟩:=hq h;cases e
   ·exact zP.1 (by omega)
  subst h0;have hc:=hnil rfl;subst hc;have hm':m=0:=by simpa using hm.symm
  subst hm';rw [run_append_owned_none (P:=Tryz.prog) (w:=w) B t t e i E.n ht hi v n _ hown] at h1;injection h1 with e1 e2;subst e1;exact fun g hg=>.inl hg
 | some a =>
  refine yM6 ht hi hz hsize hby E.pos hown (news:=E.vals q) (by rw [E.vals_len,hm]) (fun j u hu=>?_) (E.vals_cell q) (by unfold maxLen;omega) hbytes h1;have hpos:0<q.length:=by
   rcases Nat.eq_zero_or_pos q.length with h|h
   ·have:q=[]:=zP.1 h
    subst this;simp [Enc.vals] at hu
   ·exact h
  obtain ⟨b,o,e,_,g⟩:=hq hpos;have e':=Option.some.inj e;subst e';rw [jS];exact g j u hu
theorem xE {P:Program} {ops:Array Oper} {Q:Exit->Act->World->Prop} {a:Act} {w w':World} {rest:List Oper} {o:Oper} {v1 v2 v':Value} {ty:Nat} (s x:Operand) (t:TypeId)
  (hrun:(Builtin.append_ #[t,t] ty #[v1,v2]).run P w=.ok v' w') (ho:o.op=.call { callee:=.builtin .append,args:=#[s,x],argTypes:=#[t,t] }) (hty:o.type=ty)
  (hs:a.eval s=v1) (hx:a.eval x=v2) (hw:Region.wanted o (yielded ops a.tmps)=true) (h:wpList P ops Q rest (a.put o.dst v') w'):wpList P ops Q (o :: rest) a w :=
 BigFrame.wpList_want hw fun K hK=>by
  unfold Oper.wp execOp;simp only [ho,resolve,invoke,builtin,Sem.run_bind,Sem.run_pure,Result.andThen_ok,List.map_toArray,List.map_cons,List.map_nil,hs,hx,hty,hrun];exact hK _ _ h
def RowI (w:World) (b:Nat) (l:List Int):Prop :=
 ∃ cur,w.heap[b]?=some (.cells cur 3 (0,0))/\l.length<=cur.size/\∀ i,i<l.length->cur[i]?=some (.int .i64 (l.getD i 0))
namespace RowI
variable {w w':World} {b:Nat} {l:List Int}
theorem cell (h:RowI w b l) {i:Nat} (hi:i<l.length):w.cell? ⟨b,i,none⟩=some (.int .i64 (l.getD i 0)):=by
 obtain ⟨c,hb,_,hc⟩:=h;simp only [World.cell?,hb,hc i hi];rfl
theorem frozen (h:RowI w b l) (i:Nat):w.frozen? ⟨b,i,none⟩=false:=by
 obtain ⟨c,hb,_,_⟩:=h;simp [World.frozen?,hb]
theorem lt (h:RowI w b l):b<w.heap.size:=by
 obtain ⟨c,hb,_,_⟩:=h;obtain ⟨hlt,_⟩:=zJ.1 hb;exact hlt
theorem of_block (h:RowI w b l) (e:w'.heap[b]?=w.heap[b]?):RowI w' b l:=by
 obtain ⟨c,hb,hn,hc⟩:=h;exact ⟨c,e.trans hb,hn,hc⟩
theorem below {B:Nat} (h:RowI w b l) (hb:Below B w w') (hlt:b<B):RowI w' b l:=h.of_block (hb.block b hlt)
theorem other (h:RowI w b l) {a:Addr} (ha:b≠a.block) (v:Value):RowI (w.setCell a v) b l:=h.of_block (zE _ _ _ _ ha)
theorem set (h:RowI w b l) (i:Nat) (hi:i<l.length) (x:Int):RowI (w.setCell ⟨b,i,none⟩ (.int .i64 x)) b (l.set i x):=by
 obtain ⟨c,hb,hn,hc⟩:=h;refine ⟨c.setIfInBounds i (.int .i64 x),?_,by simpa using hn,fun j hj=>?_⟩
 ·simp [World.setCell,Array.getElem?_modify,hb]
 ·rw [List.length_set] at hj
  rw [Array.getElem?_setIfInBounds];by_cases e:i=j
  ·subst e
   rw [if_pos rfl,if_pos (by omega)];simp [List.getD_eq_getElem?_getD,hi]
  ·rw [if_neg e,hc j hj]
   simp [List.getD_eq_getElem?_getD,e]
theorem of_rowIs {n:Nat} {f:Nat->Value} (h:w.rowIs b 3 n f) (hl:l.length<=n) (hf:∀ i,i<l.length->f i=.int .i64 (l.getD i 0)):RowI w b l:=by
 obtain ⟨c,hb,hn,hc⟩:=h;exact ⟨c,hb,by omega,fun i hi=>by rw [hc i (by omega),hf i hi]⟩
theorem seg (h:RowI w b l) (cap:Nat):Seg w (.slice (some ⟨b,0,none⟩) l.length cap) l :=
 .inr ⟨b,0,cap,rfl,fun j hj=>by rw [Nat.zero_add];exact h.cell hj⟩
theorem lies (h:RowI w b l) (n cap:Nat):Lies w.heap.size (.slice (some ⟨b,0,none⟩) n cap):=qF h.lt
theorem of_owns {B n g cap:Nat} {xs:List Value} (h:w.ownsRow B 3 1 (.slice (some ⟨g,0,none⟩) n cap) n xs) (hn:l.length=n) (hx:xs=l.map (Value.int .i64)):RowI w g l/\B<=g:=by
 rcases h.2 with ⟨e,_⟩|⟨g',cap',cur,e,hg,hb,h1,_,h3,h4⟩
 ·cases e
 ·injection e with e1 _ _
  injection e1 with e1;injection e1 with e1 _ _;subst e1;refine ⟨⟨cur,hb,by omega,fun i hi=>?_⟩,hg⟩;have h5:(cur.toList.take (n*1))[i]?=some (.int .i64 (l.getD i 0)):=by rw [h4,hx];simp [hi]
  rw [List.getElem?_take,if_pos (by omega)] at h5;rw [<- Array.getElem?_toList];exact h5
end RowI
end Go.Proofs.YtleaknfjbbccgaaGreatDoor
