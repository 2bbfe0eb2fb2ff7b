/- Laid together. -/
import Derived.Deep.LoopGhost
import Derived.Shelf.Abstract
import Derived.Deep.QuietTactic
import Derived.BigQuiet
import Derived.Deep.RegionHeld3
import Derived.Deep.RegionWith
import Derived.Laws.CopyRow
import Derived.Laws.Externs
import Derived.Deep.RegionLaw
import Derived.Shelf.RegionOpenPlain
import Derived.Test.YtleaknfjbbccgaaGreatDoorMs00
import Derived.Test.YtleaknfjbbccgaaGreatDoorMs03
import Derived.Test.YtleaknfjbbccgaaGreatDoorMs07
namespace Go.Proofs.YtleaknfjbbccgaaGreatDoor
open Plain
set_option maxHeartbeats 16000000
set_option maxRecDepth 100000
namespace Plain
structure Cf where
 n:Int
 ls:List Int
 t:Int
 ms:List Int
 cap:Int
def inR (x a b:Int):Bool:=decide (a<=x)&&decide (x<=b)
def cntB (x:Int):Bool:=inR x 0 1048576
def labB (n s:Int):Bool:=decide (0<=s)&&decide (s<2^n.toNat)
def zZ9 (c:Cf):Bool:=decide (c.ls.length<=4)&&c.ls.all (labB c.n)
def mayC (c:Cf):Bool:=inR c.n 1 8&&(zZ9 c&&(inR c.t 1 8&&(inR c.ms.length 1 3&&(c.ms.all cntB&&inR c.cap 0 1048576))))
def rdB (s:Int) (k:Int):Bool:=decide (0<=k)&&(decide (k<8)&&s.toNat/2^k.toNat%2==1)
theorem kS (x a b:Int):inR x a b=true ↔ a<=x/\x<=b:=by simp [inR]
theorem xJ {c:Cf} (h:mayC c=true):(1<=c.n/\c.n<=8)/\c.ls.length<=4/\c.ls.all (labB c.n)=true/\(1<=c.t/\c.t<=8)/\(1<=c.ms.length/\c.ms.length<=3)/\c.ms.all cntB=true/\(0<=c.cap/\c.cap<=1048576):=by
 simp only [mayC,zZ9,inR,Bool.and_eq_true,decide_eq_true_eq] at h;obtain ⟨h1,⟨h2,h3⟩,h4,h5,h6,h7⟩:=h;exact ⟨h1,h2,h3,h4,by omega,h6,h7⟩
theorem lab_lt {c:Cf} (h:mayC c=true):∀ s∈c.ls,0<=s/\s<256:=by
 intro s hs;obtain ⟨⟨h1,h2⟩,_,h3,_⟩:=xJ h;have:=zT.1 h3 s hs;simp only [labB,Bool.and_eq_true,decide_eq_true_eq] at this;have hp:(2:Int)^c.n.toNat<=256:=by
  have:(2^c.n.toNat:Nat)<=2^8:=Nat.pow_le_pow_right (by decide) (by omega);have e:((2^c.n.toNat:Nat):Int)=(2:Int)^c.n.toNat:=by simp
  rw [<- e];omega
 omega
end Plain
namespace LabP
theorem xF6 (s k:Nat):inB (2^k) s=(s/2^k%2==1):=by
 have hr:(s/2^k%2==1)=s.testBit k:=by rw [Nat.testBit_eq_decide_div_mod_eq,yM,beq_iff_eq,decide_eq_true_iff]
 rw [hr,yM,zZ4];constructor
 ·intro h;exact h k (by simp [Nat.testBit_two_pow_self])
 ·intro h j hj
  have:k=j:=by
   rw [Nat.testBit_two_pow] at hj;simpa using hj
  subst this;exact h
theorem all_rd (n:Nat) (hn:n<=8) (k:Int):Plain.rdB ((2^n-1:Nat):Int) k=(decide (0<=k)&&decide (k<n)):=by
 unfold Plain.rdB;by_cases h0:0<=k
 ·obtain ⟨m,rfl⟩:=zW h0
  rw [zK,zK,<- xF6,xS9];have hd:decide ((0:Int)<=(m:Int))=true:=by simp
  rw [hd,Bool.true_and,Bool.true_and,yM,zQ,decide_eq_true_iff,decide_eq_true_iff,decide_eq_true_iff];constructor
  ·rintro ⟨_,h⟩
   have:=(Nat.pow_lt_pow_iff_right (a:=2) (by decide)).1 h;omega
  ·intro h
   exact ⟨by omega,Nat.pow_lt_pow_right (by decide) (by omega)⟩
 ·have hd:decide (0<=k)=false:=by simpa using h0
  rw [hd];rfl
end LabP
open Go.RowKit Go.Shelf
abbrev cfV (c:Cf) (lv mv:Value):Value:=.agg #[.int .i64 c.n,lv,.int .i64 c.t,mv,.int .i64 c.cap]
abbrev boxC (c:Cf) (lv mv:Value):Obj:=.cells #[.int .i64 c.n,lv,.int .i64 c.t,mv,.int .i64 c.cap] 25
def qY (w:World) (T:Nat) (c:Cf) (lv mv:Value):Prop :=
 w.cell? ⟨T,0,none⟩=some (.int .i64 c.n)/\w.cell? ⟨T,1,none⟩=some lv/\w.cell? ⟨T,2,none⟩=some (.int .i64 c.t)/\w.cell? ⟨T,3,none⟩=some mv/\w.cell? ⟨T,4,none⟩=some (.int .i64 c.cap)
theorem qY.lt {w:World} {T:Nat} {c:Cf} {lv mv:Value} (h:qY w T c lv mv):T<w.heap.size:=zC (w:=w) (h:=h.1)
theorem qY.below {w w':World} {T B:Nat} {c:Cf} {lv mv:Value} (h:qY w T c lv mv) (b:Below B w w') (hT:T<B):qY w' T c lv mv :=
 ⟨(b.cell (p:=⟨T,0,none⟩) hT).trans h.1,(b.cell (p:=⟨T,1,none⟩) hT).trans h.2.1,(b.cell (p:=⟨T,2,none⟩) hT).trans h.2.2.1,(b.cell (p:=⟨T,3,none⟩) hT).trans h.2.2.2.1,(b.cell (p:=⟨T,4,none⟩) hT).trans h.2.2.2.2⟩
theorem qY.start (w:World) (c:Cf) (lv mv:Value):qY (w.alloc (boxC c lv mv)) w.heap.size c lv mv:=by
 refine ⟨?_,?_,?_,?_,?_⟩<;>(rw [zM _ _ _ _ rfl];rfl)
theorem xI (x a b:Int) (w:World) :
  Calls Tryz.prog 43 #[.int .i64 x,.int .i64 a,.int .i64 b] w fun e w'=>e=.returned (.bool (inR x a b))/\w'=w:=by
 have HR:=hid (show inR x a b=(decide (a<=x)&&decide (x<=b)) from rfl);cases h:decide (a<=x) with
 | false =>
  go_enter Tryz.func43,Tryz.ntmps43
  go_wp2;go_ret
  exact ⟨by rw [HR.out,h];rfl,rfl⟩
 | true =>
  go_enter Tryz.func43,Tryz.ntmps43
  go_wp2;go_ret
  exact ⟨by rw [HR.out,h];rfl,rfl⟩
theorem zV0 (x s:Nat) (hx:x<256) (hs:s<256) (w:World) :
  Calls Tryz.prog 63 #[.int .i64 s,.int .i64 x] w fun e w'=>e=.returned (.bool (LabP.inB x s))/\w'=w:=by
 have e1:=ma x hx;have e2:=ma s hs;have e3:=LabP.inB_eq x s hx hs;go_enter Tryz.func63,Tryz.ntmps63
 go_wp2;go_ret
 exact ⟨rfl,rfl⟩
theorem xF7 (x:Int) (s:Nat) (h1:-9223372036854775808<=x) (h2:x<=9223372036854775807) (hx:¬ (0<=x/\x<=255)) (hs:s<256) (w:World) :
  Calls Tryz.prog 63 #[.int .i64 s,.int .i64 x] w fun e w'=>e=.returned (.bool false)/\w'=w:=by
 have e1:=ma_no x h1 h2 hx;have e2:=ma s hs;clear h1 h2 hx hs;go_enter Tryz.func63,Tryz.ntmps63
 go_wp2;go_ret
 exact ⟨rfl,rfl⟩
theorem yR7 (x:Int) (n:Nat) (hn:n<=8) (h1:-9223372036854775808<=x) (h2:x<=9223372036854775807) (w:World) :
  Calls Tryz.prog 63 #[.int .i64 ((2^n-1:Nat):Int),.int .i64 x] w fun e w'=>e=.returned (.bool (labB n x))/\w'=w:=by
 have hp:=LabP.pow_le hn;have hp1:=Nat.two_pow_pos n;have hz:((2^n:Nat):Int)=(2:Int)^n:=by simp
 unfold labB;rw [zK];by_cases hx:0<=x/\x<=255
 ·obtain ⟨y,rfl⟩:∃ y:Nat,x=(y:Int):=⟨x.toNat,by omega⟩
  refine (zV0 y (2^n-1) (by omega) (by omega) w).mono ?_;rintro e w' ⟨rfl,rfl⟩;refine ⟨?_,rfl⟩;rw [LabP.xS9];have:decide (y<2^n)=(decide (0<=(y:Int))&&decide ((y:Int)<(2:Int)^n)):=by
   rw [yM,decide_eq_true_iff,zQ,decide_eq_true_iff,decide_eq_true_iff,<- hz];omega
  rw [this]
 ·refine (xF7 x (2^n-1) h1 h2 hx (by omega) w).mono ?_
  rintro e w' ⟨rfl,rfl⟩;refine ⟨?_,rfl⟩;have:(decide (0<=x)&&decide (x<(2:Int)^n))=false:=by
   rw [<- hz];simp;omega
  rw [this]
theorem zK5 (c:Cf) (lv mv:Value) (n:Nat) (hn:c.n=n) (h8:n<=8) (w:World) :
  Calls Tryz.prog 64 #[cfV c lv mv] w fun e w'=>e=.returned (.int .i64 ((2^n-1:Nat):Int))/\Below w.heap.size w w':=by
 have BW:=hid (show Below w.heap.size w (w.alloc (boxC c lv mv)) from yO.alloc yN _);obtain ⟨cn,ls,ct,ms,cap⟩:=c;have hn':cn=(n:Int):=hn;subst hn';have hp:=LabP.pow_le h8;have hp1:=Nat.two_pow_pos n;have hz:((2^n:Nat):Int)=(2:Int)^n:=by simp
 have h0:0<=(n:Int):=by omega
 go_enter Tryz.func64,Tryz.ntmps64
 go_wp2;go_ret
 refine ⟨?_,BW.out⟩;have:(2:Int)^n-1=((2^n-1:Nat):Int):=by rw [<- hz];omega
 rw [this];rfl
namespace Plain
def ncB (x:Int):Bool:=!cntB x
def nlB (n x:Int):Bool:=!labB n x
theorem qD5 (l:List Int):(!l.any ncB)=l.all cntB:=by
 induction l with
 | nil=>rfl
 | cons x l ih=>simp only [List.any_cons,List.all_cons,Bool.not_or,ih,ncB,Bool.not_not]
theorem qD6 (n:Int) (l:List Int):(!l.any (nlB n))=l.all (labB n):=by
 induction l with
 | nil=>rfl
 | cons x l ih=>simp only [List.any_cons,List.all_cons,Bool.not_or,ih,nlB,Bool.not_not]
end Plain
theorem xF8 (x:Int) (w:World) :
  Calls Tryz.prog 65 #[.int .i64 x] w fun e w'=>e=.returned (.bool (ncB x))/\Below w.heap.size w w':=by
 have K:=xI x 0 1048576 w;have HR:=hid (show ncB x=!inR x 0 1048576 from rfl);generalize inR x 0 1048576=r at K HR;go_enter Tryz.func65,Tryz.ntmps65
 go_wp2_with fail
 refine K.mono ?_;rintro e w' ⟨rfl,hx⟩;have hy:=hx.symm;clear hx K;subst hy;go_wp2;go_ret
 exact ⟨by rw [HR.out];rfl,yO⟩
theorem xF9 (x:Int) (T:Nat) (c:Cf) (lv mv:Value) (n:Nat) (hn:c.n=n) (h8:n<=8) (h1:-9223372036854775808<=x) (h2:x<=9223372036854775807) (w:World) (hc:qY w T c lv mv) :
  Calls Tryz.prog 62 #[.int .i64 x,.pointer (some ⟨T,0,none⟩)] w fun e w'=>e=.returned (.bool (nlB c.n x))/\Below w.heap.size w w':=by
 have K:=zK5 c lv mv n hn h8 w;have HF:=hid (fun W=>yR7 x n h8 h1 h2 W);have HR:=hid (show nlB c.n x=!labB n x by unfold nlB;rw [hn]);generalize labB n x=r at HF HR;generalize ((2^n-1:Nat):Int)=y at K HF;obtain ⟨c0,c1,c2,c3,c4⟩:=hc;clear h1 h2 h8 hn;obtain ⟨cn,ls,ct,ms,cap⟩:=c;go_enter Tryz.func62,Tryz.ntmps62
 go_wp2_with fail
 refine K.mono ?_;rintro e w' ⟨rfl,hb⟩;have HB:=hid hb;clear K hb c0 c1 c2 c3 c4;have K:=HF.out w';clear HF
 go_wp2_with fail
 refine K.mono ?_;rintro e w2 ⟨rfl,hx⟩;have hy:=hx.symm;clear hx K;subst hy;go_wp2;go_ret
 exact ⟨by rw [HR.out];rfl,HB.out⟩
theorem qD7  (b off n c:Nat) (l:List Int) (w:World)  (hn:l.length=n) (hbig:n<=9223372036854775807) (hb:0<n->b<w.heap.size) (hc:∀ j,j<n->w.cell? ⟨b,off+j,none⟩=some (.int .i64 (l.getD j 0))) :
  Calls Tryz.prog 56 #[.slice (some ⟨b,off,none⟩) n c,.func (.func 65) #[] #[]] w fun e w'=>e=.returned (.int .i64 (idxI (ncB) l))/\Below w.heap.size w w':=by
 have HC:=hid hc;clear hc;go_enter Tryz.func56,Tryz.ntmps56
 go_wp2
 go_loopg [5,8] n (fun gg _ s8 wr=>∃ k:Nat,k<=n/\n-k<=gg/\s8=.int .i64 k/\Aside (Below w.heap.size w wr)/\Aside (∀ j,j<k->ncB (l.getD j 0)=false))
 case atStart=>exact ⟨0,zG _,by omega,rfl,Below.refl _ w,fun j hj=>absurd hj (yE _)⟩
 case round =>
  obtain ⟨k,hkk,hg,rfl,BW,A⟩:=hrel;by_cases hlt:k<n
  ·have hltz:(k:Int)<(n:Int):=by omega
   have c0:wr.cell? ⟨b,off+k,none⟩=some (.int .i64 (l.getD k 0)):=(BW.out.cell (p:=⟨b,off+k,none⟩) (hb (by omega))).trans (HC.out k hlt);have hcall:=xF8 (l.getD k 0) wr;generalize hy:l.getD k 0=y at c0 hcall;have HY:Aside (l.getD k 0=y):=hy;clear hy;cases hq:ncB y with
   | true =>
    rw [hq] at hcall
    go_wp2_with fail
    refine hcall.mono ?_;rintro e w' ⟨rfl,hb'⟩;have HB':=hid (BW.out.trans (hb'.mono BW.out.size));clear hcall hb';go_wp2;go_ret
    refine ⟨?_,HB'.out⟩;rw [yE9 (by omega) (by rw [HY.out];exact hq) A.out];rfl
   | false =>
    rw [hq] at hcall
    go_wp2_with fail
    refine hcall.mono ?_;rintro e w' ⟨rfl,hb'⟩;have HB':=hid (BW.out.trans (hb'.mono BW.out.size));clear hcall hb';go_wp2
    go_roundg (n-(k+1))
    case measure=>omega
    case rel =>
     refine ⟨k+1,by omega,by omega,by go_num,HB'.out,(show Aside _ from fun j hj=>?_)⟩;by_cases e:j=k
     ·subst e
      rw [HY.out];exact hq
     ·exact A.out j (by omega)
  ·have hltz:¬ (k:Int)<(n:Int):=by omega
   have:k=n:=by omega
   subst this;go_wp2;go_ret
   refine ⟨?_,BW.out⟩;rw [zU7 (fun j hj=>A.out j (by omega))];rfl
theorem qD8 (T:Nat) (cf:Cf) (lv mv:Value) (m:Nat) (b off n c:Nat) (l:List Int) (w:World) (hm:cf.n=m) (h8:m<=8) (hr:∀ x∈l,-9223372036854775808<=x/\x<=9223372036854775807) (hT:qY w T cf lv mv) (hn:l.length=n) (hbig:n<=9223372036854775807) (hb:0<n->b<w.heap.size) (hc:∀ j,j<n->w.cell? ⟨b,off+j,none⟩=some (.int .i64 (l.getD j 0))) :
  Calls Tryz.prog 56 #[.slice (some ⟨b,off,none⟩) n c,.func (.func 62) #[] #[.pointer (some ⟨T,0,none⟩)]] w fun e w'=>e=.returned (.int .i64 (idxI (nlB cf.n) l))/\Below w.heap.size w w':=by
 have HC:=hid hc;clear hc;have HT:=hid hT;have HRR:=hid (fun j (hj:j<l.length)=>hr (l.getD j 0) (by rw [zA6 _ _ hj];exact zH hj));have HM:=hid hm;clear hT hr hm;go_enter Tryz.func56,Tryz.ntmps56
 go_wp2
 go_loopg [5,8] n (fun gg _ s8 wr=>∃ k:Nat,k<=n/\n-k<=gg/\s8=.int .i64 k/\Aside (Below w.heap.size w wr)/\Aside (∀ j,j<k->nlB cf.n (l.getD j 0)=false))
 case atStart=>exact ⟨0,zG _,by omega,rfl,Below.refl _ w,fun j hj=>absurd hj (yE _)⟩
 case round =>
  obtain ⟨k,hkk,hg,rfl,BW,A⟩:=hrel;by_cases hlt:k<n
  ·have hltz:(k:Int)<(n:Int):=by omega
   have c0:wr.cell? ⟨b,off+k,none⟩=some (.int .i64 (l.getD k 0)):=(BW.out.cell (p:=⟨b,off+k,none⟩) (hb (by omega))).trans (HC.out k hlt);have hcall:=xF9 (l.getD k 0) T cf lv mv m HM.out h8 (HRR.out k (by omega)).1 (HRR.out k (by omega)).2 wr (HT.out.below BW.out HT.out.lt);generalize hy:l.getD k 0=y at c0 hcall;have HY:Aside (l.getD k 0=y):=hy;clear hy;cases hq:nlB cf.n y with
   | true =>
    rw [hq] at hcall
    go_wp2_with fail
    refine hcall.mono ?_;rintro e w' ⟨rfl,hb'⟩;have HB':=hid (BW.out.trans (hb'.mono BW.out.size));clear hcall hb';go_wp2;go_ret
    refine ⟨?_,HB'.out⟩;rw [yE9 (by omega) (by rw [HY.out];exact hq) A.out];rfl
   | false =>
    rw [hq] at hcall
    go_wp2_with fail
    refine hcall.mono ?_;rintro e w' ⟨rfl,hb'⟩;have HB':=hid (BW.out.trans (hb'.mono BW.out.size));clear hcall hb';go_wp2
    go_roundg (n-(k+1))
    case measure=>omega
    case rel =>
     refine ⟨k+1,by omega,by omega,by go_num,HB'.out,(show Aside _ from fun j hj=>?_)⟩;by_cases e:j=k
     ·subst e
      rw [HY.out];exact hq
     ·exact A.out j (by omega)
  ·have hltz:¬ (k:Int)<(n:Int):=by omega
   have:k=n:=by omega
   subst this;go_wp2;go_ret
   refine ⟨?_,BW.out⟩;rw [zU7 (fun j hj=>A.out j (by omega))];rfl
theorem zK6 (p:Option Addr) (c:Nat) (f:Value) (w:World) :
  Calls Tryz.prog 56 #[.slice p 0 c,f] w fun e w'=>e=.returned (.int .i64 (-1))/\w'=w:=by
 go_enter Tryz.func56,Tryz.ntmps56
 go_wp2;refine wp_loop_rounds 1 ?_;rw [rounds_succ];go_wp2;go_ret
 exact ⟨rfl,rfl⟩
theorem yR8  (v:Value) (l:List Int) (w:World) (hbig:l.length<=9223372036854775807) (hs:Seg w v l) (hl:Lies w.heap.size v) :
  Calls Tryz.prog 37 #[v,.func (.func 65) #[] #[]] w fun e w'=>e=.returned (.bool (l.any (ncB)))/\Below w.heap.size w w':=by
 rw [<- yF0];have K:Calls Tryz.prog 56 #[v,.func (.func 65) #[] #[]] w fun e w'=>e=.returned (.int .i64 (idxI (ncB) l))/\Below w.heap.size w w':=by
  rcases hs with ⟨rfl,q,c,rfl⟩|⟨b,off,c,rfl,hc⟩
  ·exact (zK6 q c _ w).mono fun e w' ⟨h1,h2⟩=>⟨by rw [h1];rfl,by rw [h2];exact yO⟩
  ·exact qD7 b off l.length c l w rfl hbig (fun h=>hl ⟨b,off,none⟩ _ _ rfl h) hc
 generalize idxI (ncB) l=r at K ⊢;clear hs hl;go_enter Tryz.func37,Tryz.ntmps37
 go_wp2_with fail
 refine K.mono ?_;rintro e w' ⟨rfl,hb⟩;go_wp2;go_ret
 exact ⟨rfl,hb⟩
theorem yR9 (T:Nat) (cf:Cf) (lv mv:Value) (m:Nat) (v:Value) (l:List Int) (w:World) (hbig:l.length<=9223372036854775807) (hs:Seg w v l) (hl:Lies w.heap.size v) (hm:cf.n=m) (h8:m<=8) (hr:∀ x∈l,-9223372036854775808<=x/\x<=9223372036854775807) (hT:qY w T cf lv mv) :
  Calls Tryz.prog 37 #[v,.func (.func 62) #[] #[.pointer (some ⟨T,0,none⟩)]] w fun e w'=>e=.returned (.bool (l.any (nlB cf.n)))/\Below w.heap.size w w':=by
 rw [<- yF0];have K:Calls Tryz.prog 56 #[v,.func (.func 62) #[] #[.pointer (some ⟨T,0,none⟩)]] w fun e w'=>e=.returned (.int .i64 (idxI (nlB cf.n) l))/\Below w.heap.size w w':=by
  rcases hs with ⟨rfl,q,c,rfl⟩|⟨b,off,c,rfl,hc⟩
  ·exact (zK6 q c _ w).mono fun e w' ⟨h1,h2⟩=>⟨by rw [h1];rfl,by rw [h2];exact yO⟩
  ·exact qD8 T cf lv mv m b off l.length c l w hm h8 hr hT rfl hbig (fun h=>hl ⟨b,off,none⟩ _ _ rfl h) hc
 generalize idxI (nlB cf.n) l=r at K ⊢;clear hs hl hT hr;go_enter Tryz.func37,Tryz.ntmps37
 go_wp2_with fail
 refine K.mono ?_;rintro e w' ⟨rfl,hb⟩;go_wp2;go_ret
 exact ⟨rfl,hb⟩
theorem vH (v:Value) (l:List Int) (w:World) (hbig:l.length<=9223372036854775807) (hs:Seg w v l) (hl:Lies w.heap.size v) :
  Calls Tryz.prog 45 #[v] w fun e w'=>e=.returned (.bool (l.all cntB))/\Below w.heap.size w w':=by
 have K:=yR8 v l w hbig hs hl;rw [<- qD5];generalize l.any ncB=r at K ⊢;clear hs hl;go_enter Tryz.func45,Tryz.ntmps45
 go_wp2_with fail
 refine K.mono ?_;rintro e w' ⟨rfl,hb⟩;go_wp2;go_ret
 exact ⟨rfl,hb⟩
structure CfI (w:World) (c:Cf) (lv mv:Value):Prop where
 sl:Seg w lv c.ls
 ll:Lies w.heap.size lv
 sm:Seg w mv c.ms
 lm:Lies w.heap.size mv
 rl:∀ x∈c.ls,-9223372036854775808<=x/\x<=9223372036854775807
 bl:c.ls.length<=9223372036854775807
 bm:c.ms.length<=9223372036854775807
theorem CfI.grow {w w':World} {c:Cf} {lv mv:Value} (h:CfI w c lv mv) (b:Below w.heap.size w w'):CfI w' c lv mv :=
 ⟨h.sl.below b h.ll,h.ll.mono b.size,h.sm.below b h.lm,h.lm.mono b.size,h.rl,h.bl,h.bm⟩
theorem yX {w:World} {v:Value} {l:List Int} (h:Seg w v l):∃ p c,v=.slice p l.length c:=by
 rcases h with ⟨rfl,p,c,rfl⟩|⟨b,o,c,rfl,_⟩
 ·exact ⟨p,c,rfl⟩
 ·exact ⟨_,c,rfl⟩
theorem jZ (c:Cf) (lv mv:Value) (n:Nat) (hn:c.n=n) (h8:n<=8) (w:World) (hI:CfI w c lv mv) :
  Calls Tryz.prog 44 #[cfV c lv mv] w fun e w'=>e=.returned (.bool (zZ9 c))/\Below w.heap.size w w':=by
 have bA:Below w.heap.size w (w.alloc (boxC c lv mv)):=yO.alloc yN _;have HB:=hid bA;have I:=hI.grow bA;have cc:=qY.start w c lv mv;have K:=yR9 w.heap.size c lv mv n lv c.ls (w.alloc (boxC c lv mv)) I.bl I.sl I.ll hn h8 I.rl cc;have HR:=hid (show zZ9 c=(decide (c.ls.length<=4)&&!c.ls.any (nlB c.n)) by unfold zZ9;rw [qD6]);generalize c.ls.any (nlB c.n)=r at K HR;obtain ⟨lp,lc,rfl⟩:=yX hI.sl;clear hI I cc bA hn h8;obtain ⟨cn,ls,ct,ms,cap⟩:=c;dsimp only at *;by_cases h4:(ls.length:Int)<=4
 ·go_enter Tryz.func44,Tryz.ntmps44
  go_wp2_with fail
  refine K.mono ?_;rintro e w' ⟨rfl,hb⟩;have HB':=hid hb;clear K hb;go_wp2;go_ret
  refine ⟨?_,HB.out.trans (HB'.out.mono HB.out.size)⟩;rw [HR.out,decide_eq_true (show ls.length<=4 by omega)];rfl
 ·clear K
  go_enter Tryz.func44,Tryz.ntmps44
  go_wp2;go_ret
  refine ⟨?_,HB.out⟩;rw [HR.out,decide_eq_false (show ¬ ls.length<=4 by omega)];rfl
theorem xG0 (c:Cf) (lv mv:Value) (w:World) (hI:CfI w c lv mv) :
  Calls Tryz.prog 33 #[cfV c lv mv] w fun e w'=>e=.returned (.bool (mayC c))/\Below w.heap.size w w':=by
 have bA:Below w.heap.size w (w.alloc (boxC c lv mv)):=yO.alloc yN _;have I0:=hid hI;clear hI;cases b0:inR c.n 1 8 with
 | false =>
  have K0:=fun W=>xI c.n 1 8 W;simp only [b0] at K0;have HR:=hid (show mayC c=false by unfold mayC;rw [b0];rfl);clear b0;have H0:=hid K0;clear K0;obtain ⟨lp,lc,rfl⟩:=yX I0.out.sl;obtain ⟨mp,mc,rfl⟩:=yX I0.out.sm;have I:=hid (I0.out.grow bA);have HB:=hid bA;have HC:=hid (qY.start w c (.slice lp c.ls.length lc) (.slice mp c.ms.length mc));clear I0 bA;obtain ⟨cn,ls,ct,ms,cap⟩:=c;dsimp only at *;go_enter Tryz.func33,Tryz.ntmps33
  go_wp2_with fail
  refine (H0.out _).mono ?_;rintro e w0 ⟨rfl,hx⟩;have hy:=hx.symm;clear hx;subst hy;clear H0;go_wp2;go_ret
  exact ⟨by rw [HR.out];rfl,HB.out⟩
 | true =>
  obtain ⟨n,hn,h8⟩:∃ n:Nat,c.n=n/\n<=8:=⟨c.n.toNat,by have:=(kS _ _ _).1 b0;omega,by have:=(kS _ _ _).1 b0;omega⟩;cases b1:zZ9 c with
  | false =>
   have K0:=fun W=>xI c.n 1 8 W;simp only [b0] at K0;have K1:=fun W (I:CfI W c lv mv)=>jZ c lv mv n hn h8 W I;simp only [b1] at K1;have HR:=hid (show mayC c=false by unfold mayC;rw [b0,b1];rfl);clear b0 b1 hn h8;have H0:=hid K0;have H1:=hid K1;clear K0 K1;obtain ⟨lp,lc,rfl⟩:=yX I0.out.sl;obtain ⟨mp,mc,rfl⟩:=yX I0.out.sm;have I:=hid (I0.out.grow bA);have HB:=hid bA;have HC:=hid (qY.start w c (.slice lp c.ls.length lc) (.slice mp c.ms.length mc));clear I0 bA;obtain ⟨cn,ls,ct,ms,cap⟩:=c;dsimp only at *;go_enter Tryz.func33,Tryz.ntmps33
   go_wp2_with fail
   refine (H0.out _).mono ?_;rintro e w0 ⟨rfl,hx⟩;have hy:=hx.symm;clear hx;subst hy;clear H0
   go_wp2_with fail
   refine (H1.out _ I.out).mono ?_;rintro e w1 ⟨rfl,hb⟩;have I2:=hid (I.out.grow hb);have HB2:=hid (HB.out.trans (hb.mono HB.out.size));have HC2:=hid (HC.out.below hb HC.out.lt);clear I HB HC H1 hb;have I:=I2;have HB:=HB2;have HC:=HC2;clear I2 HB2 HC2;go_wp2;go_ret
   exact ⟨by rw [HR.out];rfl,HB.out⟩
  | true =>
   cases b2:inR c.t 1 8 with
   | false =>
    have K0:=fun W=>xI c.n 1 8 W;simp only [b0] at K0;have K1:=fun W (I:CfI W c lv mv)=>jZ c lv mv n hn h8 W I;simp only [b1] at K1;have K2:=fun W=>xI c.t 1 8 W;simp only [b2] at K2;have HR:=hid (show mayC c=false by unfold mayC;rw [b0,b1,b2];rfl);clear b0 b1 b2 hn h8;have H0:=hid K0;have H1:=hid K1;have H2:=hid K2;clear K0 K1 K2;obtain ⟨lp,lc,rfl⟩:=yX I0.out.sl;obtain ⟨mp,mc,rfl⟩:=yX I0.out.sm;have I:=hid (I0.out.grow bA);have HB:=hid bA;have HC:=hid (qY.start w c (.slice lp c.ls.length lc) (.slice mp c.ms.length mc));clear I0 bA;obtain ⟨cn,ls,ct,ms,cap⟩:=c;dsimp only at *;go_enter Tryz.func33,Tryz.ntmps33
    go_wp2_with fail
    refine (H0.out _).mono ?_;rintro e w0 ⟨rfl,hx⟩;have hy:=hx.symm;clear hx;subst hy;clear H0
    go_wp2_with fail
    refine (H1.out _ I.out).mono ?_;rintro e w1 ⟨rfl,hb⟩;have I2:=hid (I.out.grow hb);have HB2:=hid (HB.out.trans (hb.mono HB.out.size));have HC2:=hid (HC.out.below hb HC.out.lt);clear I HB HC H1 hb;have I:=I2;have HB:=HB2;have HC:=HC2;clear I2 HB2 HC2;obtain ⟨c0,c1,c2,c3,c4⟩:=HC.out
    go_wp2_with fail
    refine (H2.out _).mono ?_;rintro e w0 ⟨rfl,hx⟩;have hy:=hx.symm;clear hx;subst hy;clear H2;go_wp2;go_ret
    exact ⟨by rw [HR.out];rfl,HB.out⟩
   | true =>
    cases b3:inR (c.ms.length:Int) 1 3 with
    | false =>
     have K0:=fun W=>xI c.n 1 8 W;simp only [b0] at K0;have K1:=fun W (I:CfI W c lv mv)=>jZ c lv mv n hn h8 W I;simp only [b1] at K1;have K2:=fun W=>xI c.t 1 8 W;simp only [b2] at K2;have K3:=fun W=>xI (c.ms.length:Int) 1 3 W;simp only [b3] at K3;have HR:=hid (show mayC c=false by unfold mayC;rw [b0,b1,b2,b3];rfl);clear b0 b1 b2 b3 hn h8;have H0:=hid K0;have H1:=hid K1;have H2:=hid K2;have H3:=hid K3;clear K0 K1 K2 K3;obtain ⟨lp,lc,rfl⟩:=yX I0.out.sl;obtain ⟨mp,mc,rfl⟩:=yX I0.out.sm;have I:=hid (I0.out.grow bA);have HB:=hid bA;have HC:=hid (qY.start w c (.slice lp c.ls.length lc) (.slice mp c.ms.length mc));clear I0 bA;obtain ⟨cn,ls,ct,ms,cap⟩:=c;dsimp only at *;go_enter Tryz.func33,Tryz.ntmps33
     go_wp2_with fail
     refine (H0.out _).mono ?_;rintro e w0 ⟨rfl,hx⟩;have hy:=hx.symm;clear hx;subst hy;clear H0
     go_wp2_with fail
     refine (H1.out _ I.out).mono ?_;rintro e w1 ⟨rfl,hb⟩;have I2:=hid (I.out.grow hb);have HB2:=hid (HB.out.trans (hb.mono HB.out.size));have HC2:=hid (HC.out.below hb HC.out.lt);clear I HB HC H1 hb;have I:=I2;have HB:=HB2;have HC:=HC2;clear I2 HB2 HC2;obtain ⟨c0,c1,c2,c3,c4⟩:=HC.out
     go_wp2_with fail
     refine (H2.out _).mono ?_;rintro e w0 ⟨rfl,hx⟩;have hy:=hx.symm;clear hx;subst hy;clear H2
     go_wp2_with fail
     refine (H3.out _).mono ?_;rintro e w0 ⟨rfl,hx⟩;have hy:=hx.symm;clear hx;subst hy;clear H3;go_wp2;go_ret
     exact ⟨by rw [HR.out];rfl,HB.out⟩
    | true =>
     cases b4:c.ms.all cntB with
     | false =>
      have K0:=fun W=>xI c.n 1 8 W;simp only [b0] at K0;have K1:=fun W (I:CfI W c lv mv)=>jZ c lv mv n hn h8 W I;simp only [b1] at K1;have K2:=fun W=>xI c.t 1 8 W;simp only [b2] at K2;have K3:=fun W=>xI (c.ms.length:Int) 1 3 W;simp only [b3] at K3;have K4:=fun W (I:CfI W c lv mv)=>vH mv c.ms W I.bm I.sm I.lm;simp only [b4] at K4;have HR:=hid (show mayC c=false by unfold mayC;rw [b0,b1,b2,b3,b4];rfl);clear b0 b1 b2 b3 b4 hn h8;have H0:=hid K0;have H1:=hid K1;have H2:=hid K2;have H3:=hid K3;have H4:=hid K4;clear K0 K1 K2 K3 K4;obtain ⟨lp,lc,rfl⟩:=yX I0.out.sl;obtain ⟨mp,mc,rfl⟩:=yX I0.out.sm;have I:=hid (I0.out.grow bA);have HB:=hid bA;have HC:=hid (qY.start w c (.slice lp c.ls.length lc) (.slice mp c.ms.length mc));clear I0 bA;obtain ⟨cn,ls,ct,ms,cap⟩:=c;dsimp only at *;go_enter Tryz.func33,Tryz.ntmps33
      go_wp2_with fail
      refine (H0.out _).mono ?_;rintro e w0 ⟨rfl,hx⟩;have hy:=hx.symm;clear hx;subst hy;clear H0
      go_wp2_with fail
      refine (H1.out _ I.out).mono ?_;rintro e w1 ⟨rfl,hb⟩;have I2:=hid (I.out.grow hb);have HB2:=hid (HB.out.trans (hb.mono HB.out.size));have HC2:=hid (HC.out.below hb HC.out.lt);clear I HB HC H1 hb;have I:=I2;have HB:=HB2;have HC:=HC2;clear I2 HB2 HC2;obtain ⟨c0,c1,c2,c3,c4⟩:=HC.out
      go_wp2_with fail
      refine (H2.out _).mono ?_;rintro e w0 ⟨rfl,hx⟩;have hy:=hx.symm;clear hx;subst hy;clear H2
      go_wp2_with fail
      refine (H3.out _).mono ?_;rintro e w0 ⟨rfl,hx⟩;have hy:=hx.symm;clear hx;subst hy;clear H3
      go_wp2_with fail
      refine (H4.out _ I.out).mono ?_;rintro e w4 ⟨rfl,hb⟩;have I2:=hid (I.out.grow hb);have HB2:=hid (HB.out.trans (hb.mono HB.out.size));have HC2:=hid (HC.out.below hb HC.out.lt);clear I HB HC H4 hb;have I:=I2;have HB:=HB2;have HC:=HC2;clear I2 HB2 HC2;go_wp2;go_ret
      exact ⟨by rw [HR.out];rfl,HB.out⟩
     | true =>
      cases b5:inR c.cap 0 1048576 with
      | false =>
       have K0:=fun W=>xI c.n 1 8 W;simp only [b0] at K0;have K1:=fun W (I:CfI W c lv mv)=>jZ c lv mv n hn h8 W I;simp only [b1] at K1;have K2:=fun W=>xI c.t 1 8 W;simp only [b2] at K2;have K3:=fun W=>xI (c.ms.length:Int) 1 3 W;simp only [b3] at K3;have K4:=fun W (I:CfI W c lv mv)=>vH mv c.ms W I.bm I.sm I.lm;simp only [b4] at K4;have K5:=fun W=>xI c.cap 0 1048576 W;simp only [b5] at K5;have HR:=hid (show mayC c=false by unfold mayC;rw [b0,b1,b2,b3,b4,b5];rfl);clear b0 b1 b2 b3 b4 b5 hn h8;have H0:=hid K0;have H1:=hid K1;have H2:=hid K2;have H3:=hid K3;have H4:=hid K4;have H5:=hid K5;clear K0 K1 K2 K3 K4 K5;obtain ⟨lp,lc,rfl⟩:=yX I0.out.sl;obtain ⟨mp,mc,rfl⟩:=yX I0.out.sm;have I:=hid (I0.out.grow bA);have HB:=hid bA;have HC:=hid (qY.start w c (.slice lp c.ls.length lc) (.slice mp c.ms.length mc));clear I0 bA;obtain ⟨cn,ls,ct,ms,cap⟩:=c;dsimp only at *;go_enter Tryz.func33,Tryz.ntmps33
       go_wp2_with fail
       refine (H0.out _).mono ?_;rintro e w0 ⟨rfl,hx⟩;have hy:=hx.symm;clear hx;subst hy;clear H0
       go_wp2_with fail
       refine (H1.out _ I.out).mono ?_;rintro e w1 ⟨rfl,hb⟩;have I2:=hid (I.out.grow hb);have HB2:=hid (HB.out.trans (hb.mono HB.out.size));have HC2:=hid (HC.out.below hb HC.out.lt);clear I HB HC H1 hb;have I:=I2;have HB:=HB2;have HC:=HC2;clear I2 HB2 HC2;obtain ⟨c0,c1,c2,c3,c4⟩:=HC.out
       go_wp2_with fail
       refine (H2.out _).mono ?_;rintro e w0 ⟨rfl,hx⟩;have hy:=hx.symm;clear hx;subst hy;clear H2
       go_wp2_with fail
       refine (H3.out _).mono ?_;rintro e w0 ⟨rfl,hx⟩;have hy:=hx.symm;clear hx;subst hy;clear H3
       go_wp2_with fail
       refine (H4.out _ I.out).mono ?_;rintro e w4 ⟨rfl,hb⟩;have I2:=hid (I.out.grow hb);have HB2:=hid (HB.out.trans (hb.mono HB.out.size));have HC2:=hid (HC.out.below hb HC.out.lt);clear I HB HC H4 hb;have I:=I2;have HB:=HB2;have HC:=HC2;clear I2 HB2 HC2;obtain ⟨c0,c1,c2,c3,c4⟩:=HC.out
       go_wp2_with fail
       refine (H5.out _).mono ?_;rintro e w0 ⟨rfl,hx⟩;have hy:=hx.symm;clear hx;subst hy;clear H5;go_wp2;go_ret
       exact ⟨by rw [HR.out];rfl,HB.out⟩
      | true =>
       have K0:=fun W=>xI c.n 1 8 W;simp only [b0] at K0;have K1:=fun W (I:CfI W c lv mv)=>jZ c lv mv n hn h8 W I;simp only [b1] at K1;have K2:=fun W=>xI c.t 1 8 W;simp only [b2] at K2;have K3:=fun W=>xI (c.ms.length:Int) 1 3 W;simp only [b3] at K3;have K4:=fun W (I:CfI W c lv mv)=>vH mv c.ms W I.bm I.sm I.lm;simp only [b4] at K4;have K5:=fun W=>xI c.cap 0 1048576 W;simp only [b5] at K5;have HR:=hid (show mayC c=true by unfold mayC;rw [b0,b1,b2,b3,b4,b5];rfl);clear b0 b1 b2 b3 b4 b5 hn h8;have H0:=hid K0;have H1:=hid K1;have H2:=hid K2;have H3:=hid K3;have H4:=hid K4;have H5:=hid K5;clear K0 K1 K2 K3 K4 K5;obtain ⟨lp,lc,rfl⟩:=yX I0.out.sl;obtain ⟨mp,mc,rfl⟩:=yX I0.out.sm;have I:=hid (I0.out.grow bA);have HB:=hid bA;have HC:=hid (qY.start w c (.slice lp c.ls.length lc) (.slice mp c.ms.length mc));clear I0 bA;obtain ⟨cn,ls,ct,ms,cap⟩:=c;dsimp only at *;go_enter Tryz.func33,Tryz.ntmps33
       go_wp2_with fail
       refine (H0.out _).mono ?_;rintro e w0 ⟨rfl,hx⟩;have hy:=hx.symm;clear hx;subst hy;clear H0
       go_wp2_with fail
       refine (H1.out _ I.out).mono ?_;rintro e w1 ⟨rfl,hb⟩;have I2:=hid (I.out.grow hb);have HB2:=hid (HB.out.trans (hb.mono HB.out.size));have HC2:=hid (HC.out.below hb HC.out.lt);clear I HB HC H1 hb;have I:=I2;have HB:=HB2;have HC:=HC2;clear I2 HB2 HC2;obtain ⟨c0,c1,c2,c3,c4⟩:=HC.out
       go_wp2_with fail
       refine (H2.out _).mono ?_;rintro e w0 ⟨rfl,hx⟩;have hy:=hx.symm;clear hx;subst hy;clear H2
       go_wp2_with fail
       refine (H3.out _).mono ?_;rintro e w0 ⟨rfl,hx⟩;have hy:=hx.symm;clear hx;subst hy;clear H3
       go_wp2_with fail
       refine (H4.out _ I.out).mono ?_;rintro e w4 ⟨rfl,hb⟩;have I2:=hid (I.out.grow hb);have HB2:=hid (HB.out.trans (hb.mono HB.out.size));have HC2:=hid (HC.out.below hb HC.out.lt);clear I HB HC H4 hb;have I:=I2;have HB:=HB2;have HC:=HC2;clear I2 HB2 HC2;obtain ⟨c0,c1,c2,c3,c4⟩:=HC.out
       go_wp2_with fail
       refine (H5.out _).mono ?_;rintro e w0 ⟨rfl,hx⟩;have hy:=hx.symm;clear hx;subst hy;clear H5;go_wp2;go_ret
       exact ⟨by rw [HR.out];rfl,HB.out⟩
namespace Plain
end Plain
theorem zD3 {w:World} {p:Option Addr} {c:Nat} {l:List Int} (h:Seg w (.slice p l.length c) l) (h0:0<l.length):∃ b off,p=some ⟨b,off,none⟩/\∀ j,j<l.length->w.cell? ⟨b,off+j,none⟩=some (.int .i64 (l.getD j 0)):=by
 rcases h with ⟨rfl,_⟩|⟨b,o,c,e,g⟩
 ·simp at h0
 ·injection e with e1 e2 e3
  exact ⟨b,o,e1,g⟩
theorem zN5 {k1 k2:IntKind} {a b c d:Int} (h:a=c) (h':b=d):Ending.returned (.tuple #[.int k1 a,.int k2 b])=.returned (.tuple #[.int k1 c,.int k2 d]):=by rw [h,h']
theorem zN6 (p:Option Addr) (cap:Nat) (w:World) :
  Calls Tryz.prog 149 #[.slice p 0 cap] w fun e w'=>e=.returned (.tuple #[.int .i64 (szN []:Nat),.int .i64 (szE []:Nat)])/\w'=w:=by
 go_enter Tryz.func149,Tryz.ntmps149
 go_wp2;refine wp_loop_rounds 1 ?_;rw [rounds_succ];go_wp2;go_ret2
 exact ⟨rfl,rfl⟩
theorem yS0 (a:Addr) (n cap:Nat) (ws:List Int) (hn:ws.length=n) (hl:40<n) (hm:n<=9223372036854775807) (w:World) :
  Calls Tryz.prog 149 #[.slice (some a) n cap] w fun e w'=>e=.returned (.tuple #[.int .i64 (szN ws:Nat),.int .i64 (szE ws:Nat)])/\w'=w:=by
 have H:=hid (yM4 ws (by omega));clear hn;have hl':(40:Int)<(n:Int):=by omega
 go_enter Tryz.func149,Tryz.ntmps149
 go_wp2;go_ret2
 exact ⟨zN5 (by rw [H.out.2];rfl) (by rw [H.out.1];rfl),rfl⟩
theorem yK5 (b off cap:Nat) (ws:List Int) (hl:ws.length<=40) (w:World)
  (h:∀ j,j<ws.length->w.cell? ⟨b,off+j,none⟩=some (.int .i64 (ws.getD j 0))) :
  Calls Tryz.prog 149 #[.slice (some ⟨b,off,none⟩) ws.length cap] w fun e w'=>e=.returned (.tuple #[.int .i64 (szN ws:Nat),.int .i64 (szE ws:Nat)])/\w'=w:=by
 have H:=hid h;clear h;go_enter Tryz.func149,Tryz.ntmps149
 go_wp2
 go_loop [4,12] (fun s i=>∃ k:Nat,k<=ws.length/\i=.int .i64 k/\s=.int .i64 (yU (ws.take k):Nat)/\(ws.take k).all Plain.okW=true) (fun _ i=>ws.length-(intOf i).toNat)
 case atStart=>exact ⟨0,zG _,rfl,rfl,rfl⟩
 case round =>
  obtain ⟨k,hk,rfl,rfl,hall⟩:=hrel;have HA:=hid hall;have hB:=yC5 _ hall;rw [zU] at hB;have hB':yU (ws.take k)<=2400:=by omega
  clear hall hB;by_cases hlt:k<ws.length
  ·have g:=H.out k hlt
   have hlt':(k:Int)<(ws.length:Int):=by omega
   have hs:=jG ws k hlt;obtain ⟨x,hx⟩:∃ x,x=ws.getD k 0:=⟨_,rfl⟩;rw [<- hx] at g hs;have HX:=hid hx;have HS:=hid hs;clear hx hs;generalize hn:yU (ws.take k)=m at hB';have HN:=hid hn;clear hn;by_cases c:1<=x/\x<=60
   ·obtain ⟨c1,c2⟩:=c
    go_wp2
    go_round
    case rel=>exact ⟨k+1,by omega,by go_num,by rw [HS.out,HN.out];have:((x.toNat:Nat):Int)=x:=Int.toNat_of_nonneg (by omega);go_num,vZ _ ws 0 k hlt HA.out (by rw [<- HX.out];exact (vO x).2 ⟨c1,c2⟩)⟩
    case measure=>simp [intOf];omega
   ·have HF:=hid (xZ7 ws hl (zR9 Plain.okW ws 0 k hlt (by rw [<- HX.out];exact (xZ6 x).2 c)))
    by_cases c1:x<1
    ·clear c
     go_wp2;go_ret2
     exact ⟨zN5 (by rw [HF.out.2];rfl) (by rw [HF.out.1];rfl),rfl⟩
    ·have c2:60<x:=by omega
     have c1':1<=x:=by omega
     clear c c1;go_wp2;go_ret2
     exact ⟨zN5 (by rw [HF.out.2];rfl) (by rw [HF.out.1];rfl),rfl⟩
  ·have ek:k=ws.length:=by omega
   subst ek;have HF:=hid (zS0 ws hl (by have:=HA.out;rwa [List.take_length] at this));rw [List.take_length] at hB' ⊢;generalize hn:yU ws=m at hB';have HN:=hid hn;clear hn;go_wp2;go_ret2
   exact ⟨zN5 (by rw [HF.out.2,HN.out];omega) (by rw [HF.out.1];rfl),rfl⟩
theorem vI (v:Value) (ws:List Int) (hm:ws.length<=9223372036854775807) (w:World) (h:Seg w v ws) :
  Calls Tryz.prog 149 #[v] w fun e w'=>e=.returned (.tuple #[.int .i64 (szN ws:Nat),.int .i64 (szE ws:Nat)])/\w'=w:=by
 rcases h with ⟨rfl,p,c,rfl⟩|⟨b,o,c,rfl,g⟩
 ·exact zN6 p c w
 ·by_cases hl:40<ws.length
  ·exact yS0 _ _ c ws rfl hl hm w
  ·exact yK5 b o c ws (by omega) w g
namespace Plain
theorem toNat_ofInt (a:Nat) (h:a<9223372036854775808):(BitVec.ofInt 64 (a:Int)).toNat=a:=by
 rw [BitVec.ofInt_natCast,BitVec.toNat_ofNat];exact Nat.mod_eq_of_lt (by omega)
theorem kF (a:Nat) (h:a<9223372036854775808):IntKind.i64.wrap (a:Int)=(a:Int):=by
 simp only [IntKind.wrap,IntKind.bits,IntKind.signed];simp;omega
theorem yS1 (a b:Nat) (ha:a<9223372036854775808) (hb:b<9223372036854775808) :
  bits .and .i64 (a:Int) (b:Int)=((a &&& b:Nat):Int):=by
 have hx:a &&& b<2^63:=Nat.and_lt_two_pow _ (by omega);show IntKind.i64.wrap ((BitVec.ofInt 64 (a:Int) &&& BitVec.ofInt 64 (b:Int)).toNat:Int)=_;rw [BitVec.toNat_and,toNat_ofInt a ha,toNat_ofInt b hb,kF _ (by omega)]
theorem zJ2 (a b:Nat) (ha:a<9223372036854775808) (hb:b<9223372036854775808) :
  bits .or .i64 (a:Int) (b:Int)=((a ||| b:Nat):Int):=by
 have hx:a ||| b<2^63:=Nat.or_lt_two_pow (by omega) (by omega);show IntKind.i64.wrap ((BitVec.ofInt 64 (a:Int) ||| BitVec.ofInt 64 (b:Int)).toNat:Int)=_;rw [BitVec.toNat_or,toNat_ofInt a ha,toNat_ofInt b hb,kF _ (by omega)]
theorem xT5 (v m:Nat) (h:v<9223372036854775808):(bits .and .i64 ((v:Int)/2^m) 1 != 0)=(v/2^m%2==1):=by
 have hd:v/2^m<=v:=Nat.div_le_self _ _;have e:((v:Int)/2^m)=((v/2^m:Nat):Int):=by simp
 have e2:bits .and .i64 ((v/2^m:Nat):Int) 1=((v/2^m%2:Nat):Int):=by
  have:=yS1 (v/2^m) 1 (by omega) (by omega);rw [Nat.and_one_is_mod] at this;exact this
 rw [e,e2,yM,bne_iff_ne,beq_iff_eq];omega
theorem qD9 (v:Nat) (h:v<4611686018427387904):bits .or .i64 ((2*v:Nat):Int) 1=((2*v+1:Nat):Int):=by
 have:=zJ2 (2*v) 1 (by omega) (by omega);have e:2*v ||| 1=2*v+1:=by
  have:=Nat.shiftLeft_add_eq_or_of_lt (b:=1) (i:=1) (by decide) v;rw [Nat.shiftLeft_eq,show v*2^1=2*v by omega] at this;exact this.symm
 rw [e] at this;exact this
theorem or8:∀ x:Fin 256,∀ r:Fin 8,x.val%2^(8-r.val)=0->bits .or .u8 (x.val:Int) ((2^(7-r.val):Nat):Int)=((x.val+2^(7-r.val):Nat):Int):=by decide +kernel
theorem and8:∀ x:Fin 256,∀ r:Fin 8,(bits .and .u8 (x.val:Int) ((2^(7-r.val):Nat):Int) != 0)=(x.val/2^(7-r.val)%2==1):=by decide +kernel
theorem xT6 (x p:Nat) (hx:x<256) (h:x%2^(8-p%8)=0):bits .or .u8 (x:Int) ((2^(7-p%8):Nat):Int)=((x+2^(7-p%8):Nat):Int) :=
 or8 ⟨x,hx⟩ ⟨p%8,by omega⟩ h
theorem xG1 (x p:Nat) (hx:x<256):(bits .and .u8 (x:Int) ((2^(7-p%8):Nat):Int) != 0)=(x/2^(7-p%8)%2==1) :=
 and8 ⟨x,hx⟩ ⟨p%8,by omega⟩
end Plain
theorem yA0 {a b c:World} {row:Option Nat} (h:a.grownBy b row) (k:b.grownBy c row):a.grownBy c row :=
 ⟨k.os.trans h.os,k.tape.trans h.tape,k.output.trans h.output,zI h.size k.size,fun i hi hr=>(k.block i (zF hi h.size) hr).trans (h.block i hi hr)⟩
theorem zN7 (w:World) (a:Addr) (u:Value) (b:Nat) (h:a.block=b):w.grownBy (w.setCell a u) (some b):=by
 subst h;exact ⟨rfl,rfl,rfl,by simp [World.setCell],fun i _ hr=>RowKit.Below.heap_setCell w a u i (fun e=>hr (by rw [e]))⟩
theorem yA1 (w:World) (o:Obj) (row:Option Nat):w.grownBy (w.alloc o) row:=World.grownBy_alloc w o row
theorem zN8 {a b:Bool} (h:a=b):Ending.returned (.bool a)=.returned (.bool b):=by rw [h]
namespace Plain
theorem mask8 (p:Nat):(128:Int)/2^(p%8)=((2^(7-p%8):Nat):Int):=by
 have:p%8=0\/p%8=1\/p%8=2\/p%8=3\/p%8=4\/p%8=5\/p%8=6\/p%8=7:=by omega
 rcases this with h|h|h|h|h|h|h|h<;>rw [h]<;>rfl
theorem yK6 (n:Nat) (h:n<=60):wrap64 (2^n)=2^n:=by
 have hp:=xP3 n h;have e:((2:Int)^n)=((2^n:Nat):Int):=by simp
 rw [e];generalize (2^n:Nat)=x at hp;unfold wrap64;omega
end Plain
theorem zN9 (p:Nat) (hp:p<=1000000) (w:World) :
  Calls Tryz.prog 164 #[.int .i64 p] w fun e w'=>e=.returned (.int .u8 (2^(7-p%8):Nat))/\w'=w:=by
 have h8:(p:Int)%8<8:=by omega
 have h0:0<=(p:Int)%8:=by omega
 go_enter Tryz.func164,Tryz.ntmps164
 go_wp2;go_ret
 exact ⟨kD (mask8 p),rfl⟩
theorem xG2 (p:Int) (h0:0<=p) (hp:p<=1000000) (w:World) :
  Calls Tryz.prog 164 #[.int .i64 p] w fun e w'=>e=.returned (.int .u8 (2^(7-p.toNat%8):Nat))/\w'=w:=by
 obtain ⟨n,rfl⟩:=zW h0;rw [zK];exact zN9 n (by omega) w
theorem xG3 (wd:Nat) (v:Int) (h:v<0) (w:World) :
  Calls Tryz.prog 160 #[.agg #[.int .i64 wd,.int .i64 v]] w fun e w'=>e=.returned (.bool false)/\Below w.heap.size w w':=by
 have hd:decide (0<=v)=false:=by simpa using h
 go_enter Tryz.func160,Tryz.ntmps160
 go_wp2
 go_quiet (fail)
 go_wp2;go_ret
 exact ⟨rfl,below_drewN (yO.alloc yN _) _⟩
theorem xG4 (wd v:Nat) (hw:wd<=60) (w:World) :
  Calls Tryz.prog 160 #[.agg #[.int .i64 wd,.int .i64 v]] w fun e w'=>e=.returned (.bool (decide (v<2^wd)))/\Below w.heap.size w w':=by
 have hd:(0:Int)<=(v:Int):=by omega
 go_enter Tryz.func160,Tryz.ntmps160
 go_wp2
 go_quiet (fail)
 go_wp2;go_ret
 refine ⟨zN8 ?_,below_drewN (yO.alloc yN _) _⟩;rw [yK6 wd hw,decide_eq_decide];have e:((2:Int)^wd)=((2^wd:Nat):Int):=by simp
 rw [e];omega
theorem yF1 (wd:Nat) (v:Int) (hw:wd<=60) (w:World) :
  Calls Tryz.prog 160 #[.agg #[.int .i64 wd,.int .i64 v]] w fun e w'=>e=.returned (.bool (fitB ((wd:Int),v)))/\Below w.heap.size w w':=by
 have e1:((2:Int)^wd)=((2^wd:Nat):Int):=by simp
 by_cases h:v<0
 ·refine (xG3 wd v h w).mono ?_
  rintro e w' ⟨rfl,hb⟩;refine ⟨zN8 ?_,hb⟩;unfold fitB;simp;omega
 ·obtain ⟨n,rfl⟩:=zW (show 0<=v by omega)
  refine (xG4 wd n hw w).mono ?_;rintro e w' ⟨rfl,hb⟩;refine ⟨zN8 ?_,hb⟩;unfold fitB;simp only [Int.toNat_natCast,e1];rw [yM];simp;omega
theorem zV1 {w:World} {bb n wd v:Nat} {bs:List Nat} {o:Obj} (hrow:w.rowIs bb 5 n (fun j=>.int .u8 (Plain.byteOf (at0 bs) j:Nat))) :
  (w.alloc o).rowIs bb 5 n (fun j=>.int .u8 (Plain.byteOf (at0 (bs++(fbits wd v).take 0)) j:Nat))/\w.grownBy (w.alloc o) (some bb) :=
 ⟨by rw [List.take_zero,List.append_nil];exact hrow.alloc o,yA1 w o _⟩
theorem xG5 {w:World} {bb n wd v k:Nat} {bs:List Nat} (hk:k<wd) (hb:(v/2^(wd-1-k)%2==1)=false)
  (hrow:w.rowIs bb 5 n (fun j=>.int .u8 (Plain.byteOf (at0 (bs++(fbits wd v).take k)) j:Nat))) :
  w.rowIs bb 5 n (fun j=>.int .u8 (Plain.byteOf (at0 (bs++(fbits wd v).take (k+1))) j:Nat)):=by
 have h0:v/2^(wd-1-k)%2=0:=by
  have:=beq_eq_false_iff_ne.1 hb;omega
 rw [zI7 wd v k hk,h0,<- yG,yM2];exact hrow
theorem yF2 {wr:World} {bb m B o:Nat} {u x:Value} (hne:bb<B) (h:wr.cell? ⟨B,o,none⟩=some x):((wr.setCell ⟨bb,m,none⟩ u).drew).cell? ⟨B,o,none⟩=some x :=
 (World.cell?_of_block (w:=wr) (RowKit.Below.heap_setCell wr ⟨bb,m,none⟩ u B (by show B≠bb;omega))).trans h
theorem yS2 (wr:World) (bb m:Nat) (u:Value):wr.grownBy ((wr.setCell ⟨bb,m,none⟩ u).drew) (some bb) :=
 let h:=zN7 wr ⟨bb,m,none⟩ u bb rfl
 ⟨h.os,h.tape,h.output,h.size,h.block⟩
theorem xT7 {w:World} {bb n wd v k at_ m:Nat} {bs:List Nat} (hbs:bs.length=at_) (hk:k<wd) (hb:(v/2^(wd-1-k)%2==1)=true) (hm:m=(at_+k)/8) (u:Int)
  (hu:u=((Plain.byteOf (at0 (bs++(fbits wd v).take k)) ((at_+k)/8)+2^(7-(at_+k)%8):Nat):Int))
  (hrow:w.rowIs bb 5 n (fun j=>.int .u8 (Plain.byteOf (at0 (bs++(fbits wd v).take k)) j:Nat))) :
  ((w.setCell ⟨bb,m,none⟩ (.int .u8 u)).drew).rowIs bb 5 n (fun j=>.int .u8 (Plain.byteOf (at0 (bs++(fbits wd v).take (k+1))) j:Nat)):=by
 subst hm;have h1:v/2^(wd-1-k)%2=1:=beq_iff_eq.1 hb;refine ((hrow.set ((at_+k)/8) (.int .u8 u)).drew).congr fun j _=>?_;have hl:(bs++(fbits wd v).take k).length=at_+k:=by
  rw [zD,zU,jK,hbs];omega
 have e:=zR8 (bs++(fbits wd v).take k) j;rw [hl,yG] at e;rw [zI7 wd v k hk,h1,e];by_cases c:j=(at_+k)/8
 ·rw [if_pos c,if_pos c,hu,c]
 ·rw [if_neg c,if_neg c]
theorem xT8 {y x at_ k:Nat} {r:Int} (hx:y=x) (ho:bits .or .u8 (y:Nat) (2^(7-(at_+k)%8):Nat)=r):bits .or .u8 (x:Int) (2^(7-((at_:Int)+(k:Int)).toNat%8))=r:=by
 subst hx;rw [<- ho,show ((at_:Int)+(k:Int)).toNat=at_+k by omega];congr 1
theorem qE0 {wd v k at_:Nat} {bs:List Nat} (hbs:bs.length=at_) (hk:k<wd) (hlt:∀ x∈bs,x<2) :
  bits .or .u8 (Plain.byteOf (at0 (bs++(fbits wd v).take k)) ((at_+k)/8):Nat) (2^(7-(at_+k)%8):Nat) =
   ((Plain.byteOf (at0 (bs++(fbits wd v).take k)) ((at_+k)/8)+2^(7-(at_+k)%8):Nat):Int):=by
 have hl:(bs++(fbits wd v).take k).length=at_+k:=by
  rw [zD,zU,jK,hbs];omega
 have hb:∀ x∈bs++(fbits wd v).take k,x<2:=by
  intro x hx;rcases yL.1 hx with h|h
  ·exact hlt x h
  ·exact yC4 wd v x (List.mem_of_mem_take h)
 have h1:=zE9 _ (zR4 _ hb) ((at_+k)/8);have h2:=yH3 (bs++(fbits wd v).take k);rw [hl] at h2;exact xT6 _ _ h1 h2
theorem xT9 (bb n c at_ wd v:Nat) (bs:List Nat) (hbs:bs.length=at_) (hlt:∀ x∈bs,x<2) (hfit:at_+wd<=8*n) (hn:n<=1000) (hw:wd<=60) (hv:v<=1152921504606846976) (w:World)
  (hrow:w.rowIs bb 5 n (fun j=>.int .u8 (Plain.byteOf (at0 bs) j:Nat))) :
  Calls Tryz.prog 161 #[.slice (some ⟨bb,0,none⟩) n c,.int .i64 at_,.agg #[.int .i64 wd,.int .i64 v]] w fun e w'=>e=.returned (.tuple #[]) /\
   w'.rowIs bb 5 n (fun j=>.int .u8 (Plain.byteOf (at0 (bs++fbits wd v)) j:Nat))/\w.grownBy w' (some bb):=by
 have HR:=hid hrow;have HB:=hid hbs;have HL:=hid hlt;have hne:=hrow.lt;clear hrow hbs hlt;go_enter Tryz.func161,Tryz.ntmps161
 go_wp2
 go_loopw [9] (fun i wr=>∃ k:Nat,k<=wd/\i=.int .i64 k/\wr.rowIs bb 5 n (fun j=>.int .u8 (Plain.byteOf (at0 (bs++(fbits wd v).take k)) j:Nat)) /\
   wr.cell? ⟨w.heap.size,0,none⟩=some (.int .i64 wd)/\wr.cell? ⟨w.heap.size,1,none⟩=some (.int .i64 v)/\w.grownBy wr (some bb)) (fun i _=>wd-(intOf i).toNat)
 case atStart =>
  refine ⟨0,zG _,rfl,(zV1 HR.out).1,?_,?_,(zV1 (n:=n) (wd:=wd) (v:=v) HR.out).2⟩<;>simp
 case round =>
  obtain ⟨k,hk,rfl,hrow,hc0,hc1,hg⟩:=hrel;have HG:=hid hg;clear hg;by_cases hlt:k<wd
  ·have hbit:=xT5 v (wd-1-k) (by omega)
   cases eb:(v/2^(wd-1-k)%2==1)
   ·rw [eb] at hbit
    have EB:=hid eb;have HR:=hid hrow;clear eb hrow;go_wp2
    go_roundw
    case rel=>exact ⟨k+1,by omega,by go_num,xG5 hlt EB.out HR.out,hc0,hc1,HG.out⟩
    case measure=>simp [intOf];omega
   ·rw [eb] at hbit
    have EB:=hid eb;have hidx:(at_+k)/8<n:=by omega
    have hcell:=hrow.cell hidx;have hfro:=hrow.frozen ((at_+k)/8);have HR:=hid hrow;have HO:=hid (qE0 (v:=v) HB.out hlt HL.out);clear eb hrow;generalize hx:Plain.byteOf (at0 (bs++(fbits wd v).take k)) ((at_+k)/8)=x at hcell;have HX:=hid hx;clear hx;obtain ⟨m,hm⟩:∃ m,m=(at_+k)/8:=⟨_,rfl⟩;rw [<- hm] at hcell hfro hidx;have htd:((at_:Int)+(k:Int)).tdiv 8=(m:Int):=by rw [Int.tdiv_eq_ediv_of_nonneg (by omega)];omega
    have hdv:((at_:Int)+(k:Int))/8=(m:Int):=by omega
    have hws:IntKind.i64.wrap ((at_:Int)+(k:Int))=(at_:Int)+(k:Int):=by have:=kF (at_+k) (by omega);rwa [Int.natCast_add] at this
    have hwm:IntKind.i64.wrap (m:Int)=(m:Int):=kF m (by omega);have hi1:(m:Int)<(n:Int):=by omega
    have HM:=hid hm;clear hm;go_wp2
    go_region_with (go_at_call 164;refine (xG2 _ (by omega) (by omega) _).mono ?_;rintro e w' ⟨rfl,rfl⟩)
    all_goals
     go_wp2
     go_roundw
     case rel=>exact ⟨k+1,by omega,by go_num,xT7 HB.out hlt EB.out HM.out _ (xT8 HX.out HO.out) HR.out,yF2 hne hc0,yF2 hne hc1,yA0 HG.out (yS2 _ _ _ _)⟩
     case measure=>simp [intOf];omega
  ·have ek:k=wd:=by omega
   subst ek;have HR:=hid hrow;clear hrow;go_wp2;refine bodyPost_end (results_none rfl _ _ _) rfl ?_;exact ⟨rfl,by have:=HR.out;rwa [yB (by rw [jK];exact yN)] at this,HG.out⟩
theorem Tryz.infoByte:(Tryz.prog.info? 5).map (fun i=>(i.zero,i.size,i.bytes))=some (some (.int .u8 0),1,1):=by kernel_rfl
theorem yA2 {wr w:World} {k n:Nat} {l:List (Int × Int)} {x:Int} {o:Obj} (hx:(l.getD k (0,0)).1=x)
  (hrow:wr.rowIs w.heap.size 3 n (fun j=>if j<k then .int .i64 (l.getD j (0,0)).1 else .int .i64 0)) (hbel:Below w.heap.size w wr) :
  ((
   wr.setCell ⟨w.heap.size,k,none⟩ (.int .i64 x)).alloc o).rowIs w.heap.size 3 n (fun j=>if j<k+1 then .int .i64 (l.getD j (0,0)).1 else .int .i64 0) /\
   Below w.heap.size w ((wr.setCell ⟨w.heap.size,k,none⟩ (.int .i64 x)).alloc o):=by
 refine ⟨((hrow.set k (.int .i64 x)).alloc o).congr fun j _=>?_,(hbel.setCell (p:=⟨w.heap.size,k,none⟩) yN _).alloc ?_ o⟩
 ·by_cases c:j=k
  ·subst c;rw [if_pos rfl,if_pos (by omega),hx]
  ·rw [if_neg c]
   by_cases d:j<k
   ·rw [if_pos d,if_pos (by omega)]
   ·rw [if_neg d,if_neg (by omega)]
 ·exact ((hbel.setCell (p:=⟨w.heap.size,k,none⟩) yN _)).size
theorem zK7 (p:Option Addr) (cap:Nat) (w:World) :
  Calls Tryz.prog 159 #[.slice p 0 cap] w fun e w'=>e=.returned (.slice (some ⟨w.heap.size,0,none⟩) 0 0)/\Below w.heap.size w w':=by
 have hmk:∀ w:World,(Instr.makeSlice 22 (.int .i64 0) (.int .i64 0)).run Tryz.prog w=.ok (.slice (some ⟨w.heap.size,0,none⟩) 0 0) (w.alloc (.cells (madeCells #[.int .i64 0] 0) 3)) :=
  run_make_row' (P:=Tryz.prog) 22 3 (.int .i64 0) 8 Tryz.underlying22 Tryz.infoInt rfl .i64 .i64 0 (by omega) (by omega)
 go_enter Tryz.func159,Tryz.ntmps159
 go_wp2;refine wp_loop_rounds 1 ?_;rw [rounds_succ];go_wp2;go_ret
 exact ⟨rfl,yO.alloc yN _⟩
theorem yA3 (b off cap:Nat) (l:List (Int × Int)) (hm:l.length*16<=140737488351232) (w:World)
  (h:∀ j,j<l.length->w.cell? ⟨b,off+j*2,none⟩=some (.int .i64 (l.getD j (0,0)).1)/\w.cell? ⟨b,off+j*2+1,none⟩=some (.int .i64 (l.getD j (0,0)).2))
  (hb:0<l.length->b<w.heap.size) :
  Calls Tryz.prog 159 #[.slice (some ⟨b,off,none⟩) l.length cap] w fun e w'=>e=.returned (.slice (some ⟨w.heap.size,0,none⟩) l.length l.length) /\
   w'.rowIs w.heap.size 3 l.length (fun j=>.int .i64 (l.getD j (0,0)).1)/\Below w.heap.size w w':=by
 have H:=hid h;clear h;have hmk:=run_make_row' (P:=Tryz.prog) 22 3 (.int .i64 0) 8 Tryz.underlying22 Tryz.infoInt rfl .i64 .i64 l.length (by omega) (by omega);go_enter Tryz.func159,Tryz.ntmps159
 go_wp2;clear hmk
 go_loopw [11] (fun i wr=>∃ k:Nat,k<=l.length/\i=.int .i64 k/\wr.rowIs w.heap.size 3 l.length (fun j=>if j<k then .int .i64 (l.getD j (0,0)).1 else .int .i64 0)/\Below w.heap.size w wr) (fun i _=>l.length-(intOf i).toNat)
 case atStart=>exact ⟨0,zG _,rfl,World.rowIs_made w (.int .i64 0) l.length 3,yO.alloc yN _⟩
 case round =>
  obtain ⟨k,hk,rfl,hrow,hbel⟩:=hrel;by_cases hlt:k<l.length
  ·have g:=H.out k hlt
   rw [<- hbel.cell (p:=⟨b,off+k*2,none⟩) (hb (by omega)),<- hbel.cell (p:=⟨b,off+k*2+1,none⟩) (hb (by omega))] at g;have g0:=g.1;have g1:=g.2;clear g;have hlt':(k:Int)<(l.length:Int):=by omega
   have hsz:=hrow.lt;have hfz:=hrow.frozen k;have hcl:=hrow.cell hlt;have HR:=hid hrow;have HB:=hid hbel;clear hrow hbel;generalize hx:(l.getD k (0,0)).1=x at g0;generalize hy:(l.getD k (0,0)).2=y at g1;have HX:=hid hx;clear hx hy;go_wp2;have R:=yA2 (o:=.cells #[.int .i64 x,.int .i64 y] 218) HX.out HR.out HB.out
   go_roundw
   case rel=>exact ⟨k+1,by omega,by go_num,R.1,R.2⟩
   case measure=>simp [intOf];omega
  ·have ek:k=l.length:=by omega
   have HR:=hid hrow;have HB:=hid hbel;clear hrow hbel;go_wp2;go_ret
   exact ⟨rfl,HR.out.congr fun j hj=>by rw [if_pos (by omega)],HB.out⟩
theorem zK8 (v:Value) (l:List (Int × Int)) (hm:l.length*16<=140737488351232) (w:World) (h:SegF w v l) (hv:Lies w.heap.size v) :
  Calls Tryz.prog 159 #[v] w fun e w'=>∃ u,e=.returned u/\Seg w' u (l.map Prod.fst)/\Below w.heap.size w w':=by
 rcases h with ⟨rfl,p,c,rfl⟩|⟨b,o,c,rfl,g⟩
 ·refine (zK7 p c w).mono ?_
  rintro e w' ⟨rfl,hb⟩;exact ⟨_,rfl,.inl ⟨rfl,_,_,rfl⟩,hb⟩
 ·refine (yA3 b o c l hm w g (fun hp=>hv _ _ _ rfl hp)).mono ?_
  rintro e w' ⟨rfl,hr,hb⟩;refine ⟨_,rfl,.inr ⟨w.heap.size,0,l.length,by rw [zL],fun j hj=>?_⟩,hb⟩;rw [zL] at hj;rw [Nat.zero_add,hr.cell hj];simp [List.getD_eq_getElem?_getD,List.getElem?_eq_getElem hj]
def Cnt (n:Nat):Prop:=n=0\/n=1\/n=2\/n=3\/n=8\/n=16\/n=24\/n=32
theorem Cnt.le {n:Nat} (h:Cnt n):n<=32:=by unfold Cnt at h;omega
theorem zZ3 (n:Nat) (h8:Cnt n) (w:World):Calls Tryz.prog 158 #[.int .u64 1,.int .u64 (n:Int)] w fun e w'=>e=.returned (.tuple #[.int .u64 0,.int .u64 (n:Int)])/\w'=w:=by
 rcases h8 with rfl|rfl|rfl|rfl|rfl|rfl|rfl|rfl
 all_goals
  go_enter Tryz.func158,Tryz.ntmps158
  go_wp2;go_ret2
  exact ⟨rfl,rfl⟩
theorem xE6 (n:Nat) (h8:Cnt n) (w:World):Calls Tryz.prog 135 #[.int .u64 1,.int .u64 (n:Int)] w fun e w'=>e=.returned (.tuple #[.int .u64 0,.int .u64 (n:Int)])/\w'=w:=by
 have K:=zZ3 n h8 w;go_enter Tryz.func135,Tryz.ntmps135
 go_wp2_with fail
 refine K.mono ?_;rintro e wx ⟨rfl,hx⟩;have hy:=hx.symm;clear hx;subst hy;clear K;go_wp2;go_ret2
 exact ⟨rfl,rfl⟩
theorem yF3 (n:Nat) (x:Int) {i:Nat} (h:i<n):(List.replicate n x).getD i 0=x:=by simp [h]
theorem yS3 {P:Program} {w w':World} {o:Oper} {a:Act} {K:Act->World->Prop} {Q:Exit->Act->World->Prop} {v:Value} (hr:(execOp a.eval o).run P w=.ok (.value v) w') (h:K (a.put o.dst v) w'):o.wp P a w K Q:=by
 unfold Oper.wp;rw [hr];exact h
theorem yK7 {P:Program} {w w':World} {o:Oper} {e:Operand->Value} {d s:Operand} {t t':TypeId} {x y v:Value} (ho:o.op=.call { callee:=.builtin .copy,args:=#[d,s],argTypes:=#[t,t'] }) (hd:e d=x) (hs:e s=y)
  (hr:(Builtin.copy_ #[t,t'] o.type #[x,y]).run P w=.ok v w'):(execOp e o).run P w=.ok (.value v) w':=by
 simp [execOp,ho,resolve,invoke,builtin,hd,hs,hr]
theorem zK9 {P:Program} {ops:Array Oper} {o:Oper} {a:Act} {w:World} {K:Act->World->Prop} {Q:Exit->Act->World->Prop} {E:Prop} (hgd:o.guard=none) (d s:Operand) (t t':TypeId)
  (ho:o.op=.call { callee:=.builtin .copy,args:=#[d,s],argTypes:=#[t,t'] }) (x y:Value) (hd:a.eval d=x) (hs:a.eval s=y) {v:Value} {w':World}
  (hr:(Builtin.copy_ #[t,t'] o.type #[x,y]).run P w=.ok v w') (h:K (a.put o.dst v) w'):if Region.wanted o (yielded ops a.tmps)=true then o.wp P a w K Q else E:=by
 rw [if_pos (by simp [Region.wanted,hgd])];exact yS3 (yK7 ho hd hs hr) h
theorem below_setRow {B:Nat} {w W:World} {g:Nat} (h:Below B w W) (hg:B<=g) (row:Array Value):Below B w (W.setRow g row) :=
 ⟨h.os,h.tape,h.output,by show w.heap.size<=(W.heap.modify g _).size;rw [Array.size_modify];exact h.size,fun k hk=>by
  show (W.heap.modify g _)[k]?=_;rw [Array.getElem?_modify,if_neg (by omega)];exact h.block k hk⟩
def repF (x:Int) (m j:Nat):Value:=if j<m then .int .i64 x else .int .i64 0
theorem vG {W:World} {g n m b s sc:Nat} {x:Int} (h:W.rowIs g 3 n (repF x m)) (hm:m<=n) (hs:∀ j,j<s->W.cell? ⟨b,j,none⟩=some (.int .i64 x)) (k:Nat) (hk:k=min s (n-m)) :
  ∃ W',(∀ ty,(Builtin.copy_ #[22,22] ty #[.slice (some ⟨g,m,none⟩) (n-m) (n-m),.slice (some ⟨b,0,none⟩) s sc]).run Tryz.prog W=.ok (goInt (k:Nat)) W')/\W'.rowIs g 3 n (repF x (m+k))/\(∀ B,B<=g->Below B W W'):=by
 obtain ⟨cur,hb,hn,hc⟩:=h;have hlen:(List.replicate k (Value.int .i64 x)).length=k:=yA;refine ⟨W.setRow g (cur.toList.take m++List.replicate k (Value.int .i64 x)++cur.toList.drop (m+k)).toArray,fun ty=>?_,⟨_,setRow_heap W g cur _ 3 _ hb,?_,fun i hi=>?_⟩,fun B hB=>below_setRow yO hB _⟩
 ·have:=run_copy_row (P:=Tryz.prog) W 22 22 ty 3 g m (n-m) (n-m) ⟨b,0,none⟩ s sc cur 3 (List.replicate k (Value.int .i64 x)) Tryz.underlying22 (by kernel_rfl) hb
   (by rw [hlen,hk]) (fun j v hj=>by
    have hjk:j<k:=by
     rcases Nat.lt_or_ge j k with y|y
     ·exact y
     ·rw [zN (by rw [hlen];exact y)] at hj;cases hj
    rw [List.getElem?_replicate,if_pos hjk] at hj;rw [zS1,Nat.zero_add,hs j (by omega),hj]) (by rw [hlen,hn];omega) (fun v hv=>by rw [List.eq_of_mem_replicate hv];rfl)
  rw [hlen] at this;exact this
 ·simp only [List.size_toArray,List.length_append,List.length_take,List.length_drop,hlen,Array.length_toList,hn];omega
 ·have hm2:(cur.toList.take m).length=m:=by rw [zU,Array.length_toList];omega
  simp only [List.getElem?_toArray];unfold repF at hc ⊢;by_cases h1:i<m
  ·rw [yG,zX (by omega),List.getElem?_take,if_pos h1,Array.getElem?_toList,hc i hi,if_pos h1,if_pos (by omega)]
  ·by_cases h2:i<m+k
   ·rw [zX (by rw [zD,hm2,hlen];exact h2),zR (by omega),hm2,List.getElem?_replicate,if_pos (by omega),if_pos h2]
   ·rw [zR (by rw [zD,hm2,hlen];omega),zD,hm2,hlen,List.getElem?_drop,show m+k+(i-(m+k))=i by omega,Array.getElem?_toList,hc i hi,if_neg h1,if_neg h2]
theorem zN2 (bx n:Nat) (x:Int) (h1:1<=n) (h8:Cnt n) (w:World) (h:w.cell? ⟨bx,0,none⟩=some (.int .i64 x)) :
  Calls Tryz.prog 112 #[.slice (some ⟨bx,0,none⟩) 1 1,.int .i64 n] w fun e w' =>
   ∃ g,e=.returned (.slice (some ⟨g,0,none⟩) n n)/\RowI w' g (List.replicate n x)/\w.heap.size<=g/\Below w.heap.size w w':=by
 have hbx:=zC (w:=w) (h:=h);have h32:=h8.le;have hmk:=run_make_row' (P:=Tryz.prog) 22 3 (.int .i64 0) 8 Tryz.underlying22 Tryz.infoInt rfl .i64 .i64 n (by omega) (by omega);obtain ⟨W0,hW0⟩:∃ W0,W0=w.alloc (.cells (madeCells #[.int .i64 0] n) 3):=⟨_,rfl⟩;have r0:W0.rowIs w.heap.size 3 n (repF x 0):=by
  rw [hW0];exact (World.rowIs_made w (.int .i64 0) n 3).congr fun j _=>by unfold repF;rw [if_neg (by omega)]
 have b0:Below w.heap.size w W0:=by rw [hW0];exact yO.alloc yN _
 obtain ⟨W1,c1,r1,b1⟩:=vG (s:=1) (sc:=1) (b:=bx) r0 (by omega) (fun j hj=>by
  have:j=0:=by omega
  subst this;exact (b0.cell (p:=⟨bx,0,none⟩) hbx).trans h) 1 (by omega)
 rw [Nat.sub_zero,Nat.zero_add] at *;have HR1:=hid r1;have HB1:=hid (b0.trans (b1 w.heap.size yN));have K:=xE6 n h8 w;clear b0 b1 r0 r1 h;have hc0:IntKind.u64.wrap (1:Int)=1:=by decide
 have hcn:IntKind.u64.wrap (n:Int)=(n:Int):=by rw [IntKind.wrap_u64];omega
 have hci:IntKind.i64.wrap (n:Int)=(n:Int):=by rw [IntKind.wrap_i64];omega
 have hg1:¬ (n:Int)<0:=by omega
 have hg2:¬ (9223372036854775807:Int)<(n:Int):=by omega
 go_enter Tryz.func112,Tryz.ntmps112
 go_wp2_with fail
 refine K.mono ?_;rintro e wx ⟨rfl,hx⟩;have hy:=hx.symm;clear hx K;subst hy;have hcp:∀ ty,(Builtin.copy_ #[22,22] ty #[.slice (some ⟨w.heap.size,0,none⟩) n n,.slice (some ⟨bx,0,none⟩) 1 1]).run Tryz.prog (w.alloc (.cells (madeCells #[.int .i64 0] n) 3))=.ok (goInt ((1:Nat):Int)) W1:=by rw [<- hW0];exact c1
 clear c1 hW0
 go_wp2_with (first|(at_builtin;refine wpList_copyQ _ rfl _ _ 22 22 rfl _ _ rfl rfl (hcp _) ?_)|fail)
 clear hmk hcp
 go_loopg [8] n (fun gg s8 wx=>∃ m:Nat,1<=m/\m<=n/\n-m<=gg/\s8=.int .i64 m/\Aside (wx.rowIs w.heap.size 3 n (repF x m)/\Below w.heap.size w wx))
 case atStart=>exact ⟨1,yN,h1,by omega,rfl,(show Aside _ from ⟨HR1.out,HB1.out⟩)⟩
 case round =>
  obtain ⟨m,hm1,hmn,hg,rfl,A⟩:=hrel;by_cases hlt:m<n
  ·have hltz:(m:Int)<(n:Int):=by omega
   obtain ⟨k,hk⟩:∃ k,k=min m (n-m):=⟨_,rfl⟩;have rr:wr.drew.rowIs w.heap.size 3 n (repF x m):=A.out.1.of_block rfl;obtain ⟨W2,c2,r2,b2⟩:=vG (s:=m) (sc:=n) (b:=w.heap.size) rr (Nat.le_of_lt hlt) (fun j hj=>by rw [rr.cell (i:=j) (by omega)];unfold repF;rw [if_pos hj]) k hk;have R2:=hid r2;have B2:=hid (A.out.2.trans (Below.trans (yO.drew) (b2 w.heap.size yN)));have hk1:1<=k/\k<=n-m:=by omega
   clear hk r2 b2 rr A;have hnm:¬ n=m:=by omega
   have hz0:(0:Int)<=(m:Int):=by omega
   have hz1:(m:Int)<=(n:Int):=by omega
   have hw1:IntKind.i64.wrap ((m:Int)+(k:Int))=(m:Int)+(k:Int):=by rw [IntKind.wrap_i64];omega
   go_wp2
   go_region_law (refine zK9 rfl _ _ 22 22 rfl (.slice (some ⟨w.heap.size,m,none⟩) (n-m) (n-m)) (.slice (some ⟨w.heap.size,0,none⟩) m n) (by simp [Act.eval,Act.put]) (by simp [Act.eval,Act.put]) (c2 _) ?_)
   go_wp2
   go_roundg (n-(m+k))
   case measure=>omega
   case rel=>exact ⟨m+k,by omega,by omega,by omega,by go_num,(show Aside _ from ⟨R2.out,B2.out⟩)⟩
  ·have hltz:¬ (m:Int)<(n:Int):=by omega
   have e:m=n:=by omega
   subst e;go_wp2;go_ret
   refine ⟨w.heap.size,rfl,RowI.of_rowIs A.out.1 (by simp) fun i hi=>?_,yN,A.out.2⟩;rw [yA] at hi;rw [yF3 _ _ hi];unfold repF;rw [if_pos hi]
theorem xG6 (bx:Nat) (x:Int) (w:World) (h:w.cell? ⟨bx,0,none⟩=some (.int .i64 x)) :
  Calls Tryz.prog 112 #[.slice (some ⟨bx,0,none⟩) 1 1,.int .i64 0] w fun e w' =>
   e=.returned (.slice (some ⟨w.heap.size,0,none⟩) 0 0)/\Below w.heap.size w w':=by
 have hbx:=zC (w:=w) (h:=h);have hmk:∀ w:World,(Instr.makeSlice 22 (.int .i64 0) (.int .i64 0)).run Tryz.prog w=.ok (.slice (some ⟨w.heap.size,0,none⟩) 0 0) (w.alloc (.cells (madeCells #[.int .i64 0] 0) 3)) :=
  run_make_row' (P:=Tryz.prog) 22 3 (.int .i64 0) 8 Tryz.underlying22 Tryz.infoInt rfl .i64 .i64 0 (by omega) (by omega)
 obtain ⟨W0,hW0⟩:∃ W0,W0=w.alloc (.cells (madeCells #[.int .i64 0] 0) 3):=⟨_,rfl⟩;have r0:W0.rowIs w.heap.size 3 0 (repF x 0):=by
  rw [hW0];exact (World.rowIs_made w (.int .i64 0) 0 3).congr fun j _=>by unfold repF;rw [if_neg (by omega)]
 have b0:Below w.heap.size w W0:=by rw [hW0];exact yO.alloc yN _
 obtain ⟨W1,c1,r1,b1⟩:=vG (s:=1) (sc:=1) (b:=bx) r0 yN (fun j hj=>by
  have:j=0:=by omega
  subst this;exact (b0.cell (p:=⟨bx,0,none⟩) hbx).trans h) 0 (by omega)
 have HB1:=hid (b0.trans (b1 w.heap.size yN));have K:=xE6 0 (.inl rfl) w;rw [show ((0:Nat):Int)=0 from rfl] at K;clear b0 b1 r0 r1 h;have hc0:IntKind.u64.wrap (1:Int)=1:=by decide
 have hcn:IntKind.u64.wrap (0:Int)=0:=by decide
 have hci:IntKind.i64.wrap (0:Int)=0:=by decide
 go_enter Tryz.func112,Tryz.ntmps112
 go_wp2_with fail
 refine K.mono ?_;rintro e wx ⟨rfl,hx⟩;have hy:=hx.symm;clear hx K;subst hy;have hcp:∀ ty,(Builtin.copy_ #[22,22] ty #[.slice (some ⟨w.heap.size,0,none⟩) 0 0,.slice (some ⟨bx,0,none⟩) 1 1]).run Tryz.prog (w.alloc (.cells (madeCells #[.int .i64 0] 0) 3))=.ok (goInt ((0:Nat):Int)) W1:=by rw [<- hW0];exact c1
 clear c1 hW0
 go_wp2_with (first|(at_builtin;refine wpList_copyQ _ rfl _ _ 22 22 rfl _ _ rfl rfl (hcp _) ?_)|fail)
 clear hmk hcp;refine wp_loop_rounds 1 ?_;rw [rounds_succ];go_wp2;go_ret
 exact ⟨rfl,HB1.out⟩
theorem zL0 (bx n:Nat) (x:Int) (h8:Cnt n) (w:World) (h:w.cell? ⟨bx,0,none⟩=some (.int .i64 x)) :
  Calls Tryz.prog 112 #[.slice (some ⟨bx,0,none⟩) 1 1,.int .i64 n] w fun e w' =>
   ∃ v,e=.returned v/\Seg w' v (List.replicate n x)/\Lies w'.heap.size v/\Below w.heap.size w w':=by
 by_cases h1:1<=n
 ·refine (zN2 bx n x h1 h8 w h).mono ?_
  rintro e w' ⟨g,rfl,hr,hg,hb⟩;refine ⟨_,rfl,?_,hr.lies _ _,hb⟩;have:=hr.seg n;rwa [yA] at this
 ·have:n=0:=by omega
  subst this;refine (xG6 bx x w h).mono ?_;rintro e w' ⟨rfl,hb⟩;exact ⟨_,rfl,.inl ⟨rfl,_,_,rfl⟩,yT _ _ _,hb⟩
namespace Plain
theorem xU0 (l:List (Int × Int)) (k:Nat) (h:k<l.length):rbits ((l.take (k+1)).map nat2)=rbits ((l.take k).map nat2)++fbits (l.getD k (0,0)).1.toNat (l.getD k (0,0)).2.toNat:=by
 rw [zO h,List.map_append,zD0];simp [rbits,nat2,List.getD_eq_getElem?_getD,List.getElem?_eq_getElem h]
theorem xN8 (l:List (Int × Int)):(rbits (l.map nat2)).length=yU (l.map Prod.fst):=by
 rw [zR5];simp [yU,nat2,Function.comp_def]
theorem qE1 (l:List (Int × Int)) (k:Nat) (h:k<l.length) (ha:(l.map Prod.fst).all okW=true):1<=(l.getD k (0,0)).1/\(l.getD k (0,0)).1<=60:=by
 have:=yM3 okW (l.map Prod.fst) 0 k (by simpa using h) ha;rw [vO] at this;simpa [List.getD_eq_getElem?_getD,List.getElem?_eq_getElem h] using this
theorem xU1 (l:List (Int × Int)) (k:Nat) (h:k<l.length):yU ((l.take k).map Prod.fst)+(l.getD k (0,0)).1.toNat<=yU (l.map Prod.fst):=by
 have h1:=jG (l.map Prod.fst) k (by simpa using h);have h2:=zI8 (l.map Prod.fst) (k+1);rw [h1] at h2;simp only [List.map_take];have e:(l.map Prod.fst).getD k 0=(l.getD k (0,0)).1:=by simp [List.getD_eq_getElem?_getD,List.getElem?_eq_getElem h]
 rw [e] at h2;exact h2
theorem zV2 (l:List (Int × Int)) (k:Nat) (h:k<l.length):yU ((l.take (k+1)).map Prod.fst)=yU ((l.take k).map Prod.fst)+(l.getD k (0,0)).1.toNat:=by
 have h1:=jG (l.map Prod.fst) k (by simpa using h);simp only [List.map_take];have e:(l.map Prod.fst).getD k 0=(l.getD k (0,0)).1:=by simp [List.getD_eq_getElem?_getD,List.getElem?_eq_getElem h]
 rw [e] at h1;exact h1
theorem zV3 (l:List (Int × Int)) (h:szE (l.map Prod.fst)≠0):kL l=szE (l.map Prod.fst)/\qR l=[]:=by
 have e:kL l=szE (l.map Prod.fst):=by unfold kL;rw [if_neg h]
 exact ⟨e,by unfold qR;rw [if_neg (by omega)]⟩
theorem yK8 (l:List (Int × Int)) (h:szE (l.map Prod.fst)=0) (ha:l.all fitB=false):kL l=12/\qR l=[]:=by
 have e:kL l=12:=by unfold kL;rw [if_pos h,if_neg (by simp [ha])]
 exact ⟨e,by unfold qR;rw [if_neg (by omega)]⟩
theorem zE2 (l:List (Int × Int)) (h:szE (l.map Prod.fst)=0) (ha:l.all fitB=true):kL l=0/\qR l=bytesOf (rbits (l.map nat2)) (szN (l.map Prod.fst)):=by
 have e:kL l=0:=by unfold kL;rw [if_pos h,if_pos ha]
 exact ⟨e,by unfold qR;rw [if_pos e]⟩
theorem xU2 (x y:Int) (h:fitB (x,y)=true) (hx:x<=60):0<=y/\y.toNat<2^x.toNat/\y.toNat<=1152921504606846976:=by
 unfold fitB at h;simp only [Bool.and_eq_true,decide_eq_true_eq] at h;have hp:=xP3 x.toNat (by omega);obtain ⟨h1,h2⟩:=h;obtain ⟨n,rfl⟩:=zW h1;have e:((2:Int)^x.toNat)=((2^x.toNat:Nat):Int):=by simp
 rw [e] at h2;rw [zK];omega
end Plain
theorem xG7 (v:Value) (l:List (Int × Int)) (hm:l.length*16<=140737488351232) (w:World) (h:SegF w v l) (hv:Lies w.heap.size v) (hz:szE (l.map Prod.fst)≠0) :
  Calls Tryz.prog 141 #[v] w fun e w'=>e=.returned (.tuple #[.slice none 0 0,.int .i64 (kL l:Nat)])/\Below w.heap.size w w':=by
 have H:=hid h;have HV:=hid hv;have HM:=hid hm;have HP:=hid (zV3 l hz);have hne:((szE (l.map Prod.fst):Int) != 0)=true:=by rw [bne_iff_ne];omega
 have HN:=hid hne;clear h hv hm hz hne;go_enter Tryz.func141,Tryz.ntmps141
 go_wp2_with fail
 refine (zK8 v l HM.out _ H.out HV.out).mono ?_;rintro e w1 ⟨u,rfl,hs,hb⟩;have HS:=hid hs;have HB:=hid hb;clear hs hb
 go_wp2_with fail
 refine (vI u _ (by rw [zL];have:=HM.out;omega) _ HS.out).mono ?_;rintro e wx ⟨rfl,hx⟩;have hy:=hx.symm;clear hx;subst hy;have hne:=HN.out;generalize szE (l.map Prod.fst)=z at *;generalize szN (l.map Prod.fst)=z' at *;go_wp2;go_ret2
 exact ⟨by rw [HP.out.1];rfl,HB.out⟩
theorem pk_of {w w':World} {b t n:Nat} {f:Nat->Value} (h:w.rowIs b t n f) (hb:Below w.heap.size w w'):w'.rowIs b t n f:=h.of_block (hb.block b h.lt)
theorem yF4 {wr w2:World} {c:Array Value} {t:Nat} (hb:Below (wr.alloc (.cells c t)).heap.size (wr.alloc (.cells c t)) w2) (i:Nat) (x:Value) (h:c[i]?=some x) :
  w2.cell? ⟨wr.heap.size,i,none⟩=some x:=by
 have h1:(wr.alloc (.cells c t)).cell? ⟨wr.heap.size,i,none⟩=some x:=by
  have e:=heap_alloc_new wr (.cells c t);unfold World.cell?;rw [show (⟨wr.heap.size,i,none⟩:Addr).block=wr.heap.size from rfl,e];exact h
 exact (hb.cell (p:=⟨wr.heap.size,i,none⟩) (by simp)).trans h1
theorem qE2 {w2 w3:World} {bb B o:Nat} {x:Value} (hg:w2.grownBy w3 (some bb)) (hne:bb<B) (h:w2.cell? ⟨B,o,none⟩=some x):w3.cell? ⟨B,o,none⟩=some x :=
 (World.cell?_of_block (w:=w2) (a:=⟨B,o,none⟩) (hg.block B (zC (w:=w2) (h:=h)) (fun e=>by have:=Option.some.inj e;omega))).trans h
theorem xU3 {w wr w2 w3:World} {bb n k:Nat} {o:Obj} {l:List (Int × Int)} {xn yn:Nat} (hk:k<l.length) (hx:(l.getD k (0,0)).1=xn) (hy:(l.getD k (0,0)).2=yn)
  (hB:w.heap.size<=bb) (hrow:bb<wr.heap.size) (h1:Below w.heap.size w wr) (h2:Below (wr.alloc o).heap.size (wr.alloc o) w2) (h3:w2.grownBy w3 (some bb))
  (hr:w3.rowIs bb 5 n (fun j=>.int .u8 (Plain.byteOf (at0 (rbits ((l.take k).map nat2)++fbits xn yn)) j:Nat)))
  (ha:(l.take k).all fitB=true) (hf:fitB ((xn:Int),(yn:Int))=true) :
  w3.rowIs bb 5 n (fun j=>.int .u8 (Plain.byteOf (at0 (rbits ((l.take (k+1)).map nat2))) j:Nat))/\Below w.heap.size w w3/\(l.take (k+1)).all fitB=true:=by
 have hs:wr.heap.size<=(wr.alloc o).heap.size:=by simp
 have hs2:=h2.size;refine ⟨?_,?_,vZ _ l (0,0) k hk ha ?_⟩
 ·rw [xU0 l k hk,hx,hy,zK,zK]
  exact hr
 ·have h4:Below w.heap.size w w2:=(h1.alloc h1.size o).trans (h2.mono (by have:=h1.size;omega))
  exact h4.grown h3 h4.size (fun j hj=>by injection hj with hj;omega)
 ·have e:l.getD k (0,0)=((xn:Int),(yn:Int)):=by rw [<- hx,<- hy]
  rw [e];exact hf
theorem yS4 (b off cap:Nat) (l:List (Int × Int)) (w:World)
  (h:∀ j,j<l.length->w.cell? ⟨b,off+j*2,none⟩=some (.int .i64 (l.getD j (0,0)).1)/\w.cell? ⟨b,off+j*2+1,none⟩=some (.int .i64 (l.getD j (0,0)).2))
  (hb:0<l.length->b<w.heap.size) (hz:szE (l.map Prod.fst)=0) :
  Calls Tryz.prog 141 #[.slice (some ⟨b,off,none⟩) l.length cap] w fun e w'=>∃ u,e=.returned (.tuple #[u,.int .i64 (kL l:Nat)]) /\
   SegB w' u (qR l)/\Lies w'.heap.size u/\Below w.heap.size w w':=by
 have H:=hid h;have hsz:=jN _ hz;rw [zL] at hsz;have hlen:l.length<=40:=hsz.1;have HA:=hid hsz.2.1;have HN:=hid hsz.2.2.1;have HT:=hid hsz.2.2.2;have HZ:=hid hz;clear h hz hsz;go_enter Tryz.func141,Tryz.ntmps141
 go_wp2_with fail
 refine (zK8 _ l (by omega) _ (.inr ⟨b,off,cap,rfl,H.out⟩) (fun p n c e hp=>by injection e with e1 e2 _;injection e1 with e1;subst e1;exact hb (by omega))).mono ?_;rintro e w1 ⟨u,rfl,hs,hbe⟩;have HS:=hid hs;have HB:=hid hbe;have hge:=hbe.size;clear hs hbe
 go_wp2_with fail
 refine (vI u _ (by rw [zL];omega) _ HS.out).mono ?_;rintro e wx ⟨rfl,hx⟩;have hy:=hx.symm;clear hx;subst hy;rw [HZ.out];have hn300:=yM5 (l.map Prod.fst);generalize hn:szN (l.map Prod.fst)=n at *;have HNN:=hid hn;clear hn;have hmk:=run_make_row' (P:=Tryz.prog) 40 5 (.int .u8 0) 1 Tryz.underlying40 Tryz.infoByte rfl .i64 .i64 n (by omega) (by omega);go_wp2;clear hmk
 go_loopw [7,23] (fun a i wr=>∃ k:Nat,k<=l.length/\i=.int .i64 k/\a=.int .i64 (yU ((l.take k).map Prod.fst):Nat) /\
   wr.rowIs w1.heap.size 5 n (fun j=>.int .u8 (Plain.byteOf (at0 (rbits ((l.take k).map nat2))) j:Nat))/\Below w.heap.size w wr/\(l.take k).all fitB=true)
  (fun _ i _=>l.length-(intOf i).toNat)
 case atStart =>
  exact ⟨0,zG _,rfl,rfl,World.rowIs_made w1 (.int .u8 0) n 5,HB.out.alloc hge _,rfl⟩
 case round =>
  obtain ⟨k,hk,rfl,rfl,hrow,hbel,hall⟩:=hrel;by_cases hlt:k<l.length
  ·have g:=H.out k hlt
   rw [<- hbel.cell (p:=⟨b,off+k*2,none⟩) (hb (by omega)),<- hbel.cell (p:=⟨b,off+k*2+1,none⟩) (hb (by omega))] at g;have hok:=qE1 l k hlt HA.out;have hbit:=xU1 l k hlt;have hbs:=zV2 l k hlt;have hlen0:=xN8 (l.take k);have g0:=g.1;have g1:=g.2;clear g;have hlt':(k:Int)<(l.length:Int):=by omega
   have hbbl:=hrow.lt;have HR:=hid hrow;have HBE:=hid hbel;have HAL:=hid hall;clear hrow hbel hall;generalize hx:(l.getD k (0,0)).1=x at g0 hok hbit hbs;generalize hy:(l.getD k (0,0)).2=y at g1;obtain ⟨xn,rfl⟩:=zW (show 0<=x by omega);rw [zK] at hbit hbs;have HX:=hid hx;have HY:=hid hy;have HBS:=hid hbs;have HL0:=hid hlen0;clear hx hy hbs hlen0;have hfit:yU ((l.take k).map Prod.fst)+xn<=8*n:=by have:=HN.out;have:=HNN.out;omega
   clear hbit;generalize ha:yU ((l.take k).map Prod.fst)=a at hfit;have HAA:=hid ha;clear ha;have hxn:xn<=60:=by omega
   clear hok;cases cf:fitB ((xn:Int),y)
   ·have CF:=hid cf
    clear cf
    go_wp2_with fail
    refine (yF1 xn y hxn _).mono ?_;rintro e w2 ⟨rfl,hb2⟩;have HB2:=hid hb2;clear hb2;rw [CF.out];have hpr:l.getD k (0,0)=((xn:Int),y):=by rw [<- HX.out,<- HY.out]
    have HF:=hid (yK8 l HZ.out (zR9 fitB l (0,0) k hlt (by rw [hpr];exact CF.out)));clear hpr;go_wp2;go_ret2
    refine ⟨_,by rw [HF.out.1];rfl,by rw [HF.out.2];exact SegB.nil _,yT _ _ _,?_⟩;exact (HBE.out.alloc HBE.out.size _).trans (HB2.out.mono (by have:=HBE.out.size;simp;omega))
   ·have hyn:=xU2 _ _ cf (by omega)
    obtain ⟨yn,rfl⟩:=zW hyn.1;rw [zK] at hyn;have hyn3:=hyn.2.2;have CF:=hid cf;clear cf hyn
    go_wp2_with fail
    refine (yF1 xn (yn:Int) hxn _).mono ?_;rintro e w2 ⟨rfl,hb2⟩;rw [CF.out];have c0:=yF4 hb2 0 (.int .i64 xn) rfl;have c1:=yF4 hb2 1 (.int .i64 yn) rfl;have hrow2:=pk_of (HR.out.alloc _) hb2;have HB2:=hid hb2;have HR2:=hid hrow2;clear hb2 hrow2
    go_wp2_with fail
    refine (xT9 w1.heap.size n n a xn yn _ (by rw [HL0.out,HAA.out]) (vY _) hfit (by omega) hxn hyn3 _ HR2.out).mono ?_;rintro e w3 ⟨rfl,hrow3,hg3⟩;have c2:=qE2 hg3 hbbl c0;have R:=hid (xU3 hlt HX.out HY.out hge hbbl HBE.out HB2.out hg3 hrow3 HAL.out CF.out);clear hrow3 hg3 c0 c1;go_wp2
    go_roundw
    case rel=>exact ⟨k+1,by omega,by go_num,by rw [HBS.out,HAA.out];go_num,R.out.1,R.out.2.1,R.out.2.2⟩
    case measure=>simp [intOf];omega
  ·have ek:k=l.length:=by omega
   subst ek;rw [List.take_length] at hrow hall ⊢;have HR:=hid hrow;have HBE:=hid hbel;have HF:=hid (zE2 l HZ.out hall);clear hrow hbel hall;go_wp2;go_ret2
   refine ⟨_,by rw [HF.out.1];rfl,?_,qF HR.out.lt,HBE.out⟩;rw [HF.out.2,HNN.out];refine .inr ⟨w1.heap.size,0,n,by rw [qT],fun j hj=>?_⟩;rw [qT] at hj;rw [Nat.zero_add,HR.out.cell hj,zC9 _ _ _ hj]
theorem xG8 (p:Option Addr) (cap:Nat) (w:World) :
  Calls Tryz.prog 141 #[.slice p 0 cap] w fun e w'=>e=.returned (.tuple #[.slice (some ⟨w'.heap.size-1,0,none⟩) 0 0,.int .i64 0])/\Below w.heap.size w w':=by
 have hmk:∀ w:World,(Instr.makeSlice 40 (.int .i64 0) (.int .i64 0)).run Tryz.prog w=.ok (.slice (some ⟨w.heap.size,0,none⟩) 0 0) (w.alloc (.cells (madeCells #[.int .u8 0] 0) 5)) :=
  run_make_row' (P:=Tryz.prog) 40 5 (.int .u8 0) 1 Tryz.underlying40 Tryz.infoByte rfl .i64 .i64 0 (by omega) (by omega)
 go_enter Tryz.func141,Tryz.ntmps141
 go_wp2_with fail
 refine (zK7 p cap _).mono ?_;rintro e w1 ⟨rfl,hb⟩;have HB:=hid hb;clear hb
 go_wp2_with fail
 refine (zN6 _ _ _).mono ?_;rintro e wx ⟨rfl,hx⟩;have hy:=hx.symm;clear hx;subst hy;rw [show szN []=0 from rfl,show szE []=0 from rfl];go_wp2;refine wp_loop_rounds 1 ?_;rw [rounds_succ];go_wp2;go_ret2
 exact ⟨by simp,HB.out.alloc HB.out.size _⟩
theorem xG9 (v:Value) (l:List (Int × Int)) (hm:l.length*16<=140737488351232) (w:World) (h:SegF w v l) (hv:Lies w.heap.size v) :
  Calls Tryz.prog 141 #[v] w fun e w'=>∃ u,e=.returned (.tuple #[u,.int .i64 (kL l:Nat)])/\SegB w' u (qR l)/\Lies w'.heap.size u/\Below w.heap.size w w':=by
 by_cases hz:szE (l.map Prod.fst)=0
 ·rcases h with ⟨rfl,p,c,rfl⟩|⟨b,o,c,rfl,g⟩
  ·refine (xG8 p c w).mono ?_
   rintro e w' ⟨rfl,hb⟩;exact ⟨_,rfl,.inl ⟨rfl,_,_,rfl⟩,yT _ _ _,hb⟩
  ·exact yS4 b o c l w g (fun hp=>hv _ _ _ rfl hp) hz
 ·refine (xG7 v l hm w h hv hz).mono ?_
  rintro e w' ⟨rfl,hb⟩;exact ⟨_,rfl,by rw [(zV3 l hz).2];exact SegB.nil _,yT _ _ _,hb⟩
theorem take_zero (v:Value) (at_:Nat) (ha:at_<=1000000) (w:World) :
  Calls Tryz.prog 150 #[v,.int .i64 at_,.int .i64 0] w fun e w'=>e=.returned (.int .i64 0)/\w'=w:=by
 go_enter Tryz.func150,Tryz.ntmps150
 go_wp2;refine wp_loop_rounds 1 ?_;rw [rounds_succ];go_wp2;go_ret
 exact ⟨rfl,rfl⟩
theorem yS5 (bl:List Nat) (p:Nat) (h:bl.getD (p/8) 0<256):(bits .and .u8 ((bl.getD (p/8) 0:Nat):Int) (2^(7-p%8)) != 0)=(xM bl p==1):=by
 have:=xG1 (bl.getD (p/8) 0) p h;unfold xM;rw [<- this];congr 2
theorem zE3 (bb off c at_ wd:Nat) (bl:List Nat) (hbl:∀ x∈bl,x<256) (hfit:at_+wd<=8*bl.length) (hl:bl.length<=1000) (hw:wd<=60) (w:World)
  (h:∀ j,j<bl.length->w.cell? ⟨bb,off+j,none⟩=some (.int .u8 (bl.getD j 0:Nat))) :
  Calls Tryz.prog 150 #[.slice (some ⟨bb,off,none⟩) bl.length c,.int .i64 at_,.int .i64 wd] w fun e w'=>e=.returned (.int .i64 (Plain.num (xM bl) at_ wd:Nat))/\∃ q,w'=w.drewN q:=by
 have H:=hid h;have HB:=hid hbl;clear h hbl;go_enter Tryz.func150,Tryz.ntmps150
 go_wp2
 go_loopw [7,8] (fun v i wr=>∃ k q:Nat,k<=wd/\i=.int .i64 ((at_+k:Nat):Int)/\v=.int .i64 (Plain.num (xM bl) at_ k:Nat)/\wr=w.drewN q) (fun _ i _=>at_+wd-(intOf i).toNat)
 case atStart=>exact ⟨0,0,zG _,rfl,rfl,rfl⟩
 case round =>
  obtain ⟨k,q,hk,rfl,rfl,hw0⟩:=hrel;have HW:=hid hw0;clear hw0;have hX:=xM8 (xM bl) (zM0 bl) at_ k;have hX2:=xP3 k (by omega);have hst:Plain.num (xM bl) at_ (k+1)=2*Plain.num (xM bl) at_ k+xM bl (at_+k):=rfl;have hX3:Plain.num (xM bl) at_ k<1152921504606846976:=by omega
  clear hX hX2;by_cases hlt:k<wd
  ·obtain ⟨p,hp⟩:∃ p,p=at_+k:=⟨_,rfl⟩
   rw [<- hp] at hst ⊢;have hp1:p<at_+wd:=by omega
   have hp1':(p:Int)<(at_:Int)+(wd:Int):=by omega
   have hp2:p/8<bl.length:=by omega
   have hc:wr.cell? ⟨bb,off+p/8,none⟩=some (.int .u8 (bl.getD (p/8) 0:Nat)):=by rw [HW.out];simpa using H.out (p/8) hp2
   have hx:=HB.out (bl.getD (p/8) 0) (by rw [zA,zB hp2];exact zH hp2);have hand:=yS5 bl p hx;have hb2:=zM0 bl p;generalize hy:xM bl p=y at hst hand hb2;have HY:=hid hy;clear hy;generalize bl.getD (p/8) 0=x at hc hx hand;obtain ⟨m,hm⟩:∃ m,m=p/8:=⟨_,rfl⟩;rw [<- hm] at hc hp2;have hdv:(p:Int)/8=(m:Int):=by omega
   have hwm:IntKind.i64.wrap (m:Int)=(m:Int):=kF m (by omega);have hi1:(m:Int)<(bl.length:Int):=by omega
   have HP:=hid hp;have HST:=hid hst;clear hp hst;generalize hXX:Plain.num (xM bl) at_ k=X at hX3;have HXX:=hid hXX;clear hXX hm;have hor:=qD9 X (by omega);cases e:(y==1)
   ·rw [e] at hand
    have EY:=hid e;clear e hor;go_wp2
    go_quiet ((go_at_call 164;exact Calls.quiet_of_same (zN9 p (by omega) _)))
    go_wp2
    go_roundw
    case rel=>exact ⟨k+1,_,by omega,by have:=HP.out;go_num,by rw [HST.out,HXX.out];have:=beq_eq_false_iff_ne.1 EY.out;go_num,by rw [HW.out,zU5]⟩
    case measure=>simp [intOf];omega
   ·rw [e] at hand
    have EY:=hid e;clear e;have HOR:=hid hor;clear hor;go_wp2
    go_quiet ((go_at_call 164;exact Calls.quiet_of_same (zN9 p (by omega) _)))
    go_wp2
    go_roundw
    case rel=>exact ⟨k+1,_,by omega,by have:=HP.out;go_num,by rw [HST.out,HXX.out,beq_iff_eq.1 EY.out,<- HOR.out,show ((2*X:Nat):Int)=(X:Int)*2 by omega],by rw [HW.out,zU5]⟩
    case measure=>simp [intOf];omega
  ·have ek:k=wd:=by omega
   subst ek;generalize hXX:Plain.num (xM bl) at_ k=X at hX3;have HXX:=hid hXX;clear hst hXX;go_wp2;go_ret
   exact ⟨by rw [HXX.out];rfl,_,HW.out⟩
end Go.Proofs.YtleaknfjbbccgaaGreatDoor
