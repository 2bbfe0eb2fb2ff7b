/- Laid together. -/
import Derived.Deep.LoopGhost
import Derived.Laws.OwnMore
import Derived.OneCell
import Derived.Shelf.Abstract
import Derived.Maps.AppendAt
import Derived.Deep.RegionLaw
import Derived.Shelf.SlSortCmp.QuietGrown
import Derived.Deep.RegionHeld3
import Derived.Deep.DeepCutAuto
import Derived.Deep.CutBlock
import Derived.Deep.QuietTactic
import Derived.BigQuiet
import Derived.Test.YtleaknfjbbccgaaGreatDoorMs00
import Derived.Test.YtleaknfjbbccgaaGreatDoorMs03
namespace Go.Proofs.YtleaknfjbbccgaaGreatDoor
open Plain
set_option maxHeartbeats 16000000
set_option maxRecDepth 100000
open Go.RowKit Go.Sort
theorem yR0 (w:World) (e:En):CellN (w.alloc (boxE e)) w.heap.size 0 e:=⟨by simp,by simp,by simp,by simp,by simp⟩
theorem yK0 (va:Value) (a b:List En) (bb off c:Nat) (ha:mayL a=true) (hb:mayL b=true) (h0:0<b.length) (w:World) (sa:SegN w va a) (ya:Lies w.heap.size va) (hlt:bb<w.heap.size) (hc:qD w bb off b) (hcc:b.length<=c) :
  Calls Tryz.prog 128 #[va,.slice (some ⟨bb,off,none⟩) b.length c] w fun e w' =>
   ∃ r,e=.returned (.tuple #[r,.int .i64 (jU a b:Nat)])/\SegN w' r (kK a b)/\zY4 w' r/\Below w.heap.size w w':=by
 obtain ⟨a8,_,asrt⟩:=(qW a).1 ha;have b8:b.length<=8:=((qW b).1 hb).1;have K1:=kO va a (by omega) w sa ya;have sb:SegN w (.slice (some ⟨bb,off,none⟩) b.length c) b:=.inr ⟨bb,off,c,rfl,hcc,hc⟩;have K2:=fun w1 (b1:Below w.heap.size w w1)=>kO _ b (by omega) w1 (sb.below b1 (qF hlt)) (qF (zF hlt b1.size));have K3:=fun w1 (b1:Below w.heap.size w w1)=>zG4 va a (by omega) w1 (sa.below b1 ya) (ya.mono b1.size);have HE:=hid (show jU a b=if (xB a b).length<=8 then 0 else 8 by unfold jU;rw [if_pos ⟨ha,hb⟩]);have HC:=hid hc;have HA:=hid asrt;rw [ha] at K1;rw [hb] at K2;clear sa sb hc asrt hcc ha hb ya;go_enter Tryz.func128,Tryz.ntmps128
 go_wp2_with fail
 refine K1.mono ?_;rintro e w1 ⟨rfl,b1⟩
 go_wp2_with fail
 refine (K2 w1 b1).mono ?_;rintro e w2 ⟨rfl,b2⟩;have B2:=hid (b1.trans (b2.mono b1.size));clear b1 b2 K1 K2
 go_wp2_with fail
 refine (K3 w2 B2.out).mono ?_;rintro e w3 ⟨v3,rfl,o3,b3⟩;have O3:=hid (o3.base B2.out.size);have B3:=hid (B2.out.trans (b3.mono B2.out.size));clear o3 b3 B2 K3;go_wp2
 go_loopw [6,23] (fun vo i wx=>∃ k:Nat,k<=b.length/\i=.int .i64 k/\OwnN wx w.heap.size 75 vo (xB a (b.take k))/\Below w.heap.size w wx) (fun _ i _=>b.length-(intOf i).toNat)
 case atStart=>exact ⟨0,zG _,rfl,O3.out,B3.out⟩
 case round =>
  obtain ⟨k,hk,rfl,hO,hbel⟩:=hrel;by_cases hlt2:k<b.length
  ·have hlt':(k:Int)<(b.length:Int):=by omega
   obtain ⟨c0,c1,c2,c3,c4⟩:=(HC.out k hlt2).below hbel hlt;have HP:=hid (yI3 a b k hlt2);have HSR:=hid (zS9 HA.out (b.take k));have hM16:(xB a (b.take k)).length<=16:=by
    have:=(yO1 a (b.take k)).2;rw [zU] at this;omega
   generalize xB a (b.take k)=M at hO HP HSR hM16;generalize Plain.en b k=y at c0 c1 c2 c3 c4 HP;have hsz:=hbel.size;have HO:=hid hO;have HB:=hid hbel;clear hO hbel
   go_wp2_with fail
   have HO1:=hid (HO.out.grow (yO.alloc yN (boxE y)));refine (yI9 u6 y.key M HSR.out (by omega) _ HO1.out.seg.1 HO1.out.seg.2).mono ?_;rintro e w4 ⟨rfl,b4⟩;have HO4:=hid (HO1.out.grow b4);obtain ⟨x0,x1,x2,x3,x4⟩:=(yR0 wr y).below b4 (by simp);simp only [Nat.zero_add] at x1 x2 x3 x4;have HX:=hid ((yR0 wr y).below b4 (by simp));have hs4:wr.heap.size<w4.heap.size:=by have:=b4.size;simp at this;omega
   have B4:=hid (show Below w.heap.size w w4 from (HB.out.alloc HB.out.size _).trans (b4.mono (by simp;omega)));clear b4 c0 c1 c2 c3 c4 HO HO1 HB;have HPT:=hid (HP.out.trans (qA7 HSR.out y));have hle:=yO3 y.key M;cases hq:hasK y.key M with
   | false =>
    rw [hq] at HPT;simp only [Bool.false_eq_true,if_false] at HPT;clear hq;generalize Plain.less y.key M=t at HPT hle;have HO5:=hid (HO4.out.grow (yO.alloc yN (boxE y)));have KI:=yJ1 u6 t w4.heap.size w.heap.size M y (w4.alloc (boxE y)) hle (by omega) (by simp;omega) HO5.out (yF w4 _) (fun g n cc e hgg=>by
     subst e;rcases HO4.out.2 with ⟨e,_⟩|⟨g',cap,cur,e,_,hb,_⟩
     ·cases e
     ·simp only [Value.slice.injEq,Option.some.injEq,Addr.mk.injEq,and_true] at e
      obtain ⟨rfl,_,_⟩:=e;have:=(zJ.1 hb).1;omega)
    go_wp2_with fail
    refine KI.mono ?_;rintro e w5 ⟨v5,rfl,o5,b5⟩;have O5:=hid o5;have B5:=hid (show Below w.heap.size w w5 from (B4.out.alloc B4.out.size _).trans b5);clear o5 b5 KI x0 x1 x2 x3 x4;go_wp2
    go_roundw
    case rel=>exact ⟨k+1,by omega,by go_num,by rw [HPT.out];exact O5.out,B5.out⟩
    case measure=>simp [intOf];omega
   | true =>
    have ht:Plain.less y.key M<M.length:=by
     unfold hasK at hq;exact (of_decide_eq_true hq).1
    rw [hq] at HPT;simp only [if_true] at HPT;clear hq hle;generalize Plain.less y.key M=t at HPT ht;obtain ⟨g,cc,rfl,hBg,hgw,hnc,hc63⟩:=HO4.out.at (by omega);have HZ:=hid (HO4.out.cells t ht);have KA:=fun W=>xR2 y (Plain.en M t) W;generalize hz:Plain.en M t=z at HPT HZ KA;clear hz;generalize newer y z=r at HPT KA;have ht':(t:Int)<(M.length:Int):=by omega
    have mixed:Tryz.prog.follows .mixedOrders=true:=by kernel_rfl
    generalize hN:M.length=n at ht' hnc hM16 ht ⊢;have HN:=hid hN;clear hN x0 x1 x2 x3 x4;have p0:=fun n os=>(HX.out.grown n os).c0;have p1:=fun n os=>(HX.out.grown n os).c1;have p2:=fun n os=>(HX.out.grown n os).c2;have p3:=fun n os=>(HX.out.grown n os).c3;have p4:=fun n os=>(HX.out.grown n os).c4;have q0:=fun n os=>(HZ.out.grown n os).c0;have q1:=fun n os=>(HZ.out.grown n os).c1;have q2:=fun n os=>(HZ.out.grown n os).c2;have q3:=fun n os=>(HZ.out.grown n os).c3;have q4:=fun n os=>(HZ.out.grown n os).c4;simp only [Nat.zero_add] at p1 p2 p3 p4 q0 q1 q2 q3 q4;go_wp2
    go_quiet_grown (first|(go_at_call 156;exact Calls.grown_of (KA _))|fail)
    obtain ⟨w5,hw5⟩:∃ w5,w5=grow (w4.drewN nq) osq:=⟨_,rfl⟩;rw [<- hw5];have O5:=hid (show OwnN w5 w.heap.size 75 (.slice (some ⟨g,0,none⟩) n cc) M by rw [hw5];have:=HO4.out.grow (xP (Below.refl w4.heap.size w4) yN nq osq);rwa [HN.out] at this);have X5:=hid (show CellN w5 wr.heap.size 0 y by rw [hw5];exact HX.out.grown nq osq);have B5:=hid (show Below w.heap.size w w5 by rw [hw5];exact xP B4.out B4.out.size nq osq);clear hw5 p0 p1 p2 p3 p4 q0 q1 q2 q3 q4 KA HX HZ B4 HO4;cases r with
    | false =>
     simp only [Bool.false_eq_true,if_false] at HPT;go_wp2
     go_roundw
     case rel=>exact ⟨k+1,by omega,by go_num,by rw [HPT.out];exact O5.out,B5.out⟩
     case measure=>simp [intOf];omega
    | true =>
     simp only [if_true] at HPT;obtain ⟨x0,x1,x2,x3,x4⟩:=X5.out;obtain ⟨z0,z1,z2,z3,z4⟩:=O5.out.cells t (by rw [HN.out];exact ht);have f0:=O5.out.frozen (by rw [HN.out];omega) (t*5);have f1:=O5.out.frozen (by rw [HN.out];omega) (t*5+1);have f2:=O5.out.frozen (by rw [HN.out];omega) (t*5+2);have f3:=O5.out.frozen (by rw [HN.out];omega) (t*5+3);have f4:=O5.out.frozen (by rw [HN.out];omega) (t*5+4);simp only [Nat.zero_add] at x1 x2 x3 x4 z0 z1 z2 z3 z4;generalize Plain.en M t=q at z0 z1 z2 z3 z4;go_wp2
     go_roundw
     case rel=>exact ⟨k+1,by omega,by go_num,by rw [HPT.out];exact O5.out.set t (by rw [HN.out];exact ht) y,zJ5 B5.out hBg y⟩
     case measure=>simp [intOf];omega
  ·have ek:k=b.length:=by omega
   subst ek;rw [List.take_length] at hO;obtain ⟨p,cc,rfl⟩:=hO.form;have HO:=hid hO.seg;have HT:=hid hO.ty;have HB:=hid hbel;clear hO hbel;by_cases h8:(xB a b).length<=8
   ·have HR:=hid (show jU a b=0 by rw [HE.out,if_pos h8])
    have HR2:=hid (show kK a b=xB a b by unfold kK;rw [if_pos HR.out]);generalize xB a b=M at h8 HO HR2 HT;have h8':¬ 8<(M.length:Int):=by omega
    clear HE;go_wp2;go_ret2
    exact ⟨_,by rw [HR.out];rfl,by rw [HR2.out];exact HO.out.1,⟨HO.out.2,HT.out⟩,HB.out⟩
   ·have HR:=hid (show jU a b=8 by rw [HE.out,if_neg h8])
    have HR2:=hid (show kK a b=[] by unfold kK;rw [HR.out];rfl);clear HT;generalize xB a b=M at h8 HO;have h8':8<(M.length:Int):=by omega
    clear HE;go_wp2;go_ret2
    exact ⟨_,by rw [HR.out];rfl,by rw [HR2.out];exact SegN.nil _,⟨yT _ _ _,TyE.nil _ _ _⟩,HB.out⟩
theorem yR1 (va:Value) (a:List En) (p:Option Addr) (c:Nat) (ha:mayL a=true) (w:World) (sa:SegN w va a) (ya:Lies w.heap.size va) :
  Calls Tryz.prog 128 #[va,.slice p 0 c] w fun e w' =>
   ∃ r,e=.returned (.tuple #[r,.int .i64 (0:Nat)])/\OwnN w' w.heap.size 75 r a/\Below w.heap.size w w':=by
 have a8:a.length<=8:=((qW a).1 ha).1;have K1:=kO va a (by omega) w sa ya;have K2:=fun w1=>kO (.slice p 0 c) [] (by simp) w1 (.inl ⟨rfl,p,c,rfl⟩) (yT _ _ _);have K3:=fun w1 (b1:Below w.heap.size w w1)=>zG4 va a (by omega) w1 (sa.below b1 ya) (ya.mono b1.size);rw [ha] at K1;have e0:mayL []=true:=rfl;rw [e0] at K2;clear e0 sa ya ha;go_enter Tryz.func128,Tryz.ntmps128
 go_wp2_with fail
 refine K1.mono ?_;rintro e w1 ⟨rfl,b1⟩
 go_wp2_with fail
 refine (K2 w1).mono ?_;rintro e w2 ⟨rfl,b2⟩;have B2:=hid (b1.trans (b2.mono b1.size));clear b1 b2 K1 K2
 go_wp2_with fail
 refine (K3 w2 B2.out).mono ?_;rintro e w3 ⟨v3,rfl,o3,b3⟩;have O3:=hid (o3.base B2.out.size);have B3:=hid (B2.out.trans (b3.mono B2.out.size));obtain ⟨p3,c3,rfl⟩:=o3.form;clear o3 b3 B2 K3;have h8':¬ 8<(a.length:Int):=by omega
 go_wp2;refine wp_loop_rounds 1 ?_;rw [rounds_succ];go_wp2;go_ret2
 exact ⟨_,rfl,O3.out,B3.out⟩
theorem yR2 (va vb:Value) (a b:List En) (hla:a.length<=9223372036854775807) (hlb:b.length<=9223372036854775807) (h:¬ (mayL a=true/\mayL b=true)) (w:World) (sa:SegN w va a) (ya:Lies w.heap.size va) (sb:SegN w vb b) (yb:Lies w.heap.size vb) :
  Calls Tryz.prog 128 #[va,vb] w fun e w'=>e=.returned (.tuple #[.slice none 0 0,.int .i64 (4:Nat)])/\Below w.heap.size w w':=by
 have K1:=kO va a hla w sa ya;have K2:=fun w1 (b1:Below w.heap.size w w1)=>kO vb b hlb w1 (sb.below b1 yb) (yb.mono b1.size);clear sa sb ya yb;cases ha:mayL a with
 | false =>
  rw [ha] at K1;clear h ha;go_enter Tryz.func128,Tryz.ntmps128
  go_wp2_with fail
  refine K1.mono ?_;rintro e w1 ⟨rfl,b1⟩;go_wp2;go_ret2
  exact ⟨rfl,b1⟩
 | true =>
  have hb:mayL b=false:=by
   cases hb:mayL b with
   | false=>rfl
   | true=>exact absurd ⟨ha,hb⟩ h
  rw [ha] at K1;rw [hb] at K2;clear h ha hb;go_enter Tryz.func128,Tryz.ntmps128
  go_wp2_with fail
  refine K1.mono ?_;rintro e w1 ⟨rfl,b1⟩
  go_wp2_with fail
  refine (K2 w1 b1).mono ?_;rintro e w2 ⟨rfl,b2⟩;have B2:=hid (b1.trans (b2.mono b1.size));clear b1 b2 K1 K2;go_wp2;go_ret2
  exact ⟨rfl,B2.out⟩
theorem yK1 (va vb:Value) (a b:List En) (hla:a.length<=9223372036854775807) (hlb:b.length<=9223372036854775807) (w:World) (sa:SegN w va a) (ya:Lies w.heap.size va) (sb:SegN w vb b) (yb:Lies w.heap.size vb) :
  Calls Tryz.prog 128 #[va,vb] w fun e w' =>
   ∃ r,e=.returned (.tuple #[r,.int .i64 (jU a b:Nat)])/\SegN w' r (kK a b)/\zY4 w' r/\Below w.heap.size w w':=by
 by_cases h:mayL a=true/\mayL b=true
 ·by_cases h0:0<b.length
  ·obtain ⟨bb,off,c,rfl,hcc,hc⟩:=sb.some h0
   exact yK0 va a b bb off c h.1 h.2 h0 w sa ya (yb ⟨bb,off,none⟩ _ _ rfl h0) hc hcc
  ·obtain rfl:b=[]:=zP.1 (by omega)
   obtain ⟨p,c,rfl,_⟩:=sb.form;have a8:a.length<=8:=((qW a).1 h.1).1;have e1:jU a []=0:=by unfold jU;rw [if_pos h,if_pos (by exact a8)]
   have e2:kK a []=a:=by unfold kK;rw [if_pos e1];rfl
   rw [e1,e2];exact (yR1 va a p c h.1 w sa ya).mono fun e w' ⟨r,h1,h2,h3⟩=>⟨r,h1,h2.seg.1,⟨h2.seg.2,h2.ty⟩,h3⟩
 ·have e1:jU a b=4:=by unfold jU;rw [if_neg h]
  have e2:kK a b=[]:=by unfold kK;rw [e1];rfl
  rw [e1,e2];exact (yR2 va vb a b hla hlb h w sa ya sb yb).mono fun e w' ⟨h1,h2⟩=>⟨_,h1,SegN.nil _,⟨yT _ _ _,TyE.nil _ _ _⟩,h2⟩
open Go.Shelf
theorem Tryz.infoInt:(Tryz.prog.info? 3).map (fun i=>(i.zero,i.size,i.bytes))=some (some (.int .i64 0),1,8):=by kernel_rfl
theorem kD {k:IntKind} {x y:Int} (h:x=y):Ending.returned (.int k x)=.returned (.int k y):=by rw [h]
theorem zU5 (w:World) (p q:Nat):(w.drewN p).drewN q=w.drewN (p+q):=by simp
theorem zU6 {P:Program} {ops:Array Oper} {o:Oper} {a:Act} {w:World} {K:Act->World->Prop} {Q:Exit->Act->World->Prop} {E:Prop} (s x:Operand) (t:TypeId)
  (ho:o.op=.call { callee:=.builtin .append,args:=#[s,x],argTypes:=#[t,t] }) (ty:TypeId) (hty:o.type=ty) (v1 v2:Value) (hs:a.eval s=v1) (hx:a.eval x=v2) {v':Value} {w':World}
  (hr:(Builtin.append_ #[t,t] ty #[v1,v2]).run P w=.ok v' w') (hw:Region.wanted o (yielded ops a.tmps)=true) (h:K (a.put o.dst v') w'):if Region.wanted o (yielded ops a.tmps)=true then o.wp P a w K Q else E:=by
 rw [if_pos hw];unfold Oper.wp execOp;simp only [ho,resolve,invoke,builtin,Sem.run_bind,Sem.run_pure,Result.andThen_ok,List.map_toArray,List.map_cons,List.map_nil,hs,hx,hty,hr];exact h
namespace Un
variable {F:Nat->Prop} {w w' w'':World}
end Un
theorem kY {α:Type} (l:List α) (d:α) {k:Nat} (h:k<l.length):l.getD k d∈l:=by
 rw [zA,zB h];exact zH _
namespace LabP
def inB (x s:Nat):Bool:=x &&& s==x
theorem inB_eq (x s:Nat) (hx:x<256) (hs:s<256):(bits .andNot .i64 (x:Int) (s:Int)==0)=inB x s:=by
 unfold inB;rw [yM,beq_iff_eq,beq_iff_eq,yO0 x s hx hs]
theorem zZ4 (x s:Nat):inB x s=true ↔ ∀ k,x.testBit k=true->s.testBit k=true:=by
 unfold inB;rw [beq_iff_eq];constructor
 ·intro h k hk
  have e:=Nat.testBit_and x s k;rw [h,hk] at e;simpa using e.symm
 ·intro h
  apply Nat.eq_of_testBit_eq;intro k;rw [Nat.testBit_and];cases hx:x.testBit k with
  | false=>rfl
  | true=>rw [h k hx];rfl
theorem zG8 (s k:Nat):Plain.reads (s:Int) k=s.testBit k:=by
 unfold Plain.reads;rw [zK,Nat.testBit_eq_decide_div_mod_eq,yM,beq_iff_eq,decide_eq_true_iff]
theorem inB_one (s k:Nat):inB (2^k) s=Plain.reads (s:Int) k:=by
 rw [yM,zZ4,zG8];constructor
 ·intro h;exact h k (by simp [Nat.testBit_two_pow_self])
 ·intro h j hj
  have:k=j:=by
   rw [Nat.testBit_two_pow] at hj;simpa using hj
  subst this;exact h
theorem inB_two (s a b:Nat):inB (2^a ||| 2^b) s=(Plain.reads (s:Int) a&&Plain.reads (s:Int) b):=by
 rw [yM,zZ4,zQ,zG8,zG8];constructor
 ·intro h
  exact ⟨h a (by rw [Nat.testBit_or,Nat.testBit_two_pow_self];rfl),h b (by rw [Nat.testBit_or,Nat.testBit_two_pow_self];simp)⟩
 ·rintro ⟨h1,h2⟩ j hj
  rw [Nat.testBit_or,Nat.testBit_two_pow,Nat.testBit_two_pow] at hj;have:a=j\/b=j:=by simpa using hj
  rcases this with rfl|rfl
  ·exact h1
  ·exact h2
theorem xS9 (x n:Nat):inB x (2^n-1)=decide (x<2^n):=by
 unfold inB;rw [Nat.and_two_pow_sub_one_eq_mod,yM,beq_iff_eq,decide_eq_true_iff];constructor
 ·intro h
  have:=Nat.mod_lt x (Nat.two_pow_pos n);omega
 ·exact Nat.mod_eq_of_lt
theorem xN7 {k:Nat} (h:k<8):2^k<256:=zF (Nat.pow_lt_pow_right (by decide) h) (by decide)
theorem pow_le {k:Nat} (h:k<=8):2^k<=256:=Nat.pow_le_pow_right (by decide) h
theorem or_lt {a b:Nat} (ha:a<8) (hb:b<8):2^a ||| 2^b<256:=Nat.or_lt_two_pow (n:=8) (xN7 ha) (xN7 hb)
end LabP
theorem ma (a:Nat) (ha:a<256):(bits .andNot .i64 (a:Int) 255==0)=true:=beq_iff_eq.2 ((LabP.qW a (by omega) (by omega)).2 (by omega))
theorem ma_no (a:Int) (h1:-9223372036854775808<=a) (h2:a<=9223372036854775807) (ha:¬ (0<=a/\a<=255)):(bits .andNot .i64 a 255==0)=false :=
 beq_eq_false_iff_ne.2 (fun e=>ha ((LabP.qW a h1 (by omega)).1 e))
theorem zG9 (x s:Nat) (hx:x<256) (hs:s<256) (w:World) :
  Calls Tryz.prog 102 #[.int .i64 x,.int .i64 s] w fun e w'=>e=.returned (.bool (LabP.inB x s))/\w'=w:=by
 have e1:=ma x hx;have e2:=ma s hs;have e3:=LabP.inB_eq x s hx hs;go_enter Tryz.func102,Tryz.ntmps102
 go_wp2;go_ret
 exact ⟨rfl,rfl⟩
/-! ### Turns -/
/-! ### Numbers that came in -/
def Nums (w:World) (p:Option Addr) (l:List Int):Prop :=
 0<l.length->∃ b off,p=some ⟨b,off,none⟩/\b<w.heap.size/\∀ j,j<l.length->w.cell? ⟨b,off+j,none⟩=some (.int .i64 (l.getD j 0))
theorem Nums.grow {w w':World} {p:Option Addr} {l:List Int} (h:Nums w p l) (g:Below w.heap.size w w'):Nums w' p l:=fun h0=>by
 obtain ⟨b,off,rfl,hb,hc⟩:=h h0;exact ⟨b,off,rfl,zF hb g.size,fun j hj=>(g.cell (p:=⟨b,off+j,none⟩) hb).trans (hc j hj)⟩
/-! ### Entries, where a block of slices turns -/
theorem zZ5 {w:World} {v:Value} {l:List En} (h:SegN w v l) {g T m:Nat} {f:Nat->Value} (r:w.rowIs g T m f) (hf:∀ j,j<m->∃ p n c,f j=.slice p n c) (i:Nat) (x:Value):SegN (w.setCell ⟨g,i,none⟩ x) v l:=by
 rcases h with ⟨rfl,p1,c1,rfl⟩|⟨b1,o1,c1,rfl,hc1,g1⟩
 ·exact .inl ⟨rfl,p1,c1,rfl⟩
 ·refine .inr ⟨b1,o1,c1,rfl,hc1,fun j hj=>?_⟩
  have hne:b1≠g:=by
   rintro rfl;have c0:=(g1 j hj).c0;obtain ⟨c,hb,hs,hc⟩:=r;simp only [World.cell?,hb] at c0;by_cases hlt:o1+j*5<m
   ·obtain ⟨p,n,c',e⟩:=hf _ hlt
    rw [hc _ hlt,e] at c0;simp at c0
   ·rw [yI (by omega)] at c0
    simp at c0
  have e:(w.setCell ⟨g,i,none⟩ x).heap[b1]?=w.heap[b1]?:=zE w ⟨g,i,none⟩ x b1 hne;obtain ⟨d0,d1,d2,d3,d4⟩:=g1 j hj;exact ⟨by rw [<- d0];simp only [World.cell?,e],by rw [<- d1];simp only [World.cell?,e],by rw [<- d2];simp only [World.cell?,e],by rw [<- d3];simp only [World.cell?,e],by rw [<- d4];simp only [World.cell?,e]⟩
/-! ### A store -/
structure RowL (w:World) (g m:Nat) (s:Nat->List En) (f:Nat->Value):Prop where
 row:w.rowIs g 56 m f
 sg:∀ j,j<m->SegN w (f j) (s j)/\Lies w.heap.size (f j)
 ty:∀ j,j<m->TyE w (f j)
theorem RowL.slices {w:World} {g m:Nat} {s:Nat->List En} {f:Nat->Value} (h:RowL w g m s f):∀ j,j<m->∃ p n c,f j=.slice p n c:=fun j hj=>by
 obtain ⟨p,c,e,_⟩:=(h.sg j hj).1.form;exact ⟨p,_,c,e⟩
theorem RowL.grow {w w':World} {g m:Nat} {s:Nat->List En} {f:Nat->Value} (h:RowL w g m s f) (b:Below w.heap.size w w'):RowL w' g m s f :=
 ⟨h.row.of_block (b.block _ h.row.lt),fun j hj=>⟨(h.sg j hj).1.below b (h.sg j hj).2,(h.sg j hj).2.mono b.size⟩,fun j hj=>(h.ty j hj).below b⟩
theorem RowL.set {w:World} {g m:Nat} {s:Nat->List En} {f:Nat->Value} (h:RowL w g m s f) (i:Nat) {x:Value} {l:List En} (hx:SegN w x l) (hl:zY4 w x):RowL (w.setCell ⟨g,i,none⟩ x) g m (fun j=>if j=i then l else s j) (fun j=>if j=i then x else f j):=by
 have e:(w.setCell ⟨g,i,none⟩ x).heap.size=w.heap.size:=by simp
 refine ⟨h.row.set i x,fun j hj=>?_,fun j hj=>?_⟩
 case refine_2 =>
  by_cases hji:j=i
  ·rw [if_pos hji];exact hl.2.row h.row (by decide) i x
  ·rw [if_neg hji];exact (h.ty j hj).row h.row (by decide) i x
 rw [e];by_cases hji:j=i
 ·rw [if_pos hji,if_pos hji]
  exact ⟨zZ5 hx h.row h.slices i x,hl.1⟩
 ·rw [if_neg hji,if_neg hji]
  exact ⟨zZ5 (h.sg j hj).1 h.row h.slices i x,(h.sg j hj).2⟩
theorem RowL.congr {w:World} {g m:Nat} {s s':Nat->List En} {f:Nat->Value} (h:RowL w g m s f) (e:∀ j,j<m->s j=s' j):RowL w g m s' f :=
 ⟨h.row,fun j hj=>by rw [<- e j hj];exact h.sg j hj,h.ty⟩
theorem xF0 {w:World} {p:Option Addr} {l:List Int} (h:Nums w p l) {g T m:Nat} {f:Nat->Value} (r:w.rowIs g T m f) (hf:∀ j,j<m->∃ p n c,f j=.slice p n c) (i:Nat) (x:Value):Nums (w.setCell ⟨g,i,none⟩ x) p l:=fun h0=>by
 obtain ⟨b,off,e,hb,hc⟩:=h h0;refine ⟨b,off,e,by simpa using hb,fun j hj=>?_⟩;have hne:b≠g:=by
  rintro rfl;have c0:=hc j hj;obtain ⟨c,hb,hs,hcc⟩:=r;simp only [World.cell?,hb] at c0;by_cases hlt:off+j<m
  ·obtain ⟨p,n,c',e⟩:=hf _ hlt
   rw [hcc _ hlt,e] at c0;simp at c0
  ·rw [yI (by omega)] at c0
   simp at c0
 have e:(w.setCell ⟨g,i,none⟩ x).heap[b]?=w.heap[b]?:=zE w ⟨g,i,none⟩ x b hne;rw [<- hc j hj];simp only [World.cell?,e]
def stoF (who:Nat) (lp:Option Addr) (lc m H:Nat) (j:Nat):Value:=if j=0 then .int .i64 (who:Nat) else if j=1 then .slice lp m lc else .slice (some ⟨H,0,none⟩) m m
structure StI (R oo:Nat) (XX:Win) (H:Nat) (w:World) (who:Nat) (lp:Option Addr) (lc:Nat) (L:List Int) (s:Nat->List En):Prop where
 row:w.rowIs R XX.t XX.n (XX.f oo 3 (stoF who lp lc L.length H))
 hs:∃ f,RowL w H L.length s f
 lab:Nums w lp L
 le:oo+3<=XX.n
 ne:XX.t≠56
namespace StI
variable {R oo H lc:Nat} {XX:Win} {w w':World} {who:Nat} {lp:Option Addr} {L:List Int} {s s':Nat->List Plain.En}
theorem grow (h:StI R oo XX H w who lp lc L s) (b:Below w.heap.size w w'):StI R oo XX H w' who lp lc L s :=
 ⟨h.row.of_block (b.block _ h.row.lt),by obtain ⟨f,hf⟩:=h.hs;exact ⟨f,hf.grow b⟩,h.lab.grow b,h.le,h.ne⟩
theorem lt (h:StI R oo XX H w who lp lc L s):R<w.heap.size:=h.row.lt
theorem ltH (h:StI R oo XX H w who lp lc L s):H<w.heap.size:=by obtain ⟨f,hf⟩:=h.hs;exact hf.row.lt
theorem RH (h:StI R oo XX H w who lp lc L s):R≠H:=by
 rintro rfl;obtain ⟨f,hf⟩:=h.hs;obtain ⟨c,h1,_⟩:=h.row;obtain ⟨c',h2,_⟩:=hf.row;rw [h1] at h2;simp at h2;exact h.ne h2.2
theorem c0 (h:StI R oo XX H w who lp lc L s):w.cell? ⟨R,oo,none⟩=some (.int .i64 (who:Nat)):=Win.cell h.row h.le (i:=0) (by omega)
theorem c1 (h:StI R oo XX H w who lp lc L s):w.cell? ⟨R,oo+1,none⟩=some (.slice lp L.length lc):=Win.cell h.row h.le (i:=1) (by omega)
theorem c2 (h:StI R oo XX H w who lp lc L s):w.cell? ⟨R,oo+2,none⟩=some (.slice (some ⟨H,0,none⟩) L.length L.length):=Win.cell h.row h.le (i:=2) (by omega)
theorem has (h:StI R oo XX H w who lp lc L s) {j:Nat} (hj:j<L.length):∃ p c,w.cell? ⟨H,j,none⟩=some (.slice p (s j).length c)/\SegN w (.slice p (s j).length c) (s j)/\Lies w.heap.size (.slice p (s j).length c)/\w.frozen? ⟨H,j,none⟩=false:=by
 obtain ⟨f,hf⟩:=h.hs;obtain ⟨p,c,e,_⟩:=(hf.sg j hj).1.form;have h1:=hf.row.cell hj;have h2:=hf.sg j hj;rw [e] at h1 h2;exact ⟨p,c,h1,h2.1,h2.2,hf.row.frozen j⟩
theorem set (h:StI R oo XX H w who lp lc L s) {j:Nat} {x:Value} {l:List Plain.En} (hx:SegN w x l) (hl:zY4 w x) :
  StI R oo XX H (w.setCell ⟨H,j,none⟩ x) who lp lc L (fun b=>if b=j then l else s b):=by
 obtain ⟨f,hf⟩:=h.hs;exact ⟨h.row.of_block (zE w ⟨H,j,none⟩ x R h.RH),⟨_,hf.set j hx hl⟩,xF0 h.lab hf.row hf.slices j x,h.le,h.ne⟩
end StI
namespace Plain
def rfS (L:List Int) (who:Nat) (la ke:Int):Nat :=
 if (la<0\/(L.length:Int)<=la)\/(ke<0\/7<ke) then 2 else if reads (jM L la.toNat) who=false then 11 else 0
def valE (L:List Int) (who:Nat) (s:Nat->List En) (la ke:Int):Nat:=if rfS L who la ke≠0 then rfS L who la ke else if lives ke (s la.toNat)=false then 6 else 0
def valV (L:List Int) (who:Nat) (s:Nat->List En) (la ke:Int):Int:=if valE L who s la ke≠0 then 0 else match look ke (s la.toNat) with|some e=>e.value|none=>0
structure Sok (T:Int) (s:Nat->List En):Prop where
 srt:∀ j,Srt (s j)
 may:∀ j,∀ e∈s j,mayB e=true/\(0<=e.key/\e.key<8)/\e.time<=T/\e.value<=255
theorem Sok.len {T:Int} {s:Nat->List En} (h:Sok T s) (j:Nat):(s j).length<=8:=by
 have:=zX8 (h.srt j) 0 8 (fun e he=>(h.may j e he).2.1);simpa using this
theorem Sok.mayL {T:Int} {s:Nat->List En} (h:Sok T s) (j:Nat):mayL (s j)=true:=(qW _).2 ⟨h.len j,fun e he=>(h.may j e he).1,h.srt j⟩
def entW (l:List En) (ke va:Int) (who:Nat) (gone:Bool):En:=⟨ke,va,maxT l+1,who,gone⟩
theorem yE5 {T:Int} {s:Nat->List En} (h:Sok T s) (hT:0<=T/\T<1000000) {who:Nat} (hw:who<8) {ke va:Int} (hk:0<=ke/\ke<8) (hv:0<=va/\va<=255) {gone:Bool} (hg:gone=true->va=0) (j:Nat) :
  mayB (entW (s j) ke va who gone)=true/\Plain.mayL [entW (s j) ke va who gone]=true/\(xB (s j) [entW (s j) ke va who gone]).length<=8:=by
 have hm:=zX9 hT.1 (fun e he=>(h.may j e he).2.2.1);have hp:=yD3 (s j);have hb:mayB (entW (s j) ke va who gone)=true:=by
  unfold entW mayB;dsimp only;exact decide_eq_true ⟨by omega,by omega,by omega,by omega,hg⟩
 refine ⟨hb,(qW _).2 ⟨by simp,fun x hx=>?_,List.pairwise_singleton _ _⟩,?_⟩
 ·have hx':x=entW (s j) ke va who gone:=by simpa using hx
  rw [hx'];exact hb
 ·show (put (s j) (entW (s j) ke va who gone)).length<=8
  have:=zX8 (zX7 (h.srt j) (entW (s j) ke va who gone)) 0 8 (fun e he=>by
   rcases zM6 he with rfl|h1
   ·exact hk
   ·exact (h.may j e h1).2.1)
  simpa using this
theorem Sok.put {T:Int} {s:Nat->List En} (h:Sok T s) (hT:0<=T/\T<1000000) {who:Nat} (hw:who<8) {ke va:Int} (hk:0<=ke/\ke<8) (hv:0<=va/\va<=255) {gone:Bool} (hg:gone=true->va=0) (j:Nat) :
  Sok (T+1) (fun b=>if b=j then Plain.put (s j) (entW (s j) ke va who gone) else s b):=by
 have hm:=zX9 hT.1 (fun e he=>(h.may j e he).2.2.1);refine ⟨fun b=>?_,fun b e he=>?_⟩
 ·show Srt (if b=j then _ else s b)
  split
  ·exact zX7 (h.srt j) _
  ·exact h.srt b
 ·change e∈(if b=j then _ else s b) at he
  split at he
  ·rcases zM6 he with rfl|h1
   ·exact ⟨(yE5 h hT hw hk hv hg j).1,hk,by show maxT (s j)+1<=T+1;omega,hv.2⟩
   ·have:=h.may j e h1
    exact ⟨this.1,this.2.1,by omega,this.2.2.2⟩
  ·have:=h.may b e he
   exact ⟨this.1,this.2.1,by omega,this.2.2.2⟩
theorem yR3 {l:List En} (hs:Srt l) (k:Int):l.any (fun e=>e.key==k&&!e.gone)=lives k l:=by
 unfold lives;cases hl:look k l with
 | none =>
  dsimp only;rw [List.any_eq_false];intro x hx h;have h1:x.key=k:=by
   have:=(zQ _ _).mp h;simpa using this.1
  have:=zM5 hs hx;rw [h1,hl] at this;cases this
 | some e =>
  dsimp only;have hk:=kZ hl;cases hg:e.gone with
  | false =>
   exact List.any_eq_true.2 ⟨e,hk.2,by simp [hk.1,hg]⟩
  | true =>
   show l.any _=false;rw [List.any_eq_false];intro x hx h;have hh:=(zQ _ _).mp h;have h1:x.key=k:=by simpa using hh.1
   have:=zM5 hs hx;rw [h1,hl] at this;injection this with this;subst this;rw [hg] at hh;simp at hh
end Plain
theorem zN4 {x k:Int} (h:0<=x/\x<k) (w:World):Calls Tryz.prog 104 #[.int .i64 x,.int .i64 k] w fun e w'=>e=.returned (.bool true)/\w'=w:=by
 have h1:=h.1;have h2:=h.2;clear h;go_enter Tryz.func104,Tryz.ntmps104
 go_wp2;go_ret
 exact ⟨rfl,rfl⟩
theorem zZ6 {x k:Int} (h:¬ (0<=x/\x<k)) (w:World):Calls Tryz.prog 104 #[.int .i64 x,.int .i64 k] w fun e w'=>e=.returned (.bool false)/\w'=w:=by
 by_cases h1:0<=x
 ·have h2:¬ x<k:=fun e=>h ⟨h1,e⟩
  clear h;go_enter Tryz.func104,Tryz.ntmps104
  go_wp2;go_ret
  exact ⟨rfl,rfl⟩
 ·clear h
  go_enter Tryz.func104,Tryz.ntmps104
  go_wp2;go_ret
  exact ⟨rfl,rfl⟩
theorem yE6 (va vb:Value) (a b:List En) (ha:mayL a=true) (hb:mayL b=true) (h8:(xB a b).length<=8) (w:World) (sa:SegN w va a) (ya:Lies w.heap.size va) (sb:SegN w vb b) (yb:Lies w.heap.size vb) :
  Calls Tryz.prog 103 #[va,vb] w fun e w'=>∃ p c,e=.returned (.slice p (xB a b).length c)/\SegN w' (.slice p (xB a b).length c) (xB a b)/\zY4 w' (.slice p (xB a b).length c)/\Below w.heap.size w w':=by
 have a8:a.length<=8:=((qW a).1 ha).1;have b8:b.length<=8:=((qW b).1 hb).1;have e1:jU a b=0:=by unfold jU;rw [if_pos ⟨ha,hb⟩,if_pos h8]
 have e2:kK a b=xB a b:=by unfold kK;rw [if_pos e1]
 have K:=yK1 va vb a b (by omega) (by omega) w sa ya sb yb;rw [e1,e2] at K;clear e1 e2 a8 b8 ha hb sa sb ya yb;go_enter Tryz.func103,Tryz.ntmps103
 go_wp2_with fail
 refine K.mono ?_;rintro e w1 ⟨r,rfl,hs,hl,hb⟩;obtain ⟨p,c,rfl,_⟩:=hs.form;have HS:=hid hs;have HL:=hid hl;have HB:=hid hb;clear hs hl hb K;go_wp2;go_ret
 exact ⟨_,_,rfl,HS.out,HL.out,HB.out⟩
theorem Plain.maxT_take (l:List En) (k:Nat) (h:k<l.length):maxT (l.take (k+1))=max (maxT (l.take k)) (Plain.en l k).time:=by
 unfold maxT;rw [zO h,List.foldl_append,zM4 h];rfl
theorem zZ7 (b off c:Nat) (l:List En) (hb:l.length<=100) (h0:0<l.length) (w:World) (hlt:b<w.heap.size) (hc:qD w b off l) :
  Calls Tryz.prog 129 #[.slice (some ⟨b,off,none⟩) l.length c] w fun e w'=>e=.returned (.int .i64 (maxT l))/\Below w.heap.size w w':=by
 have HC:=hid hc;obtain ⟨n,hn⟩:∃ n,n=l.length:=⟨_,rfl⟩;rw [<- hn] at hb h0 ⊢;have HN:=hid hn;clear hc hn;go_enter Tryz.func129,Tryz.ntmps129
 go_wp2
 go_loopg [3,5,8] n (fun gg s3 _ s8 wx=>∃ (k:Nat) (t:Int),k<=n/\n-k<=gg/\s8=.int .i64 k/\s3=.int .i64 t/\Aside (t=maxT (l.take k))/\Aside (Below w.heap.size w wx))
 case atStart=>exact ⟨0,0,zG _,by omega,rfl,rfl,(show Aside _ from rfl),(show Aside _ from yO)⟩
 case round =>
  obtain ⟨k,t,hk,hg,rfl,rfl,HT,HB⟩:=hrel;by_cases hlk:k<n
  ·have hltz:(k:Int)<(n:Int):=by omega
   obtain ⟨c0,c1,c2,c3,c4⟩:=(HC.out k (by rw [<- HN.out];exact hlk)).below HB.out hlt;have HM:=hid (maxT_take l k (by rw [<- HN.out];exact hlk));generalize Plain.en l k=y at c0 c1 c2 c3 c4 HM;by_cases hty:t<y.time
   ·have HZ:=hid (show max t y.time=y.time by omega)
    go_wp2
    go_roundg (n-(k+1))
    case measure=>omega
    case rel=>exact ⟨k+1,y.time,by omega,by omega,by go_num,rfl,(show Aside _ from HM.out.trans (by rw [<- HT.out,HZ.out]) |>.symm),(show Aside _ from HB.out.alloc HB.out.size _)⟩
   ·have HZ:=hid (show max t y.time=t by omega)
    go_wp2
    go_roundg (n-(k+1))
    case measure=>omega
    case rel=>exact ⟨k+1,t,by omega,by omega,by go_num,rfl,(show Aside _ from HM.out.trans (by rw [<- HT.out,HZ.out]) |>.symm),(show Aside _ from HB.out.alloc HB.out.size _)⟩
  ·have hltz:¬ (k:Int)<(n:Int):=by omega
   have hk2:l.take k=l:=yB (by rw [<- HN.out];omega);have HT2:=hid (show t=maxT l by rw [HT.out,hk2]);clear hk2;go_wp2;go_ret
   exact ⟨by rw [HT2.out];rfl,HB.out⟩
theorem yK2 (p:Option Addr) (c:Nat) (w:World) :
  Calls Tryz.prog 129 #[.slice p 0 c] w fun e w'=>e=.returned (.int .i64 0)/\Below w.heap.size w w':=by
 go_enter Tryz.func129,Tryz.ntmps129
 go_wp2;refine wp_loop_rounds 1 ?_;rw [rounds_succ];go_wp2;go_ret
 exact ⟨rfl,yO⟩
theorem xF1 (v:Value) (l:List En) (hb:l.length<=100) (w:World) (hs:SegN w v l) (hl:Lies w.heap.size v) :
  Calls Tryz.prog 129 #[v] w fun e w'=>e=.returned (.int .i64 (maxT l))/\Below w.heap.size w w':=by
 by_cases h0:0<l.length
 ·obtain ⟨b,off,c,rfl,_,hc⟩:=hs.some h0
  exact zZ7 b off c l hb h0 w (hl ⟨b,off,none⟩ _ _ rfl h0) hc
 ·obtain rfl:l=[]:=zP.1 (by omega)
  obtain ⟨p,c,rfl,_⟩:=hs.form;exact yK2 p c w
theorem yE7 {L:List Int} (h:∀ x,x∈L->0<=x/\x<256) (j:Nat):∃ s:Nat,jM L j=(s:Int)/\s<256:=by
 unfold jM;by_cases hj:j<L.length
 ·have:=h _ (kY L 0 hj)
  exact ⟨(L.getD j 0).toNat,by omega,by omega⟩
 ·rw [zA,zN (by omega)]
  exact ⟨0,rfl,by omega⟩
theorem yE8 (R oo:Nat) (XX:Win) (H who:Nat) (lp:Option Addr) (lc:Nat) (L:List Int) (s:Nat->List En) (la ke:Int) (hw:who<8) (hL4:L.length<=4) (hL:∀ x,x∈L->0<=x/\x<256) (w:World) (h:StI R oo XX H w who lp lc L s) :
  Calls Tryz.prog 105 #[.pointer (some ⟨R,oo,none⟩),.int .i64 la,.int .i64 ke] w fun e w'=>e=.returned (.int .i64 (rfS L who la ke:Nat))/\Below w.heap.size w w':=by
 unfold rfS;have b1:=h.c1;by_cases hl:0<=la/\la<L.length
 case neg =>
  rw [if_pos (.inl (by omega))];have K:=fun W=>zZ6 hl W;clear h hL;generalize L.length=m at *;go_enter Tryz.func105,Tryz.ntmps105
  go_wp2_with (first|(go_at_call 104;refine (K _).mono ?_;rintro e w' ⟨rfl,rfl⟩)|fail)
  go_ret
  exact ⟨rfl,yO⟩
 by_cases hk:0<=ke/\ke<8
 case neg =>
  rw [if_pos (.inr (by omega))];have K1:=fun W=>zN4 hl W;have K2:=fun W=>zZ6 hk W;clear h hL;generalize L.length=m at *;go_enter Tryz.func105,Tryz.ntmps105
  go_wp2_with (first|(go_at_call_of 104 (Value.int .i64 la);refine (K1 _).mono ?_;rintro e w' ⟨rfl,rfl⟩)|(go_at_call_of 104 (Value.int .i64 ke);refine (K2 _).mono ?_;rintro e w' ⟨rfl,rfl⟩)|fail)
  go_ret
  exact ⟨rfl,yO⟩
 rw [if_neg (by omega)];have K1:=fun W=>zN4 hl W;have K2:=fun W=>zN4 hk W;obtain ⟨z,ez,hz⟩:=yE7 hL la.toNat;rw [ez];obtain ⟨lb,lo,rfl,hlb,hlc⟩:=h.lab (by omega);have lcell:=hlc la.toNat (by omega);rw [show L.getD la.toNat 0=jM L la.toNat from rfl,ez] at lcell;have b0:=h.c0;have KM:=fun W=>zG9 (2^who) z (LabP.xN7 hw) hz W;rw [LabP.inB_one] at KM;have hpz:((2^who:Nat):Int)=(2:Int)^who:=by simp
 have hp0:(0:Int)<=2^who:=Int.pow_nonneg (by decide);have hp:(2:Int)^who<=128:=by
  have h2:2^who<=2^7:=Nat.pow_le_pow_right (by decide) (by omega);omega
 rw [hpz] at KM;obtain ⟨r,hr⟩:∃ r,Plain.reads (z:Int) who=r:=⟨_,rfl⟩;rw [hr] at KM ⊢;obtain ⟨j,rfl⟩:∃ j:Nat,la=(j:Int):=⟨la.toNat,by omega⟩;rw [zK] at lcell;have hjz:(j:Int)<(L.length:Int):=hl.2;have HPW:=hid hpz;clear h hL hlc hr ez hpz;generalize L.length=m at *;go_enter Tryz.func105,Tryz.ntmps105
 go_wp2_with (first|(go_at_call_of 104 (Value.int .i64 (j:Int));refine (K1 _).mono ?_;rintro e w' ⟨rfl,rfl⟩)|(go_at_call_of 104 (Value.int .i64 ke);refine (K2 _).mono ?_;rintro e w' ⟨rfl,rfl⟩)|fail)
 go_quiet ((go_at_call 102;exact Calls.quiet_of_same (KM _)))
 cases r with
 | true =>
  go_wp2;go_ret
  exact ⟨rfl,below_drewN yO _⟩
 | false =>
  go_wp2;go_ret
  exact ⟨rfl,below_drewN yO _⟩
namespace Plain
def livB (k:Int) (e:En):Bool:=e.key==k&&!e.gone
def idxI (p:Int->Bool) (l:List Int):Int:=if l.findIdx p<l.length then (l.findIdx p:Nat) else -1
theorem zA6 (l:List Int) (k:Nat) (hk:k<l.length):l.getD k 0=l[k]:=by
 rw [zA,zB hk];rfl
theorem yE9 {p:Int->Bool} {l:List Int} {k:Nat} (hk:k<l.length) (h:p (l.getD k 0)=true) (ha:∀ j,j<k->p (l.getD j 0)=false):idxI p l=k:=by
 have e:l.findIdx p=k:=by
  rw [List.findIdx_eq hk];rw [zA6 _ _ hk] at h;refine ⟨h,fun j hj=>?_⟩;have:=ha j hj;rw [zA6 _ _ (by omega)] at this;exact this
 unfold idxI;rw [e,if_pos hk]
theorem zU7 {p:Int->Bool} {l:List Int} (ha:∀ j,j<l.length->p (l.getD j 0)=false):idxI p l=-1:=by
 have e:l.findIdx p=l.length:=List.findIdx_eq_length.2 fun x hx=>by
  obtain ⟨j,hj,rfl⟩:=List.getElem_of_mem hx;have:=ha j hj;rw [zA6 _ _ hj] at this;exact this
 unfold idxI;rw [e,if_neg (by omega)]
theorem yF0 (p:Int->Bool) (l:List Int):decide (0<=idxI p l)=l.any p:=by
 unfold idxI;by_cases h:l.findIdx p<l.length
 ·rw [if_pos h,List.any_eq_true.2 ⟨l[l.findIdx p],zH h,List.findIdx_getElem⟩]
  simp
 ·rw [if_neg h]
  have:l.any p=false:=by
   rw [List.any_eq_false];intro x hx hp;exact h (List.findIdx_lt_length_of_exists ⟨x,hx,hp⟩)
  rw [this];rfl
end Plain
theorem xF2 (x:En) (T:Nat) (k:Int) (w:World) (hT:T<w.heap.size) (c:w.cell? ⟨T,0,none⟩=some (.int .i64 k)) :
  Calls Tryz.prog 108 #[aggE x,.pointer (some ⟨T,0,none⟩)] w fun e w'=>e=.returned (.bool (livB k x))/\Below w.heap.size w w':=by
 have BW:=hid (show Below w.heap.size w (w.alloc (boxE x)) from yO.alloc yN _);have c':(w.alloc (boxE x)).cell? ⟨T,0,none⟩=some (.int .i64 k):=by rw [yJ _ _ _ hT];exact c
 obtain ⟨xk,xv,xt,xw,xg⟩:=x;have HL:=hid (show livB k ⟨xk,xv,xt,xw,xg⟩=(xk==k&&!xg) from rfl);have hne:¬ T=w.heap.size:=by omega
 have hne':¬ w.heap.size=T:=by omega
 cases hk:(xk==k) with
 | false =>
  have HR:=hid (show livB k ⟨xk,xv,xt,xw,xg⟩=false by rw [HL.out,hk];rfl);clear HL;go_enter Tryz.func108,Tryz.ntmps108
  go_wp2;go_ret
  exact ⟨by rw [HR.out];rfl,BW.out⟩
 | true =>
  have HR:=hid (show livB k ⟨xk,xv,xt,xw,xg⟩=!xg by rw [HL.out,hk];rfl);clear HL;go_enter Tryz.func108,Tryz.ntmps108
  go_wp2;go_ret
  exact ⟨by rw [HR.out];rfl,BW.out⟩
theorem xF3 (T:Nat) (kk:Int) (b off n c:Nat) (l:List En) (w:World) (hT:T<w.heap.size) (ct:w.cell? ⟨T,0,none⟩=some (.int .i64 kk)) (hn:l.length=n) (hbig:n<=9223372036854775807) (hb:0<n->b<w.heap.size) (hc:qD w b off l) :
  Calls Tryz.prog 107 #[.slice (some ⟨b,off,none⟩) n c,.func (.func 108) #[] #[.pointer (some ⟨T,0,none⟩)]] w fun e w'=>e=.returned (.int .i64 (Plain.idx (livB kk) l))/\Below w.heap.size w w':=by
 have HC:=hid hc;have HT:=hid ct;clear hc ct;go_enter Tryz.func107,Tryz.ntmps107
 go_wp2
 go_loopg [5,8] n (fun gg _ s8 wr=>∃ k:Nat,k<=n/\n-k<=gg/\s8=.int .i64 k/\Aside (Below w.heap.size w wr)/\Aside (∀ j,j<k->livB kk (Plain.en l j)=false))
 case atStart=>exact ⟨0,zG _,by omega,rfl,Below.refl _ w,fun j hj=>absurd hj (yE _)⟩
 case round =>
  obtain ⟨k,hkk,hg,rfl,BW,A⟩:=hrel;by_cases hlt:k<n
  ·have hltz:(k:Int)<(n:Int):=by omega
   obtain ⟨c0,c1,c2,c3,c4⟩:=(HC.out k (by omega)).below BW.out (hb (by omega));have hcall:=xF2 (Plain.en l k) T kk wr (zF hT BW.out.size) ((BW.out.cell (p:=⟨T,0,none⟩) hT).trans HT.out);generalize hy:Plain.en l k=y at c0 c1 c2 c3 c4 hcall;have HY:Aside (Plain.en l k=y):=hy;clear hy;cases hq:livB kk y with
   | true =>
    rw [hq] at hcall
    go_wp2_with fail
    refine hcall.mono ?_;rintro e w' ⟨rfl,hb'⟩;have HB':=hid (BW.out.trans (hb'.mono BW.out.size));clear hcall hb';go_wp2;go_ret
    refine ⟨?_,HB'.out⟩;rw [yO5 (by omega) (by rw [HY.out];exact hq) A.out];rfl
   | false =>
    rw [hq] at hcall
    go_wp2_with fail
    refine hcall.mono ?_;rintro e w' ⟨rfl,hb'⟩;have HB':=hid (BW.out.trans (hb'.mono BW.out.size));clear hcall hb';go_wp2
    go_roundg (n-(k+1))
    case measure=>omega
    case rel =>
     refine ⟨k+1,by omega,by omega,by go_num,HB'.out,(show Aside _ from fun j hj=>?_)⟩;by_cases e:j=k
     ·subst e
      rw [HY.out];exact hq
     ·exact A.out j (by omega)
  ·have hltz:¬ (k:Int)<(n:Int):=by omega
   have:k=n:=by omega
   subst this;go_wp2;go_ret
   refine ⟨?_,BW.out⟩;rw [yD5 (fun j hj=>A.out j (by omega))];rfl
theorem qD4 (T:Nat) (kk:Int) (v:Value) (l:List En) (w:World) (hT:T<w.heap.size) (ct:w.cell? ⟨T,0,none⟩=some (.int .i64 kk)) (hbig:l.length<=9223372036854775807) (hs:SegN w v l) (hl:Lies w.heap.size v) :
  Calls Tryz.prog 107 #[v,.func (.func 108) #[] #[.pointer (some ⟨T,0,none⟩)]] w fun e w'=>e=.returned (.int .i64 (Plain.idx (livB kk) l))/\Below w.heap.size w w':=by
 rcases hs with ⟨rfl,q,c,rfl⟩|⟨b,off,c,rfl,_,hc⟩
 ·exact (zT2 q c _ w).mono fun e w' ⟨h1,h2⟩=>⟨by rw [h1];rfl,by rw [h2];exact yO⟩
 ·exact xF3 T kk b off l.length c l w hT ct rfl hbig (fun h=>hl ⟨b,off,none⟩ _ _ rfl h) hc
namespace Plain
theorem yR4 {l:List En} (hs:Srt l) (k:Int):(idx (livB k) l<0/\lives k l=false)\/∃ j:Nat,j<l.length/\idx (livB k) l=(j:Int)/\lives k l=true/\look k l=some (en l j):=by
 have ha:l.any (livB k)=lives k l:=yR3 hs k;have hd:=yO6 (livB k) l;by_cases h:l.findIdx (livB k)<l.length
 ·refine .inr ⟨l.findIdx (livB k),h,?_,?_,?_⟩
  ·unfold idx;rw [if_pos h]
  ·rw [<- ha]
   exact List.any_eq_true.2 ⟨l[l.findIdx (livB k)],zH h,List.findIdx_getElem⟩
  ·have hp:livB k l[l.findIdx (livB k)]=true:=List.findIdx_getElem
   have hk:(l[l.findIdx (livB k)]).key=k:=by
    have hp':((l[l.findIdx (livB k)]).key==k&&!(l[l.findIdx (livB k)]).gone)=true:=hp;exact beq_iff_eq.1 ((zQ _ _).mp hp').1
   have:=zM5 hs (zH h);rw [hk] at this;rw [this,zM4 h]
 ·refine .inl ⟨?_,?_⟩
  ·unfold idx;rw [if_neg h];decide
  ·rw [<- ha,List.any_eq_false]
   intro x hx hp;exact h (List.findIdx_lt_length_of_exists ⟨x,hx,hp⟩)
end Plain
theorem xT0 (R oo:Nat) (XX:Win) (H who:Nat) (lp:Option Addr) (lc:Nat) (L:List Int) (s:Nat->List En) (la ke T:Int) (hw:who<8) (hL4:L.length<=4) (hL:∀ x,x∈L->0<=x/\x<256) (hS:Sok T s) (w:World) (h:StI R oo XX H w who lp lc L s) :
  Calls Tryz.prog 83 #[.pointer (some ⟨R,oo,none⟩),.int .i64 la,.int .i64 ke] w fun e w'=>e=.returned (.tuple #[.int .i64 (valV L who s la ke),.int .i64 (valE L who s la ke:Nat)])/\Below w.heap.size w w':=by
 have hmf:∀ (fn:Fn) (first cap:Array Value) (w:World),(Instr.makeFunc fn first cap).run Tryz.prog w=.ok (.func fn first cap) w:=fun _ _ _ _=>rfl;obtain ⟨WA,hWA⟩:∃ WA,WA=w.alloc (.cells #[.int .i64 ke] 3):=⟨_,rfl⟩;have BA:=hid (show Below w.heap.size w WA by rw [hWA];exact yO.alloc yN _);have ck:WA.cell? ⟨w.heap.size,0,none⟩=some (.int .i64 ke):=by rw [hWA,zM _ _ _ _ rfl];rfl
 have hTA:w.heap.size<WA.heap.size:=by rw [hWA];simp
 have K0:=yE8 R oo XX H who lp lc L s la ke hw hL4 hL WA (h.grow BA.out);by_cases hrf:rfS L who la ke≠0
 ·have HV:=hid (show valE L who s la ke=rfS L who la ke by unfold valE;rw [if_pos hrf])
  have HW:=hid (show valV L who s la ke=0 by unfold valV;rw [HV.out,if_pos hrf]);rw [HV.out,HW.out];clear HV HW h hS hL;generalize rfS L who la ke=E at *;have hE:((E:Int) != 0)=true:=by simpa using hrf
  go_enter Tryz.func83,Tryz.ntmps83
  go_wp2_with fail
  rw [<- hWA];clear hWA;refine K0.mono ?_;rintro e w1 ⟨rfl,b1⟩;have B1:=hid (BA.out.trans (b1.mono BA.out.size));clear K0 b1 BA;go_wp2;go_ret2
  exact ⟨rfl,B1.out⟩
 have hr0:rfS L who la ke=0:=Classical.not_not.1 hrf;rw [hr0] at K0;have hin:(0<=la/\la<L.length)/\(0<=ke/\ke<8):=by
  unfold rfS at hr0;by_cases x:(la<0\/(L.length:Int)<=la)\/(ke<0\/7<ke)
  ·rw [if_pos x] at hr0;omega
  ·omega
 obtain ⟨j,rfl⟩:∃ j:Nat,la=(j:Int):=⟨la.toNat,by omega⟩;have hj:j<L.length:=by omega
 have hjz:(j:Int)<(L.length:Int):=by omega
 have HE:=hid (show valE L who s (j:Int) ke=if lives ke (s j)=false then 6 else 0 by unfold valE;rw [if_neg hrf,zK]);have HI:=hid (yR4 (hS.srt j) ke);have l8:=hS.len j;have HH:=hid h;clear hrf hr0 hS hL h hin;obtain ⟨m,hm⟩:∃ m,m=L.length:=⟨_,rfl⟩;have HM:=hid hm;rw [<- hm] at hjz;clear hm;go_enter Tryz.func83,Tryz.ntmps83
 go_wp2_with fail
 rw [<- hWA];clear hWA;refine K0.mono ?_;rintro e w1 ⟨rfl,b1⟩;have B1:=hid (BA.out.trans (b1.mono BA.out.size));have H1:=HH.out.grow B1.out;have x2:=H1.c2;rw [<- HM.out] at x2;obtain ⟨p,c,xj,sg,ly,_⟩:=H1.has hj;have ck1:=(b1.cell (p:=⟨w.heap.size,0,none⟩) hTA).trans ck;have KI:=qD4 w.heap.size ke (.slice p (s j).length c) (s j) w1 (zF hTA b1.size) ck1 (by omega) sg ly;have SG:=hid sg;have LY:=hid ly;clear K0 b1 BA H1 sg ly ck hTA HH;rcases HI.out with ⟨hneg,hlv⟩|⟨i,hi,hix,hlv,hlk⟩
 ·have HF:=hid (show valE L who s (j:Int) ke=6 by rw [HE.out,if_pos hlv])
  have HG:=hid (show valV L who s (j:Int) ke=0 by unfold valV;rw [HF.out,if_pos (by decide)]);clear HE HI hlv;generalize Plain.idx (livB ke) (s j)=ix at *;generalize (s j).length=ln at *
  go_wp2_with fail
  refine KI.mono ?_;rintro e w2 ⟨rfl,b2⟩;have B2:=hid (B1.out.trans (b2.mono B1.out.size));clear KI b2 B1 SG LY;go_wp2;go_ret2
  exact ⟨by rw [HF.out,HG.out];rfl,B2.out⟩
 ·have HF:=hid (show valE L who s (j:Int) ke=0 by rw [HE.out,if_neg (by rw [hlv];decide)])
  have HG:=hid (show valV L who s (j:Int) ke=(Plain.en (s j) i).value by unfold valV;rw [HF.out,if_neg (by decide),zK,hlk]);rw [hix] at KI;clear HE HI hlv hlk hix;obtain ⟨b,off,c',e',hb,hcc⟩:=SG.out.some (by omega);injection e' with e1 e2 e3;subst e1;have hlt:=LY.out ⟨b,off,none⟩ _ _ rfl (by omega);have CC:=hid (hcc i hi);obtain ⟨V,hV⟩:∃ V,V=(Plain.en (s j) i).value:=⟨_,rfl⟩;have HVV:=hid hV;have hiz:(i:Int)<((s j).length:Int):=by omega
  have hi0:¬ (i:Int)<0:=by omega
  have LT:=hid hlt;clear hV hcc e3 hlt hb SG LY;generalize (s j).length=ln at *
  go_wp2_with fail
  refine KI.mono ?_;rintro e w2 ⟨rfl,b2⟩;have B2:=hid (B1.out.trans (b2.mono B1.out.size));have y1:=(CC.out.below b2 LT.out).c1;rw [<- HVV.out] at y1;clear KI b2 B1 CC LT;go_wp2;go_ret2
  exact ⟨by rw [HF.out,HG.out,<- HVV.out];rfl,B2.out⟩
/-! ### The literal of Play -/
def enF (e:En) (j:Nat):Value:=if j=0 then .int .i64 e.key else if j=1 then .int .i64 e.value else if j=2 then .int .i64 e.time else if j=3 then .int .i64 e.who else .bool e.gone
theorem xF4 (w:World) (e:En):(w.alloc (boxE e)).rowIs w.heap.size 75 5 (enF e):=by
 refine yK _ _ 75 _ fun i hi=>?_;have hi4:i<5:=hi;have:i=0\/i=1\/i=2\/i=3\/i=4:=by omega
 rcases this with rfl|rfl|rfl|rfl|rfl<;>rfl
theorem yK3 {w:World} {b:Nat} {e:En} (h:w.rowIs b 75 5 (enF e)):CellN w b 0 e :=
 ⟨h.cell (i:=0) (by omega),h.cell (i:=1) (by omega),h.cell (i:=2) (by omega),h.cell (i:=3) (by omega),h.cell (i:=4) (by omega)⟩
theorem xT1 {w:World} {b:Nat} {ke va t0 w0 t1 w1:Int} {g:Bool} (h:w.rowIs b 75 5 (enF ⟨ke,va,t0,w0,g⟩)):((w.setCell ⟨b,2,none⟩ (.int .i64 t1)).setCell ⟨b,3,none⟩ (.int .i64 w1)).rowIs b 75 5 (enF ⟨ke,va,t1,w1,g⟩):=by
 refine ((h.set 2 _).set 3 _).congr fun j hj=>?_;have:j=0\/j=1\/j=2\/j=3\/j=4:=by omega
 rcases this with rfl|rfl|rfl|rfl|rfl<;>rfl
namespace Plain
def wrE (L:List Int) (who:Nat) (la ke va:Int):Nat:=if va<0\/255<va then 2 else rfS L who la ke
def wrS (L:List Int) (who:Nat) (s:Nat->List En) (la ke va:Int):Nat->List En:=if wrE L who la ke va≠0 then s else fun b=>if b=la.toNat then put (s la.toNat) (entW (s la.toNat) ke va who false) else s b
end Plain
def PutP (R oo:Nat) (XX:Win) (H who:Nat) (lp:Option Addr) (lc:Nat) (L:List Int) (s:Nat->List En) (w w':World):Prop :=
 StI R oo XX H w' who lp lc L s/\Kp (fun _=>False) H w w'
theorem put_c (R oo:Nat) (XX:Win) (H who:Nat) (lp:Option Addr) (lc:Nat) (L:List Int) (s:Nat->List En) (j:Nat) (ke va T:Int) (gone:Bool) (hw:who<8) (_hL4:L.length<=4) (hj:j<L.length) (hT:0<=T/\T<1000000) (hk:0<=ke/\ke<8) (hv:0<=va/\va<=255) (hg:gone=true->va=0) (hS:Sok T s) (w:World) (h:StI R oo XX H w who lp lc L s) :
  Calls Tryz.prog 106 #[.pointer (some ⟨R,oo,none⟩),.int .i64 (j:Int),aggE ⟨ke,va,0,0,gone⟩] w fun e w'=>e=.returned (.tuple #[])/\PutP R oo XX H who lp lc L (fun b=>if b=j then Plain.put (s j) (entW (s j) ke va who gone) else s b) w w':=by
 obtain ⟨WA,hWA⟩:∃ WA,WA=w.alloc (boxE ⟨ke,va,0,0,gone⟩):=⟨_,rfl⟩;have BA:=hid (show Below w.heap.size w WA by rw [hWA];exact yO.alloc yN _);have RA:=hid (show WA.rowIs w.heap.size 75 5 (enF ⟨ke,va,0,0,gone⟩) by rw [hWA];exact xF4 w _);have H0:=h.grow BA.out;obtain ⟨hb1,hb2,hb3⟩:=yE5 hS hT hw hk hv hg j;have hmx0:=yD3 (s j);have hmx1:=zX9 (l:=s j) hT.1 (fun e he=>(hS.may j e he).2.2.1);have l8:=hS.len j;have hml:=hS.mayL j;obtain ⟨p,c,xjw,sg,ly,_⟩:=h.has hj;have xj:WA.cell? ⟨H,j,none⟩=some (.slice p (s j).length c):=(BA.out.cell (p:=⟨H,j,none⟩) h.ltH).trans xjw;have x2:=H0.c2;have hjz:(j:Int)<(L.length:Int):=by omega
 have HH:=hid h;have SG:=hid sg;have LY:=hid ly;have HB2:=hid hb2;have HB3:=hid hb3;have HML:=hid hml;obtain ⟨m,hm⟩:∃ m,m=L.length:=⟨_,rfl⟩;have HM:=hid hm;rw [<- hm] at x2 hjz;have HJ:=hid hj;have KL:=xF1 (.slice p (s j).length c) (s j) (by omega) WA.drew (sg.below (below_drewN BA.out 1) ly) (ly.mono BA.out.size);obtain ⟨mx,hmx⟩:∃ mx,mx=maxT (s j):=⟨_,rfl⟩;rw [<- hmx] at KL hmx0 hmx1;have HMX:=hid hmx;rw [hWA] at xj x2;clear h hS hb1 hb2 hb3 hml H0 sg ly hm hmx hj hv hg hk xjw;obtain ⟨ln,hln⟩:∃ ln,ln=(s j).length:=⟨_,rfl⟩;have HLN:=hid hln;rw [<- hln] at xj KL l8 SG LY;clear hln;go_enter Tryz.func106,Tryz.ntmps106
 go_upto_region 2 with fail
 rw [<- hWA] at xj x2 ⊢;clear hWA xj x2;have HA:=hid (HH.out.grow BA.out);have r0:WA.drew.cell? ⟨R,oo,none⟩=some (.int .i64 (who:Nat)):=HA.out.c0;have hRn:¬ R=w.heap.size:=by have:=HH.out.lt;omega
 have hRm:¬ w.heap.size=R:=by omega
 have hwr:IntKind.i64.wrap (mx+1)=mx+1:=by rw [IntKind.wrap_i64];omega
 go_region_held3 (fun w'=>w'.cell? ⟨R,oo,none⟩=some (.int .i64 (who:Nat))) (go_keep)
  ((go_at_call 129;refine KL.mono ?_;rintro e W5 ⟨rfl,b5⟩;have B5:=hid (show Below WA.heap.size WA W5 from (below_drewN yO 1).trans b5);clear b5;have H5:=hid (HA.out.grow B5.out);have r05:=H5.out.c0;have R5:=hid (RA.out.of_block (B5.out.block _ RA.out.lt));have y2:=R5.out.cell (i:=2) (by omega);have y3:=R5.out.cell (i:=3) (by omega);have z2:=R5.out.frozen 2;have z3:=R5.out.frozen 3))
 all_goals
  obtain ⟨W6,hW6⟩:∃ W6,W6=(W5.setCell ⟨w.heap.size,2,none⟩ (.int .i64 (mx+1))).setCell ⟨w.heap.size,3,none⟩ (.int .i64 (who:Nat)):=⟨_,rfl⟩;rw [<- hW6];have R6:=hid (show W6.rowIs w.heap.size 75 5 (enF ⟨ke,va,mx+1,(who:Nat),gone⟩) by rw [hW6];exact xT1 R5.out);have B6:=hid (show Below w.heap.size w W6 by rw [hW6];exact ((BA.out.trans (B5.out.mono BA.out.size)).setCell yN _).setCell yN _);have H6:=hid (HH.out.grow B6.out);clear hW6 R5 H5 B5 y2 y3 z2 z3 r05 r0 KL HA RA;have q2:W6.cell? ⟨R,oo+2,none⟩=some (.slice (some ⟨H,0,none⟩) m m):=by rw [HM.out];exact H6.out.c2
  obtain ⟨EE,hEE⟩:∃ EE:En,EE=⟨ke,va,mx+1,(who:Nat),gone⟩:=⟨_,rfl⟩;have HEE:=hid (show entW (s j) ke va who gone=EE by rw [hEE];unfold entW;rw [<- HMX.out]);have HER:=hid hEE;rw [<- hEE] at R6;clear hEE;obtain ⟨y0,y1,y2,y3,y4⟩:=yK3 R6.out;simp only [Nat.zero_add] at y1 y2 y3 y4;obtain ⟨_,_,xj6,_,_,fz6⟩:=H6.out.has HJ.out;have FZ:=hid fz6;have hHlt:H<W6.heap.size:=H6.out.ltH;have hRlt:R<W6.heap.size:=H6.out.lt;have hmlt:=R6.out.lt;have hHR:¬ H=R:=fun e=>H6.out.RH e.symm;have hRH:¬ R=H:=H6.out.RH;have hHb:¬ H=w.heap.size:=by have:=HH.out.ltH;omega
  have hbH:¬ w.heap.size=H:=fun e=>hHb e.symm;have bC:=hid (show Below W6.heap.size W6 (W6.alloc (boxE EE)).drew from (yO.alloc yN _).drew);have CX:CellN (W6.alloc (boxE EE)).drew W6.heap.size 0 EE:=(yR0 W6 EE).below (B:=W6.heap.size+1) (yO.drew) (by omega);have hx:W6.heap.size<(W6.alloc (boxE EE)).drew.heap.size:=by show W6.heap.size<(W6.alloc _).heap.size;simp
  have KM2:=hid (yE6 (.slice p ln c) (.slice (some ⟨W6.heap.size,0,none⟩) 1 1) (s j) [EE] HML.out (by rw [<- HEE.out];exact HB2.out) (by rw [<- HEE.out];exact HB3.out) (W6.alloc (boxE EE)).drew (SG.out.below (B6.out.trans (bC.out.mono B6.out.size)) LY.out) (LY.out.mono (zI B6.out.size bC.out.size)) (.inr ⟨W6.heap.size,0,1,rfl,yN,fun q hq=>by have:q=0:=(by simp at hq;omega);subst this;exact CX⟩) (qF hx));have HFIN:=hid (fun w' (r:Value) (h1:SegN w' r (xB (s j) [EE])) (h2:zY4 w' r) (b:Below W6.heap.size W6 w')=>show PutP R oo XX H who lp lc L (fun b=>if b=j then Plain.put (s j) (entW (s j) ke va who gone) else s b) w (w'.setCell ⟨H,j,none⟩ r) from
   ⟨by rw [HEE.out];exact (H6.out.grow b).set h1 h2,(Kp.of_below (B6.out.trans (b.mono B6.out.size))).trans (Kp.setR _ _)⟩)
  clear CX hx fz6 xj6;obtain ⟨nl,hnl⟩:∃ nl,nl=(xB (s j) [EE]).length:=⟨_,rfl⟩;rw [<- hnl] at KM2;clear hnl;obtain ⟨ek,ev,et,eo,eg⟩:=EE;dsimp only at y0 y1 y2 y3 y4;go_wp2
  go_region_held3 (fun w'=>w'.cell? ⟨R,oo+2,none⟩=some (.slice (some ⟨H,0,none⟩) m m)/\w'.cell? ⟨w.heap.size,0,none⟩=some (.int .i64 ek)/\w'.cell? ⟨w.heap.size,1,none⟩=some (.int .i64 ev)/\w'.cell? ⟨w.heap.size,2,none⟩=some (.int .i64 et)/\w'.cell? ⟨w.heap.size,3,none⟩=some (.int .i64 eo)/\w'.cell? ⟨w.heap.size,4,none⟩=some (.bool eg)) (go_keep)
   ((go_at_call 103;refine KM2.out.mono ?_;rintro e w' ⟨pr,cr,rfl,hs,hl,b⟩;have BB:=hid (bC.out.trans (b.mono bC.out.size));have HS:=hid hs;have HL2:=hid hl;have q2':=(BB.out.cell (p:=⟨R,oo+2,none⟩) hRlt).trans q2;have f1:=(BB.out.cell (p:=⟨w.heap.size,0,none⟩) hmlt).trans y0;have f2:=(BB.out.cell (p:=⟨w.heap.size,1,none⟩) hmlt).trans y1;have f3:=(BB.out.cell (p:=⟨w.heap.size,2,none⟩) hmlt).trans y2;have f4:=(BB.out.cell (p:=⟨w.heap.size,3,none⟩) hmlt).trans y3;have f5:=(BB.out.cell (p:=⟨w.heap.size,4,none⟩) hmlt).trans y4;obtain ⟨_,_,xjj,_,_,fz⟩:=(H6.out.grow BB.out).has HJ.out;clear b hs hl))
  all_goals
   go_end0
   exact ⟨rfl,HFIN.out _ _ HS.out HL2.out BB.out⟩
theorem xT2 (R oo:Nat) (XX:Win) (H who:Nat) (lp:Option Addr) (lc:Nat) (L:List Int) (s:Nat->List En) (la ke va T:Int) (hw:who<8) (hL4:L.length<=4) (hL:∀ x,x∈L->0<=x/\x<256) (hT:0<=T/\T<1000000) (hS:Sok T s) (w:World) (h:StI R oo XX H w who lp lc L s) :
  Calls Tryz.prog 82 #[.pointer (some ⟨R,oo,none⟩),.int .i64 la,.int .i64 ke,.int .i64 va] w fun e w'=>e=.returned (.int .i64 (wrE L who la ke va:Nat))/\PutP R oo XX H who lp lc L (wrS L who s la ke va) w w':=by
 unfold wrE wrS wrE;by_cases hv:0<=va/\va<256
 case neg =>
  rw [if_pos (by omega),if_pos (by decide)];have K:=fun W=>zZ6 hv W;have HP:=hid (show PutP R oo XX H who lp lc L s w w from ⟨h,Kp.refl _ _ _⟩);clear h hS hL;go_enter Tryz.func82,Tryz.ntmps82
  go_wp2_with (first|(go_at_call 104;refine (K _).mono ?_;rintro e wx ⟨rfl,hx⟩;have hy:=hx.symm;clear hx;subst hy)|fail)
  go_ret
  exact ⟨rfl,HP.out⟩
 rw [if_neg (by omega)];have K:=fun W=>zN4 hv W;have KR:=yE8 R oo XX H who lp lc L s la ke hw hL4 hL w h;by_cases hrf:rfS L who la ke≠0
 ·rw [if_pos hrf]
  have HP:=hid (fun w' (b:Below w.heap.size w w')=>show PutP R oo XX H who lp lc L s w w' from ⟨h.grow b,Kp.of_below b⟩);clear h hS hL;generalize rfS L who la ke=E at *;have hE:((E:Int) != 0)=true:=by simpa using hrf
  go_enter Tryz.func82,Tryz.ntmps82
  go_wp2_with (first|(go_at_call 104;refine (K _).mono ?_;rintro e wx ⟨rfl,hx⟩;have hy:=hx.symm;clear hx;subst hy)|fail)
  refine KR.mono ?_;rintro e w1 ⟨rfl,b1⟩;have HP1:=hid (HP.out w1 b1);clear KR b1 HP;go_wp2;go_ret
  exact ⟨rfl,HP1.out⟩
 rw [if_neg hrf];have hr0:rfS L who la ke=0:=Classical.not_not.1 hrf;rw [hr0] at KR;rw [hr0];have hin:(0<=la/\la<L.length)/\(0<=ke/\ke<8):=by
  unfold rfS at hr0;by_cases x:(la<0\/(L.length:Int)<=la)\/(ke<0\/7<ke)
  ·rw [if_pos x] at hr0;omega
  ·omega
 obtain ⟨j,rfl⟩:∃ j:Nat,la=(j:Int):=⟨la.toNat,by omega⟩;rw [zK];have KP:=fun W (b:Below w.heap.size w W)=>put_c R oo XX H who lp lc L s j ke va T false hw hL4 (by omega) hT hin.2 (by omega) (fun e=>by cases e) hS W (h.grow b);clear h hS hL hrf hr0 hin;go_enter Tryz.func82,Tryz.ntmps82
 go_wp2_with (first|(go_at_call 104;refine (K _).mono ?_;rintro e wx ⟨rfl,hx⟩;have hy:=hx.symm;clear hx;subst hy)|fail)
 refine KR.mono ?_;rintro e w1 ⟨rfl,b1⟩;have KP1:=KP w1 b1;have B1:=hid b1;clear KR b1 KP
 go_wp2_with fail
 refine KP1.mono ?_;rintro e w2 ⟨rfl,hst,hkp⟩;have HP:=hid (show PutP R oo XX H who lp lc L _ w w2 from ⟨hst,(Kp.of_below B1.out).trans hkp⟩);clear KP1 hst hkp;go_wp2;go_ret
 exact ⟨rfl,HP.out⟩
namespace Plain
def heaK (L:List Int) (frm who:Nat) (s t:Nat->List En) (k:Nat):Nat->List En:=fun j=>if j<k/\(reads (jM L j) frm=true/\reads (jM L j) who=true) then xB (s j) (t j) else s j
theorem yR5 (L:List Int) (frm who:Nat) (s t:Nat->List En):heaK L frm who s t 0=s:=by
 funext j
 unfold heaK;rw [if_neg (by omega)]
theorem xT3 (L:List Int) (frm who:Nat) (s t:Nat->List En) (k:Nat):heaK L frm who s t k k=s k:=by
 unfold heaK;rw [if_neg (by omega)]
theorem xT4 {L:List Int} {frm who:Nat} (s t:Nat->List En) {k:Nat} (h:¬ (reads (jM L k) frm=true/\reads (jM L k) who=true)):heaK L frm who s t (k+1)=heaK L frm who s t k:=by
 funext j
 unfold heaK;by_cases e:j=k
 ·subst e
  rw [if_neg (fun x=>h x.2),if_neg (fun x=>h x.2)]
 ·by_cases c:j<k/\(reads (jM L j) frm=true/\reads (jM L j) who=true)
  ·rw [if_pos c,if_pos ⟨by omega,c.2⟩]
  ·rw [if_neg c,if_neg (fun x=>c ⟨by omega,x.2⟩)]
theorem xF5 {L:List Int} {frm who:Nat} (s t:Nat->List En) {k:Nat} (h:reads (jM L k) frm=true/\reads (jM L k) who=true):heaK L frm who s t (k+1)=fun b=>if b=k then xB (s k) (t k) else heaK L frm who s t k b:=by
 funext j
 unfold heaK;by_cases e:j=k
 ·subst e
  rw [if_pos ⟨by omega,h⟩,if_pos rfl]
 ·rw [if_neg e]
  by_cases c:j<k/\(reads (jM L j) frm=true/\reads (jM L j) who=true)
  ·rw [if_pos c,if_pos ⟨by omega,c.2⟩]
  ·rw [if_neg c,if_neg (fun x=>c ⟨by omega,x.2⟩)]
theorem Sok.merge {T:Int} {s t:Nat->List En} (h:Sok T s) (g:Sok T t) (k:Nat):(xB (s k) (t k)).length<=8/\Srt (xB (s k) (t k))/\∀ e∈xB (s k) (t k),mayB e=true/\(0<=e.key/\e.key<8)/\e.time<=T/\e.value<=255:=by
 have hs:=zS9 (h.srt k) (t k);have hm:∀ e∈xB (s k) (t k),mayB e=true/\(0<=e.key/\e.key<8)/\e.time<=T/\e.value<=255:=fun e he=>by
  rcases yO2 he with h1|h1
  ·exact h.may k e h1
  ·exact g.may k e h1
 refine ⟨?_,hs,hm⟩;have:=zX8 hs 0 8 (fun e he=>(hm e he).2.1);simpa using this
theorem Sok.hear {T:Int} {s t:Nat->List En} (h:Sok T s) (g:Sok T t) (L:List Int) (frm who k:Nat):Sok T (heaK L frm who s t k):=by
 refine ⟨fun j=>?_,fun j e he=>?_⟩
 ·unfold heaK
  split
  ·exact (h.merge g j).2.1
  ·exact h.srt j
 ·unfold heaK at he
  split at he
  ·exact (h.merge g j).2.2 e he
  ·exact h.may j e he
end Plain
structure ToldL (w:World) (TB tf m k:Nat) (t:Nat->List En):Prop where
 at':∀ i,k<=i->i<m->∃ p c,w.cell? ⟨TB,tf+i,none⟩=some (.slice p (t i).length c)/\SegN w (.slice p (t i).length c) (t i)/\Lies w.heap.size (.slice p (t i).length c)
theorem ToldL.grow {w w':World} {TB tf m k:Nat} {t:Nat->List En} (h:ToldL w TB tf m k t) (hTB:TB<w.heap.size\/m<=k) (b:Below w.heap.size w w'):ToldL w' TB tf m k t:=⟨fun i hi hm=>by
 obtain ⟨p,c,h1,h2,h3⟩:=h.at' i hi hm;exact ⟨p,c,(b.cell (p:=⟨TB,tf+i,none⟩) (hTB.resolve_right (by omega))).trans h1,h2.below b h3,h3.mono b.size⟩⟩
theorem ToldL.set {w:World} {TB tf m k H T n:Nat} {t:Nat->List En} {f:Nat->Value} (h:ToldL w TB tf m k t) (r:w.rowIs H T n f) (hf:∀ j,j<n->∃ p n c,f j=.slice p n c) (hne:TB≠H\/tf=0) (x:Value):ToldL (w.setCell ⟨H,k,none⟩ x) TB tf m (k+1) t:=⟨fun i hi hm=>by
 obtain ⟨p,c,h1,h2,h3⟩:=h.at' i (by omega) hm;refine ⟨p,c,?_,zZ5 h2 r hf k x,by simpa using h3⟩;rw [<- h1];refine World.cell?_setCell_other _ _ _ _ ?_;intro e;rcases hne with y|y
 ·exact y (congrArg Addr.block e).symm
 ·have e2:k=tf+i:=congrArg Addr.off e
  omega⟩
structure HeaS (R oo H TB tf k m:Nat) (pb:Option Addr) (cb lnb:Nat) (pa:Option Addr) (ca lna:Nat) (w:World):Prop where
 q1:w.cell? ⟨R,oo+2,none⟩=some (.slice (some ⟨H,0,none⟩) m m)
 q2:w.cell? ⟨H,k,none⟩=some (.slice pb lnb cb)
 q3:w.cell? ⟨TB,tf+k,none⟩=some (.slice pa lna ca)
theorem yR6 (R oo:Nat) (XX:Win) (H who frm:Nat) (lp:Option Addr) (lc:Nat) (L:List Int) (s t:Nat->List En) (TB tf tc:Nat) (T:Int) (hw:who<8) (hfr:frm<8) (hL4:L.length<=4) (hL:∀ x,x∈L->0<=x/\x<256) (hS:Sok T s) (hU:Sok T t) (hne:TB≠H\/tf=0)
  (w:World) (hTB:TB<w.heap.size) (h:StI R oo XX H w who lp lc L s) (ht:ToldL w TB tf L.length 0 t) :
  Calls Tryz.prog 81 #[.pointer (some ⟨R,oo,none⟩),.int .i64 (frm:Int),.slice (some ⟨TB,tf,none⟩) L.length tc] w fun e w'=>e=.returned (.tuple #[])/\PutP R oo XX H who lp lc L (heaK L frm who s t L.length) w w':=by
 have x1:=h.c1;have hpa0:(0:Int)<=2^frm:=Int.pow_nonneg (by decide);have hpb0:(0:Int)<=2^who:=Int.pow_nonneg (by decide);have hpaz:((2^frm:Nat):Int)=(2:Int)^frm:=by simp
 have hpbz:((2^who:Nat):Int)=(2:Int)^who:=by simp
 have hpa:(2:Int)^frm<=128:=by
  have h2:2^frm<=2^7:=Nat.pow_le_pow_right (by decide) (by omega);omega
 have hpb:(2:Int)^who<=128:=by
  have h2:2^who<=2^7:=Nat.pow_le_pow_right (by decide) (by omega);omega
 have hor:=LabP.zJ2 (2^frm) (2^who) (by omega) (by omega);rw [hpaz,hpbz] at hor;have KM:=fun (s:Nat) (hs:s<256) W=>zG9 (2^frm ||| 2^who) s (LabP.or_lt (by omega) (by omega)) hs W;generalize hoz:(((2^frm ||| 2^who:Nat)):Int)=oz at hor KM;have KMH:=hid (show ∀ (s:Nat),s<256->∀ W,Calls Tryz.prog 102 #[.int .i64 oz,.int .i64 (s:Int)] W fun e w'=>e=.returned (.bool (Plain.reads (s:Int) frm&&Plain.reads (s:Int) who))/\w'=W from fun s hs W=>by rw [<- LabP.inB_two];exact KM s hs W);have HOR:=hid hor;have HPA:=hid (And.intro hpa0 hpa);have HPB:=hid (And.intro hpb0 hpb);have HI:=hid h;have HL:=hid hL;have HS:=hid hS;have HU:=hid hU;have HTL:=hid ht;have HNE:=hid hne;obtain ⟨m,hm⟩:∃ m,m=L.length:=⟨_,rfl⟩;rw [<- hm] at x1 hL4 HTL ⊢;have HM:=hid hm;clear h hL hS hU ht hne hpaz hpbz hpa0 hpb0 hpa hpb hor KM hoz hm;go_enter Tryz.func81,Tryz.ntmps81
 go_wp2;clear x1
 go_loopg [6,7,13] m (fun gg _ _ s13 wx=>∃ k:Nat,k<=m/\m-k<=gg/\s13=.int .i64 k/\Aside (StI R oo XX H wx who lp lc L (heaK L frm who s t k))/\Aside (ToldL wx TB tf m k t)/\Aside (Kp (fun _=>False) H w wx))
 case atStart=>exact ⟨0,zG _,by omega,rfl,(show Aside _ from by rw [yR5];exact HI.out),(show Aside _ from HTL.out),(show Aside _ from Kp.refl _ _ _)⟩
 case round =>
  obtain ⟨k,hk,hg,rfl,AI,AT,AK⟩:=hrel;have hTBr:TB<wr.heap.size:=zF hTB AK.out.size;by_cases hlt:k<m
  ·have hltz:(k:Int)<(m:Int):=by omega
   have hkl:k<L.length:=by rw [<- HM.out];exact hlt
   obtain ⟨lb,lo,rfl,hlb,lcs⟩:=AI.out.lab (by omega);have lc0:=lcs k hkl;obtain ⟨z,ez,hz⟩:=yE7 HL.out k;have ez':L.getD k 0=(z:Int):=ez;rw [ez'] at lc0;clear lcs ez';have KR:=KMH.out z hz;obtain ⟨rr,hrr⟩:∃ rr,(Plain.reads (z:Int) frm&&Plain.reads (z:Int) who)=rr:=⟨_,rfl⟩;rw [hrr] at KR;have HRR:=hid (show (Plain.reads (jM L k) frm&&Plain.reads (jM L k) who)=rr by rw [ez];exact hrr);clear hrr ez;have hpa0:=HPA.out.1;have hpa:=HPA.out.2;have hpb0:=HPB.out.1;have hpb:=HPB.out.2;have hor:=HOR.out;have r0:=AI.out.c0;go_wp2
   go_quiet ((go_at_call 102;exact Calls.quiet_of_same (KR _)))
   obtain ⟨w2,hw2⟩:∃ w2,w2=wr.drewN nq:=⟨_,rfl⟩;rw [<- hw2];have bx2:Below wr.heap.size wr w2:=by rw [hw2];exact below_drewN yO _
   have I2:=hid (AI.out.grow bx2);have T2:=hid (AT.out.grow (.inl hTBr) bx2);have U2:=hid (AK.out.trans (Kp.of_below bx2));have hTB2:TB<w2.heap.size:=zF hTBr bx2.size;clear hw2 bx2 AI AT AK hpa0 hpa hpb0 hpb hor KR lc0 hlb r0 hTBr;cases rr with
   | false =>
    have HN:=hid (xT4 s t (frm:=frm) (who:=who) (k:=k) (L:=L) (fun x=>by have:=HRR.out;rw [x.1,x.2] at this;cases this));go_wp2
    go_roundg (m-(k+1))
    case measure=>omega
    case rel=>exact ⟨k+1,by omega,by omega,by go_num,(show Aside _ from by rw [HN.out];exact I2.out),(show Aside _ from ⟨fun i hi hm=>T2.out.at' i (by omega) hm⟩),(show Aside _ from U2.out)⟩
   | true =>
    have hra:Plain.reads (jM L k) frm=true/\Plain.reads (jM L k) who=true:=by have:=HRR.out;simpa using this
    have HY:=hid (xF5 s t hra);have HMY:=hid (And.intro (HS.out.mayL k) (And.intro (HU.out.mayL k) (HS.out.merge HU.out k).1));obtain ⟨pb,cb,xb,sgb,lyb,fzb⟩:=I2.out.has hkl;obtain ⟨pa,ca,xa,sga,lya⟩:=T2.out.at' k yN hlt;rw [xT3] at xb sgb lyb;have x1:=I2.out.c2;rw [<- HM.out] at x1;have hHb:H<w2.heap.size:=zC (w:=w2) (h:=xb);have hRb:R<w2.heap.size:=zC (w:=w2) (h:=x1);have bD:=hid (show Below w2.heap.size w2 w2.drew from yO.drew);have KG:=hid (yE6 (.slice pb (s k).length cb) (.slice pa (t k).length ca) (s k) (t k) HMY.out.1 HMY.out.2.1 HMY.out.2.2 w2.drew (sgb.below bD.out lyb) (lyb.mono bD.out.size) (sga.below bD.out lya) (lya.mono bD.out.size));have FZ:=hid fzb;have HFIN:=hid (fun w' (r:Value) (h1:SegN w' r (xB (s k) (t k))) (h2:zY4 w' r) (bb:Below w2.heap.size w2 w')=>show StI R oo XX H (w'.setCell ⟨H,k,none⟩ r) who (some ⟨lb,lo,none⟩) lc L (heaK L frm who s t (k+1))/\ToldL (w'.setCell ⟨H,k,none⟩ r) TB tf m (k+1) t/\Kp (fun _=>False) H w (w'.setCell ⟨H,k,none⟩ r) from by
     have I3:=I2.out.grow bb;obtain ⟨f3,hf3⟩:=I3.hs;exact ⟨by rw [HY.out];exact I3.set h1 h2,(T2.out.grow (.inl hTB2) bb).set hf3.row hf3.slices HNE.out r,(U2.out.trans (Kp.of_below bb)).trans (Kp.setR _ _)⟩)
    clear sgb lyb fzb sga lya hra HRR HY HMY;obtain ⟨nl,hnl⟩:∃ nl,nl=(xB (s k) (t k)).length:=⟨_,rfl⟩;rw [<- hnl] at KG;obtain ⟨lnb,hlnb⟩:∃ lnb,lnb=(s k).length:=⟨_,rfl⟩;obtain ⟨lna,hlna⟩:∃ lna,lna=(t k).length:=⟨_,rfl⟩;rw [<- hlnb] at KG xb;rw [<- hlna] at KG xa;clear hnl hlnb hlna;go_wp2;have TS:HeaS R oo H TB tf k m pb cb lnb pa ca lna w2.drew:=⟨by simpa using x1,by simpa using xb,by simpa using xa⟩;refine yP.begin (HeaS R oo H TB tf k m pb cb lnb pa ca lna) 18 (by kernel_rfl) ?_;refine yP.take 0 (.pointer (some ⟨R,oo,none⟩)) rfl (by kernel_rfl) (by kernel_rfl) (by kernel_rfl) (by kernel_rfl) (fun _ _ _ h=>h) TS (by rfl) (fun w' hS=>?_) ?_
    ·(obtain ⟨q1,q2,q3⟩:=hS;go_simp)
    simp only [Act.put,List.setIfInBounds_toArray,List.set_cons_zero,List.set_cons_succ];refine yP.take 1 (.pointer (some ⟨R,oo,none⟩)) rfl (by kernel_rfl) (by kernel_rfl) (by kernel_rfl) (by kernel_rfl) (fun _ _ _ h=>h) TS (by rfl) (fun w' hS=>?_) ?_
    ·(obtain ⟨q1,q2,q3⟩:=hS;go_simp)
    simp only [Act.put,List.setIfInBounds_toArray,List.set_cons_zero,List.set_cons_succ];refine yP.take 2 (.pointer (some ⟨R,oo+2,none⟩)) rfl (by kernel_rfl) (by kernel_rfl) (by kernel_rfl) (by kernel_rfl) (fun _ _ _ h=>h) TS (by rfl) (fun w' hS=>?_) ?_
    ·(obtain ⟨q1,q2,q3⟩:=hS;go_simp)
    simp only [Act.put,List.setIfInBounds_toArray,List.set_cons_zero,List.set_cons_succ];refine yP.take 3 (.slice (some ⟨H,0,none⟩) m m) rfl (by kernel_rfl) (by kernel_rfl) (by kernel_rfl) (by kernel_rfl) (fun _ _ _ h=>h) TS (by rfl) (fun w' hS=>?_) ?_
    ·(obtain ⟨q1,q2,q3⟩:=hS;go_simp)
    simp only [Act.put,List.setIfInBounds_toArray,List.set_cons_zero,List.set_cons_succ];refine yP.take 4 (.int .i64 (k:Int)) rfl (by kernel_rfl) (by kernel_rfl) (by kernel_rfl) (by kernel_rfl) (fun _ _ _ h=>h) TS (by rfl) (fun w' hS=>?_) ?_
    ·(obtain ⟨q1,q2,q3⟩:=hS;go_simp)
    simp only [Act.put,List.setIfInBounds_toArray,List.set_cons_zero,List.set_cons_succ];refine yP.take 5 (.pointer (some ⟨R,oo,none⟩)) rfl (by kernel_rfl) (by kernel_rfl) (by kernel_rfl) (by kernel_rfl) (fun _ _ _ h=>h) TS (by rfl) (fun w' hS=>?_) ?_
    ·(obtain ⟨q1,q2,q3⟩:=hS;go_simp)
    simp only [Act.put,List.setIfInBounds_toArray,List.set_cons_zero,List.set_cons_succ];refine yP.take 6 (.pointer (some ⟨R,oo,none⟩)) rfl (by kernel_rfl) (by kernel_rfl) (by kernel_rfl) (by kernel_rfl) (fun _ _ _ h=>h) TS (by rfl) (fun w' hS=>?_) ?_
    ·(obtain ⟨q1,q2,q3⟩:=hS;go_simp)
    simp only [Act.put,List.setIfInBounds_toArray,List.set_cons_zero,List.set_cons_succ];refine yP.take 7 (.pointer (some ⟨R,oo+2,none⟩)) rfl (by kernel_rfl) (by kernel_rfl) (by kernel_rfl) (by kernel_rfl) (fun _ _ _ h=>h) TS (by rfl) (fun w' hS=>?_) ?_
    ·(obtain ⟨q1,q2,q3⟩:=hS;go_simp)
    simp only [Act.put,List.setIfInBounds_toArray,List.set_cons_zero,List.set_cons_succ];refine yP.take 8 (.slice (some ⟨H,0,none⟩) m m) rfl (by kernel_rfl) (by kernel_rfl) (by kernel_rfl) (by kernel_rfl) (fun _ _ _ h=>h) TS (by rfl) (fun w' hS=>?_) ?_
    ·(obtain ⟨q1,q2,q3⟩:=hS;go_simp)
    simp only [Act.put,List.setIfInBounds_toArray,List.set_cons_zero,List.set_cons_succ];refine yP.take 9 (.int .i64 (k:Int)) rfl (by kernel_rfl) (by kernel_rfl) (by kernel_rfl) (by kernel_rfl) (fun _ _ _ h=>h) TS (by rfl) (fun w' hS=>?_) ?_
    ·(obtain ⟨q1,q2,q3⟩:=hS;go_simp)
    simp only [Act.put,List.setIfInBounds_toArray,List.set_cons_zero,List.set_cons_succ];refine yP.take 10 (.pointer (some ⟨H,k,none⟩)) rfl (by kernel_rfl) (by kernel_rfl) (by kernel_rfl) (by kernel_rfl) (fun _ _ _ h=>h) TS (by rfl) (fun w' hS=>?_) ?_
    ·(obtain ⟨q1,q2,q3⟩:=hS;go_simp)
    simp only [Act.put,List.setIfInBounds_toArray,List.set_cons_zero,List.set_cons_succ];refine yP.take 11 (.slice pb lnb cb) rfl (by kernel_rfl) (by kernel_rfl) (by kernel_rfl) (by kernel_rfl) (fun _ _ _ h=>h) TS (by rfl) (fun w' hS=>?_) ?_
    ·(obtain ⟨q1,q2,q3⟩:=hS;go_simp)
    simp only [Act.put,List.setIfInBounds_toArray,List.set_cons_zero,List.set_cons_succ];refine yP.take 12 (.slice (some ⟨TB,tf,none⟩) m tc) rfl (by kernel_rfl) (by kernel_rfl) (by kernel_rfl) (by kernel_rfl) (fun _ _ _ h=>h) TS (by rfl) (fun w' hS=>?_) ?_
    ·(obtain ⟨q1,q2,q3⟩:=hS;go_simp)
    simp only [Act.put,List.setIfInBounds_toArray,List.set_cons_zero,List.set_cons_succ];refine yP.take 13 (.int .i64 (k:Int)) rfl (by kernel_rfl) (by kernel_rfl) (by kernel_rfl) (by kernel_rfl) (fun _ _ _ h=>h) TS (by rfl) (fun w' hS=>?_) ?_
    ·(obtain ⟨q1,q2,q3⟩:=hS;go_simp)
    simp only [Act.put,List.setIfInBounds_toArray,List.set_cons_zero,List.set_cons_succ];refine yP.take 14 (.pointer (some ⟨TB,tf+k,none⟩)) rfl (by kernel_rfl) (by kernel_rfl) (by kernel_rfl) (by kernel_rfl) (fun _ _ _ h=>h) TS (by rfl) (fun w' hS=>?_) ?_
    ·(obtain ⟨q1,q2,q3⟩:=hS;go_simp)
    simp only [Act.put,List.setIfInBounds_toArray,List.set_cons_zero,List.set_cons_succ];refine yP.take 15 (.slice pa lna ca) rfl (by kernel_rfl) (by kernel_rfl) (by kernel_rfl) (by kernel_rfl) (fun _ _ _ h=>h) TS (by rfl) (fun w' hS=>?_) ?_
    ·(obtain ⟨q1,q2,q3⟩:=hS;go_simp)
    simp only [Act.put,List.setIfInBounds_toArray,List.set_cons_zero,List.set_cons_succ];refine yP.one 16 (by kernel_rfl) rfl (by rfl) (fun K hK=>?_);go_simp;refine KG.out.mono ?_;rintro e w' ⟨pr,cr,rfl,hs,hl,bb⟩;have BB:=hid (bD.out.trans (bb.mono bD.out.size));have HSS:=hid hs;have HL2:=hid hl;have TS2:HeaS R oo H TB tf k m pb cb lnb pa ca lna w':=⟨(BB.out.cell (p:=⟨R,oo+2,none⟩) hRb).trans x1,(BB.out.cell (p:=⟨H,k,none⟩) hHb).trans xb,(BB.out.cell (p:=⟨TB,tf+k,none⟩) hTB2).trans xa⟩;have fz:w'.frozen? ⟨H,k,none⟩=false:=by
     have e:=BB.out.block H hHb;have z:=FZ.out;simp only [World.frozen?] at z ⊢;rw [e];exact z
    have xb':=TS2.q2;clear bb hs hl;refine hK.out _ _ (fun _=>TS2) ?_;clear hK K;refine yP.one 17 (by kernel_rfl) rfl (by rfl) (fun K hK=>?_);go_simp;refine hK.out _ _ (fun _=>TS2) ?_;clear hK K;refine yP.one 18 (by kernel_rfl) rfl (by rfl) (fun K hK=>?_);go_simp;refine hK.out _ _ (fun h=>absurd rfl h) ?_;clear hK K;refine yP.done (by kernel_rfl) ?_;go_wp2
    go_roundg (m-(k+1))
    case measure=>omega
    case rel=>exact ⟨k+1,by omega,by omega,by go_num,(show Aside _ from (HFIN.out _ _ HSS.out HL2.out BB.out).1),(show Aside _ from (HFIN.out _ _ HSS.out HL2.out BB.out).2.1),(show Aside _ from (HFIN.out _ _ HSS.out HL2.out BB.out).2.2)⟩
  ·have hltz:¬ (k:Int)<(m:Int):=by omega
   have ek:k=m:=by omega
   have FI:=hid (show PutP R oo XX H who lp lc L (heaK L frm who s t m) w wr from ⟨by rw [<- ek];exact AI.out,AK.out⟩);clear AI AT AK ek;go_wp2;go_end0
   exact ⟨rfl,FI.out⟩
theorem Tryz.infoSsE:(Tryz.prog.info? 56).map (fun i=>(i.zero,i.size,i.bytes))=some (some (.slice none 0 0),1,24):=by kernel_rfl
theorem zU8 (w:World) (T m:Nat):(w.alloc (.cells (madeCells #[.slice none 0 0] m) T)).rowIs w.heap.size T m (fun _=>.slice none 0 0) :=
 ⟨_,yF _ _,size_madeCells _ _,fun i hi=>by simp [madeCells,hi,Nat.mod_one]⟩
theorem zU9 (R oo:Nat) (XX:Win) (H who:Nat) (lp:Option Addr) (lc:Nat) (L:List Int) (s:Nat->List En) (T:Int) (hL4:L.length<=4) (hS:Sok T s) (w:World) (h:StI R oo XX H w who lp lc L s) :
  Calls Tryz.prog 31 #[.pointer (some ⟨R,oo,none⟩)] w fun e w'=>∃ G,e=.returned (.slice (some ⟨G,0,none⟩) L.length L.length)/\(∃ f,RowL w' G L.length s f)/\w.heap.size<=G/\Below w.heap.size w w':=by
 have x2:=h.c2;have HI:=hid h;have HS:=hid hS;obtain ⟨m,hm⟩:∃ m,m=L.length:=⟨_,rfl⟩;rw [<- hm] at x2 hL4 ⊢;have HM:=hid hm;have hmk:=run_make_row' (P:=Tryz.prog) 57 56 (.slice none 0 0) 24 Tryz.underlying57 Tryz.infoSsE rfl .i64 .i64 m (by omega) (by omega);obtain ⟨WA,hWA⟩:∃ WA,WA=w.alloc (.cells (madeCells #[.slice none 0 0] m) 56):=⟨_,rfl⟩;have BA:=hid (show Below w.heap.size w WA by rw [hWA];exact yO.alloc yN _);have RA:=hid (show RowL WA w.heap.size m (fun _=>[]) (fun _=>.slice none 0 0) by
  refine ⟨by rw [hWA];exact zU8 w _ m,fun j _=>⟨SegN.nil _,yT _ _ _⟩,fun j _=>TyE.nil _ _ _⟩)
 have x2A:=(HI.out.grow BA.out).c2;rw [<- HM.out,hWA] at x2A;clear h hS hm;go_enter Tryz.func31,Tryz.ntmps31
 go_wp2;rw [<- hWA];clear hWA x2A x2 hmk
 go_loopg [4,16] m (fun gg _ s16 wx=>∃ k:Nat,k<=m/\m-k<=gg/\s16=.int .i64 k/\Aside (Below w.heap.size w wx)/\Aside (∃ f,RowL wx w.heap.size m (fun j=>if j<k then s j else []) f))
 case atStart=>exact ⟨0,zG _,by omega,rfl,(show Aside _ from BA.out),(show Aside _ from ⟨_,RA.out.congr fun j _=>(by rw [if_neg (by omega)])⟩)⟩
 case round =>
  obtain ⟨k,hk,hg,rfl,AB,AR⟩:=hrel;clear BA RA;by_cases hlt:k<m
  ·have hltz:(k:Int)<(m:Int):=by omega
   have hkl:k<L.length:=by rw [<- HM.out];exact hlt
   have I2:=hid (HI.out.grow AB.out);have x2:=I2.out.c2;rw [<- HM.out] at x2;obtain ⟨p,c,xk,sg,ly,_⟩:=I2.out.has hkl;have l8:=HS.out.len k;have KC:=zG4 (.slice p (s k).length c) (s k) (by omega) wr sg ly;have HRW:=hid AR.out;clear sg ly AR;generalize (s k).length=ln at KC xk l8
   go_wp2_with fail
   refine KC.mono ?_;rintro e w2 ⟨v2,rfl,hown,b2⟩;have B2:=hid (AB.out.trans (b2.mono AB.out.size));obtain ⟨sg2,ly2⟩:=OwnN.seg hown;have ty2:=OwnN.ty hown;obtain ⟨p2,c2,e2,_⟩:=sg2.form;rw [e2] at sg2 ly2 ty2;rw [e2];have NX:=hid (show ∃ f,RowL (w2.setCell ⟨w.heap.size,k,none⟩ (.slice p2 (s k).length c2)) w.heap.size m (fun j=>if j<k+1 then s j else []) f by
    obtain ⟨f,hf⟩:=HRW.out;refine ⟨_,((hf.grow b2).set k sg2 ⟨ly2,ty2⟩).congr fun j hj=>?_⟩;by_cases e:j=k
    ·rw [if_pos e,if_pos (by omega),e]
    ·rw [if_neg e]
     by_cases h2:j<k
     ·rw [if_pos h2,if_pos (by omega)]
     ·rw [if_neg h2,if_neg (by omega)])
   have yk:∃ v,w2.cell? ⟨w.heap.size,k,none⟩=some v:=by
    obtain ⟨f,hf⟩:=HRW.out;exact ⟨_,(hf.grow b2).row.cell hlt⟩
   have zk:w2.frozen? ⟨w.heap.size,k,none⟩=false:=by
    obtain ⟨f,hf⟩:=HRW.out;exact (hf.grow b2).row.frozen k
   obtain ⟨vk,yk⟩:=yk;clear KC hown b2 sg2 ly2 ty2 e2 HRW x2 xk I2 AB;go_wp2
   go_roundg (m-(k+1))
   case measure=>omega
   case rel=>exact ⟨k+1,by omega,by omega,by go_num,(show Aside _ from B2.out.setCell yN _),(show Aside _ from NX.out)⟩
  ·have hltz:¬ (k:Int)<(m:Int):=by omega
   have ek:k=m:=by omega
   have FI:=hid (show ∃ f,RowL wr w.heap.size m s f by
    obtain ⟨f,hf⟩:=AR.out;exact ⟨f,hf.congr fun j hj=>by rw [if_pos (by omega)]⟩)
   go_wp2;go_ret
   exact ⟨_,rfl,FI.out,yN,AB.out⟩
def NewS (who:Nat) (lp:Option Addr) (m lc:Nat) (w:World) (e:Ending) (w':World):Prop :=
 ∃ H,e=.returned (.agg #[.int .i64 (who:Nat),.slice lp m lc,.slice (some ⟨H,0,none⟩) m m])/\w'.rowIs H 56 m (fun _=>.slice none 0 0)/\w.heap.size<=H/\Below w.heap.size w w'
theorem zZ8 {fn:Func} {p:Tmp} {Q:Ending->World->Prop} {a:Act} {w:World} (h:fn.results=#[.cell p 91]) (R:Nat) (c:Array Value) (hs:c.size=3) (hp:a.tmps.getD p undef=.pointer (some ⟨R,0,none⟩))
  (hg:w.heap[R]?=some (.cells c 91 (0,0))) (hd:a.defers=[]) (hR:Q (.returned (.agg c)) w):bodyPost Tryz.prog fn Q .ret a w :=
 bodyPost_ret (results_cell_row (P:=Tryz.prog) h _ _ R 91 _ (0,0) _ hp hg Tryz.underlying91 rfl (by rw [hs];kernel_rfl)) hd hR
theorem yK4 (who:Nat) (lp:Option Addr) (m lc:Nat) (hm:m<=4) (w:World) :
  Calls Tryz.prog 46 #[.int .i64 (who:Nat),.slice lp m lc] w fun e w'=>NewS who lp m lc w e w':=by
 have hmk:=run_make_row' (P:=Tryz.prog) 57 56 (.slice none 0 0) 24 Tryz.underlying57 Tryz.infoSsE rfl .i64 .i64 m (by omega) (by omega);go_enter Tryz.func46,Tryz.ntmps46
 go_wp2
 (try simp only [Exit.inBlock,Exit.then])
 obtain ⟨W1,hW1⟩:∃ W1,W1=w.alloc (.cells #[.int .i64 (who:Nat),.slice lp m lc,.slice (some ⟨w.heap.size+1,0,none⟩) m m] 91):=⟨_,rfl⟩;rw [<- hW1];have hs:W1.heap.size=w.heap.size+1:=by rw [hW1];simp
 have hb:W1.heap[w.heap.size]?=some (.cells #[.int .i64 (who:Nat),.slice lp m lc,.slice (some ⟨w.heap.size+1,0,none⟩) m m] 91 (0,0)):=by rw [hW1];exact yF _ _
 have b1:Below w.heap.size w W1:=by rw [hW1];exact yO.alloc yN _
 have hr:=zU8 W1 56 m;rw [hs] at hr;have b2:Below W1.heap.size W1 (W1.alloc (.cells (madeCells #[.slice none 0 0] m) 56)):=yO.alloc yN _;exact zZ8 rfl w.heap.size _ rfl rfl ((b2.block _ (by omega)).trans hb) rfl ⟨_,rfl,hr,by omega,b1.trans (b2.mono b1.size)⟩
end Go.Proofs.YtleaknfjbbccgaaGreatDoor
