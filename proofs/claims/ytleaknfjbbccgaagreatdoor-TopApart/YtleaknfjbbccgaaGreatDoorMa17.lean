/- Laid together. -/
import Derived.Deep.QuietTactic
import Derived.BigQuiet
import Derived.Shelf.SlSortCmp.QuietGrown
import Derived.Test.YtleaknfjbbccgaaGreatDoorMa16
namespace Go.Proofs.YtleaknfjbbccgaaGreatDoor.Vi
set_option maxHeartbeats 16000000
set_option maxRecDepth 100000
open Go.RowKit Go.Shelf
def zI8 (s:Int) (l:List Td):List Td:=l.map fun t=>seeT (Plain.rdB s t.who) t
def qB5 (c:Plain.Cf) (s:Int):Nat:=if Plain.mayC c then if Plain.labB c.n s then 0 else 2 else 4
def qM3 (c:Plain.Cf) (s:Int) (l:List Td):List Td:=if qB5 c s=0 then zI8 s l else []
theorem yN3 (s:Int) (l:List Td) (k:Nat) (hk:k<l.length):(zI8 s l).take (k+1)=(zI8 s l).take k++[seeT (Plain.rdB s (l.getD k default).who) (l.getD k default)]:=by
 have hk':k<(zI8 s l).length:=by simpa [zI8] using hk
 rw [List.take_add_one,zB hk'];have:(zI8 s l)[k]=seeT (Plain.rdB s (l.getD k default).who) (l.getD k default):=by
  rw [zA,zB hk];simp [zI8]
 rw [this];rfl
theorem any_map (s:Nat) (who:Int):((LabM.mem s 8).map (fun j:Nat=>(j:Int))).any (fun y=>who==y)=Plain.rdB s who:=by
 rw [yM,List.any_eq_true];unfold Plain.rdB;simp only [Bool.and_eq_true,decide_eq_true_eq,Int.toNat_natCast,beq_iff_eq];constructor
 ·rintro ⟨x,hx,rfl⟩
  obtain ⟨j,hj,rfl⟩:=zZ.1 hx;rw [LabM.mem,List.mem_filter,zY,beq_iff_eq] at hj;exact ⟨by omega,by omega,by rw [zK];exact hj.2⟩
 ·rintro ⟨h0,h8,hb⟩
  refine ⟨who,zZ.2 ⟨who.toNat,?_,by omega⟩,rfl⟩;rw [LabM.mem,List.mem_filter,zY,beq_iff_eq];exact ⟨by omega,hb⟩
theorem xB9 (s n:Nat) (hs:s<256):((LabM.mem s 8).map (fun j:Nat=>(j:Int))).any (geB n)=!decide (s<2^n):=by
 rw [<- LabP.xW2,yM,List.any_eq_true,Bool.not_eq_true',<- Bool.not_eq_true,LabP.yA7];have e:∀ k,s.testBit k=(s/2^k%2==1):=fun k=>by rw [Nat.testBit_eq_decide_div_mod_eq,yM];simp
 have e2:∀ k,(2^n-1).testBit k=decide (k<n):=fun k=>Nat.testBit_two_pow_sub_one n k;constructor
 ·rintro ⟨x,hx,hg⟩ h
  obtain ⟨j,hj,rfl⟩:=zZ.1 hx;rw [LabM.mem,List.mem_filter,zY] at hj;have h1:=h j (by rw [e];exact hj.2);rw [e2,decide_eq_true_eq] at h1;unfold geB at hg;rw [decide_eq_true_eq] at hg;omega
 ·intro h
  have h':¬ ∀ k,s.testBit k=true->(2^n-1).testBit k=true:=h;have:∃ k,s.testBit k=true/\¬ (2^n-1).testBit k=true:=by
   refine Classical.byContradiction fun hc=>h' fun k hk=>Classical.byContradiction fun hk2=>hc ⟨k,hk,hk2⟩
  obtain ⟨k,hk,hk2⟩:=this;rw [e2,decide_eq_true_eq] at hk2;have hk8:k<8:=by
   rcases Nat.lt_or_ge k 8 with x|x
   ·exact x
   ·rw [Nat.testBit_lt_two_pow (zF hs (show 256<=2^k from zI (by decide) (Nat.pow_le_pow_right (by decide) x)))] at hk
    cases hk
  refine ⟨(k:Int),zZ.2 ⟨k,?_,rfl⟩,?_⟩
  ·rw [LabM.mem,List.mem_filter,zY]
   exact ⟨hk8,by rw [<- e];exact hk⟩
  ·unfold geB
   rw [decide_eq_true_eq];omega
structure InT (w:World) (p:Option Addr) (R:List RT):Prop where
 hd:encT.Holds w p R
 td:∀ r,r∈R->TdO w r
 sz:R.length*136<=140737488355328
theorem InT.grow {w w':World} {p:Option Addr} {R:List RT} (h:InT w p R) (g:Below w.heap.size w w'):InT w' p R:=⟨h.hd.grow g,fun r hr=>(h.td r hr).grow g,h.sz⟩
structure OutT (w:World) (p:Option Addr) (R:List RT):Prop where
 hd:encT.Holds w p R
 td:∀ r,r∈R->TdI w r
theorem OutT.grow {w w':World} {p:Option Addr} {R:List RT} (h:OutT w p R) (g:Below w.heap.size w w'):OutT w' p R:=⟨h.hd.grow g,fun r hr=>(h.td r hr).keep (Kt.of_below g)⟩
theorem OutT.nil (w:World):OutT w none []:=⟨Enc.Holds.nil _ _,fun _ hr=>(nomatch hr)⟩
def yN4 (D:List RT) (j:Nat):Value:=(encT.vals D).getD j (xF (j%11))
theorem yN5 (D:List RT) (r:RT) (k j:Nat) (hk:D.length=k):yN4 (D++[r]) j=if k*11<=j/\j<k*11+11 then r.cell (j-k*11) else yN4 D j:=by
 have hvl:(encT.vals D).length=k*11:=by rw [encT.vals_len,hk];rfl
 unfold yN4;rw [encT.vals_app,encT.vals_one,zA,zA];by_cases h:k*11<=j/\j<k*11+11
 ·rw [if_pos h,zR (by omega),hvl,xB7 r _ (by omega)];rfl
 ·rw [if_neg h]
  by_cases hlt:j<k*11
  ·rw [zX (by omega)]
  ·have e5:(encT.enc r).length=11:=encT.len r
   rw [zN (by rw [zD,hvl,e5];omega),zN (by omega)]
structure VwI (w wx:World) (n:Nat) (D:List RT):Prop where
 row:wx.rowIs w.heap.size 42 (n*11) (yN4 D)
 td:∀ r,r∈D->TdI wx r
 be:Below w.heap.size w wx
namespace VwI
variable {w wx wy:World} {n:Nat} {D:List RT}
theorem start (w:World) (n:Nat):VwI w (w.alloc (.cells (madeCells #[.int .i64 0,.int .i64 0,.int .i64 0,.int .i64 0,.int .i64 0,.int .i64 0,.int .i64 0,.int .i64 0,.slice none 0 0,.slice none 0 0,.slice none 0 0] (n*11)) 42)) n []:=by
 refine ⟨⟨_,yF _ _,size_madeCells _ _,fun i hi=>?_⟩,fun _ hr=>(nomatch hr),yO.alloc yN _⟩;have:i%11=0\/i%11=1\/i%11=2\/i%11=3\/i%11=4\/i%11=5\/i%11=6\/i%11=7\/i%11=8\/i%11=9\/i%11=10:=by omega
 rcases this with e|e|e|e|e|e|e|e|e|e|e<;>simp [madeCells,hi,e,yN4,Enc.vals,RT.cell]
theorem grow (h:VwI w wx n D) (g:Below wx.heap.size wx wy):VwI w wy n D:=⟨h.row.of_block (g.block _ h.row.lt),fun r hr=>(h.td r hr).keep (Kt.of_below g),h.be.trans (g.mono h.be.size)⟩
theorem told (h:VwI w wx n D) (k:Nat) (hk:D.length=k) (r:RT) (hr:TdI wx r):VwI w (putT wx w.heap.size (k*11) r.cell) n (D++[r]):=by
 have kt:=zR1 h.row (k*11) r.cell;refine ⟨(zE6 (o:=k*11) h.row r.cell).congr fun j _=>(yN5 D r k j hk).symm,fun y hy=>?_,h.be.trans (vL yN _ _)⟩;rcases yL.1 hy with m|m
 ·exact (h.td y m).keep kt
 ·have e:y=r:=by simpa using m
  subst e;exact hr.keep kt
theorem out (h:VwI w wx n D) (hs:D.length=n):OutT wx (some ⟨w.heap.size,0,none⟩) D:=⟨fun _=>by
 refine ⟨w.heap.size,0,rfl,h.row.lt,fun j u hu=>?_⟩;have hj:j<n*11:=by
  rcases Nat.lt_or_ge j (n*11) with x|x
  ·exact x
  ·rw [zN (by rw [encT.vals_len,hs];exact x)] at hu;cases hu
 rw [Nat.zero_add,h.row.cell hj];unfold yN4;rw [zA,hu];rfl,h.td⟩
end VwI
theorem qM4 (W:World) (g o:Nat) (code who kc ki kf kh ku val:Int) (sent:List Ev) (frame report:List Int) (ps:Option Addr) (cs:Nat) (pf:Option Addr) (cf:Nat) (pr:Option Addr) (cr:Nat):(((((((((((W.setCell ⟨g,o,none⟩ (.int .i64 code)).setCell ⟨g,o+1,none⟩ (.int .i64 who)).setCell ⟨g,o+2,none⟩ (.int .i64 kc)).setCell ⟨g,o+3,none⟩ (.int .i64 ki)).setCell ⟨g,o+4,none⟩ (.int .i64 kf)).setCell ⟨g,o+5,none⟩ (.int .i64 kh)).setCell ⟨g,o+6,none⟩ (.int .i64 ku)).setCell ⟨g,o+7,none⟩ (.int .i64 val)).setCell ⟨g,o+8,none⟩ (.slice ps sent.length cs)).setCell ⟨g,o+9,none⟩ (.slice pf frame.length cf)).setCell ⟨g,o+10,none⟩ (.slice pr report.length cr))=putT W g o (RT.mk ⟨code,who,⟨kc,ki,kf,kh,ku⟩,val,sent,frame,report⟩ ps cs pf cf pr cr).cell:=by
 simp only [putT,RT.cell]
def OfP (L:List Td) (E:Nat) (w:World) (e:Ending) (w':World):Prop:=∃ q cc D,e=.returned (.tuple #[.slice q D.length cc,.int .i64 (E:Nat)])/\D.map (·.x)=L/\OutT w' q D/\Below w.heap.size w w'
def SeeP (b:Bool) (x:Td) (w:World) (e:Ending) (w':World):Prop:=∃ (code who kc ki kf kh ku val:Int) (sent:List Ev) (frame report:List Int) (ps:Option Addr) (cs:Nat) (pf:Option Addr) (cf:Nat) (pr:Option Addr) (cr:Nat),e=.returned (.agg #[.int .i64 code,.int .i64 who,.int .i64 kc,.int .i64 ki,.int .i64 kf,.int .i64 kh,.int .i64 ku,.int .i64 val,.slice ps sent.length cs,.slice pf frame.length cf,.slice pr report.length cr])/\(Td.mk code who ⟨kc,ki,kf,kh,ku⟩ val sent frame report)=seeT b x/\TdI w' (RT.mk ⟨code,who,⟨kc,ki,kf,kh,ku⟩,val,sent,frame,report⟩ ps cs pf cf pr cr)/\Below w.heap.size w w'
theorem see_d (r:RT) (b:Bool) (w:World) (h:TdO w r):Calls Tryz.prog 39 #[aggT r.cell,.bool b] w (SeeP b r.x w):=by
 refine (see_c r b w h).mono fun e w' ⟨r',he,hx,ht,hb⟩=>?_;obtain ⟨⟨code,who,⟨kc,ki,kf,kh,ku⟩,val,sent,frame,report⟩,ps,cs,pf,cf,pr,cr⟩:=r';exact ⟨code,who,kc,ki,kf,kh,ku,val,sent,frame,report,ps,cs,pf,cf,pr,cr,he,hx,ht,hb⟩
theorem of_ok (c:Plain.Cf) (lv mv:Value) (p:Option Addr) (n cap:Nat) (R:List RT) (s m:Nat) (hs:s<256) (hm:c.n=m) (hlt2:s<2^m) (hmay:Plain.mayC c=true) (w:World) (hn:R.length=n) (hI:CfI w c lv mv) (hR:InT w p R) :
  Calls Tryz.prog 28 #[cfV c lv mv,.slice p n cap,.int .i64 (s:Nat)] w (OfP (zI8 s (R.map (·.x))) 0 w):=by
 have hbig:n*136<=140737488355328:=by rw [<- hn];exact hR.sz
 have hmk:∀ W:World,(Instr.makeSlice 33 (.int .i64 (n:Int)) (.int .i64 (n:Int))).run Tryz.prog W=.ok (.slice (some ⟨W.heap.size,0,none⟩) n n) (W.alloc (.cells (madeCells #[.int .i64 0,.int .i64 0,.int .i64 0,.int .i64 0,.int .i64 0,.int .i64 0,.int .i64 0,.int .i64 0,.slice none 0 0,.slice none 0 0,.slice none 0 0] (n*11)) 42)):=fun W=>by
  obtain ⟨i0,hi,hz0,hz1,hz2⟩:=info_parts infoT;have:=run_make (P:=Tryz.prog) W 33 42 i0 _ Tryz.underlying33 hi hz0 .i64 .i64 (n:Int) (n:Int) (by omega) (Int.le_refl _) (by rw [hz2];omega) (by omega);rw [hz1,show (Value.agg #[.int .i64 0,.int .i64 0,.int .i64 0,.int .i64 0,.int .i64 0,.int .i64 0,.int .i64 0,.int .i64 0,.slice none 0 0,.slice none 0 0,.slice none 0 0]).cells=#[.int .i64 0,.int .i64 0,.int .i64 0,.int .i64 0,.int .i64 0,.int .i64 0,.int .i64 0,.int .i64 0,.slice none 0 0,.slice none 0 0,.slice none 0 0] from rfl] at this;simpa using this
 have bA:=hid (show Below w.heap.size w (w.alloc (boxC c lv mv)) from yO.alloc yN _);have HC:=hid (xW.start w c lv mv);have HIN:=hid hR;have HI:=hid (hI.grow bA.out);have HN:=hid hn;have HM:=hid hm;have KM:=hid (fun W (I:CfI W c lv mv)=>zV5 c lv mv W I);have HMAY:=hid hmay;have HAN:=hid (fun who=>any_map s who);have HGE:=hid (show ((LabM.mem s 8).map (fun j:Nat=>(j:Int))).any (geB c.n)=false by rw [hm,xB9 s m hs,decide_eq_true hlt2];rfl);have HLE:=hid (show ((LabM.mem s 8).map (fun j:Nat=>(j:Int))).length<=9223372036854775807 by rw [zL];have:=LabM.mem_le s 8;omega);clear hI hR hn hm hmay hlt2;obtain ⟨lp,lc,rfl⟩:=yS HI.out.sl;obtain ⟨mp,mc,rfl⟩:=yS HI.out.sm;obtain ⟨cn,ls,ct,ms,ccap⟩:=c;dsimp only at *;go_enter Tryz.func28,Tryz.ntmps28
 go_wp2_with fail
 refine (KM.out _ HI.out).mono ?_;rintro e w1 ⟨rfl,hb⟩;rw [HMAY.out];have B1:=hid (bA.out.trans (hb.mono bA.out.size));have C1:=hid (HC.out.below hb HC.out.lt);clear hb;have KL:=zI2 s hs w1
 go_wp2_with fail
 refine KL.mono ?_;rintro e w2 ⟨vm,rfl,own,hb⟩;have SG:=hid (jM (l:=(LabM.mem s 8).map (fun j:Nat=>(j:Int))) own (by simp) (by simp));have B2:=hid (B1.out.trans (hb.mono B1.out.size));have C2:=hid (C1.out.below hb C1.out.lt);clear hb own KL;have KO:=zX5 w.heap.size ⟨cn,ls,ct,ms,ccap⟩ _ _ vm _ w2 HLE.out SG.out.1 SG.out.2 C2.out;rw [HGE.out] at KO
 go_wp2_with fail
 refine KO.mono ?_;rintro e w3 ⟨rfl,hb⟩;have SG3:=hid (show Seg w3 vm _/\Lies w3.heap.size vm from ⟨SG.out.1.below hb SG.out.2,SG.out.2.mono hb.size⟩);have B3:=hid (B2.out.trans (hb.mono B2.out.size));clear hb KO C2 C1 B1 B2 SG;have IN3:=hid (HIN.out.grow B3.out);have ST:=hid (VwI.start w3 n);go_wp2;clear hmk;have hbz:n<=9223372036854775807:=by omega
 go_loopg [11,12,33] n (fun gg _ _ s33 wx=>∃ k:Nat,k<=n/\n-k<=gg/\s33=.int .i64 k/\Aside (∃ D,D.length=k/\D.map (·.x)=(zI8 s (R.map (·.x))).take k/\VwI w3 wx n D))
 case atStart=>exact ⟨0,zG _,by omega,rfl,(show Aside _ from ⟨[],rfl,by simp,ST.out⟩)⟩
 case round =>
  obtain ⟨k,hkk,hg,rfl,A⟩:=hrel;clear ST;by_cases hlt:k<n
  ·have hltz:(k:Int)<(n:Int):=by omega
   have hll:k<R.length:=by rw [HN.out];exact hlt
   obtain ⟨D,hDk,hDm,hD⟩:=A.out;have HD:=hid hD;have HDM:=hid hDm;have HDK:=hid hDk;clear hD hDm hDk A;have INR:=hid (IN3.out.grow HD.out.be);obtain ⟨b,of,rfl,hb,hc⟩:=qM0 INR.out.hd (by omega);have hc:=hc k hll;have VT:=hid (yN3 s (R.map (·.x)) k (by simpa using hll));have TO:=hid (INR.out.td (R.getD k default) (by rw [zA,zB hll];exact zH _));have ex:(R.map (·.x)).getD k default=(R.getD k default).x:=by
    rw [zA,zV,zA,zB hll];rfl
   rw [ex] at VT;clear ex;generalize R.getD k default=r at hc VT TO;obtain ⟨⟨code,who,⟨kc,ki,kf,kh,ku⟩,val,sent,frame,report⟩,ps,cs,pf,cf,pr,cr⟩:=r;have c0:wr.cell? ⟨b,of+k*11,none⟩=some (.int .i64 code):=by have:=hc 0 (by decide);rwa [Nat.add_zero] at this
   have c1:wr.cell? ⟨b,of+k*11+1,none⟩=some (.int .i64 who):=by have:=hc 1 (by decide);rwa [<- Nat.add_assoc] at this
   have c2:wr.cell? ⟨b,of+k*11+2,none⟩=some (.int .i64 kc):=by have:=hc 2 (by decide);rwa [<- Nat.add_assoc] at this
   have c3:wr.cell? ⟨b,of+k*11+3,none⟩=some (.int .i64 ki):=by have:=hc 3 (by decide);rwa [<- Nat.add_assoc] at this
   have c4:wr.cell? ⟨b,of+k*11+4,none⟩=some (.int .i64 kf):=by have:=hc 4 (by decide);rwa [<- Nat.add_assoc] at this
   have c5:wr.cell? ⟨b,of+k*11+5,none⟩=some (.int .i64 kh):=by have:=hc 5 (by decide);rwa [<- Nat.add_assoc] at this
   have c6:wr.cell? ⟨b,of+k*11+6,none⟩=some (.int .i64 ku):=by have:=hc 6 (by decide);rwa [<- Nat.add_assoc] at this
   have c7:wr.cell? ⟨b,of+k*11+7,none⟩=some (.int .i64 val):=by have:=hc 7 (by decide);rwa [<- Nat.add_assoc] at this
   have c8:wr.cell? ⟨b,of+k*11+8,none⟩=some (.slice ps sent.length cs):=by have:=hc 8 (by decide);rwa [<- Nat.add_assoc] at this
   have c9:wr.cell? ⟨b,of+k*11+9,none⟩=some (.slice pf frame.length cf):=by have:=hc 9 (by decide);rwa [<- Nat.add_assoc] at this
   have c10:wr.cell? ⟨b,of+k*11+10,none⟩=some (.slice pr report.length cr):=by have:=hc 10 (by decide);rwa [<- Nat.add_assoc] at this
   clear hc;obtain ⟨WA,hWA⟩:∃ WA,WA=wr.alloc (.cells #[.int .i64 code,.int .i64 who,.int .i64 kc,.int .i64 ki,.int .i64 kf,.int .i64 kh,.int .i64 ku,.int .i64 val,.slice ps sent.length cs,.slice pf frame.length cf,.slice pr report.length cr] 42):=⟨_,rfl⟩
   go_upto_region 10 with fail
   rw [<- hWA];have bW:=hid (show Below wr.heap.size wr WA by rw [hWA];exact yO.alloc yN _);have TA:=hid (show WA.rowIs wr.heap.size 42 11 (RT.mk ⟨code,who,⟨kc,ki,kf,kh,ku⟩,val,sent,frame,report⟩ ps cs pf cf pr cr).cell by rw [hWA];exact jR wr (RT.mk ⟨code,who,⟨kc,ki,kf,kh,ku⟩,val,sent,frame,report⟩ ps cs pf cf pr cr).cell);clear hWA c0 c1 c2 c3 c4 c5 c6 c7 c8 c9 c10;have TOA:=hid (TO.out.grow bW.out);have HDA:=hid (HD.out.grow bW.out);obtain ⟨HT,hHT⟩:∃ HT,HT=wr.heap.size:=⟨_,rfl⟩;rw [<- hHT] at TA ⊢;have hlt3:w3.heap.size<HT:=by rw [hHT];exact HD.out.row.lt
   have neG:¬ w3.heap.size=HT:=by omega
   have neG2:¬ HT=w3.heap.size:=by omega
   clear hHT;have t0:WA.cell? ⟨HT,0,none⟩=some (.int .i64 code):=TA.out.cell (i:=0) (by decide);have t1:WA.cell? ⟨HT,1,none⟩=some (.int .i64 who):=TA.out.cell (i:=1) (by decide);have t2:WA.cell? ⟨HT,2,none⟩=some (.int .i64 kc):=TA.out.cell (i:=2) (by decide);have t3:WA.cell? ⟨HT,3,none⟩=some (.int .i64 ki):=TA.out.cell (i:=3) (by decide);have t4:WA.cell? ⟨HT,4,none⟩=some (.int .i64 kf):=TA.out.cell (i:=4) (by decide);have t5:WA.cell? ⟨HT,5,none⟩=some (.int .i64 kh):=TA.out.cell (i:=5) (by decide);have t6:WA.cell? ⟨HT,6,none⟩=some (.int .i64 ku):=TA.out.cell (i:=6) (by decide);have t7:WA.cell? ⟨HT,7,none⟩=some (.int .i64 val):=TA.out.cell (i:=7) (by decide);have t8:WA.cell? ⟨HT,8,none⟩=some (.slice ps sent.length cs):=TA.out.cell (i:=8) (by decide);have t9:WA.cell? ⟨HT,9,none⟩=some (.slice pf frame.length cf):=TA.out.cell (i:=9) (by decide);have t10:WA.cell? ⟨HT,10,none⟩=some (.slice pr report.length cr):=TA.out.cell (i:=10) (by decide);have KC:=fun X (bx:Below WA.heap.size WA X)=>yN2 who vm _ X HLE.out ((SG3.out.1.below (HDA.out.be) SG3.out.2).below bx (SG3.out.2.mono HDA.out.be.size));rw [HAN.out who] at KC;have KS:=fun X (bx:Below WA.heap.size WA X)=>see_d (RT.mk ⟨code,who,⟨kc,ki,kf,kh,ku⟩,val,sent,frame,report⟩ ps cs pf cf pr cr) (Plain.rdB (s:Nat) who) X (TOA.out.grow bx);have bD:=hid (show Below WA.heap.size WA WA.drew from yO.drew);clear HAN;generalize hrd:Plain.rdB (s:Nat) who=rd at KC KS VT;clear hrd
   go_region_held3 (fun w'=>w'.cell? ⟨HT,0,none⟩=some (.int .i64 code)/\w'.cell? ⟨HT,1,none⟩=some (.int .i64 who)/\w'.cell? ⟨HT,2,none⟩=some (.int .i64 kc)/\w'.cell? ⟨HT,3,none⟩=some (.int .i64 ki)/\w'.cell? ⟨HT,4,none⟩=some (.int .i64 kf)/\w'.cell? ⟨HT,5,none⟩=some (.int .i64 kh)/\w'.cell? ⟨HT,6,none⟩=some (.int .i64 ku)/\w'.cell? ⟨HT,7,none⟩=some (.int .i64 val)/\w'.cell? ⟨HT,8,none⟩=some (.slice ps sent.length cs)/\w'.cell? ⟨HT,9,none⟩=some (.slice pf frame.length cf)/\w'.cell? ⟨HT,10,none⟩=some (.slice pr report.length cr)) (go_keep)
    ((
     first
     | (go_at_call 40;refine (KC _ bD.out).mono ?_;rintro e w4 ⟨rfl,hx⟩;have hy:=hx.symm;clear hx;subst hy)
     | (go_at_call 39;refine (KS _ bD.out).mono ?_;rintro e w5 ⟨code2,who2,kc2,ki2,kf2,kh2,ku2,val2,sent2,frame2,report2,ps2,cs2,pf2,cf2,pr2,cr2,rfl,hx2,ti,hb5⟩;have B5:=hid (bD.out.trans hb5);have HX2:=hid hx2;have TI:=hid ti;clear hx2 ti hb5;have T5:=hid (TA.out.of_block (B5.out.block _ TA.out.lt));have HD5:=hid (HDA.out.grow B5.out);have u0:w5.cell? ⟨HT,0,none⟩=some (.int .i64 code):=T5.out.cell (i:=0) (by decide);have u1:w5.cell? ⟨HT,1,none⟩=some (.int .i64 who):=T5.out.cell (i:=1) (by decide);have u2:w5.cell? ⟨HT,2,none⟩=some (.int .i64 kc):=T5.out.cell (i:=2) (by decide);have u3:w5.cell? ⟨HT,3,none⟩=some (.int .i64 ki):=T5.out.cell (i:=3) (by decide);have u4:w5.cell? ⟨HT,4,none⟩=some (.int .i64 kf):=T5.out.cell (i:=4) (by decide);have u5:w5.cell? ⟨HT,5,none⟩=some (.int .i64 kh):=T5.out.cell (i:=5) (by decide);have u6:w5.cell? ⟨HT,6,none⟩=some (.int .i64 ku):=T5.out.cell (i:=6) (by decide);have u7:w5.cell? ⟨HT,7,none⟩=some (.int .i64 val):=T5.out.cell (i:=7) (by decide);have u8:w5.cell? ⟨HT,8,none⟩=some (.slice ps sent.length cs):=T5.out.cell (i:=8) (by decide);have u9:w5.cell? ⟨HT,9,none⟩=some (.slice pf frame.length cf):=T5.out.cell (i:=9) (by decide);have u10:w5.cell? ⟨HT,10,none⟩=some (.slice pr report.length cr):=T5.out.cell (i:=10) (by decide);have y0:=HD5.out.row.cell (i:=k*11) (by omega);have z0:=HD5.out.row.frozen (k*11);have y1:=HD5.out.row.cell (i:=k*11+1) (by omega);have z1:=HD5.out.row.frozen (k*11+1);have y2:=HD5.out.row.cell (i:=k*11+2) (by omega);have z2:=HD5.out.row.frozen (k*11+2);have y3:=HD5.out.row.cell (i:=k*11+3) (by omega);have z3:=HD5.out.row.frozen (k*11+3);have y4:=HD5.out.row.cell (i:=k*11+4) (by omega);have z4:=HD5.out.row.frozen (k*11+4);have y5:=HD5.out.row.cell (i:=k*11+5) (by omega);have z5:=HD5.out.row.frozen (k*11+5);have y6:=HD5.out.row.cell (i:=k*11+6) (by omega);have z6:=HD5.out.row.frozen (k*11+6);have y7:=HD5.out.row.cell (i:=k*11+7) (by omega);have z7:=HD5.out.row.frozen (k*11+7);have y8:=HD5.out.row.cell (i:=k*11+8) (by omega);have z8:=HD5.out.row.frozen (k*11+8);have y9:=HD5.out.row.cell (i:=k*11+9) (by omega);have z9:=HD5.out.row.frozen (k*11+9);have y10:=HD5.out.row.cell (i:=k*11+10) (by omega);have z10:=HD5.out.row.frozen (k*11+10))))
   rename_i hlast;clear hlast;obtain ⟨W6,hW6⟩:∃ W6,W6=(((((((((((w5.setCell ⟨w3.heap.size,k*11,none⟩ (.int .i64 code2)).setCell ⟨w3.heap.size,k*11+1,none⟩ (.int .i64 who2)).setCell ⟨w3.heap.size,k*11+2,none⟩ (.int .i64 kc2)).setCell ⟨w3.heap.size,k*11+3,none⟩ (.int .i64 ki2)).setCell ⟨w3.heap.size,k*11+4,none⟩ (.int .i64 kf2)).setCell ⟨w3.heap.size,k*11+5,none⟩ (.int .i64 kh2)).setCell ⟨w3.heap.size,k*11+6,none⟩ (.int .i64 ku2)).setCell ⟨w3.heap.size,k*11+7,none⟩ (.int .i64 val2)).setCell ⟨w3.heap.size,k*11+8,none⟩ (.slice ps2 sent2.length cs2)).setCell ⟨w3.heap.size,k*11+9,none⟩ (.slice pf2 frame2.length cf2)).setCell ⟨w3.heap.size,k*11+10,none⟩ (.slice pr2 report2.length cr2)):=⟨_,rfl⟩;rw [<- hW6];have h6:W6=putT w5 w3.heap.size (k*11) (RT.mk ⟨code2,who2,⟨kc2,ki2,kf2,kh2,ku2⟩,val2,sent2,frame2,report2⟩ ps2 cs2 pf2 cf2 pr2 cr2).cell:=by rw [hW6];exact qM4 w5 w3.heap.size (k*11) code2 who2 kc2 ki2 kf2 kh2 ku2 val2 sent2 frame2 report2 ps2 cs2 pf2 cf2 pr2 cr2
   have F6:=hid (show VwI w3 W6 n (D++[(RT.mk ⟨code2,who2,⟨kc2,ki2,kf2,kh2,ku2⟩,val2,sent2,frame2,report2⟩ ps2 cs2 pf2 cf2 pr2 cr2)]) by rw [h6];exact HD5.out.told k HDK.out _ TI.out);clear hW6 h6 u0 y0 z0 t0 u1 y1 z1 t1 u2 y2 z2 t2 u3 y3 z3 t3 u4 y4 z4 t4 u5 y5 z5 t5 u6 y6 z6 t6 u7 y7 z7 t7 u8 y8 z8 t8 u9 y9 z9 t9 u10 y10 z10 t10;go_wp2
   go_roundg (n-(k+1))
   case measure=>omega
   case rel =>
    refine ⟨k+1,by omega,by omega,by go_num,(show Aside _ from ⟨_,?_,?_,F6.out⟩)⟩
    ·rw [zD,HDK.out];rfl
    ·rw [List.map_append,HDM.out,VT.out,<- HX2.out];rfl
  ·have hltz:¬ (k:Int)<(n:Int):=by omega
   have ek:k=n:=by omega
   obtain ⟨D,hDk,hDm,hD⟩:=A.out;have HD:=hid hD;have HDM:=hid hDm;have HDK:=hid hDk;have EK:=hid ek;clear hD hDm hDk A ek;go_wp2;go_ret2
   refine ⟨_,n,D,by rw [HDK.out,EK.out];rfl,?_,HD.out.out (by rw [HDK.out,EK.out]),B3.out.trans (HD.out.be.mono B3.out.size)⟩;rw [HDM.out,yB];rw [zI8,zL,zL,HN.out,EK.out];exact yN
theorem qB6 (c:Plain.Cf) (lv mv v:Value) (s:Int) (hmay:Plain.mayC c=false) (w:World) (hI:CfI w c lv mv) :
  Calls Tryz.prog 28 #[cfV c lv mv,v,.int .i64 s] w (OfP [] 4 w):=by
 have bA:=hid (show Below w.heap.size w (w.alloc (boxC c lv mv)) from yO.alloc yN _);have HC:=hid (xW.start w c lv mv);have HI:=hid (hI.grow bA.out);have KM:=hid (fun W (I:CfI W c lv mv)=>zV5 c lv mv W I);have HMAY:=hid hmay;clear hI hmay;obtain ⟨lp,lc,rfl⟩:=yS HI.out.sl;obtain ⟨mp,mc,rfl⟩:=yS HI.out.sm;obtain ⟨cn,ls,ct,ms,ccap⟩:=c;dsimp only at *;go_enter Tryz.func28,Tryz.ntmps28
 go_wp2_with fail
 refine (KM.out _ HI.out).mono ?_;rintro e w1 ⟨rfl,hb⟩;rw [HMAY.out];have B1:=hid (bA.out.trans (hb.mono bA.out.size));have C1:=hid (HC.out.below hb HC.out.lt);clear hb;go_wp2;go_ret2
 exact ⟨none,0,[],rfl,rfl,OutT.nil _,B1.out⟩
theorem xY5 (c:Plain.Cf) (lv mv v:Value) (s:Int) (h1:-9223372036854775808<=s) (h2:s<=9223372036854775807) (h:¬ (0<=s/\s<=255)) (hmay:Plain.mayC c=true) (w:World) (hI:CfI w c lv mv) :
  Calls Tryz.prog 28 #[cfV c lv mv,v,.int .i64 s] w (OfP [] 2 w):=by
 have KL:=hid (fun W=>yN0 s h1 h2 h W);clear h h1 h2;have bA:=hid (show Below w.heap.size w (w.alloc (boxC c lv mv)) from yO.alloc yN _);have HC:=hid (xW.start w c lv mv);have HI:=hid (hI.grow bA.out);have KM:=hid (fun W (I:CfI W c lv mv)=>zV5 c lv mv W I);have HMAY:=hid hmay;clear hI hmay;obtain ⟨lp,lc,rfl⟩:=yS HI.out.sl;obtain ⟨mp,mc,rfl⟩:=yS HI.out.sm;obtain ⟨cn,ls,ct,ms,ccap⟩:=c;dsimp only at *;go_enter Tryz.func28,Tryz.ntmps28
 go_wp2_with fail
 refine (KM.out _ HI.out).mono ?_;rintro e w1 ⟨rfl,hb⟩;rw [HMAY.out];have B1:=hid (bA.out.trans (hb.mono bA.out.size));have C1:=hid (HC.out.below hb HC.out.lt);clear hb
 go_wp2_with fail
 refine (KL.out _).mono ?_;rintro e w2 ⟨rfl,hx⟩;have hy:=hx.symm;clear hx;subst hy;go_wp2;go_ret2
 exact ⟨none,0,[],rfl,rfl,OutT.nil _,B1.out⟩
theorem qB7 (c:Plain.Cf) (lv mv v:Value) (s m:Nat) (hs:s<256) (hm:c.n=m) (hge:¬ s<2^m) (hmay:Plain.mayC c=true) (w:World) (hI:CfI w c lv mv) :
  Calls Tryz.prog 28 #[cfV c lv mv,v,.int .i64 (s:Nat)] w (OfP [] 2 w):=by
 have HGE:=hid (show ((LabM.mem s 8).map (fun j:Nat=>(j:Int))).any (geB c.n)=true by rw [hm,xB9 s m hs,decide_eq_false hge];rfl);have HLE:=hid (show ((LabM.mem s 8).map (fun j:Nat=>(j:Int))).length<=9223372036854775807 by rw [zL];have:=LabM.mem_le s 8;omega);clear hge hm;have bA:=hid (show Below w.heap.size w (w.alloc (boxC c lv mv)) from yO.alloc yN _);have HC:=hid (xW.start w c lv mv);have HI:=hid (hI.grow bA.out);have KM:=hid (fun W (I:CfI W c lv mv)=>zV5 c lv mv W I);have HMAY:=hid hmay;clear hI hmay;obtain ⟨lp,lc,rfl⟩:=yS HI.out.sl;obtain ⟨mp,mc,rfl⟩:=yS HI.out.sm;obtain ⟨cn,ls,ct,ms,ccap⟩:=c;dsimp only at *;go_enter Tryz.func28,Tryz.ntmps28
 go_wp2_with fail
 refine (KM.out _ HI.out).mono ?_;rintro e w1 ⟨rfl,hb⟩;rw [HMAY.out];have B1:=hid (bA.out.trans (hb.mono bA.out.size));have C1:=hid (HC.out.below hb HC.out.lt);clear hb;have KL:=zI2 s hs w1
 go_wp2_with fail
 refine KL.mono ?_;rintro e w2 ⟨vm,rfl,own,hb⟩;have SG:=hid (jM (l:=(LabM.mem s 8).map (fun j:Nat=>(j:Int))) own (by simp) (by simp));have B2:=hid (B1.out.trans (hb.mono B1.out.size));have C2:=hid (C1.out.below hb C1.out.lt);clear hb own KL;have KO:=zX5 w.heap.size ⟨cn,ls,ct,ms,ccap⟩ _ _ vm _ w2 HLE.out SG.out.1 SG.out.2 C2.out;rw [HGE.out] at KO
 go_wp2_with fail
 refine KO.mono ?_;rintro e w3 ⟨rfl,hb⟩;have B3:=hid (B2.out.trans (hb.mono B2.out.size));clear hb KO;go_wp2;go_ret2
 exact ⟨none,0,[],rfl,rfl,OutT.nil _,B3.out⟩
theorem of_any (c:Plain.Cf) (lv mv:Value) (p:Option Addr) (cap:Nat) (R:List RT) (s:Int) (h1:-9223372036854775808<=s) (h2:s<=9223372036854775807) (w:World) (hI:CfI w c lv mv) (hR:InT w p R) :
  Calls Tryz.prog 28 #[cfV c lv mv,.slice p R.length cap,.int .i64 s] w (OfP (qM3 c s (R.map (·.x))) (qB5 c s) w):=by
 unfold qM3 qB5;cases hm:Plain.mayC c with
 | false=>exact qB6 c lv mv _ s hm w hI
 | true =>
  obtain ⟨⟨n1,n8⟩,_⟩:=Plain.xJ hm;by_cases h:0<=s/\s<=255
  ·obtain ⟨x,rfl⟩:=zW h.1
   obtain ⟨m,hmm⟩:=zW (show 0<=c.n by omega);have hz:((2^m:Nat):Int)=(2:Int)^m:=by simp
   by_cases hlt:x<2^m
   ·have e:Plain.labB c.n (x:Int)=true:=by
     unfold Plain.labB;rw [hmm,zK,<- hz,zQ,decide_eq_true_iff,decide_eq_true_iff];omega
    rw [e];exact of_ok c lv mv p R.length cap R x m (by omega) hmm hlt hm w rfl hI hR
   ·have e:Plain.labB c.n (x:Int)=false:=by
     unfold Plain.labB;rw [hmm,zK,<- hz,Bool.and_eq_false_iff,decide_eq_false_iff_not,decide_eq_false_iff_not];omega
    rw [e];exact qB7 c lv mv _ x m (by omega) hmm hlt hm w hI
  ·have e:Plain.labB c.n s=false:=by
    obtain ⟨m,hmm⟩:=zW (show 0<=c.n by omega);have hz:((2^m:Nat):Int)=(2:Int)^m:=by simp
    have hp:=LabP.pow_le (k:=m) (by omega);unfold Plain.labB;rw [hmm,zK,<- hz,Bool.and_eq_false_iff,decide_eq_false_iff_not,decide_eq_false_iff_not];omega
   rw [e];exact xY5 c lv mv _ s h1 h2 h hm w hI
open Go.Sort
theorem xC0 (p1 p2:Option Addr) (c1 c2:Nat) (w:World) :
  Calls Tryz.prog 16 #[.slice p1 0 c1,.slice p2 0 c2] w fun e w'=>e=.returned (.bool true)/\∃ q,w'=w.drewN q:=by
 go_enter Tryz.func16,Tryz.ntmps16
 go_wp2;refine wp_loop_rounds 1 ?_;rw [rounds_succ];go_wp2;go_ret
 exact ⟨rfl,0,rfl⟩
theorem xC1 (b1 o1 c1 b2 o2 c2 n:Nat) (l:List Int) (hn:l.length=n) (hl:n<=9223372036854775807) (w:World)
  (h1:∀ j,j<l.length->w.cell? ⟨b1,o1+j,none⟩=some (.int .i64 (l.getD j 0)))
  (h2:∀ j,j<l.length->w.cell? ⟨b2,o2+j,none⟩=some (.int .i64 (l.getD j 0))) :
  Calls Tryz.prog 16 #[.slice (some ⟨b1,o1,none⟩) n c1,.slice (some ⟨b2,o2,none⟩) n c2] w fun e w'=>e=.returned (.bool true)/\∃ q,w'=w.drewN q:=by
 have H1:=hid h1;have H2:=hid h2;have HN:=hid hn;clear h1 h2 hn;go_enter Tryz.func16,Tryz.ntmps16
 go_wp2
 go_loopw [5] (fun i wr=>∃ k q:Nat,k<=n/\i=.int .i64 k/\wr=w.drewN q) (fun i _=>n-(intOf i).toNat)
 case atStart=>exact ⟨0,0,zG _,rfl,rfl⟩
 case round =>
  obtain ⟨k,q,hk,rfl,rfl⟩:=hrel;by_cases hlt:k<n
  ·have g1:=H1.out k (by rw [HN.out];exact hlt)
   have g2:=H2.out k (by rw [HN.out];exact hlt);have hlt':(k:Int)<(n:Int):=by omega
   generalize l.getD k 0=x at g1 g2;have hx:(x != x)=false:=by simp
   go_wp2
   go_quiet (fail)
   go_wp2
   go_roundw
   case rel=>exact ⟨k+1,_,by omega,by go_num,rfl⟩
   case measure=>simp [intOf];omega
  ·go_wp2
   go_ret
   exact ⟨rfl,_,rfl⟩
theorem qM5 {n:Nat} {p1 p2:Option Addr} {c1 c2:Nat} {l:List Int} (w:World) (hn:l.length=n) (hl:n<=9223372036854775807) (h1:encI.Holds w p1 l) (h2:encI.Holds w p2 l) :
  Calls Tryz.prog 16 #[.slice p1 n c1,.slice p2 n c2] w fun e w'=>e=.returned (.bool true)/\∃ q,w'=w.drewN q:=by
 by_cases h0:0<l.length
 ·obtain ⟨b1,o1,rfl,_,g1⟩:=h1.at 0 h0
  obtain ⟨b2,o2,rfl,_,g2⟩:=h2.at 0 h0;refine xC1 b1 o1 c1 b2 o2 c2 n l hn hl w (fun j hj=>?_) (fun j hj=>?_)
  ·have:=g1 j 0 _ hj (by decide) rfl
   rwa [show j*encI.n+0=j from by show j*1+0=j;omega] at this
  ·have:=g2 j 0 _ hj (by decide) rfl
   rwa [show j*encI.n+0=j from by show j*1+0=j;omega] at this
 ·have e:n=0:=by omega
  subst e;exact xC0 p1 p2 c1 c2 w
theorem qB8 {B:Nat} {w w':World} (h:Below B w w') (hB:B<=w'.heap.size) (n:Nat) (os:Array Obj):Below B w (grow (w'.drewN n) os) :=
 h.trans ⟨rfl,rfl,rfl,by show w'.heap.size<=(w'.heap++os).size;simp,fun k hk=>by
  show (w'.heap++os)[k]?=w'.heap[k]?;rw [Array.getElem?_append_left (by omega)]⟩
end Go.Proofs.YtleaknfjbbccgaaGreatDoor.Vi
