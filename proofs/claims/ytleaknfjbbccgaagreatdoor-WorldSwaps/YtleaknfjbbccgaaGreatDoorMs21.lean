/- Laid together. -/
import Derived.Deep.LoopGhost
import Derived.Deep.RegionHeld3
import Derived.Deep.QuietTactic
import Derived.BigQuiet
import Derived.Deep.CutBlock
import Derived.Test.YtleaknfjbbccgaaGreatDoorMs03
import Derived.Test.YtleaknfjbbccgaaGreatDoorMs10
import Derived.Test.YtleaknfjbbccgaaGreatDoorMs11
import Derived.Test.YtleaknfjbbccgaaGreatDoorMs15
import Derived.Test.YtleaknfjbbccgaaGreatDoorMs17
import Derived.Test.YtleaknfjbbccgaaGreatDoorMs18
import Derived.Test.YtleaknfjbbccgaaGreatDoorMs20
namespace Go.Proofs.YtleaknfjbbccgaaGreatDoor
open Plain
set_option maxHeartbeats 16000000
set_option maxRecDepth 100000
namespace Plain
def Wob (W:Wo):Prop:=∀ k,Bo.Plain.Ok (W.bk k)
theorem Wob.start {c:Cf} (hc:mayC c=true):Wob (Wo.start c):=fun k=>by
 have hm:=xJ hc;have h0:Bo.Plain.Ok (Bo.Plain.Bk.new c.n.toNat c.cap c.t.toNat):=Bo.Plain.Ok.new hm.2.2.2.2.2.2 (by omega);show Bo.Plain.Ok (bk0 c k);unfold bk0;split
 ·exact h0.step _
 ·exact h0
theorem Wob.step {c:Cf} {W:Wo} (h:Wob W) (s:Sp):Wob (stW c W s):=by
 unfold stW;split
 ·exact fun k=>(h k).round
 split
 ·unfold delW
  split
  ·exact h
  ·unfold qM
   split
   ·intro k
    show Bo.Plain.Ok (if k<_ then _ else _);split
    ·exact (h k).step _
    ·exact h k
   split
   ·exact h
   ·exact h
 split
 ·unfold losW
  split<;>exact h
 split
 ·exact h
 split
 ·exact h
 ·intro k
  rw [(brW_keep c W s.who.toNat s).1];exact h k
theorem Wob.run {c:Cf} {W:Wo} (h:Wob W) (l:List Sp):Wob (runW c W l):=by
 induction l generalizing W with
 | nil=>exact h
 | cons s l ih=>exact ih (h.step s)
def look3 (p:Se.Plain.Po):Int × Int × Nat:=(p.frm,p.«to»,p.data.length)
def xY6 (c:Cf):Nat:=(21*c.ms.length+7)/8
def xA3 (c:Cf) (i:Nat):List (Int × Int × Nat):=((i:Int),c.n,xY6 c) :: ((List.range c.n.toNat).filter fun j=>j≠i).map fun j:Nat=>((i:Int),(j:Int),34*comN c i j)
def shape (c:Cf):List (Int × Int × Nat):=(List.range c.n.toNat).flatMap (xA3 c)++(List.range c.n.toNat).map fun i:Nat=>(c.n,(i:Int),xY6 c)
theorem xM3 {m:Nat} {f:Nat->Int} (h:∀ k,k<m->0<=f k/\f k<=1048576):(Bo.Plain.mapN m f).all cntB=true:=by
 rw [zT];intro x hx;unfold Bo.Plain.mapN at hx;obtain ⟨k,hk,rfl⟩:=zZ.1 hx;have:=h k (zY.1 hk);unfold cntB;exact (kS _ _ _).2 this
theorem xP0 {c:Cf} (hc:mayC c=true) {f:Nat->Int} (h:∀ k,k<c.ms.length->0<=f k/\f k<=1048576):(byI (xV c (Bo.Plain.mapN c.ms.length f))).length=xY6 c:=by
 rw [xG];have hl:(Bo.Plain.mapN c.ms.length f).length=c.ms.length:=Bo.Plain.kG _ _;have:=(yW3 hc hl (xM3 h)).2.2.2;rw [this,hl];rfl
theorem rum_z {c:Cf} (hc:mayC c=true) {Z:Int} {s:Nat->List En} (hs:Sok Z s) {i j:Nat} (hi:(i:Int)<c.n) (hj:(j:Int)<c.n):(byI (rumB c i j (stL s c.ls.length))).length=34*comN c i j:=by
 rw [xG];have hst:(stL s c.ls.length).length=c.ls.length:=by simp [stL]
 have hr:refE c i j=0:=by unfold refE;rw [if_pos hc,if_pos (by omega)]
 exact (zL4 hr hst
  (zT.2 fun l hl=>by obtain ⟨t,_,rfl⟩:=zZ.1 hl;exact hs.mayL t)
  (fun l hl=>by
   obtain ⟨t,_,rfl⟩:=zZ.1 hl;exact zT.2 fun e he=>by
    have:=hs.may t e he;unfold fitE;simp only [Bool.and_eq_true,decide_eq_true_eq];exact ⟨this.2.1.2,this.2.2.2⟩)).2.2.2
theorem zI6 {α β:Type} {l:List α} {f g:α->List β} (h:∀ a,a∈l->f a=g a):l.flatMap f=l.flatMap g:=by
 induction l with
 | nil=>rfl
 | cons a l ih=>rw [List.flatMap_cons,List.flatMap_cons,h a yD,ih fun b hb=>h b (yC _ hb)]
theorem zW9 {α β γ:Type} (l:List α) (f:α->List β) (g:β->γ):(l.flatMap f).map g=l.flatMap fun a=>(f a).map g:=by
 induction l with
 | nil=>rfl
 | cons a l ih=>rw [List.flatMap_cons,List.map_append,List.flatMap_cons,ih]
theorem yL9 {c:Cf} {n m K:Nat} {W:Wo} (hc:mayC c=true) (hn:c.n=n) (h:Wok c n m K W) (hb:Wob W):(qS c W).map look3=shape c:=by
 unfold qS shape;rw [List.map_append,zW9];congr 1
 ·refine zI6 fun i hi=>?_
  have hi:=zY.1 hi;unfold sends xA3;rw [List.map_cons,List.map_map];congr 1
  ·show ((i:Int),c.n,(byI (xV c (Bo.Plain.mapN c.ms.length (W.ask i)))).length)=_
   rw [xP0 hc fun k _=>h.ask i k]
  ·refine List.map_congr_left fun j hj=>?_
   have hj:=zY.1 (List.mem_filter.1 hj).1;show ((i:Int),(j:Int),(byI (rumB c i j (stL (W.st i) c.ls.length))).length)=_;rw [rum_z hc (h.st i) (by omega) (by omega)]
 ·rw [List.map_map]
  refine List.map_congr_left fun i hi=>?_;have hi:=zY.1 hi;show (c.n,(i:Int),(byI (xV c (Bo.Plain.mapN c.ms.length fun k=>(Bo.Plain.zT7 (W.bk k)).given.getD i 0))).length)=_;rw [xP0 hc fun k _=>by
   have o:=(hb k).round;have hi2:i<(Bo.Plain.zT7 (W.bk k)).n:=by rw [Bo.Plain.roundB_n,h.bn];omega
   have a:=o.gi i hi2;have b:=o.wa i hi2;omega]
def kC (l:List Sp):Nat:=(l.filter fun s=>decide (s.kind=9)).length
theorem vV (l:List Sp) (s:Sp):kC (l++[s])=kC l+if s.kind=9 then 1 else 0:=by
 unfold kC;rw [List.filter_append,zD];by_cases h:s.kind=9
 ·simp [h]
 ·simp [h]
theorem yC1 (c:Cf) (W:Wo) (s:Sp):(stW c W s).off.posted=if s.kind=9 then W.off.posted++qS c W else W.off.posted:=by
 unfold stW;by_cases h9:s.kind=9
 ·rw [if_pos h9,if_pos h9];rfl
 rw [if_neg h9,if_neg h9];split
 ·unfold delW
  split
  ·rfl
  ·unfold qM
   split
   ·rfl
   split<;>rfl
 split
 ·unfold losW
  split<;>rfl
 split
 ·rfl
 split
 ·rfl
 ·rw [(brW_keep c W s.who.toNat s).2.1]
theorem yC2 {c:Cf} {n m:Nat} (hc:mayC c=true) (hn:c.n=n) (hm:c.ms.length=m) (l:List Sp) (hl:l.length<=300):Wok c n m l.length (runW c (Wo.start c) l)/\Wob (runW c (Wo.start c) l):=by
 refine ⟨?_,(Wob.start hc).run l⟩;have:=wok_run hc hn hm l hl l.length yN;rw [List.take_length] at this;exact this
theorem yM0 {c:Cf} {n m:Nat} (hc:mayC c=true) (hn:c.n=n) (hm:c.ms.length=m):∀ (k:Nat) (l:List Sp),l.length=k->k<=300->(runW c (Wo.start c) l).off.posted.length=(shape c).length*kC l:=by
 intro k;induction k with
 | zero =>
  intro l hl _;have:l=[]:=zP.1 hl;subst this;rfl
 | succ k ih =>
  intro l hl hk;have hne:l≠[]:=by intro e;subst e;simp at hl
  obtain ⟨i,s,rfl⟩:∃ i s,l=i++[s]:=⟨l.dropLast,l.getLast hne,(List.dropLast_concat_getLast hne).symm⟩;rw [zD,List.length_singleton] at hl;have hi:=ih i (by omega) (by omega);have ok:=yC2 hc hn hm i (by omega);rw [zB1];show (stW c (runW c (Wo.start c) i) s).off.posted.length=_;rw [yC1,vV];by_cases h9:s.kind=9
  ·rw [if_pos h9,if_pos h9,zD,hi,Nat.mul_add,Nat.mul_one]
   have:=congrArg List.length (yL9 hc hn ok.1 ok.2);rw [zL] at this;rw [this]
  ·rw [if_neg h9,if_neg h9,hi,Nat.add_zero]
end Plain
namespace Plain
theorem xA4 {c:Cf} (hn:c.n=4):(shape c).length=20:=by
 unfold shape xA3;simp only [hn];rfl
theorem xP1 (c:Cf):∀ (l:List Sp) (W:Wo) (i:Nat),(tlsF c W l)[i]?=(l[i]?).map (stT c (runW c W (l.take i))):=by
 intro l;induction l with
 | nil=>intro W i;simp [tlsF]
 | cons s l ih =>
  intro W i;cases i with
  | zero=>rfl
  | succ i=>exact ih (stW c W s) i
theorem yC3 (l:List Sp) (i:Nat) (s:Sp) (hi:l[i]?=some s):kC (l.take (i+1))=kC (l.take i)+if s.kind=9 then 1 else 0:=by
 rw [List.take_add_one,hi];exact vV _ _
theorem zX0 (l:List Sp):kC l<=l.length:=List.length_filter_le _ _
end Plain
namespace Plain
def xM4:Sp:=⟨9,0,0,0,0,0,0,0⟩
end Plain
open Go.RowKit Go.Shelf Go.Sort
theorem qI1 (D:Nat->Nat) (vo:Nat->Nat->Value) (n m:Nat) (a g:Nat->Nat->Int) (r:Nat->Nat->Hd.Plain.Rk) (i k:Nat) (hi:i<n) (hk:k<m) (gg:Int) (hv:Hd.Plain.Hv (r i k) gg) (w:World) (h:GoI w D vo n m a g r) :
  Calls Tryz.prog 41 #[.pointer (some ⟨D i,k*6+2,none⟩)] w fun e w'=>e=.returned (Hd.aggS ⟨0,0,(r i k).free,(r i k).held,(r i k).used⟩)/\Below w.heap.size w w':=by
 obtain ⟨hf,hu,hs1⟩:=hv.bdsL;obtain ⟨hp1,hp2,hp3⟩:=hv.ptsL;have K:=Hd.now_c _ _ _ _ _ (r i k).free (r i k).used _ _ hp1 (by rw [Hd.Plain.zS4];exact hs1.2) (by omega) w (h.stock hi hk);rw [Hd.Plain.zS4] at K;exact K
structure Plain.Pu where
 ask:Int
 free:Int
 held:Int
 used:Int
def puC (x:Pu) (j:Nat):Value:=.int .i64 (if j=0 then x.ask else if j=3 then x.free else if j=4 then x.held else if j=5 then x.used else 0)
def puF (f:Nat->Pu) (k j:Nat):Value:=if j/6<k then puC (f (j/6)) (j%6) else .int .i64 0
def Plain.puW (W:Wo) (i k:Nat):Pu:=⟨W.ask i k,(W.rk i k).free,(W.rk i k).held,(W.rk i k).used⟩
theorem xA5 (w:World) (m:Nat) (f:Nat->Pu):(w.alloc (.cells (madeCells #[.int .i64 0,.int .i64 0,.int .i64 0,.int .i64 0,.int .i64 0,.int .i64 0] (m*6)) 53)).rowIs w.heap.size 53 (m*6) (puF f 0) :=
 ⟨_,yF _ _,size_madeCells _ _,fun i hi=>by
  have h6:i%6<6:=Nat.mod_lt _ (by decide);have:i%6=0\/i%6=1\/i%6=2\/i%6=3\/i%6=4\/i%6=5:=by omega
  rcases this with e|e|e|e|e|e<;>simp [madeCells,hi,e,puF]⟩
theorem xY7 (f:Nat->Pu) (k j:Nat):(if k*6<=j/\j<k*6+6 then puC (f k) (j-k*6) else puF f k j)=puF f (k+1) j:=by
 unfold puF;by_cases e:k*6<=j/\j<k*6+6
 ·rw [if_pos e,if_pos (by omega),show j/6=k by omega,show j%6=j-k*6 by omega]
 ·rw [if_neg e]
  by_cases l:j/6<k
  ·rw [if_pos l,if_pos (by omega)]
  ·rw [if_neg l,if_neg (by omega)]
theorem puX (f:Nat->Pu) (k j:Nat) (x:Int) (hx:x=(f k).ask):(if j=k*6+5 then .int .i64 (f k).used else if j=k*6+4 then .int .i64 (f k).held else if j=k*6+3 then .int .i64 (f k).free else if j=k*6+2 then .int .i64 0 else if j=k*6+1 then .int .i64 0 else if j=k*6 then .int .i64 x else puF f k j:Value)=if k*6<=j/\j<k*6+6 then puC (f k) (j-k*6) else puF f k j:=by
 by_cases e:k*6<=j/\j<k*6+6
 ·rw [if_pos e]
  obtain ⟨d,rfl⟩:=Nat.exists_eq_add_of_le e.1;rw [Nat.add_sub_cancel_left];have:d=0\/d=1\/d=2\/d=3\/d=4\/d=5:=by omega
  rcases this with rfl|rfl|rfl|rfl|rfl|rfl<;>simp [puC,hx]
 ·rw [if_neg e,if_neg (by omega),if_neg (by omega),if_neg (by omega),if_neg (by omega),if_neg (by omega),if_neg (by omega)]
theorem qI2:(Tryz.prog.info? 53).map (fun i=>(i.zero,i.size,i.bytes))=some (some (.agg #[.int .i64 0,.int .i64 0,.int .i64 0,.int .i64 0,.int .i64 0,.int .i64 0]),6,48):=by kernel_rfl
theorem xM5 (EB NC:Nat) (F:Nat->Value) (H D:Nat->Nat) (vo:Nat->Nat->Value) (lp:Option Addr) (lc n m:Nat) (L:List Int) (W:Wo) (i:Nat) (hi:i<n) (hm:m<=3) (hv:∀ k,∃ g,Hd.Plain.Hv (W.rk i k) g) (w:World)
  (h:BrsI w EB NC F H D vo lp lc n m L W) :
  Calls Tryz.prog 30 #[.pointer (some ⟨EB,i*4,none⟩)] w fun e w'=>e=.returned (.slice (some ⟨w.heap.size,0,none⟩) m m)/\w'.rowIs w.heap.size 53 (m*6) (puF (puW W i) m)/\Below w.heap.size w w':=by
 have mk:∀ W:World,(Instr.makeSlice 54 (.int .i64 (m:Int)) (.int .i64 (m:Int))).run Tryz.prog W=.ok (.slice (some ⟨W.heap.size,0,none⟩) m m) (W.alloc (.cells (madeCells #[.int .i64 0,.int .i64 0,.int .i64 0,.int .i64 0,.int .i64 0,.int .i64 0] (m*6)) 53)):=fun W=>by
  obtain ⟨i0,hi,hz0,hz1,hz2⟩:=info_parts qI2;have:=run_make (P:=Tryz.prog) W 54 53 i0 _ Tryz.underlying54 hi hz0 .i64 .i64 (m:Int) (m:Int) (by omega) (Int.le_refl _) (by rw [hz2];omega) (by omega);rw [hz1,show (Value.agg #[.int .i64 0,.int .i64 0,.int .i64 0,.int .i64 0,.int .i64 0,.int .i64 0]).cells=#[.int .i64 0,.int .i64 0,.int .i64 0,.int .i64 0,.int .i64 0,.int .i64 0] from rfl] at this;simpa using this
 obtain ⟨WA,hWA⟩:∃ WA,WA=w.alloc (.cells (madeCells #[.int .i64 0,.int .i64 0,.int .i64 0,.int .i64 0,.int .i64 0,.int .i64 0] (m*6)) 53):=⟨_,rfl⟩;have BA:=hid (show Below w.heap.size w WA by rw [hWA];exact yO.alloc yN _);have RA:=hid (show WA.rowIs w.heap.size 53 (m*6) (puF (puW W i) 0) by rw [hWA];exact xA5 w m (puW W i));have x3:=h.st.goods hi;have x3A:=(h.grow BA.out).st.goods hi;rw [hWA] at x3A;have HG:=hid h;have HV:=hid hv;have mixed:Tryz.prog.follows .mixedOrders=true:=by kernel_rfl
 clear h hv;go_enter Tryz.func30,Tryz.ntmps30
 go_wp2;rw [<- hWA];clear hWA mk x3 x3A
 go_loopg [4,16] m (fun gg _ s16 wx=>∃ k:Nat,k<=m/\m-k<=gg/\s16=.int .i64 k/\Aside (Below w.heap.size w wx/\wx.rowIs w.heap.size 53 (m*6) (puF (puW W i) k)))
 case atStart=>exact ⟨0,zG _,by omega,rfl,(show Aside _ from ⟨BA.out,RA.out⟩)⟩
 case round =>
  obtain ⟨k,hk,hg,rfl,AR⟩:=hrel;clear BA RA;by_cases hlt:k<m
  ·have hltz:(k:Int)<(m:Int):=by omega
   have hkn:¬ (k:Int)<0:=by omega
   have hB:=HG.out.grow AR.out.1;obtain ⟨gg5,hvk⟩:=HV.out k;have KN:=qI1 D vo n m W.ask W.gain W.rk i k hi hlt gg5 hvk wr.drew (hB.go.grow yO.drew);have x3:=hB.st.goods hi;have xa:=hB.go.cA hi hlt;obtain ⟨x,hx⟩:∃ x,x=W.ask i k:=⟨_,rfl⟩;rw [<- hx] at xa;have TS:(fun w':World=>w'.cell? ⟨EB,i*4+3,none⟩=some (.slice (some ⟨D i,0,none⟩) m m)/\w'.cell? ⟨D i,k*6,none⟩=some (.int .i64 x)) wr.drew:=⟨x3,xa⟩;have ARH:=hid AR.out;have HX:=hid hx;clear hB hvk xa x3 AR hx
   go_upto_region 5 with fail
   refine yP.begin (fun w':World=>w'.cell? ⟨EB,i*4+3,none⟩=some (.slice (some ⟨D i,0,none⟩) m m)/\w'.cell? ⟨D i,k*6,none⟩=some (.int .i64 x)) 20 mixed ?_;refine yP.take 0 (.slice (some ⟨w.heap.size,0,none⟩) m m) rfl (by kernel_rfl) (by kernel_rfl) (by kernel_rfl) (by kernel_rfl) (fun _ _ _ h=>h) TS (by rfl) (fun w' hS=>?_) ?_
   ·(obtain ⟨q1,q2⟩:=hS;go_simp)
   (try simp only [Act.put,List.setIfInBounds_toArray,List.set_cons_zero,List.set_cons_succ])
   refine yP.take 1 (.int .i64 (k:Int)) rfl (by kernel_rfl) (by kernel_rfl) (by kernel_rfl) (by kernel_rfl) (fun _ _ _ h=>h) TS (by rfl) (fun w' hS=>?_) ?_
   ·(obtain ⟨q1,q2⟩:=hS;go_simp)
   (try simp only [Act.put,List.setIfInBounds_toArray,List.set_cons_zero,List.set_cons_succ])
   refine yP.take 2 (.pointer (some ⟨EB,i*4,none⟩)) rfl (by kernel_rfl) (by kernel_rfl) (by kernel_rfl) (by kernel_rfl) (fun _ _ _ h=>h) TS (by rfl) (fun w' hS=>?_) ?_
   ·(obtain ⟨q1,q2⟩:=hS;go_simp)
   (try simp only [Act.put,List.setIfInBounds_toArray,List.set_cons_zero,List.set_cons_succ])
   refine yP.take 3 (.pointer (some ⟨EB,i*4,none⟩)) rfl (by kernel_rfl) (by kernel_rfl) (by kernel_rfl) (by kernel_rfl) (fun _ _ _ h=>h) TS (by rfl) (fun w' hS=>?_) ?_
   ·(obtain ⟨q1,q2⟩:=hS;go_simp)
   (try simp only [Act.put,List.setIfInBounds_toArray,List.set_cons_zero,List.set_cons_succ])
   refine yP.take 4 (.pointer (some ⟨EB,i*4+3,none⟩)) rfl (by kernel_rfl) (by kernel_rfl) (by kernel_rfl) (by kernel_rfl) (fun _ _ _ h=>h) TS (by rfl) (fun w' hS=>?_) ?_
   ·(obtain ⟨q1,q2⟩:=hS;go_simp)
   (try simp only [Act.put,List.setIfInBounds_toArray,List.set_cons_zero,List.set_cons_succ])
   refine yP.take 5 (.slice (some ⟨D i,0,none⟩) m m) rfl (by kernel_rfl) (by kernel_rfl) (by kernel_rfl) (by kernel_rfl) (fun _ _ _ h=>h) TS (by rfl) (fun w' hS=>?_) ?_
   ·(obtain ⟨q1,q2⟩:=hS;go_simp)
   (try simp only [Act.put,List.setIfInBounds_toArray,List.set_cons_zero,List.set_cons_succ])
   refine yP.take 6 (.int .i64 (k:Int)) rfl (by kernel_rfl) (by kernel_rfl) (by kernel_rfl) (by kernel_rfl) (fun _ _ _ h=>h) TS (by rfl) (fun w' hS=>?_) ?_
   ·(obtain ⟨q1,q2⟩:=hS;go_simp)
   (try simp only [Act.put,List.setIfInBounds_toArray,List.set_cons_zero,List.set_cons_succ])
   refine yP.take 7 (.pointer (some ⟨D i,k*6,none⟩)) rfl (by kernel_rfl) (by kernel_rfl) (by kernel_rfl) (by kernel_rfl) (fun _ _ _ h=>h) TS (by rfl) (fun w' hS=>?_) ?_
   ·(obtain ⟨q1,q2⟩:=hS;go_simp)
   (try simp only [Act.put,List.setIfInBounds_toArray,List.set_cons_zero,List.set_cons_succ])
   refine yP.take 8 (.pointer (some ⟨D i,k*6,none⟩)) rfl (by kernel_rfl) (by kernel_rfl) (by kernel_rfl) (by kernel_rfl) (fun _ _ _ h=>h) TS (by rfl) (fun w' hS=>?_) ?_
   ·(obtain ⟨q1,q2⟩:=hS;go_simp)
   (try simp only [Act.put,List.setIfInBounds_toArray,List.set_cons_zero,List.set_cons_succ])
   refine yP.take 9 (.int .i64 x) rfl (by kernel_rfl) (by kernel_rfl) (by kernel_rfl) (by kernel_rfl) (fun _ _ _ h=>h) TS (by rfl) (fun w' hS=>?_) ?_
   ·(obtain ⟨q1,q2⟩:=hS;go_simp)
   (try simp only [Act.put,List.setIfInBounds_toArray,List.set_cons_zero,List.set_cons_succ])
   refine yP.take 10 (.pointer (some ⟨EB,i*4,none⟩)) rfl (by kernel_rfl) (by kernel_rfl) (by kernel_rfl) (by kernel_rfl) (fun _ _ _ h=>h) TS (by rfl) (fun w' hS=>?_) ?_
   ·(obtain ⟨q1,q2⟩:=hS;go_simp)
   (try simp only [Act.put,List.setIfInBounds_toArray,List.set_cons_zero,List.set_cons_succ])
   refine yP.take 11 (.pointer (some ⟨EB,i*4,none⟩)) rfl (by kernel_rfl) (by kernel_rfl) (by kernel_rfl) (by kernel_rfl) (fun _ _ _ h=>h) TS (by rfl) (fun w' hS=>?_) ?_
   ·(obtain ⟨q1,q2⟩:=hS;go_simp)
   (try simp only [Act.put,List.setIfInBounds_toArray,List.set_cons_zero,List.set_cons_succ])
   refine yP.take 12 (.pointer (some ⟨EB,i*4+3,none⟩)) rfl (by kernel_rfl) (by kernel_rfl) (by kernel_rfl) (by kernel_rfl) (fun _ _ _ h=>h) TS (by rfl) (fun w' hS=>?_) ?_
   ·(obtain ⟨q1,q2⟩:=hS;go_simp)
   (try simp only [Act.put,List.setIfInBounds_toArray,List.set_cons_zero,List.set_cons_succ])
   refine yP.take 13 (.slice (some ⟨D i,0,none⟩) m m) rfl (by kernel_rfl) (by kernel_rfl) (by kernel_rfl) (by kernel_rfl) (fun _ _ _ h=>h) TS (by rfl) (fun w' hS=>?_) ?_
   ·(obtain ⟨q1,q2⟩:=hS;go_simp)
   (try simp only [Act.put,List.setIfInBounds_toArray,List.set_cons_zero,List.set_cons_succ])
   refine yP.take 14 (.int .i64 (k:Int)) rfl (by kernel_rfl) (by kernel_rfl) (by kernel_rfl) (by kernel_rfl) (fun _ _ _ h=>h) TS (by rfl) (fun w' hS=>?_) ?_
   ·(obtain ⟨q1,q2⟩:=hS;go_simp)
   (try simp only [Act.put,List.setIfInBounds_toArray,List.set_cons_zero,List.set_cons_succ])
   refine yP.take 15 (.pointer (some ⟨D i,k*6,none⟩)) rfl (by kernel_rfl) (by kernel_rfl) (by kernel_rfl) (by kernel_rfl) (fun _ _ _ h=>h) TS (by rfl) (fun w' hS=>?_) ?_
   ·(obtain ⟨q1,q2⟩:=hS;go_simp)
   (try simp only [Act.put,List.setIfInBounds_toArray,List.set_cons_zero,List.set_cons_succ])
   refine yP.take 16 (.pointer (some ⟨D i,k*6+2,none⟩)) rfl (by kernel_rfl) (by kernel_rfl) (by kernel_rfl) (by kernel_rfl) (fun _ _ _ h=>h) TS (by rfl) (fun w' hS=>?_) ?_
   ·(obtain ⟨q1,q2⟩:=hS;go_simp)
   (try simp only [Act.put,List.setIfInBounds_toArray,List.set_cons_zero,List.set_cons_succ])
   refine yP.one 17 (by kernel_rfl) rfl (by rfl) (fun K hK=>?_);go_simp;refine KN.mono ?_;rintro e w3 ⟨rfl,b3⟩;have B3:=hid (show Below wr.heap.size wr w3 from (yO.drew:Below wr.heap.size wr wr.drew).trans b3);have T3:(fun w':World=>w'.cell? ⟨EB,i*4+3,none⟩=some (.slice (some ⟨D i,0,none⟩) m m)/\w'.cell? ⟨D i,k*6,none⟩=some (.int .i64 x)) w3:=⟨(b3.cell (p:=⟨EB,i*4+3,none⟩) (zC (w:=wr.drew) (h:=TS.1))).trans TS.1,(b3.cell (p:=⟨D i,k*6,none⟩) (zC (w:=wr.drew) (h:=TS.2))).trans TS.2⟩;refine hK.out _ _ (fun _=>T3) ?_;clear hK K KN b3
   (try simp only [Act.put,List.setIfInBounds_toArray,List.set_cons_zero,List.set_cons_succ])
   refine yP.one 18 (by kernel_rfl) rfl (by rfl) (fun K hK=>?_);go_simp;refine hK.out _ _ (fun _=>T3) ?_;clear hK K
   (try simp only [Act.put,List.setIfInBounds_toArray,List.set_cons_zero,List.set_cons_succ])
   refine yP.one 19 (by kernel_rfl) rfl (by rfl) (fun K hK=>?_);go_simp;refine hK.out _ _ (fun _=>T3) ?_;clear hK K
   (try simp only [Act.put,List.setIfInBounds_toArray,List.set_cons_zero,List.set_cons_succ])
   have R3:=ARH.out.2.of_block (B3.out.block _ ARH.out.2.lt);have y0:=R3.cell (i:=k*6) (by omega);have y1:=R3.cell (i:=k*6+1) (by omega);have y2:=R3.cell (i:=k*6+2) (by omega);have y3:=R3.cell (i:=k*6+3) (by omega);have y4:=R3.cell (i:=k*6+4) (by omega);have y5:=R3.cell (i:=k*6+5) (by omega);have z0:=R3.frozen (k*6);have z1:=R3.frozen (k*6+1);have z2:=R3.frozen (k*6+2);have z3:=R3.frozen (k*6+3);have z4:=R3.frozen (k*6+4);have z5:=R3.frozen (k*6+5);have R9:=hid R3;clear R3;refine yP.one 20 (by kernel_rfl) rfl (by rfl) (fun K hK=>?_);go_simp;refine hK.out _ _ (fun h=>absurd rfl h) ?_;clear hK K;refine yP.done (by kernel_rfl) ?_;have NX:=hid (show Below w.heap.size w ((((((w3.setCell ⟨w.heap.size,k*6,none⟩ (.int .i64 x)).setCell ⟨w.heap.size,k*6+1,none⟩ (.int .i64 0)).setCell ⟨w.heap.size,k*6+2,none⟩ (.int .i64 0)).setCell ⟨w.heap.size,k*6+3,none⟩ (.int .i64 (W.rk i k).free)).setCell ⟨w.heap.size,k*6+4,none⟩ (.int .i64 (W.rk i k).held)).setCell ⟨w.heap.size,k*6+5,none⟩ (.int .i64 (W.rk i k).used))/\((((((w3.setCell ⟨w.heap.size,k*6,none⟩ (.int .i64 x)).setCell ⟨w.heap.size,k*6+1,none⟩ (.int .i64 0)).setCell ⟨w.heap.size,k*6+2,none⟩ (.int .i64 0)).setCell ⟨w.heap.size,k*6+3,none⟩ (.int .i64 (W.rk i k).free)).setCell ⟨w.heap.size,k*6+4,none⟩ (.int .i64 (W.rk i k).held)).setCell ⟨w.heap.size,k*6+5,none⟩ (.int .i64 (W.rk i k).used)).rowIs w.heap.size 53 (m*6) (puF (puW W i) (k+1)) from
    ⟨((((((ARH.out.1.trans (B3.out.mono ARH.out.1.size)).setCell yN _).setCell yN _).setCell yN _).setCell yN _).setCell yN _).setCell yN _,
     ((((((R9.out.set (k*6) _).set (k*6+1) _).set (k*6+2) _).set (k*6+3) _).set (k*6+4) _).set (k*6+5) _).congr fun j _=>by rw [<- xY7];exact puX (puW W i) k j x HX.out⟩)
   generalize ((((((w3.setCell ⟨w.heap.size,k*6,none⟩ (.int .i64 x)).setCell ⟨w.heap.size,k*6+1,none⟩ (.int .i64 0)).setCell ⟨w.heap.size,k*6+2,none⟩ (.int .i64 0)).setCell ⟨w.heap.size,k*6+3,none⟩ (.int .i64 (W.rk i k).free)).setCell ⟨w.heap.size,k*6+4,none⟩ (.int .i64 (W.rk i k).held)).setCell ⟨w.heap.size,k*6+5,none⟩ (.int .i64 (W.rk i k).used))=W9 at NX ⊢;clear y0 y1 y2 y3 y4 y5 z0 z1 z2 z3 z4 z5 R9 ARH B3 T3 TS HX;go_wp2
   go_roundg (m-(k+1))
   case measure=>omega
   case rel=>exact ⟨k+1,by omega,by omega,by go_num,(show Aside _ from NX.out)⟩
  ·have hltz:¬ (k:Int)<(m:Int):=by omega
   have ek:k=m:=by omega
   subst ek;go_wp2;go_ret
   exact ⟨rfl,AR.out.2,AR.out.1⟩
def encK (m:Nat):Enc Nat:=⟨1,fun b=>[.slice (some ⟨b,0,none⟩) m m],fun _=>rfl,fun a u hu=>by simp only [List.mem_singleton] at hu;subst hu;rfl,by decide⟩
theorem qI3:(Tryz.prog.info? 54).map (fun i=>(i.zero,i.size,i.bytes))=some (some (.slice none 0 0),1,24):=by kernel_rfl
theorem qI4:(Tryz.prog.info? 57).map (fun i=>(i.zero,i.size,i.bytes))=some (some (.slice none 0 0),1,24):=by kernel_rfl
theorem vW {B e n k:Nat} {w:World} {v:Value} {l:List Value} (h:w.ownsRow B e n v k l) {b:Nat} (hb:v.ownBlock=some b):b<w.heap.size/\B<=b:=by
 rcases h.2 with ⟨rfl,_⟩|⟨g,cc,cur,rfl,hg,hh,_⟩
 ·simp [Value.ownBlock] at hb
 ·simp only [Value.ownBlock,Option.some.injEq] at hb
  rw [<- hb];exact ⟨(zJ.1 hh).1,hg⟩
theorem qI5 {B t e m k:Nat} {w:World} {v:Value} {l:List Nat} (ht:Tryz.prog.underlying t=some (.slice e)) (hinfo:(Tryz.prog.info? e).map (fun i=>(i.zero,i.size,i.bytes))=some (some (.slice none 0 0),1,24)) (h:w.ownsRow B e 1 v k ((encK m).vals l)) (hk:l.length=k) (hl:k<=1000) (hw:B<=w.heap.size) (x:Nat) :
  ∃ p c w',(Builtin.append_ #[t,t] t #[v,.slice (some ⟨w.heap.size,0,none⟩) 1 1]).run Tryz.prog (w.alloc (.cells #[.slice (some ⟨x,0,none⟩) m m] e))=.ok (.slice p (k+1) c) w'/\w'.ownsRow B e 1 (.slice p (k+1) c) (k+1) ((encK m).vals (l++[x]))/\Uw (fun b=>v.ownBlock=some b) w w':=by
 have bA:Below w.heap.size w (w.alloc (.cells #[.slice (some ⟨x,0,none⟩) m m] e)):=yO.alloc yN _;have hA:(w.alloc (.cells #[.slice (some ⟨x,0,none⟩) m m] e)).ownsRow B e 1 v k ((encK m).vals l):=Hd.zB8 h fun b hb=>bA.block b (vW h hb).1;obtain ⟨i0,hi,hz0,hz1,hz2⟩:=info_parts hinfo;obtain ⟨v',w',h1,h2,h3,h4⟩:=Enc.appW (E:=encK m) (w:=w.alloc (.cells #[.slice (some ⟨x,0,none⟩) m m] e)) (B:=B) (c:=1) (m:=1) (q:=[x]) ht hi hz0 hz1 hz2 rfl hA ((encK m).one_holds w x e) rfl (fun e=>by cases e) (by omega) (by omega) (by simp;omega);obtain ⟨p,c,rfl,_⟩:=(encK m).owns h2 (by rw [zD,hk];rfl);exact ⟨p,c,w',h1,h2,⟨h3.os,h3.tape,h3.output,zI bA.size h3.size,fun k hk hn=>(h3.block k (by simp;omega) (fun e=>hn e.symm)).trans (bA.block k hk)⟩⟩
structure EnI (w0 w:World) (m L:Nat) (W:Wo) (rv pv sv:Value) (rl:List Int) (kp ks:Nat) (P G:Nat->Nat):Prop where
 be:Below w0.heap.size w0 w
 re:NumR w0 w rv rl
 po:w.ownsRow w0.heap.size 54 1 pv kp ((encK m).vals ((List.range kp).map P))
 so:w.ownsRow w0.heap.size 57 1 sv ks ((encK L).vals ((List.range ks).map G))
 pr:∀ i,i<kp->w.rowIs (P i) 53 (m*6) (puF (puW W i) m)
 gr:∀ i,i<ks->∃ f,RowL w (G i) L (W.st i) f
namespace EnI
variable {w0 w w':World} {m L:Nat} {W:Plain.Wo} {rv pv sv:Value} {rl:List Int} {kp ks:Nat} {P G:Nat->Nat}
theorem grow (h:EnI w0 w m L W rv pv sv rl kp ks P G) (b:Below w.heap.size w w'):EnI w0 w' m L W rv pv sv rl kp ks P G :=
 ⟨h.be.trans (b.mono h.be.size),h.re.keep fun x hx=>b.block x (h.re.lt hx).1,Hd.zB8 h.po fun x hx=>b.block x (vW h.po hx).1,Hd.zB8 h.so fun x hx=>b.block x (vW h.so hx).1,
  fun i hi=>(h.pr i hi).of_block (b.block _ (h.pr i hi).lt),fun i hi=>by obtain ⟨f,hf⟩:=h.gr i hi;exact ⟨f,hf.grow b⟩⟩
theorem nil (w0:World) (h:NumR w0 w rv rl) (b:Below w0.heap.size w0 w):EnI w0 w m L W rv (.slice none 0 0) (.slice none 0 0) rl 0 0 P G :=
 ⟨b,h,World.ownsRow_nil _ _ _ _,World.ownsRow_nil _ _ _ _,fun i hi=>by omega,fun i hi=>by omega⟩
theorem below (h:EnI w0 w m L W rv pv sv rl kp ks P G) {v:Value} (hv:∀ b,v.ownBlock=some b->w0.heap.size<=b) (u:Uw (fun b=>v.ownBlock=some b) w w'):Below w0.heap.size w0 w' :=
 h.be.trans (u.below h.be.size fun b hb e=>by have:=hv b e;omega)
theorem tne {a b:Nat} {s t:TypeId} (hs:tag w a=some s) (ht:tag w b=some t) (hne:s≠t):a≠b:=fun e=>by
 subst e;rw [hs] at ht;exact hne (Option.some.inj ht)
theorem noE {v:Value} {t:TypeId} (ht:∀ b,v.ownBlock=some b->tag w b=some t) (hne:t≠75):NoE w (fun b=>v.ownBlock=some b):=fun b hb cs e=>by
 have:=ht b hb;unfold tag at this;rw [e] at this;exact hne (Option.some.inj this).symm
theorem snocP (h:EnI w0 w m L W rv pv sv rl kp ks P G) (hk:kp<=1000) {b:Nat} (hb:w.rowIs b 53 (m*6) (puF (Plain.puW W kp) m)) :
  ∃ p c w',(Builtin.append_ #[46,46] 46 #[pv,.slice (some ⟨w.heap.size,0,none⟩) 1 1]).run Tryz.prog (w.alloc (.cells #[.slice (some ⟨b,0,none⟩) m m] 54))=.ok (.slice p (kp+1) c) w'/\EnI w0 w' m L W rv (.slice p (kp+1) c) sv rl (kp+1) ks (fun i=>if i=kp then b else P i) G:=by
 obtain ⟨p,c,w',h1,h2,u⟩:=qI5 Tryz.underlying46 qI3 h.po (by rw [zL,List.length_range]) hk h.be.size b;have tg:∀ x,pv.ownBlock=some x->tag w x=some 54:=fun x hx=>xC h.po hx;have kt:∀ x t,x<w.heap.size->tag w x=some t->t≠54->w'.heap[x]?=w.heap[x]?:=fun x t hx ht hne=>u.block x hx fun e=>tne ht (tg x e) hne rfl;have hm:(List.range (kp+1)).map (fun i=>if i=kp then b else P i)=(List.range kp).map P++[b]:=by
  rw [List.range_succ,List.map_append,List.map_singleton,if_pos rfl];refine congrArg (·++[b]) ?_;exact List.map_congr_left fun i hi=>by rw [if_neg (by have:=zY.1 hi;omega)]
 refine ⟨p,c,w',h1,h.below (fun x hx=>(vW h.po hx).2) u,h.re.keep fun x hx=>kt x _ (h.re.lt hx).1 (h.re.tag hx) (by decide),by rw [hm];exact h2,Hd.zB8 h.so fun x hx=>kt x _ (vW h.so hx).1 (xC h.so hx) (by decide),fun i hi=>?_,fun i hi=>?_⟩
 ·by_cases e:i=kp
  ·subst e
   rw [if_pos rfl];exact hb.of_block (kt _ _ hb.lt (yQ hb) (by decide))
  ·rw [if_neg e]
   have hr:=h.pr i (by omega);exact hr.of_block (kt _ _ hr.lt (yQ hr) (by decide))
 ·obtain ⟨f,hf⟩:=h.gr i hi
  exact ⟨f,hf.uw u (noE tg (by decide)) fun e=>tne (yQ hf.row) (tg _ e) (by decide) rfl⟩
theorem snocS (h:EnI w0 w m L W rv pv sv rl kp ks P G) (hk:ks<=1000) {b:Nat} {f:Nat->Value} (hb:RowL w b L (W.st ks) f) :
  ∃ p c w',(Builtin.append_ #[47,47] 47 #[sv,.slice (some ⟨w.heap.size,0,none⟩) 1 1]).run Tryz.prog (w.alloc (.cells #[.slice (some ⟨b,0,none⟩) L L] 57))=.ok (.slice p (ks+1) c) w'/\EnI w0 w' m L W rv pv (.slice p (ks+1) c) rl kp (ks+1) P (fun i=>if i=ks then b else G i):=by
 obtain ⟨p,c,w',h1,h2,u⟩:=qI5 Tryz.underlying47 qI4 h.so (by rw [zL,List.length_range]) hk h.be.size b;have tg:∀ x,sv.ownBlock=some x->tag w x=some 57:=fun x hx=>xC h.so hx;have kt:∀ x t,x<w.heap.size->tag w x=some t->t≠57->w'.heap[x]?=w.heap[x]?:=fun x t hx ht hne=>u.block x hx fun e=>tne ht (tg x e) hne rfl;have hm:(List.range (ks+1)).map (fun i=>if i=ks then b else G i)=(List.range ks).map G++[b]:=by
  rw [List.range_succ,List.map_append,List.map_singleton,if_pos rfl];refine congrArg (·++[b]) ?_;exact List.map_congr_left fun i hi=>by rw [if_neg (by have:=zY.1 hi;omega)]
 refine ⟨p,c,w',h1,h.below (fun x hx=>(vW h.so hx).2) u,h.re.keep fun x hx=>kt x _ (h.re.lt hx).1 (h.re.tag hx) (by decide),Hd.zB8 h.po fun x hx=>kt x _ (vW h.po hx).1 (xC h.po hx) (by decide),by rw [hm];exact h2,fun i hi=>?_,fun i hi=>?_⟩
 ·have hr:=h.pr i hi
  exact hr.of_block (kt _ _ hr.lt (yQ hr) (by decide))
 ·have hx:∀ {g:Nat} {s:Nat->List Plain.En} {f':Nat->Value},RowL w g L s f'->RowL w' g L s f':=fun hf=>hf.uw u (noE tg (by decide)) fun e=>tne (yQ hf.row) (tg _ e) (by decide) rfl
  by_cases e:i=ks
  ·subst e
   rw [if_pos rfl];exact ⟨f,hx hb⟩
  ·rw [if_neg e]
   obtain ⟨f',hf⟩:=h.gr i (by omega);exact ⟨f',hx hf⟩
end EnI
theorem zD5 {fn:Func} {t u v x:Tmp} (h:fn.results=#[.tmp t,.tmp u,.tmp v,.tmp x]) (tmps:Array Value) (P:Program) (w:World):(results fn tmps).run P w=.ok (.tuple #[tmps.getD t undef,tmps.getD u undef,tmps.getD v undef,tmps.getD x undef]) w:=by simp [results,h]
theorem xA6 (R oo:Nat) (x:Int) (w:World) (h:w.cell? ⟨R,oo+2,none⟩=some (.int .i64 x)):Calls Tryz.prog 29 #[.pointer (some ⟨R,oo,none⟩)] w fun e w'=>e=.returned (.int .i64 x)/\w'=w:=by
 go_enter Tryz.func29,Tryz.ntmps29
 go_wp2;go_ret
 exact ⟨rfl,rfl⟩
def EndY (c:Cf) (n m:Nat) (l:List Sp) (w:World) (e:Ending) (w':World):Prop :=
 ∃ rp rc pp pc sp sc w0 P G,e=.returned (.tuple #[.slice rp m rc,.slice pp n pc,.slice sp n sc,.int .i64 0])/\Below w.heap.size w w'/\EnI w0 w' m c.ls.length (runW c (Wo.start c) l) (.slice rp m rc) (.slice pp n pc) (.slice sp n sc) (Bo.Plain.mapN m fun k=>((runW c (Wo.start c) l).bk k).reserve) n n P G
theorem xY8 (c:Cf) (lp mp:Option Addr) (lc mc n m:Nat) (p:Option Addr) (N cap:Nat) (l:List Sp) (hN:l.length=N) (h300:N<=300) (hc:mayC c=true) (hn:c.n=n) (hm:c.ms.length=m) (hL0:2<=n->0<c.ls.length) (hwf:∀ s,s∈l->(Lit.int .i64 s.id).wf=true)
  (w:World) (hI:CfI w c (.slice lp c.ls.length lc) (.slice mp c.ms.length mc)) (htb:∀ k,2<=k->k<=6->w.cell? ⟨0,k,none⟩=some (.int .i64 (k:Nat))) (hp:qA.Holds w p l) :
  Calls Tryz.prog 21 #[cfV c (.slice lp c.ls.length lc) (.slice mp c.ms.length mc),.slice p N cap] w (EndY c n m l w):=by
 have hb0:0<w.heap.size:=zC (w:=w) (h:=htb 2 (by omega) (by omega));obtain ⟨WA,hWA⟩:∃ WA,WA=w.alloc (boxC c (.slice lp c.ls.length lc) (.slice mp c.ms.length mc)):=⟨_,rfl⟩;have BA:=hid (show Below w.heap.size w WA by rw [hWA];exact yO.alloc yN _);have K:=xA0 c lp mp lc mc n m p N cap l hN h300 hc hn hm hL0 hwf WA (hI.grow BA.out) (fun k h2 h6=>(BA.out.cell (p:=⟨0,k,none⟩) hb0).trans (htb k h2 h6)) (hp.grow BA.out);have HOK:=hid (show Wok c n m N (runW c (Wo.start c) l) by have:=wok_run hc hn hm l (by omega) l.length yN;rw [List.take_length,hN] at this;exact this);have hm3:m<=3:=by have:=(xJ hc).2.2.2.2.1;omega
 have hn8:n<=8:=by have:=(xJ hc).1;omega
 have hL4:c.ls.length<=4:=(xJ hc).2.1;rw [hWA] at K;clear hI htb hp hc hn hm hL0 hwf hb0;go_enter Tryz.func21,Tryz.ntmps21
 go_wp2_with fail
 refine K.mono ?_;rintro e w2 ⟨B,M,T,S,TB,sv,fv,rv,rfl,hB,wi,tls,be⟩;rw [<- hWA] at be;have B2:=hid (show Below w.heap.size w w2 from BA.out.trans (be.mono BA.out.size));have HWI:=hid wi;obtain ⟨R,hR⟩:∃ R,R=M.R:=⟨_,rfl⟩;have c8:w2.cell? ⟨M.R,8,none⟩=some (.slice (some ⟨M.BB,0,none⟩) m M.cb):=wi.cell (j:=8) (by omega);rw [<- hR] at c8 ⊢;have HR:=hid hR;generalize hW:runW c (Wo.start c) l=W at HWI HOK;have HE:=hid hW;have N0:=hid (NumR.nil w2 w2);clear K hB wi tls be hWA BA hR hW;go_wp2;clear c8
 go_loopg [4,11,28] m (fun gg s4 _ s28 wx=>∃ (k:Nat) (p:Option Addr) (c:Nat),k<=m/\m-k<=gg/\s28=.int .i64 k/\s4=.slice p k c/\Aside (Below w2.heap.size w2 wx/\NumR w2 wx (.slice p k c) (Bo.Plain.mapN k fun k=>(W.bk k).reserve)))
 case atStart=>exact ⟨0,none,0,zG _,by omega,rfl,rfl,(show Aside _ from ⟨yO,N0.out⟩)⟩
 case round =>
  obtain ⟨k,p4,c4,hk,hg,rfl,rfl,A⟩:=hrel;by_cases hlt:k<m
  ·have hltz:(k:Int)<(m:Int):=by omega
   have hkn:¬ (k:Int)<0:=by omega
   have wi:=HWI.out.grow A.out.1;have c8:wr.cell? ⟨M.R,8,none⟩=some (.slice (some ⟨M.BB,0,none⟩) m M.cb):=wi.cell (j:=8) (by omega);rw [<- HR.out] at c8;have KR:=xA6 M.BB (k*8) (W.bk k).reserve wr (wi.bk.bk k hlt).c2;obtain ⟨v5,w5,hrun,nr,uw,_,p5,c5,rfl⟩:=A.out.2.snoc (by rw [Bo.Plain.kG];omega) A.out.1.size (W.bk k).reserve;rw [Bo.Plain.kG] at hrun nr;rw [<- Bo.Plain.yP7 k fun k=>(W.bk k).reserve] at nr;have RUN:=hid hrun;have NX:=hid (show Below w2.heap.size w2 w5/\NumR w2 w5 (.slice p5 (k+1) c5) (Bo.Plain.mapN (k+1) fun k=>(W.bk k).reserve) from ⟨A.out.1.trans (uw.below A.out.1.size fun b hb e=>by have:=(A.out.2.lt e).2;omega),nr⟩);generalize (W.bk k).reserve=x at KR RUN;clear wi hrun nr uw A N0
   go_wp2_with fail
   refine KR.mono ?_;rintro e w6 ⟨rfl,hw6⟩;subst hw6
   go_wp2_with (first|(at_builtin;refine xE _ _ 22 RUN.out (by rfl) (by rfl) (by rfl) (by rfl) (by rfl) ?_)|fail)
   go_roundg (m-(k+1))
   case measure=>omega
   case rel=>exact ⟨k+1,p5,c5,by omega,by omega,by go_num,rfl,(show Aside _ from NX.out)⟩
  ·have hltz:¬ (k:Int)<(m:Int):=by omega
   have ek:m=k:=by omega
   subst ek;have c7:wr.cell? ⟨M.R,7,none⟩=some (.slice (some ⟨M.EB,0,none⟩) n M.ce):=(HWI.out.grow A.out.1).cell (j:=7) (by omega);rw [<- HR.out] at c7;have E0:=hid (show EnI w2 wr m c.ls.length W (.slice p4 m c4) (.slice none 0 0) (.slice none 0 0) (Bo.Plain.mapN m fun k=>(W.bk k).reserve) 0 0 (fun _=>0) (fun _=>0) from EnI.nil w2 A.out.2 A.out.1);clear A N0;go_wp2;clear c7
   go_loopg [5,6,12,47] n (fun gg s5 s6 _ s47 wx=>∃ (j:Nat) (p5:Option Addr) (c5:Nat) (p6:Option Addr) (c6:Nat),j<=n/\n-j<=gg/\s47=.int .i64 j/\s5=.slice p5 j c5/\s6=.slice p6 j c6/\Aside (∃ P G,EnI w2 wx m c.ls.length W (.slice p4 m c4) (.slice p5 j c5) (.slice p6 j c6) (Bo.Plain.mapN m fun k=>(W.bk k).reserve) j j P G))
   case atStart=>exact ⟨0,none,0,none,0,zG _,by omega,rfl,rfl,rfl,(show Aside _ from ⟨_,_,E0.out⟩)⟩
   case round =>
    obtain ⟨j,p5,c5,p6,c6,hj,hgj,rfl,rfl,rfl,A2⟩:=hrel;clear E0;obtain ⟨P,G,en⟩:=A2.out;have EN:=hid en;clear A2 en;by_cases hlj:j<n
    ·have hljz:(j:Int)<(n:Int):=by omega
     have hjn:¬ (j:Int)<0:=by omega
     have wi:=HWI.out.grow EN.out.be;have c7:wr.cell? ⟨M.R,7,none⟩=some (.slice (some ⟨M.EB,0,none⟩) n M.ce):=wi.cell (j:=7) (by omega);rw [<- HR.out] at c7;have KP:=xM5 M.EB M.NC M.F M.H M.D M.vo M.lp M.lc n m c.ls W j hlj hm3 (fun k=>(HOK.out.rk j k).1) wr wi.br;clear wi
     go_wp2_with fail
     refine KP.mono ?_;rintro e w3 ⟨rfl,hrow,b3⟩;obtain ⟨p7,c7',w4,hrun,en4⟩:=(EN.out.grow b3).snocP (by omega) hrow;have RUN:=hid hrun;have EN4:=hid en4;clear KP hrow b3 hrun en4 EN c7
     go_upto_region 13 with (first|(at_builtin;refine xE _ _ 46 RUN.out (by rfl) (by rfl) (by rfl) (by rfl) (by rfl) ?_)|fail)
     clear RUN;have wi4:=HWI.out.grow EN4.out.be;have d7:w4.cell? ⟨M.R,7,none⟩=some (.slice (some ⟨M.EB,0,none⟩) n M.ce):=wi4.cell (j:=7) (by omega);rw [<- HR.out] at d7;have KE:=zU9 M.EB (j*4) _ (M.H j) j M.lp M.lc c.ls (W.st j) _ hL4 (HOK.out.st j) w4 (wi4.br.st.sto hlj);clear wi4
     go_wp2_with fail
     refine KE.mono ?_;rintro e w5 ⟨GB,rfl,⟨f,hf⟩,_,b5⟩;obtain ⟨p8,c8,w6,hrun,en6⟩:=(EN4.out.grow b5).snocS (by omega) hf;have RUN:=hid hrun;have EN6:=hid en6;clear KE hf b5 hrun en6 EN4 d7
     go_wp2_with (first|(at_builtin;refine xE _ _ 47 RUN.out (by rfl) (by rfl) (by rfl) (by rfl) (by rfl) ?_)|fail)
     go_roundg (n-(j+1))
     case measure=>omega
     case rel=>exact ⟨j+1,p7,c7',p8,c8,by omega,by omega,by go_num,rfl,rfl,(show Aside _ from ⟨_,_,EN6.out⟩)⟩
    ·have hljz:¬ (j:Int)<(n:Int):=by omega
     have ej:n=j:=by omega
     subst ej;go_wp2
     (try simp only [Exit.inBlock,Exit.then])
     refine bodyPost_ret (zD5 rfl _ _ _) rfl ?_;have en:=EN.out;rw [<- HE.out] at en;exact ⟨p4,c4,p5,c5,p6,c6,w2,P,G,rfl,B2.out.trans (EN.out.be.mono B2.out.size),en⟩
theorem EnI.purse {w0 w:World} {n m L:Nat} {W:Wo} {rv sv:Value} {rl:List Int} {ks:Nat} {P G:Nat->Nat} {pp:Option Addr} {pc:Nat} (h:EnI w0 w m L W rv (.slice pp n pc) sv rl n ks P G) (hn:0<n) :
  ∃ b off,pp=some ⟨b,off,none⟩/\∀ i,i<n->w.cell? ⟨b,off+i,none⟩=some (.slice (some ⟨P i,0,none⟩) m m):=by
 have hl:((List.range n).map P).length=n:=by rw [zL,List.length_range]
 obtain ⟨p,c,e,hh,_⟩:=(encK m).owns h.po hl;injection e with e1 _ _;obtain ⟨b,off,rfl,_,hc⟩:=hh.at 0 (by omega);refine ⟨b,off,e1,fun i hi=>?_⟩;have:=hc i 0 (.slice (some ⟨P i,0,none⟩) m m) (by omega) (by show 0<1;omega) (by
  rw [zA,zV,yH hi];rfl)
 rwa [show off+(i*(encK m).n+0)=off+i by show off+(i*1+0)=off+i;omega] at this
theorem EnI.pcells {w0 w:World} {m L:Nat} {W:Wo} {rv pv sv:Value} {rl:List Int} {kp ks:Nat} {P G:Nat->Nat} (h:EnI w0 w m L W rv pv sv rl kp ks P G) {i k:Nat} (hi:i<kp) (hk:k<m) :
  w.cell? ⟨P i,k*6,none⟩=some (.int .i64 (W.ask i k))/\w.cell? ⟨P i,k*6+1,none⟩=some (.int .i64 0)/\w.cell? ⟨P i,k*6+2,none⟩=some (.int .i64 0)/\w.cell? ⟨P i,k*6+3,none⟩=some (.int .i64 (W.rk i k).free)/\w.cell? ⟨P i,k*6+4,none⟩=some (.int .i64 (W.rk i k).held)/\w.cell? ⟨P i,k*6+5,none⟩=some (.int .i64 (W.rk i k).used):=by
 have f:∀ r,r<6->w.cell? ⟨P i,k*6+r,none⟩=some (puC (puW W i k) r):=fun r hr=>by
  rw [(h.pr i hi).cell (i:=k*6+r) (by omega)];unfold puF;rw [if_pos (by omega),show (k*6+r)/6=k by omega,show (k*6+r)%6=r by omega]
 exact ⟨f 0 (by omega),f 1 (by omega),f 2 (by omega),f 3 (by omega),f 4 (by omega),f 5 (by omega)⟩
theorem EnI.stores {w0 w:World} {n m L:Nat} {W:Wo} {rv pv:Value} {rl:List Int} {kp:Nat} {P G:Nat->Nat} {sp:Option Addr} {sc:Nat} (h:EnI w0 w m L W rv pv (.slice sp n sc) rl kp n P G) (hn:0<n) :
  ∃ b off,sp=some ⟨b,off,none⟩/\∀ i,i<n->w.cell? ⟨b,off+i,none⟩=some (.slice (some ⟨G i,0,none⟩) L L):=by
 have hl:((List.range n).map G).length=n:=by rw [zL,List.length_range]
 obtain ⟨p,c,e,hh,_⟩:=(encK L).owns h.so hl;injection e with e1 _ _;obtain ⟨b,off,rfl,_,hc⟩:=hh.at 0 (by omega);refine ⟨b,off,e1,fun i hi=>?_⟩;have:=hc i 0 (.slice (some ⟨G i,0,none⟩) L L) (by omega) (by show 0<1;omega) (by
  rw [zA,zV,yH hi];rfl)
 rwa [show off+(i*(encK L).n+0)=off+i by show off+(i*1+0)=off+i;omega] at this
theorem xM6 (p:Option Addr) (N cap:Nat) (l:List Sp) (hN:l.length=N) (h300:N<=1000) (w:World) (hp:qA.Holds w p l) :
  Calls Tryz.prog 13 #[.slice p N cap] w fun e w'=>e=.returned (.int .i64 ((20*kC l:Nat):Int))/\w'=w:=by
 have HP:=hid hp;have HN:=hid hN;clear hp hN;go_enter Tryz.func13,Tryz.ntmps13
 go_wp2
 go_loopg [3,4] N (fun gg s3 s4 wx=>∃ k:Nat,k<=N/\N-k<=gg/\s4=.int .i64 k/\s3=.int .i64 ((20*kC (l.take k):Nat):Int)/\wx=w)
 case atStart=>exact ⟨0,zG _,by omega,rfl,rfl,rfl⟩
 case round =>
  obtain ⟨k,hk,hg,rfl,rfl,hw⟩:=hrel;have hy:=hw.symm;clear hw;subst hy;by_cases hlt:k<N
  ·have hltz:(k:Int)<(N:Int):=by omega
   have hkn:¬ (k:Int)<0:=by omega
   have hkL:k<l.length:=by have:=HN.out;omega
   obtain ⟨bs,os,eS,lS,gS⟩:=yB7 HP.out (by omega);obtain ⟨c0,_,_,_,_,_,_,_⟩:=gS k hkL;subst eS;have hTk:kC (l.take k)<=1000:=by have:=zX0 (l.take k);rw [zU] at this;omega
   have hTn:=hid (yC3 l k (l.getD k default) (by rw [zA,zB hkL];rfl));generalize (l.getD k default).kind=kd at c0 hTn;generalize kC (l.take k)=T at hTk hTn ⊢;clear gS lS;by_cases h9:kd=9
   ·subst h9
    go_wp2
    go_roundg (N-(k+1))
    case measure=>omega
    case rel=>exact ⟨k+1,by omega,by omega,by go_num,by have e:=hTn.out;rw [if_pos trivial] at e;rw [e];go_num,rfl⟩
   ·have h9b:(kd==9)=false:=by simp [h9]
    go_wp2
    go_roundg (N-(k+1))
    case measure=>omega
    case rel=>exact ⟨k+1,by omega,by omega,by go_num,by rw [hTn.out,if_neg h9];rfl,rfl⟩
  ·have hltz:¬ (k:Int)<(N:Int):=by omega
   have ek:l.take k=l:=yB (by have:=HN.out;omega);rw [ek];go_wp2;go_ret
   exact ⟨rfl,rfl⟩
def qI6 (c:Cf) (l:List Sp) (w:World) (e:Ending) (w':World):Prop :=
 ∃ rp rc pp pc sp sc w0 P G,e=.returned (.tuple #[.slice rp 2 rc,.slice pp 4 pc,.slice sp 4 sc,.bool true])/\Below w.heap.size w w'/\EnI w0 w' 2 3 (runW c (Wo.start c) l) (.slice rp 2 rc) (.slice pp 4 pc) (.slice sp 4 sc) (Bo.Plain.mapN 2 fun k=>((runW c (Wo.start c) l).bk k).reserve) 4 4 P G
theorem zQ4 (c:Cf) (lp mp:Option Addr) (lc mc:Nat) (p:Option Addr) (N cap:Nat) (l:List Sp) (hN:l.length=N) (h300:N<=300) (hc:mayC c=true) (hn:c.n=4) (hL:c.ls.length=3) (hm:c.ms.length=2) (hwf:∀ s,s∈l->(Lit.int .i64 s.id).wf=true) (hp0:p=none->cap=0)
  (w:World) (hI:CfI w c (.slice lp c.ls.length lc) (.slice mp c.ms.length mc)) (htb:∀ k,2<=k->k<=6->w.cell? ⟨0,k,none⟩=some (.int .i64 (k:Nat))) (hp:qA.Holds w p l) :
  Calls Tryz.prog 15 #[cfV c (.slice lp c.ls.length lc) (.slice mp c.ms.length mc),.slice p N cap] w (qI6 c l w):=by
 have hb0:0<w.heap.size:=zC (w:=w) (h:=htb 2 (by omega) (by omega));have HTB:=hid (fun X (bx:Below w.heap.size w X) k (h2:2<=k) (h6:k<=6)=>(bx.cell (p:=⟨0,k,none⟩) hb0).trans (htb k h2 h6));obtain ⟨W2,hW2⟩:∃ W2,W2=w.alloc (boxC c (.slice lp c.ls.length lc) (.slice mp c.ms.length mc)):=⟨_,rfl⟩;have b2:Below w.heap.size w W2:=by rw [hW2];exact yO.alloc yN _
 have C2:=hid (show qY W2 w.heap.size c (.slice lp c.ls.length lc) (.slice mp c.ms.length mc) by rw [hW2];exact qY.start w c (.slice lp c.ls.length lc) (.slice mp c.ms.length mc));have B2:=hid b2;have I2:=hid (hI.grow b2);have HO2:=hid (hp.grow b2);have HC:=hid (And.intro hc (And.intro hn (And.intro hL hm)));have HWF:=hid hwf;have HP0:=hid hp0;have HN:=hid hN;clear hb0 htb hI hp hc hn hL hm hwf hp0 hN b2;go_enter Tryz.func15,Tryz.ntmps15
 go_upto_region 1 with fail
 rw [<- hW2];obtain ⟨CB,hCB⟩:∃ CB,CB=w.heap.size:=⟨_,rfl⟩;rw [<- hCB] at C2 ⊢;clear hW2;have CW:=hid (fun X (bx:Below W2.heap.size W2 X)=>(C2.out.below bx C2.out.lt:qY X CB c (.slice lp c.ls.length lc) (.slice mp c.ms.length mc)));have IW:=hid (fun X (bx:Below W2.heap.size W2 X)=>I2.out.grow bx);have BW:=hid (fun X (bx:Below W2.heap.size W2 X)=>B2.out.trans (bx.mono B2.out.size));clear C2 I2 hCB;have D4:=hid (show Below W2.heap.size W2 W2.drew from yO.drew);obtain ⟨v6,w6,hrun6,sp6,_⟩:=(SpR.nil W2.drew).app (zG _) (p:=p) (c:=cap) (HO2.out.grow D4.out) HP0.out (by have:=HN.out;omega);obtain ⟨p6,c6,rfl,hh6,_⟩:=sp6.form;rw [List.nil_append,HN.out] at hrun6;rw [List.nil_append] at hh6;have RUN6:=hid hrun6;have HH6:=hid hh6;have B6:=hid (show Below W2.heap.size W2 w6 from D4.out.trans (sp6.be.mono D4.out.size));have mixed:Tryz.prog.follows .mixedOrders=true:=by kernel_rfl
 have TS:(fun w':World=>w'.cell? ⟨CB,0,none⟩=some (.int .i64 c.n)/\w'.cell? ⟨CB,1,none⟩=some (.slice lp c.ls.length lc)/\w'.cell? ⟨CB,2,none⟩=some (.int .i64 c.t)/\w'.cell? ⟨CB,3,none⟩=some (.slice mp c.ms.length mc)/\w'.cell? ⟨CB,4,none⟩=some (.int .i64 c.cap)) W2.drew:=by
  obtain ⟨k0,k1,k2,k3,k4⟩:=CW.out _ D4.out;exact ⟨k0,k1,k2,k3,k4⟩
 have T6:(fun w':World=>w'.cell? ⟨CB,0,none⟩=some (.int .i64 c.n)/\w'.cell? ⟨CB,1,none⟩=some (.slice lp c.ls.length lc)/\w'.cell? ⟨CB,2,none⟩=some (.int .i64 c.t)/\w'.cell? ⟨CB,3,none⟩=some (.slice mp c.ms.length mc)/\w'.cell? ⟨CB,4,none⟩=some (.int .i64 c.cap)) w6:=by
  obtain ⟨k0,k1,k2,k3,k4⟩:=CW.out _ B6.out;exact ⟨k0,k1,k2,k3,k4⟩
 have K7:=xY8 c lp mp lc mc 4 2 p6 N c6 l HN.out h300 HC.out.1 HC.out.2.1 HC.out.2.2.2 (fun _=>by rw [HC.out.2.2.1];omega) HWF.out w6 (IW.out _ B6.out) (HTB.out _ (BW.out _ B6.out)) HH6.out;clear hrun6 sp6 hh6;refine yP.begin (fun w':World=>w'.cell? ⟨CB,0,none⟩=some (.int .i64 c.n)/\w'.cell? ⟨CB,1,none⟩=some (.slice lp c.ls.length lc)/\w'.cell? ⟨CB,2,none⟩=some (.int .i64 c.t)/\w'.cell? ⟨CB,3,none⟩=some (.slice mp c.ms.length mc)/\w'.cell? ⟨CB,4,none⟩=some (.int .i64 c.cap)) 12 mixed ?_;refine yP.take 0 (cfV c (.slice lp c.ls.length lc) (.slice mp c.ms.length mc)) rfl (by kernel_rfl) (by kernel_rfl) (by kernel_rfl) (by kernel_rfl) (fun _ _ _ h=>h) TS (by rfl) (fun w' hS=>?_) ?_
 ·(obtain ⟨q0,q1,q2,q3,q4⟩:=hS;go_simp)
 (try simp only [Act.put,List.setIfInBounds_toArray,List.set_cons_zero,List.set_cons_succ])
 refine yP.take 1 (.slice p N cap) rfl (by kernel_rfl) (by kernel_rfl) (by kernel_rfl) (by kernel_rfl) (fun _ _ _ h=>h) TS (by rfl) (fun w' hS=>?_) ?_
 ·(go_simp)
 (try simp only [Act.put,List.setIfInBounds_toArray,List.set_cons_zero,List.set_cons_succ])
 refine yP.one 2 (by kernel_rfl) rfl (by rfl) (fun K hK=>?_);refine xF _ _ 28 rfl 28 rfl (.slice none 0 0) (.slice p N cap) (by simp [Act.eval]) (by simp [Act.eval]) RUN6.out ?_;refine hK.out _ _ (fun _=>T6) ?_;clear hK K
 (try simp only [Act.put,List.setIfInBounds_toArray,List.set_cons_zero,List.set_cons_succ])
 refine yP.one 3 (by kernel_rfl) rfl (by rfl) (fun K hK=>?_);go_simp;refine K7.mono ?_;rintro e w7 ⟨rp,rc,pp,pc,spp,sc,w0,P,G,rfl,b7,en⟩;have B7:=hid (show Below W2.heap.size W2 w7 from B6.out.trans (b7.mono B6.out.size));rw [HC.out.2.2.1] at en;have EN:=hid en;have T7:(fun w':World=>w'.cell? ⟨CB,0,none⟩=some (.int .i64 c.n)/\w'.cell? ⟨CB,1,none⟩=some (.slice lp c.ls.length lc)/\w'.cell? ⟨CB,2,none⟩=some (.int .i64 c.t)/\w'.cell? ⟨CB,3,none⟩=some (.slice mp c.ms.length mc)/\w'.cell? ⟨CB,4,none⟩=some (.int .i64 c.cap)) w7:=by
  obtain ⟨k0,k1,k2,k3,k4⟩:=CW.out _ B7.out;exact ⟨k0,k1,k2,k3,k4⟩
 refine hK.out _ _ (fun _=>T7) ?_;clear hK K K7 b7 en T6 TS RUN6 HH6
 (try simp only [Act.put,List.setIfInBounds_toArray,List.set_cons_zero,List.set_cons_succ])
 refine yP.one 4 (by kernel_rfl) rfl (by rfl) (fun K hK=>?_);go_simp;refine hK.out _ _ (fun _=>T7) ?_;clear hK K
 (try simp only [Act.put,List.setIfInBounds_toArray,List.set_cons_zero,List.set_cons_succ])
 refine yP.take 5 (.slice rp 2 rc) rfl (by kernel_rfl) (by kernel_rfl) (by kernel_rfl) (by kernel_rfl) (fun _ _ _ h=>h) T7 (by rfl) (fun w' hS=>?_) ?_
 ·(go_simp)
 (try simp only [Act.put,List.setIfInBounds_toArray,List.set_cons_zero,List.set_cons_succ])
 refine yP.take 6 (.slice pp 4 pc) rfl (by kernel_rfl) (by kernel_rfl) (by kernel_rfl) (by kernel_rfl) (fun _ _ _ h=>h) T7 (by rfl) (fun w' hS=>?_) ?_
 ·(go_simp)
 (try simp only [Act.put,List.setIfInBounds_toArray,List.set_cons_zero,List.set_cons_succ])
 refine yP.take 7 (.slice spp 4 sc) rfl (by kernel_rfl) (by kernel_rfl) (by kernel_rfl) (by kernel_rfl) (fun _ _ _ h=>h) T7 (by rfl) (fun w' hS=>?_) ?_
 ·(go_simp)
 (try simp only [Act.put,List.setIfInBounds_toArray,List.set_cons_zero,List.set_cons_succ])
 refine yP.take 8 (.int .i64 0) rfl (by kernel_rfl) (by kernel_rfl) (by kernel_rfl) (by kernel_rfl) (fun _ _ _ h=>h) T7 (by rfl) (fun w' hS=>?_) ?_
 ·(go_simp)
 (try simp only [Act.put,List.setIfInBounds_toArray,List.set_cons_zero,List.set_cons_succ])
 refine yP.take 9 (.slice rp 2 rc) rfl (by kernel_rfl) (by kernel_rfl) (by kernel_rfl) (by kernel_rfl) (fun _ _ _ h=>h) T7 (by rfl) (fun w' hS=>?_) ?_
 ·(go_simp)
 (try simp only [Act.put,List.setIfInBounds_toArray,List.set_cons_zero,List.set_cons_succ])
 refine yP.take 10 (.slice pp 4 pc) rfl (by kernel_rfl) (by kernel_rfl) (by kernel_rfl) (by kernel_rfl) (fun _ _ _ h=>h) T7 (by rfl) (fun w' hS=>?_) ?_
 ·(go_simp)
 (try simp only [Act.put,List.setIfInBounds_toArray,List.set_cons_zero,List.set_cons_succ])
 refine yP.take 11 (.slice spp 4 sc) rfl (by kernel_rfl) (by kernel_rfl) (by kernel_rfl) (by kernel_rfl) (fun _ _ _ h=>h) T7 (by rfl) (fun w' hS=>?_) ?_
 ·(go_simp)
 (try simp only [Act.put,List.setIfInBounds_toArray,List.set_cons_zero,List.set_cons_succ])
 refine yP.one 12 (by kernel_rfl) rfl (by rfl) (fun K hK=>?_);go_simp;refine hK.out _ _ (fun h=>absurd rfl h) ?_;clear hK K;refine yP.done (by kernel_rfl) ?_;clear T7;obtain ⟨pb,po,epp,pcl⟩:=EN.out.purse (by omega);obtain ⟨sb,so,esp,scl⟩:=EN.out.stores (by omega);subst epp;subst esp;have PCL:=hid pcl;have SCL:=hid scl;have F7:=hid (BW.out _ B7.out);clear pcl scl;go_wp2
 go_loopg [12] 4 (fun gg s12 wx=>∃ j:Nat,j<=4/\4-j<=gg/\s12=.int .i64 j/\wx=w7)
 case atStart=>exact ⟨0,zG _,by omega,rfl,rfl⟩
 case round =>
  obtain ⟨j,hj,hg,rfl,hw⟩:=hrel;have hy:=hw.symm;clear hw;subst hy;by_cases hlt:j<4
  ·have hltz:(j:Int)<4:=by omega
   have hjn:¬ (j:Int)<0:=by omega
   have pj:=PCL.out j hlt;have sj:=SCL.out j hlt;go_wp2
   go_roundg (4-(j+1))
   case measure=>omega
   case rel=>exact ⟨j+1,by omega,by omega,by go_num,rfl⟩
  ·have hltz:¬ (j:Int)<4:=by omega
   go_wp2
   (try simp only [Exit.inBlock,Exit.then])
   refine bodyPost_ret (zD5 rfl _ _ _) rfl ?_;exact ⟨rp,rc,_,pc,_,sc,w0,P,G,rfl,F7.out,EN.out⟩
theorem NumR.cells {w0 w:World} {p:Option Addr} {c n:Nat} {l:List Int} (h:NumR w0 w (.slice p n c) l) (hl:l.length=n) (hn:0<n):∃ b off,p=some ⟨b,off,none⟩/\∀ j,j<n->w.cell? ⟨b,off+j,none⟩=some (.int .i64 (l.getD j 0)):=by
 subst hl;obtain ⟨s,_,p',c',e⟩:=h.seg;exact zD3 s hn
theorem Tryz.guardPurse:Tryz.prog.eqGuardType Tryz.prog.depth 53=false:=by kernel_rfl
theorem neqP (a f h u:Int) (w:World):(binOp .neq 53 (.agg #[.int .i64 a,.int .i64 0,.int .i64 0,.int .i64 f,.int .i64 h,.int .i64 u]) (.agg #[.int .i64 a,.int .i64 0,.int .i64 0,.int .i64 f,.int .i64 h,.int .i64 u])).run Tryz.prog w=.ok (.bool false) w:=by
 have u3:=Tryz.underlying3;have a3:=Tryz.isAgg3;have z3:=Tryz.sizeOf3;have u4:=Tryz.underlying34;have a4:=Tryz.isAgg34;have z4:=Tryz.sizeOf34;have hS:Tryz.prog.underlying 38=some (.struct (Tryz.prog.fieldsOf 38)):=by kernel_rfl
 have hp:Tryz.prog.stoodInHeld 38=false:=by kernel_rfl
 have hS2:Tryz.prog.underlying 53=some (.struct (Tryz.prog.fieldsOf 53)):=by kernel_rfl
 have hp2:Tryz.prog.stoodInHeld 53=false:=by kernel_rfl
 have aS:=Tryz.isAgg38;have zS:=Tryz.sizeOf38;rw [run_neq_struct,show (10000:Nat)=9999+1 from rfl,run_equalIn_agg w 9999 53 _ _ hS2 hp2];simp only [Program.fieldsOf,Tryz.underlying53];clear hS2 hp2;have e2:∀ w:World,(Op.equalIn 9999 38 (.agg #[.int .i64 0,.int .i64 0,.int .i64 f,.int .i64 h,.int .i64 u]) (.agg #[.int .i64 0,.int .i64 0,.int .i64 f,.int .i64 h,.int .i64 u])).run Tryz.prog w=.ok true w:=fun w=>by
  rw [show (9999:Nat)=9998+1 from rfl,run_equalIn_agg w 9998 38 _ _ hS hp];simp only [Program.fieldsOf,Tryz.underlying38];clear hS hp;go_simp
 clear hS hp;go_simp
theorem zQ5 {c:Cf} {l:List Sp} {R:List Vi.RT} (hx:R.map (·.x)=(tlsF c (Wo.start c) l).map toTd) {w:World} {TB:Nat} (h:Vi.OutT w (some ⟨TB,0,none⟩) R) {k:Nat} {t:Tl} (ht:(tlsF c (Wo.start c) l)[k]?=some t) :
  w.cell? ⟨TB,k*11,none⟩=some (.int .i64 (t.code:Nat))/\∃ pf cf,w.cell? ⟨TB,k*11+9,none⟩=some (.slice pf t.frame.length cf):=by
 have hR:R.length=(tlsF c (Wo.start c) l).length:=by have:=congrArg List.length hx;rwa [zL,zL] at this
 have hk:k<(tlsF c (Wo.start c) l).length:=(List.getElem?_eq_some_iff.1 ht).1;obtain ⟨bT,oT,eT,lT,gT⟩:=Vi.holdsT h.hd (by omega);have eT1:=Option.some.inj eT;have ebT:TB=bT:=congrArg Addr.block eT1;have eoT:0=oT:=congrArg Addr.off eT1;subst ebT;subst eoT;have kR:k<R.length:=by omega
 have hxr:(R.getD k default).x=toTd t:=by
  have e:=congrArg (·[k]?) hx;simp only [List.getElem?_map,ht,Option.map_some] at e;rw [zB kR,Option.map_some] at e;rw [zA,zB kR];exact Option.some.inj e
 have g0:=gT k kR 0 (by decide);change w.cell? ⟨TB,0+(k*11+0),none⟩=some (.int .i64 (R.getD k default).x.code) at g0;have g9:=gT k kR 9 (by decide);change w.cell? ⟨TB,0+(k*11+9),none⟩=some (.slice (R.getD k default).pf (R.getD k default).x.frame.length (R.getD k default).cf) at g9;rw [Nat.zero_add] at g0 g9;rw [hxr] at g0 g9;exact ⟨g0,_,_,g9⟩
theorem SpR.both {w0 w:World} {q:Option Addr} {N k:Nat} {L:List Sp} (h:SpR w0 w (.slice q N k) L):qA.Holds w q L/\(q=none->k=0):=by
 obtain ⟨p',c',e',hh,hn'⟩:=h.form;injection e' with e1 _ e3;rw [e1,e3];exact ⟨hh,hn'⟩
theorem yH0 {c:Cf} {l:List Sp} {R:List Vi.RT} (hx:R.map (·.x)=(tlsF c (Wo.start c) l).map toTd) {w:World} {TB:Nat} (h:Vi.OutT w (some ⟨TB,0,none⟩) R) {k:Nat} {t:Tl} (ht:(tlsF c (Wo.start c) l)[k]?=some t) :
  w.cell? ⟨TB,k*11+1,none⟩=some (.int .i64 t.who)/\w.cell? ⟨TB,k*11+7,none⟩=some (.int .i64 t.value):=by
 have hR:R.length=(tlsF c (Wo.start c) l).length:=by have:=congrArg List.length hx;rwa [zL,zL] at this
 have hk:k<(tlsF c (Wo.start c) l).length:=(List.getElem?_eq_some_iff.1 ht).1;obtain ⟨bT,oT,eT,lT,gT⟩:=Vi.holdsT h.hd (by omega);have eT1:=Option.some.inj eT;have ebT:TB=bT:=congrArg Addr.block eT1;have eoT:0=oT:=congrArg Addr.off eT1;subst ebT;subst eoT;have kR:k<R.length:=by omega
 have hxr:(R.getD k default).x=toTd t:=by
  have e:=congrArg (·[k]?) hx;simp only [List.getElem?_map,ht,Option.map_some] at e;rw [zB kR,Option.map_some] at e;rw [zA,zB kR];exact Option.some.inj e
 have g1:=gT k kR 1 (by decide);change w.cell? ⟨TB,0+(k*11+1),none⟩=some (.int .i64 (R.getD k default).x.who) at g1;have g7:=gT k kR 7 (by decide);change w.cell? ⟨TB,0+(k*11+7),none⟩=some (.int .i64 (R.getD k default).x.val) at g7;rw [Nat.zero_add] at g1 g7;rw [hxr] at g1 g7;exact ⟨g1,g7⟩
namespace Plain
open Bo.Plain (Bk zT7 caB mapN begB yJ4 amt)
theorem xY9 (c:Cf) (W:Wo) (i:Nat) (s:Sp):(brW c W i s).gain=W.gain/\(brW c W i s).off=W.off/\(brW c W i s).lost=W.lost/\(brW c W i s).bk=W.bk/\(∀ a k,a≠i->(brW c W i s).ask a k=W.ask a k/\(brW c W i s).rk a k=W.rk a k)/\(s.kind≠7->(brW c W i s).st=W.st):=by
 unfold brW;by_cases h7:s.kind=7
 ·rw [if_pos h7]
  exact ⟨rfl,rfl,rfl,rfl,fun _ _ _=>⟨rfl,rfl⟩,fun z=>absurd h7 z⟩
 rw [if_neg h7];split
 ·exact ⟨rfl,rfl,rfl,rfl,fun _ _ _=>⟨rfl,rfl⟩,fun _=>rfl⟩
 split
 ·exact ⟨rfl,rfl,rfl,rfl,fun _ _ _=>⟨rfl,rfl⟩,fun _=>rfl⟩
 split
 ·split
  ·exact ⟨rfl,rfl,rfl,rfl,fun a k ha=>⟨zD4 _ _ _ _ (fun z=>ha z.1),rfl⟩,fun _=>rfl⟩
  ·exact ⟨rfl,rfl,rfl,rfl,fun _ _ _=>⟨rfl,rfl⟩,fun _=>rfl⟩
 ·exact ⟨rfl,rfl,rfl,rfl,fun a k ha=>⟨rfl,zD4 _ _ _ _ (fun z=>ha z.1)⟩,fun _=>rfl⟩
end Plain
namespace Plain
structure Weq (W V:Wo):Prop where
 ask:W.ask=V.ask
 gai:W.gain=V.gain
 rk:W.rk=V.rk
 bk:W.bk=V.bk
 st:W.st=V.st
 po:W.off.posted=V.off.posted
 lo:W.lost=V.lost
 op:∀ k,k∈W.off.opened ↔ k∈V.off.opened
theorem Weq.refl (W:Wo):Weq W W:=⟨rfl,rfl,rfl,rfl,rfl,rfl,rfl,fun _=>Iff.rfl⟩
theorem Weq.at {W V:Wo} (h:Weq W V) (j:Nat):W.off.at j=V.off.at j:=by unfold Se.Plain.Off.at;rw [h.po]
theorem Weq.find {W V:Wo} (h:Weq W V) (i:Int):xN W i=xN V i:=by
 have e1:Se.Plain.seenE W.off i=Se.Plain.seenE V.off i:=by unfold Se.Plain.seenE;rw [h.po]
 have e2:Se.Plain.oldO W.off i.toNat=Se.Plain.oldO V.off i.toNat:=by
  unfold Se.Plain.oldO;rw [yM,List.any_eq_true,List.any_eq_true];constructor
  ·rintro ⟨k,hk,hd⟩
   exact ⟨k,(h.op k).1 hk,by rw [h.at k,h.at i.toNat] at hd;exact hd⟩
  ·rintro ⟨k,hk,hd⟩
   exact ⟨k,(h.op k).2 hk,by rw [h.at k,h.at i.toNat];exact hd⟩
 unfold xN;rw [e1,e2,h.lo]
theorem Weq.come {c:Cf} {W V:Wo} (h:Weq W V) (p:Se.Plain.Po):Weq (qM c W p) (qM c V p):=by
 unfold qM;split
 ·exact ⟨h.ask,h.gai,h.rk,by unfold yL4;rw [h.bk],h.st,h.po,h.lo,h.op⟩
 split
 ·exact ⟨h.ask,by unfold zO7;rw [h.gai],by unfold zO7;rw [h.gai,h.rk],h.bk,h.st,h.po,h.lo,h.op⟩
 ·exact ⟨h.ask,h.gai,h.rk,h.bk,by unfold yW6;rw [h.st],h.po,h.lo,h.op⟩
theorem Weq.opened {W V:Wo} (h:Weq W V) (i:Nat):Weq { W with off:={ W.off with opened:=W.off.opened++[i] } } { V with off:={ V.off with opened:=V.off.opened++[i] } } :=
 ⟨h.ask,h.gai,h.rk,h.bk,h.st,h.po,h.lo,fun k=>by
  show k∈W.off.opened++[i] ↔ k∈V.off.opened++[i];rw [yL,yL,h.op k]⟩
theorem Weq.del {c:Cf} {W V:Wo} (h:Weq W V) (i:Int):Weq (delW c W i) (delW c V i)/\delT W i=delT V i:=by
 unfold delW delT;rw [<- h.find i,<- h.at i.toNat];have e:(Se.Plain.seenV W.off i).tow=(Se.Plain.seenV V.off i).tow:=by
  unfold Se.Plain.seenV;rw [h.po,h.at i.toNat]
 rw [e];split
 ·exact ⟨h,rfl⟩
 ·exact ⟨(h.opened i.toNat).come _,rfl⟩
theorem zQ6 (c:Cf) (W:Wo) (o:Se.Plain.Off) (p:Se.Plain.Po):qM c { W with off:=o } p={ qM c W p with off:=o }:=by
 unfold qM;split
 ·rfl
 split
 ·rfl
 ·rfl
theorem xA7 {c:Cf} (W:Wo) {p q:Se.Plain.Po} (hp:0<=p.«to») (hq:0<=q.«to») (hne:p.«to»≠q.«to»):qM c (qM c W p) q=qM c (qM c W q) p:=by
 have hn:p.«to».toNat≠q.«to».toNat:=by omega
 unfold qM;by_cases p4:p.«to»=c.n
 ·have q4:¬ q.«to»=c.n:=fun z=>hne (p4.trans z.symm)
  rw [if_pos p4,if_neg q4,if_neg q4,if_pos p4];split<;>rfl
 rw [if_neg p4,if_neg p4];by_cases q4:q.«to»=c.n
 ·rw [if_pos q4,if_pos q4]
  split<;>rfl
 rw [if_neg q4,if_neg q4];by_cases pf:p.frm=c.n
 ·rw [if_pos pf,if_pos pf]
  by_cases qf:q.frm=c.n
  ·rw [if_pos qf,if_pos qf]
   unfold zO7;dsimp only;congr 1
   ·funext a k
    by_cases e:a=p.«to».toNat
    ·have e2:¬ a=q.«to».toNat:=fun z=>hn (e.symm.trans z)
     simp only [e2,false_and,if_false]
    ·simp only [e,false_and,if_false]
   ·funext a k
    by_cases e:a=p.«to».toNat
    ·have e2:¬ a=q.«to».toNat:=fun z=>hn (e.symm.trans z)
     simp only [e2,false_and,if_false]
    ·simp only [e,false_and,if_false]
  ·rw [if_neg qf,if_neg qf];rfl
 rw [if_neg pf,if_neg pf];by_cases qf:q.frm=c.n
 ·rw [if_pos qf,if_pos qf];rfl
 rw [if_neg qf,if_neg qf];unfold yW6;dsimp only;congr 1
 funext a
 by_cases e:a=p.«to».toNat
 ·have e2:¬ a=q.«to».toNat:=fun z=>hn (e.symm.trans z)
  rw [if_neg e2,if_pos e,if_pos e,if_neg hn]
 ·rw [if_neg e]
  by_cases e2:a=q.«to».toNat
  ·rw [if_pos e2,if_pos e2,if_neg (Ne.symm hn),if_neg e]
  ·rw [if_neg e2,if_neg e2,if_neg e]
end Plain
namespace Plain
theorem Weq.form {W V:Wo} (h:Weq W V):V={ W with off:=⟨W.off.posted,V.off.opened⟩ }:=by
 obtain ⟨a,b,c,d,e,⟨f,g⟩,i⟩:=W;obtain ⟨a',b',c',d',e',⟨f',g'⟩,i'⟩:=V;obtain ⟨h1,h2,h3,h4,h5,h6,h7,_⟩:=h;dsimp only at h1 h2 h3 h4 h5 h6 h7;subst h1 h2 h3 h4 h5 h6 h7;rfl
theorem qI7 (c:Cf) (W:Wo) (i:Nat) (s:Sp) (o:Se.Plain.Off):brW c { W with off:=o } i s={ brW c W i s with off:=o }:=by
 unfold brW;split
 ·rfl
 split
 ·rfl
 split
 ·rfl
 split
 ·dsimp only
  split<;>rfl
 ·rfl
theorem Weq.step {c:Cf} {W V:Wo} (h:Weq W V) (s:Sp):Weq (stW c W s) (stW c V s):=by
 unfold stW;split
 ·have e:=h.form
  rw [e];exact ⟨rfl,rfl,rfl,rfl,rfl,rfl,rfl,h.op⟩
 split
 ·exact (h.del s.id).1
 split
 ·unfold losW
  rw [<- h.find];split
  ·exact h
  ·exact ⟨h.ask,h.gai,h.rk,h.bk,h.st,h.po,by show W.lost++[s.id]=V.lost++[s.id];rw [h.lo],h.op⟩
 split
 ·exact h
 split
 ·exact h
 ·have hV:brW c V s.who.toNat s={ brW c W s.who.toNat s with off:=⟨W.off.posted,V.off.opened⟩ }:=(congrArg (fun U=>brW c U s.who.toNat s) h.form).trans (qI7 c W s.who.toNat s _)
  rw [hV];have k:=xY9 c W s.who.toNat s;exact ⟨rfl,rfl,rfl,rfl,rfl,congrArg (·.posted) k.2.1,rfl,fun j=>by
   show j∈(brW c W s.who.toNat s).off.opened ↔ j∈V.off.opened;rw [k.2.1];exact h.op j⟩
theorem Weq.run {c:Cf}:∀ (l:List Sp) {W V:Wo},Weq W V->Weq (runW c W l) (runW c V l):=by
 intro l;induction l with
 | nil=>exact fun h=>h
 | cons s l ih=>exact fun h=>ih (h.step s)
theorem zI3 (c:Cf) (W:Wo) (p:Se.Plain.Po):(qM c W p).off=W.off/\(qM c W p).lost=W.lost:=by
 unfold qM;split
 ·exact ⟨rfl,rfl⟩
 split
 ·exact ⟨rfl,rfl⟩
 ·exact ⟨rfl,rfl⟩
theorem qL (c:Cf) (W:Wo) (i:Int):(delW c W i).off.posted=W.off.posted/\(delW c W i).lost=W.lost/\(delW c W i).off.opened=if xN W i≠0 then W.off.opened else W.off.opened++[i.toNat]:=by
 unfold delW;split
 ·exact ⟨rfl,rfl,rfl⟩
 ·rw [(zI3 c _ _).1,(zI3 c _ _).2]
  exact ⟨rfl,rfl,rfl⟩
theorem zL9 (c:Cf) (W:Wo) (i:Int) (j:Nat):(delW c W i).off.at j=W.off.at j:=by
 unfold Se.Plain.Off.at
 rw [(qL c W i).1]
theorem zQ7 {c:Cf} {W:Wo} {a b:Int} (hne:(W.off.at a.toNat).«to»≠(W.off.at b.toNat).«to»):xN (delW c W a) b=xN W b:=by
 obtain ⟨h1,h2,h3⟩:=qL c W a;have e1:Se.Plain.seenE (delW c W a).off b=Se.Plain.seenE W.off b:=by unfold Se.Plain.seenE;rw [h1]
 have e2:Se.Plain.oldO (delW c W a).off b.toNat=Se.Plain.oldO W.off b.toNat:=by
  have e:Se.Plain.oldO (delW c W a).off b.toNat=(delW c W a).off.opened.any fun k=>decide (b.toNat<=k/\(W.off.at k).frm=(W.off.at b.toNat).frm/\(W.off.at k).«to»=(W.off.at b.toNat).«to»):=by
   unfold Se.Plain.oldO;simp only [zL9]
  rw [e,h3];unfold Se.Plain.oldO;split
  ·rfl
  ·rw [List.any_append]
   have:([a.toNat].any fun k=>decide (b.toNat<=k/\(W.off.at k).frm=(W.off.at b.toNat).frm/\(W.off.at k).«to»=(W.off.at b.toNat).«to»))=false:=by
    rw [List.any_cons,List.any_nil,Bool.or_false,decide_eq_false_iff_not];exact fun z=>hne z.2.2
   rw [this,Bool.or_false]
 unfold xN;rw [e1,e2,h2]
theorem yH1 {c:Cf} {W:Wo} {a b:Int} (hne:(W.off.at a.toNat).«to»≠(W.off.at b.toNat).«to»):delT (delW c W a) b=delT W b:=by
 unfold delT;rw [zQ7 hne,zL9];have e:(Se.Plain.seenV (delW c W a).off b).tow=(Se.Plain.seenV W.off b).tow:=by
  unfold Se.Plain.seenV;rw [(qL c W a).1,zL9]
 rw [e]
theorem xM7 {c:Cf} {W:Wo} {a b:Int} (ha:0<=(W.off.at a.toNat).«to») (hb:0<=(W.off.at b.toNat).«to») (hne:(W.off.at a.toNat).«to»≠(W.off.at b.toNat).«to»):Weq (delW c (delW c W a) b) (delW c (delW c W b) a):=by
 have f1:=zQ7 (c:=c) (W:=W) (a:=a) (b:=b) hne;have f2:=zQ7 (c:=c) (W:=W) (a:=b) (b:=a) (Ne.symm hne);have key:∀ (V:Wo) (i:Int),delW c V i=if xN V i≠0 then V else { qM c V (V.off.at i.toNat) with off:=⟨V.off.posted,V.off.opened++[i.toNat]⟩ }:=fun V i=>by
  unfold delW;split
  ·rfl
  ·rw [zQ6]
 rw [key (delW c W a) b,key (delW c W b) a,f1,f2,zL9,zL9,(qL c W a).1,(qL c W b).1,(qL c W a).2.2,(qL c W b).2.2,key W a,key W b];by_cases fa:xN W a≠0
 ·rw [if_pos fa,if_pos fa,if_pos fa]
  by_cases fb:xN W b≠0
  ·rw [if_pos fb]
   exact Weq.refl W
  ·rw [if_neg fb]
   exact Weq.refl _
 ·rw [if_neg fa,if_neg fa,if_neg fa]
  by_cases fb:xN W b≠0
  ·rw [if_pos fb,if_pos fb,if_pos fb]
   exact Weq.refl _
  ·rw [if_neg fb,if_neg fb,if_neg fb]
   have g1:=zQ6 c (qM c W (W.off.at a.toNat)) ⟨W.off.posted,W.off.opened++[a.toNat]⟩ (W.off.at b.toNat);have g2:=zQ6 c (qM c W (W.off.at b.toNat)) ⟨W.off.posted,W.off.opened++[b.toNat]⟩ (W.off.at a.toNat);dsimp only at g1 g2 ⊢;rw [g1,g2,xA7 W ha hb hne];refine ⟨rfl,rfl,rfl,rfl,rfl,rfl,rfl,fun k=>?_⟩;show k∈(W.off.opened++[a.toNat])++[b.toNat] ↔ k∈(W.off.opened++[b.toNat])++[a.toNat];simp only [List.mem_append,List.mem_singleton];constructor
   ·rintro ((h|h)|h)
    ·exact .inl (.inl h)
    ·exact .inr h
    ·exact .inl (.inr h)
   ·rintro ((h|h)|h)
    ·exact .inl (.inl h)
    ·exact .inr h
    ·exact .inl (.inr h)
theorem xA8 {W:Wo} {a:Int} (ha:0<=a/\a<(W.off.posted.length:Int)):(delT W a).who=(W.off.at a.toNat).«to»:=by
 unfold delT;split
 ·show (Se.Plain.seenV W.off a).tow=_
  unfold Se.Plain.seenV;rw [if_neg (by omega)]
 ·rfl
theorem xP2 {c:Cf} {n m K:Nat} {W:Wo} (h:Wok c n m K W) {i:Nat} (hi:i<W.off.posted.length):0<=(W.off.at i).«to»:=by
 have:=h.gd.to (W.off.at i) (by
  unfold Se.Plain.Off.at
  rw [zA,zB hi];exact zH hi)
 exact this.1
end Plain
end Go.Proofs.YtleaknfjbbccgaaGreatDoor
