/- Laid together. -/
import Derived.Deep.LoopGhost
import Derived.Deep.RegionHeld3
import Derived.Deep.QuietTactic
import Derived.BigQuiet
import Derived.Deep.CutBlock
import Derived.Test.YtleaknfjbbccgaaGreatDoorMa03
import Derived.Test.YtleaknfjbbccgaaGreatDoorMa10
import Derived.Test.YtleaknfjbbccgaaGreatDoorMa11
import Derived.Test.YtleaknfjbbccgaaGreatDoorMa15
import Derived.Test.YtleaknfjbbccgaaGreatDoorMa18
import Derived.Test.YtleaknfjbbccgaaGreatDoorMa19
namespace Go.Proofs.YtleaknfjbbccgaaGreatDoor
open Plain
set_option maxHeartbeats 16000000
set_option maxRecDepth 100000
namespace Plain
def Wob (W:Wo):Prop:=∀ k,Bo.Plain.Ok (W.bk k)
theorem Wob.start {c:Cf} (hc:mayC c=true):Wob (Wo.start c):=fun k=>by
 have hm:=xJ hc;have h0:Bo.Plain.Ok (Bo.Plain.Bk.new c.n.toNat c.cap c.t.toNat):=Bo.Plain.Ok.new hm.2.2.2.2.2.2 (by omega);show Bo.Plain.Ok (bk0 c k);unfold bk0;split
 ·exact h0.step _
 ·exact h0
theorem Wob.step {c:Cf} {W:Wo} (h:Wob W) (s:Sp):Wob (stW c W s):=by
 unfold stW;split
 ·exact fun k=>(h k).round
 split
 ·unfold delW
  split
  ·exact h
  ·unfold vO
   split
   ·intro k
    show Bo.Plain.Ok (if k<_ then _ else _);split
    ·exact (h k).step _
    ·exact h k
   split
   ·exact h
   ·exact h
 split
 ·unfold losW
  split<;>exact h
 split
 ·exact h
 split
 ·exact h
 ·intro k
  rw [(brW_keep c W s.who.toNat s).1];exact h k
def yN9 (p:Se.Plain.Po):Int × Int × Nat:=(p.frm,p.«to»,p.data.length)
def qC4 (c:Cf):Nat:=(21*c.ms.length+7)/8
def xC9 (c:Cf) (i:Nat):List (Int × Int × Nat):=((i:Int),c.n,qC4 c) :: ((List.range c.n.toNat).filter fun j=>j≠i).map fun j:Nat=>((i:Int),(j:Int),34*comN c i j)
def shape (c:Cf):List (Int × Int × Nat):=(List.range c.n.toNat).flatMap (xC9 c)++(List.range c.n.toNat).map fun i:Nat=>(c.n,(i:Int),qC4 c)
theorem xP7 {m:Nat} {f:Nat->Int} (h:∀ k,k<m->0<=f k/\f k<=1048576):(Bo.Plain.mapN m f).all cntB=true:=by
 rw [zT];intro x hx;unfold Bo.Plain.mapN at hx;obtain ⟨k,hk,rfl⟩:=zZ.1 hx;have:=h k (zY.1 hk);unfold cntB;exact (kR _ _ _).2 this
theorem zM3 {c:Cf} (hc:mayC c=true) {f:Nat->Int} (h:∀ k,k<c.ms.length->0<=f k/\f k<=1048576):(byI (xO c (Bo.Plain.mapN c.ms.length f))).length=qC4 c:=by
 rw [xG];have hl:(Bo.Plain.mapN c.ms.length f).length=c.ms.length:=Bo.Plain.kE _ _;have:=(yY6 hc hl (xP7 h)).2.2.2;rw [this,hl];rfl
theorem qC5 {c:Cf} (hc:mayC c=true) {Z:Int} {s:Nat->List En} (hs:Sok Z s) {i j:Nat} (hi:(i:Int)<c.n) (hj:(j:Int)<c.n):(byI (rumB c i j (stL s c.ls.length))).length=34*comN c i j:=by
 rw [xG];have hst:(stL s c.ls.length).length=c.ls.length:=by simp [stL]
 have hr:refE c i j=0:=by unfold refE;rw [if_pos hc,if_pos (by omega)]
 exact (zC8 hr hst
  (zT.2 fun l hl=>by obtain ⟨t,_,rfl⟩:=zZ.1 hl;exact hs.mayL t)
  (fun l hl=>by
   obtain ⟨t,_,rfl⟩:=zZ.1 hl;exact zT.2 fun e he=>by
    have:=hs.may t e he;unfold fitE;simp only [Bool.and_eq_true,decide_eq_true_eq];exact ⟨this.2.1.2,this.2.2.2⟩)).2.2.2
theorem zI9 {α β:Type} {l:List α} {f g:α->List β} (h:∀ a,a∈l->f a=g a):l.flatMap f=l.flatMap g:=by
 induction l with
 | nil=>rfl
 | cons a l ih=>rw [List.flatMap_cons,List.flatMap_cons,h a yD,ih fun b hb=>h b (yC _ hb)]
theorem zX7 {α β γ:Type} (l:List α) (f:α->List β) (g:β->γ):(l.flatMap f).map g=l.flatMap fun a=>(f a).map g:=by
 induction l with
 | nil=>rfl
 | cons a l ih=>rw [List.flatMap_cons,List.map_append,List.flatMap_cons,ih]
theorem vM {c:Cf} {n m K:Nat} {W:Wo} (hc:mayC c=true) (hn:c.n=n) (h:Wok c n m K W) (hb:Wob W):(xM c W).map yN9=shape c:=by
 unfold xM shape;rw [List.map_append,zX7];congr 1
 ·refine zI9 fun i hi=>?_
  have hi:=zY.1 hi;unfold sends xC9;rw [List.map_cons,List.map_map];congr 1
  ·show ((i:Int),c.n,(byI (xO c (Bo.Plain.mapN c.ms.length (W.ask i)))).length)=_
   rw [zM3 hc fun k _=>h.ask i k]
  ·refine List.map_congr_left fun j hj=>?_
   have hj:=zY.1 (List.mem_filter.1 hj).1;show ((i:Int),(j:Int),(byI (rumB c i j (stL (W.st i) c.ls.length))).length)=_;rw [qC5 hc (h.st i) (by omega) (by omega)]
 ·rw [List.map_map]
  refine List.map_congr_left fun i hi=>?_;have hi:=zY.1 hi;show (c.n,(i:Int),(byI (xO c (Bo.Plain.mapN c.ms.length fun k=>(Bo.Plain.qP (W.bk k)).given.getD i 0))).length)=_;rw [zM3 hc fun k _=>by
   have o:=(hb k).round;have hi2:i<(Bo.Plain.qP (W.bk k)).n:=by rw [Bo.Plain.roundB_n,h.bn];omega
   have a:=o.gi i hi2;have b:=o.wa i hi2;omega]
theorem yD2 (c:Cf) (W:Wo) (s:Sp):(stW c W s).off.posted=if s.kind=9 then W.off.posted++xM c W else W.off.posted:=by
 unfold stW;by_cases h9:s.kind=9
 ·rw [if_pos h9,if_pos h9];rfl
 rw [if_neg h9,if_neg h9];split
 ·unfold delW
  split
  ·rfl
  ·unfold vO
   split
   ·rfl
   split<;>rfl
 split
 ·unfold losW
  split<;>rfl
 split
 ·rfl
 split
 ·rfl
 ·rw [(brW_keep c W s.who.toNat s).2.1]
end Plain
namespace Plain
theorem zX8 {c:Cf} (hn:c.n=4):(shape c).length=20:=by
 unfold shape xC9;simp only [hn];rfl
end Plain
namespace Plain
theorem zI4 {c:Cf} {W:Wo} (hn:c.n=4) {i:Nat} (hi:i<4):(xM c W)[16+i]?=some (givP c W i):=by
 have hA:((List.range c.n.toNat).flatMap (sends c W)).length=16:=by
  unfold sends;rw [hn];rfl
 unfold xM;rw [zR (by omega),hA,show 16+i-16=i by omega,zV,yH (by rw [hn];exact hi)];rfl
end Plain
open Go.RowKit Go.Shelf Go.Sort
theorem qN0 (D:Nat->Nat) (vo:Nat->Nat->Value) (n m:Nat) (a g:Nat->Nat->Int) (r:Nat->Nat->Hd.Plain.Rk) (i k:Nat) (hi:i<n) (hk:k<m) (gg:Int) (hv:Hd.Plain.Hv (r i k) gg) (w:World) (h:GoI w D vo n m a g r) :
  Calls Tryz.prog 41 #[.pointer (some ⟨D i,k*6+2,none⟩)] w fun e w'=>e=.returned (Hd.aggS ⟨0,0,(r i k).free,(r i k).held,(r i k).used⟩)/\Below w.heap.size w w':=by
 obtain ⟨hf,hu,hs1⟩:=hv.bdsL;obtain ⟨hp1,hp2,hp3⟩:=hv.ptsL;have K:=Hd.now_c _ _ _ _ _ (r i k).free (r i k).used _ _ hp1 (by rw [Hd.Plain.zS9];exact hs1.2) (by omega) w (h.stock hi hk);rw [Hd.Plain.zS9] at K;exact K
structure Plain.Pu where
 ask:Int
 free:Int
 held:Int
 used:Int
def puC (x:Pu) (j:Nat):Value:=.int .i64 (if j=0 then x.ask else if j=3 then x.free else if j=4 then x.held else if j=5 then x.used else 0)
def puF (f:Nat->Pu) (k j:Nat):Value:=if j/6<k then puC (f (j/6)) (j%6) else .int .i64 0
def Plain.puW (W:Wo) (i k:Nat):Pu:=⟨W.ask i k,(W.rk i k).free,(W.rk i k).held,(W.rk i k).used⟩
theorem xD0 (w:World) (m:Nat) (f:Nat->Pu):(w.alloc (.cells (madeCells #[.int .i64 0,.int .i64 0,.int .i64 0,.int .i64 0,.int .i64 0,.int .i64 0] (m*6)) 53)).rowIs w.heap.size 53 (m*6) (puF f 0) :=
 ⟨_,yF _ _,size_madeCells _ _,fun i hi=>by
  have h6:i%6<6:=Nat.mod_lt _ (by decide);have:i%6=0\/i%6=1\/i%6=2\/i%6=3\/i%6=4\/i%6=5:=by omega
  rcases this with e|e|e|e|e|e<;>simp [madeCells,hi,e,puF]⟩
theorem qC6 (f:Nat->Pu) (k j:Nat):(if k*6<=j/\j<k*6+6 then puC (f k) (j-k*6) else puF f k j)=puF f (k+1) j:=by
 unfold puF;by_cases e:k*6<=j/\j<k*6+6
 ·rw [if_pos e,if_pos (by omega),show j/6=k by omega,show j%6=j-k*6 by omega]
 ·rw [if_neg e]
  by_cases l:j/6<k
  ·rw [if_pos l,if_pos (by omega)]
  ·rw [if_neg l,if_neg (by omega)]
theorem puX (f:Nat->Pu) (k j:Nat) (x:Int) (hx:x=(f k).ask):(if j=k*6+5 then .int .i64 (f k).used else if j=k*6+4 then .int .i64 (f k).held else if j=k*6+3 then .int .i64 (f k).free else if j=k*6+2 then .int .i64 0 else if j=k*6+1 then .int .i64 0 else if j=k*6 then .int .i64 x else puF f k j:Value)=if k*6<=j/\j<k*6+6 then puC (f k) (j-k*6) else puF f k j:=by
 by_cases e:k*6<=j/\j<k*6+6
 ·rw [if_pos e]
  obtain ⟨d,rfl⟩:=Nat.exists_eq_add_of_le e.1;rw [Nat.add_sub_cancel_left];have:d=0\/d=1\/d=2\/d=3\/d=4\/d=5:=by omega
  rcases this with rfl|rfl|rfl|rfl|rfl|rfl<;>simp [puC,hx]
 ·rw [if_neg e,if_neg (by omega),if_neg (by omega),if_neg (by omega),if_neg (by omega),if_neg (by omega),if_neg (by omega)]
theorem qN1:(Tryz.prog.info? 53).map (fun i=>(i.zero,i.size,i.bytes))=some (some (.agg #[.int .i64 0,.int .i64 0,.int .i64 0,.int .i64 0,.int .i64 0,.int .i64 0]),6,48):=by kernel_rfl
theorem xP8 (EB NC:Nat) (F:Nat->Value) (H D:Nat->Nat) (vo:Nat->Nat->Value) (lp:Option Addr) (lc n m:Nat) (L:List Int) (W:Wo) (i:Nat) (hi:i<n) (hm:m<=3) (hv:∀ k,∃ g,Hd.Plain.Hv (W.rk i k) g) (w:World)
  (h:BrsI w EB NC F H D vo lp lc n m L W) :
  Calls Tryz.prog 30 #[.pointer (some ⟨EB,i*4,none⟩)] w fun e w'=>e=.returned (.slice (some ⟨w.heap.size,0,none⟩) m m)/\w'.rowIs w.heap.size 53 (m*6) (puF (puW W i) m)/\Below w.heap.size w w':=by
 have mk:∀ W:World,(Instr.makeSlice 54 (.int .i64 (m:Int)) (.int .i64 (m:Int))).run Tryz.prog W=.ok (.slice (some ⟨W.heap.size,0,none⟩) m m) (W.alloc (.cells (madeCells #[.int .i64 0,.int .i64 0,.int .i64 0,.int .i64 0,.int .i64 0,.int .i64 0] (m*6)) 53)):=fun W=>by
  obtain ⟨i0,hi,hz0,hz1,hz2⟩:=info_parts qN1;have:=run_make (P:=Tryz.prog) W 54 53 i0 _ Tryz.underlying54 hi hz0 .i64 .i64 (m:Int) (m:Int) (by omega) (Int.le_refl _) (by rw [hz2];omega) (by omega);rw [hz1,show (Value.agg #[.int .i64 0,.int .i64 0,.int .i64 0,.int .i64 0,.int .i64 0,.int .i64 0]).cells=#[.int .i64 0,.int .i64 0,.int .i64 0,.int .i64 0,.int .i64 0,.int .i64 0] from rfl] at this;simpa using this
 obtain ⟨WA,hWA⟩:∃ WA,WA=w.alloc (.cells (madeCells #[.int .i64 0,.int .i64 0,.int .i64 0,.int .i64 0,.int .i64 0,.int .i64 0] (m*6)) 53):=⟨_,rfl⟩;have BA:=hid (show Below w.heap.size w WA by rw [hWA];exact yO.alloc yN _);have RA:=hid (show WA.rowIs w.heap.size 53 (m*6) (puF (puW W i) 0) by rw [hWA];exact xD0 w m (puW W i));have x3:=h.st.goods hi;have x3A:=(h.grow BA.out).st.goods hi;rw [hWA] at x3A;have HG:=hid h;have HV:=hid hv;have mixed:Tryz.prog.follows .mixedOrders=true:=by kernel_rfl
 clear h hv;go_enter Tryz.func30,Tryz.ntmps30
 go_wp2;rw [<- hWA];clear hWA mk x3 x3A
 go_loopg [4,16] m (fun gg _ s16 wx=>∃ k:Nat,k<=m/\m-k<=gg/\s16=.int .i64 k/\Aside (Below w.heap.size w wx/\wx.rowIs w.heap.size 53 (m*6) (puF (puW W i) k)))
 case atStart=>exact ⟨0,zG _,by omega,rfl,(show Aside _ from ⟨BA.out,RA.out⟩)⟩
 case round =>
  obtain ⟨k,hk,hg,rfl,AR⟩:=hrel;clear BA RA;by_cases hlt:k<m
  ·have hltz:(k:Int)<(m:Int):=by omega
   have hkn:¬ (k:Int)<0:=by omega
   have hB:=HG.out.grow AR.out.1;obtain ⟨gg5,hvk⟩:=HV.out k;have KN:=qN0 D vo n m W.ask W.gain W.rk i k hi hlt gg5 hvk wr.drew (hB.go.grow yO.drew);have x3:=hB.st.goods hi;have xa:=hB.go.cA hi hlt;obtain ⟨x,hx⟩:∃ x,x=W.ask i k:=⟨_,rfl⟩;rw [<- hx] at xa;have TS:(fun w':World=>w'.cell? ⟨EB,i*4+3,none⟩=some (.slice (some ⟨D i,0,none⟩) m m)/\w'.cell? ⟨D i,k*6,none⟩=some (.int .i64 x)) wr.drew:=⟨x3,xa⟩;have ARH:=hid AR.out;have HX:=hid hx;clear hB hvk xa x3 AR hx
   go_upto_region 5 with fail
   refine yP.begin (fun w':World=>w'.cell? ⟨EB,i*4+3,none⟩=some (.slice (some ⟨D i,0,none⟩) m m)/\w'.cell? ⟨D i,k*6,none⟩=some (.int .i64 x)) 20 mixed ?_;refine yP.take 0 (.slice (some ⟨w.heap.size,0,none⟩) m m) rfl (by kernel_rfl) (by kernel_rfl) (by kernel_rfl) (by kernel_rfl) (fun _ _ _ h=>h) TS (by rfl) (fun w' hS=>?_) ?_
   ·(obtain ⟨q1,q2⟩:=hS;go_simp)
   (try simp only [Act.put,List.setIfInBounds_toArray,List.set_cons_zero,List.set_cons_succ])
   refine yP.take 1 (.int .i64 (k:Int)) rfl (by kernel_rfl) (by kernel_rfl) (by kernel_rfl) (by kernel_rfl) (fun _ _ _ h=>h) TS (by rfl) (fun w' hS=>?_) ?_
   ·(obtain ⟨q1,q2⟩:=hS;go_simp)
   (try simp only [Act.put,List.setIfInBounds_toArray,List.set_cons_zero,List.set_cons_succ])
   refine yP.take 2 (.pointer (some ⟨EB,i*4,none⟩)) rfl (by kernel_rfl) (by kernel_rfl) (by kernel_rfl) (by kernel_rfl) (fun _ _ _ h=>h) TS (by rfl) (fun w' hS=>?_) ?_
   ·(obtain ⟨q1,q2⟩:=hS;go_simp)
   (try simp only [Act.put,List.setIfInBounds_toArray,List.set_cons_zero,List.set_cons_succ])
   refine yP.take 3 (.pointer (some ⟨EB,i*4,none⟩)) rfl (by kernel_rfl) (by kernel_rfl) (by kernel_rfl) (by kernel_rfl) (fun _ _ _ h=>h) TS (by rfl) (fun w' hS=>?_) ?_
   ·(obtain ⟨q1,q2⟩:=hS;go_simp)
   (try simp only [Act.put,List.setIfInBounds_toArray,List.set_cons_zero,List.set_cons_succ])
   refine yP.take 4 (.pointer (some ⟨EB,i*4+3,none⟩)) rfl (by kernel_rfl) (by kernel_rfl) (by kernel_rfl) (by kernel_rfl) (fun _ _ _ h=>h) TS (by rfl) (fun w' hS=>?_) ?_
   ·(obtain ⟨q1,q2⟩:=hS;go_simp)
   (try simp only [Act.put,List.setIfInBounds_toArray,List.set_cons_zero,List.set_cons_succ])
   refine yP.take 5 (.slice (some ⟨D i,0,none⟩) m m) rfl (by kernel_rfl) (by kernel_rfl) (by kernel_rfl) (by kernel_rfl) (fun _ _ _ h=>h) TS (by rfl) (fun w' hS=>?_) ?_
   ·(obtain ⟨q1,q2⟩:=hS;go_simp)
   (try simp only [Act.put,List.setIfInBounds_toArray,List.set_cons_zero,List.set_cons_succ])
   refine yP.take 6 (.int .i64 (k:Int)) rfl (by kernel_rfl) (by kernel_rfl) (by kernel_rfl) (by kernel_rfl) (fun _ _ _ h=>h) TS (by rfl) (fun w' hS=>?_) ?_
   ·(obtain ⟨q1,q2⟩:=hS;go_simp)
   (try simp only [Act.put,List.setIfInBounds_toArray,List.set_cons_zero,List.set_cons_succ])
   refine yP.take 7 (.pointer (some ⟨D i,k*6,none⟩)) rfl (by kernel_rfl) (by kernel_rfl) (by kernel_rfl) (by kernel_rfl) (fun _ _ _ h=>h) TS (by rfl) (fun w' hS=>?_) ?_
   ·(obtain ⟨q1,q2⟩:=hS;go_simp)
   (try simp only [Act.put,List.setIfInBounds_toArray,List.set_cons_zero,List.set_cons_succ])
   refine yP.take 8 (.pointer (some ⟨D i,k*6,none⟩)) rfl (by kernel_rfl) (by kernel_rfl) (by kernel_rfl) (by kernel_rfl) (fun _ _ _ h=>h) TS (by rfl) (fun w' hS=>?_) ?_
   ·(obtain ⟨q1,q2⟩:=hS;go_simp)
   (try simp only [Act.put,List.setIfInBounds_toArray,List.set_cons_zero,List.set_cons_succ])
   refine yP.take 9 (.int .i64 x) rfl (by kernel_rfl) (by kernel_rfl) (by kernel_rfl) (by kernel_rfl) (fun _ _ _ h=>h) TS (by rfl) (fun w' hS=>?_) ?_
   ·(obtain ⟨q1,q2⟩:=hS;go_simp)
   (try simp only [Act.put,List.setIfInBounds_toArray,List.set_cons_zero,List.set_cons_succ])
   refine yP.take 10 (.pointer (some ⟨EB,i*4,none⟩)) rfl (by kernel_rfl) (by kernel_rfl) (by kernel_rfl) (by kernel_rfl) (fun _ _ _ h=>h) TS (by rfl) (fun w' hS=>?_) ?_
   ·(obtain ⟨q1,q2⟩:=hS;go_simp)
   (try simp only [Act.put,List.setIfInBounds_toArray,List.set_cons_zero,List.set_cons_succ])
   refine yP.take 11 (.pointer (some ⟨EB,i*4,none⟩)) rfl (by kernel_rfl) (by kernel_rfl) (by kernel_rfl) (by kernel_rfl) (fun _ _ _ h=>h) TS (by rfl) (fun w' hS=>?_) ?_
   ·(obtain ⟨q1,q2⟩:=hS;go_simp)
   (try simp only [Act.put,List.setIfInBounds_toArray,List.set_cons_zero,List.set_cons_succ])
   refine yP.take 12 (.pointer (some ⟨EB,i*4+3,none⟩)) rfl (by kernel_rfl) (by kernel_rfl) (by kernel_rfl) (by kernel_rfl) (fun _ _ _ h=>h) TS (by rfl) (fun w' hS=>?_) ?_
   ·(obtain ⟨q1,q2⟩:=hS;go_simp)
   (try simp only [Act.put,List.setIfInBounds_toArray,List.set_cons_zero,List.set_cons_succ])
   refine yP.take 13 (.slice (some ⟨D i,0,none⟩) m m) rfl (by kernel_rfl) (by kernel_rfl) (by kernel_rfl) (by kernel_rfl) (fun _ _ _ h=>h) TS (by rfl) (fun w' hS=>?_) ?_
   ·(obtain ⟨q1,q2⟩:=hS;go_simp)
   (try simp only [Act.put,List.setIfInBounds_toArray,List.set_cons_zero,List.set_cons_succ])
   refine yP.take 14 (.int .i64 (k:Int)) rfl (by kernel_rfl) (by kernel_rfl) (by kernel_rfl) (by kernel_rfl) (fun _ _ _ h=>h) TS (by rfl) (fun w' hS=>?_) ?_
   ·(obtain ⟨q1,q2⟩:=hS;go_simp)
   (try simp only [Act.put,List.setIfInBounds_toArray,List.set_cons_zero,List.set_cons_succ])
   refine yP.take 15 (.pointer (some ⟨D i,k*6,none⟩)) rfl (by kernel_rfl) (by kernel_rfl) (by kernel_rfl) (by kernel_rfl) (fun _ _ _ h=>h) TS (by rfl) (fun w' hS=>?_) ?_
   ·(obtain ⟨q1,q2⟩:=hS;go_simp)
   (try simp only [Act.put,List.setIfInBounds_toArray,List.set_cons_zero,List.set_cons_succ])
   refine yP.take 16 (.pointer (some ⟨D i,k*6+2,none⟩)) rfl (by kernel_rfl) (by kernel_rfl) (by kernel_rfl) (by kernel_rfl) (fun _ _ _ h=>h) TS (by rfl) (fun w' hS=>?_) ?_
   ·(obtain ⟨q1,q2⟩:=hS;go_simp)
   (try simp only [Act.put,List.setIfInBounds_toArray,List.set_cons_zero,List.set_cons_succ])
   refine yP.one 17 (by kernel_rfl) rfl (by rfl) (fun K hK=>?_);go_simp;refine KN.mono ?_;rintro e w3 ⟨rfl,b3⟩;have B3:=hid (show Below wr.heap.size wr w3 from (yO.drew:Below wr.heap.size wr wr.drew).trans b3);have T3:(fun w':World=>w'.cell? ⟨EB,i*4+3,none⟩=some (.slice (some ⟨D i,0,none⟩) m m)/\w'.cell? ⟨D i,k*6,none⟩=some (.int .i64 x)) w3:=⟨(b3.cell (p:=⟨EB,i*4+3,none⟩) (zC (w:=wr.drew) (h:=TS.1))).trans TS.1,(b3.cell (p:=⟨D i,k*6,none⟩) (zC (w:=wr.drew) (h:=TS.2))).trans TS.2⟩;refine hK.out _ _ (fun _=>T3) ?_;clear hK K KN b3
   (try simp only [Act.put,List.setIfInBounds_toArray,List.set_cons_zero,List.set_cons_succ])
   refine yP.one 18 (by kernel_rfl) rfl (by rfl) (fun K hK=>?_);go_simp;refine hK.out _ _ (fun _=>T3) ?_;clear hK K
   (try simp only [Act.put,List.setIfInBounds_toArray,List.set_cons_zero,List.set_cons_succ])
   refine yP.one 19 (by kernel_rfl) rfl (by rfl) (fun K hK=>?_);go_simp;refine hK.out _ _ (fun _=>T3) ?_;clear hK K
   (try simp only [Act.put,List.setIfInBounds_toArray,List.set_cons_zero,List.set_cons_succ])
   have R3:=ARH.out.2.of_block (B3.out.block _ ARH.out.2.lt);have y0:=R3.cell (i:=k*6) (by omega);have y1:=R3.cell (i:=k*6+1) (by omega);have y2:=R3.cell (i:=k*6+2) (by omega);have y3:=R3.cell (i:=k*6+3) (by omega);have y4:=R3.cell (i:=k*6+4) (by omega);have y5:=R3.cell (i:=k*6+5) (by omega);have z0:=R3.frozen (k*6);have z1:=R3.frozen (k*6+1);have z2:=R3.frozen (k*6+2);have z3:=R3.frozen (k*6+3);have z4:=R3.frozen (k*6+4);have z5:=R3.frozen (k*6+5);have R9:=hid R3;clear R3;refine yP.one 20 (by kernel_rfl) rfl (by rfl) (fun K hK=>?_);go_simp;refine hK.out _ _ (fun h=>absurd rfl h) ?_;clear hK K;refine yP.done (by kernel_rfl) ?_;have NX:=hid (show Below w.heap.size w ((((((w3.setCell ⟨w.heap.size,k*6,none⟩ (.int .i64 x)).setCell ⟨w.heap.size,k*6+1,none⟩ (.int .i64 0)).setCell ⟨w.heap.size,k*6+2,none⟩ (.int .i64 0)).setCell ⟨w.heap.size,k*6+3,none⟩ (.int .i64 (W.rk i k).free)).setCell ⟨w.heap.size,k*6+4,none⟩ (.int .i64 (W.rk i k).held)).setCell ⟨w.heap.size,k*6+5,none⟩ (.int .i64 (W.rk i k).used))/\((((((w3.setCell ⟨w.heap.size,k*6,none⟩ (.int .i64 x)).setCell ⟨w.heap.size,k*6+1,none⟩ (.int .i64 0)).setCell ⟨w.heap.size,k*6+2,none⟩ (.int .i64 0)).setCell ⟨w.heap.size,k*6+3,none⟩ (.int .i64 (W.rk i k).free)).setCell ⟨w.heap.size,k*6+4,none⟩ (.int .i64 (W.rk i k).held)).setCell ⟨w.heap.size,k*6+5,none⟩ (.int .i64 (W.rk i k).used)).rowIs w.heap.size 53 (m*6) (puF (puW W i) (k+1)) from
    ⟨((((((ARH.out.1.trans (B3.out.mono ARH.out.1.size)).setCell yN _).setCell yN _).setCell yN _).setCell yN _).setCell yN _).setCell yN _,
     ((((((R9.out.set (k*6) _).set (k*6+1) _).set (k*6+2) _).set (k*6+3) _).set (k*6+4) _).set (k*6+5) _).congr fun j _=>by rw [<- qC6];exact puX (puW W i) k j x HX.out⟩)
   generalize ((((((w3.setCell ⟨w.heap.size,k*6,none⟩ (.int .i64 x)).setCell ⟨w.heap.size,k*6+1,none⟩ (.int .i64 0)).setCell ⟨w.heap.size,k*6+2,none⟩ (.int .i64 0)).setCell ⟨w.heap.size,k*6+3,none⟩ (.int .i64 (W.rk i k).free)).setCell ⟨w.heap.size,k*6+4,none⟩ (.int .i64 (W.rk i k).held)).setCell ⟨w.heap.size,k*6+5,none⟩ (.int .i64 (W.rk i k).used))=W9 at NX ⊢;clear y0 y1 y2 y3 y4 y5 z0 z1 z2 z3 z4 z5 R9 ARH B3 T3 TS HX;go_wp2
   go_roundg (m-(k+1))
   case measure=>omega
   case rel=>exact ⟨k+1,by omega,by omega,by go_num,(show Aside _ from NX.out)⟩
  ·have hltz:¬ (k:Int)<(m:Int):=by omega
   have ek:k=m:=by omega
   subst ek;go_wp2;go_ret
   exact ⟨rfl,AR.out.2,AR.out.1⟩
def encK (m:Nat):Enc Nat:=⟨1,fun b=>[.slice (some ⟨b,0,none⟩) m m],fun _=>rfl,fun a u hu=>by simp only [List.mem_singleton] at hu;subst hu;rfl,by decide⟩
theorem qN2:(Tryz.prog.info? 54).map (fun i=>(i.zero,i.size,i.bytes))=some (some (.slice none 0 0),1,24):=by kernel_rfl
theorem qN3:(Tryz.prog.info? 57).map (fun i=>(i.zero,i.size,i.bytes))=some (some (.slice none 0 0),1,24):=by kernel_rfl
theorem vZ {B e n k:Nat} {w:World} {v:Value} {l:List Value} (h:w.ownsRow B e n v k l) {b:Nat} (hb:v.ownBlock=some b):b<w.heap.size/\B<=b:=by
 rcases h.2 with ⟨rfl,_⟩|⟨g,cc,cur,rfl,hg,hh,_⟩
 ·simp [Value.ownBlock] at hb
 ·simp only [Value.ownBlock,Option.some.injEq] at hb
  rw [<- hb];exact ⟨(zJ.1 hh).1,hg⟩
theorem qN4 {B t e m k:Nat} {w:World} {v:Value} {l:List Nat} (ht:Tryz.prog.underlying t=some (.slice e)) (hinfo:(Tryz.prog.info? e).map (fun i=>(i.zero,i.size,i.bytes))=some (some (.slice none 0 0),1,24)) (h:w.ownsRow B e 1 v k ((encK m).vals l)) (hk:l.length=k) (hl:k<=1000) (hw:B<=w.heap.size) (x:Nat) :
  ∃ p c w',(Builtin.append_ #[t,t] t #[v,.slice (some ⟨w.heap.size,0,none⟩) 1 1]).run Tryz.prog (w.alloc (.cells #[.slice (some ⟨x,0,none⟩) m m] e))=.ok (.slice p (k+1) c) w'/\w'.ownsRow B e 1 (.slice p (k+1) c) (k+1) ((encK m).vals (l++[x]))/\Uw (fun b=>v.ownBlock=some b) w w':=by
 have bA:Below w.heap.size w (w.alloc (.cells #[.slice (some ⟨x,0,none⟩) m m] e)):=yO.alloc yN _;have hA:(w.alloc (.cells #[.slice (some ⟨x,0,none⟩) m m] e)).ownsRow B e 1 v k ((encK m).vals l):=Hd.zC0 h fun b hb=>bA.block b (vZ h hb).1;obtain ⟨i0,hi,hz0,hz1,hz2⟩:=info_parts hinfo;obtain ⟨v',w',h1,h2,h3,h4⟩:=Enc.appW (E:=encK m) (w:=w.alloc (.cells #[.slice (some ⟨x,0,none⟩) m m] e)) (B:=B) (c:=1) (m:=1) (q:=[x]) ht hi hz0 hz1 hz2 rfl hA ((encK m).one_holds w x e) rfl (fun e=>by cases e) (by omega) (by omega) (by simp;omega);obtain ⟨p,c,rfl,_⟩:=(encK m).owns h2 (by rw [zD,hk];rfl);exact ⟨p,c,w',h1,h2,⟨h3.os,h3.tape,h3.output,zI bA.size h3.size,fun k hk hn=>(h3.block k (by simp;omega) (fun e=>hn e.symm)).trans (bA.block k hk)⟩⟩
structure EnI (w0 w:World) (m L:Nat) (W:Wo) (rv pv sv:Value) (rl:List Int) (kp ks:Nat) (P G:Nat->Nat):Prop where
 be:Below w0.heap.size w0 w
 re:NumR w0 w rv rl
 po:w.ownsRow w0.heap.size 54 1 pv kp ((encK m).vals ((List.range kp).map P))
 so:w.ownsRow w0.heap.size 57 1 sv ks ((encK L).vals ((List.range ks).map G))
 pr:∀ i,i<kp->w.rowIs (P i) 53 (m*6) (puF (puW W i) m)
 gr:∀ i,i<ks->∃ f,RowL w (G i) L (W.st i) f
namespace EnI
variable {w0 w w':World} {m L:Nat} {W:Plain.Wo} {rv pv sv:Value} {rl:List Int} {kp ks:Nat} {P G:Nat->Nat}
theorem grow (h:EnI w0 w m L W rv pv sv rl kp ks P G) (b:Below w.heap.size w w'):EnI w0 w' m L W rv pv sv rl kp ks P G :=
 ⟨h.be.trans (b.mono h.be.size),h.re.keep fun x hx=>b.block x (h.re.lt hx).1,Hd.zC0 h.po fun x hx=>b.block x (vZ h.po hx).1,Hd.zC0 h.so fun x hx=>b.block x (vZ h.so hx).1,
  fun i hi=>(h.pr i hi).of_block (b.block _ (h.pr i hi).lt),fun i hi=>by obtain ⟨f,hf⟩:=h.gr i hi;exact ⟨f,hf.grow b⟩⟩
theorem nil (w0:World) (h:NumR w0 w rv rl) (b:Below w0.heap.size w0 w):EnI w0 w m L W rv (.slice none 0 0) (.slice none 0 0) rl 0 0 P G :=
 ⟨b,h,World.ownsRow_nil _ _ _ _,World.ownsRow_nil _ _ _ _,fun i hi=>by omega,fun i hi=>by omega⟩
theorem below (h:EnI w0 w m L W rv pv sv rl kp ks P G) {v:Value} (hv:∀ b,v.ownBlock=some b->w0.heap.size<=b) (u:Uw (fun b=>v.ownBlock=some b) w w'):Below w0.heap.size w0 w' :=
 h.be.trans (u.below h.be.size fun b hb e=>by have:=hv b e;omega)
theorem tne {a b:Nat} {s t:TypeId} (hs:tag w a=some s) (ht:tag w b=some t) (hne:s≠t):a≠b:=fun e=>by
 subst e;rw [hs] at ht;exact hne (Option.some.inj ht)
theorem noE {v:Value} {t:TypeId} (ht:∀ b,v.ownBlock=some b->tag w b=some t) (hne:t≠75):NoE w (fun b=>v.ownBlock=some b):=fun b hb cs e=>by
 have:=ht b hb;unfold tag at this;rw [e] at this;exact hne (Option.some.inj this).symm
theorem snocP (h:EnI w0 w m L W rv pv sv rl kp ks P G) (hk:kp<=1000) {b:Nat} (hb:w.rowIs b 53 (m*6) (puF (Plain.puW W kp) m)) :
  ∃ p c w',(Builtin.append_ #[46,46] 46 #[pv,.slice (some ⟨w.heap.size,0,none⟩) 1 1]).run Tryz.prog (w.alloc (.cells #[.slice (some ⟨b,0,none⟩) m m] 54))=.ok (.slice p (kp+1) c) w'/\EnI w0 w' m L W rv (.slice p (kp+1) c) sv rl (kp+1) ks (fun i=>if i=kp then b else P i) G:=by
 obtain ⟨p,c,w',h1,h2,u⟩:=qN4 Tryz.underlying46 qN2 h.po (by rw [zL,List.length_range]) hk h.be.size b;have tg:∀ x,pv.ownBlock=some x->tag w x=some 54:=fun x hx=>xE h.po hx;have kt:∀ x t,x<w.heap.size->tag w x=some t->t≠54->w'.heap[x]?=w.heap[x]?:=fun x t hx ht hne=>u.block x hx fun e=>tne ht (tg x e) hne rfl;have hm:(List.range (kp+1)).map (fun i=>if i=kp then b else P i)=(List.range kp).map P++[b]:=by
  rw [List.range_succ,List.map_append,List.map_singleton,if_pos rfl];refine congrArg (·++[b]) ?_;exact List.map_congr_left fun i hi=>by rw [if_neg (by have:=zY.1 hi;omega)]
 refine ⟨p,c,w',h1,h.below (fun x hx=>(vZ h.po hx).2) u,h.re.keep fun x hx=>kt x _ (h.re.lt hx).1 (h.re.tag hx) (by decide),by rw [hm];exact h2,Hd.zC0 h.so fun x hx=>kt x _ (vZ h.so hx).1 (xE h.so hx) (by decide),fun i hi=>?_,fun i hi=>?_⟩
 ·by_cases e:i=kp
  ·subst e
   rw [if_pos rfl];exact hb.of_block (kt _ _ hb.lt (yQ hb) (by decide))
  ·rw [if_neg e]
   have hr:=h.pr i (by omega);exact hr.of_block (kt _ _ hr.lt (yQ hr) (by decide))
 ·obtain ⟨f,hf⟩:=h.gr i hi
  exact ⟨f,hf.uw u (noE tg (by decide)) fun e=>tne (yQ hf.row) (tg _ e) (by decide) rfl⟩
theorem snocS (h:EnI w0 w m L W rv pv sv rl kp ks P G) (hk:ks<=1000) {b:Nat} {f:Nat->Value} (hb:RowL w b L (W.st ks) f) :
  ∃ p c w',(Builtin.append_ #[47,47] 47 #[sv,.slice (some ⟨w.heap.size,0,none⟩) 1 1]).run Tryz.prog (w.alloc (.cells #[.slice (some ⟨b,0,none⟩) L L] 57))=.ok (.slice p (ks+1) c) w'/\EnI w0 w' m L W rv pv (.slice p (ks+1) c) rl kp (ks+1) P (fun i=>if i=ks then b else G i):=by
 obtain ⟨p,c,w',h1,h2,u⟩:=qN4 Tryz.underlying47 qN3 h.so (by rw [zL,List.length_range]) hk h.be.size b;have tg:∀ x,sv.ownBlock=some x->tag w x=some 57:=fun x hx=>xE h.so hx;have kt:∀ x t,x<w.heap.size->tag w x=some t->t≠57->w'.heap[x]?=w.heap[x]?:=fun x t hx ht hne=>u.block x hx fun e=>tne ht (tg x e) hne rfl;have hm:(List.range (ks+1)).map (fun i=>if i=ks then b else G i)=(List.range ks).map G++[b]:=by
  rw [List.range_succ,List.map_append,List.map_singleton,if_pos rfl];refine congrArg (·++[b]) ?_;exact List.map_congr_left fun i hi=>by rw [if_neg (by have:=zY.1 hi;omega)]
 refine ⟨p,c,w',h1,h.below (fun x hx=>(vZ h.so hx).2) u,h.re.keep fun x hx=>kt x _ (h.re.lt hx).1 (h.re.tag hx) (by decide),Hd.zC0 h.po fun x hx=>kt x _ (vZ h.po hx).1 (xE h.po hx) (by decide),by rw [hm];exact h2,fun i hi=>?_,fun i hi=>?_⟩
 ·have hr:=h.pr i hi
  exact hr.of_block (kt _ _ hr.lt (yQ hr) (by decide))
 ·have hx:∀ {g:Nat} {s:Nat->List Plain.En} {f':Nat->Value},RowL w g L s f'->RowL w' g L s f':=fun hf=>hf.uw u (noE tg (by decide)) fun e=>tne (yQ hf.row) (tg _ e) (by decide) rfl
  by_cases e:i=ks
  ·subst e
   rw [if_pos rfl];exact ⟨f,hx hb⟩
  ·rw [if_neg e]
   obtain ⟨f',hf⟩:=h.gr i (by omega);exact ⟨f',hx hf⟩
end EnI
theorem zX9 {fn:Func} {t u v x:Tmp} (h:fn.results=#[.tmp t,.tmp u,.tmp v,.tmp x]) (tmps:Array Value) (P:Program) (w:World):(results fn tmps).run P w=.ok (.tuple #[tmps.getD t undef,tmps.getD u undef,tmps.getD v undef,tmps.getD x undef]) w:=by simp [results,h]
theorem xD1 (R oo:Nat) (x:Int) (w:World) (h:w.cell? ⟨R,oo+2,none⟩=some (.int .i64 x)):Calls Tryz.prog 29 #[.pointer (some ⟨R,oo,none⟩)] w fun e w'=>e=.returned (.int .i64 x)/\w'=w:=by
 go_enter Tryz.func29,Tryz.ntmps29
 go_wp2;go_ret
 exact ⟨rfl,rfl⟩
def EndY (c:Cf) (n m:Nat) (l:List Sp) (w:World) (e:Ending) (w':World):Prop :=
 ∃ rp rc pp pc sp sc w0 P G,e=.returned (.tuple #[.slice rp m rc,.slice pp n pc,.slice sp n sc,.int .i64 0])/\Below w.heap.size w w'/\EnI w0 w' m c.ls.length (runW c (Wo.start c) l) (.slice rp m rc) (.slice pp n pc) (.slice sp n sc) (Bo.Plain.mapN m fun k=>((runW c (Wo.start c) l).bk k).reserve) n n P G
theorem xD2 (c:Cf) (lp mp:Option Addr) (lc mc n m:Nat) (p:Option Addr) (N cap:Nat) (l:List Sp) (hN:l.length=N) (h300:N<=300) (hc:mayC c=true) (hn:c.n=n) (hm:c.ms.length=m) (hL0:2<=n->0<c.ls.length) (hwf:∀ s,s∈l->(Lit.int .i64 s.id).wf=true)
  (w:World) (hI:CfI w c (.slice lp c.ls.length lc) (.slice mp c.ms.length mc)) (htb:∀ k,2<=k->k<=6->w.cell? ⟨0,k,none⟩=some (.int .i64 (k:Nat))) (hp:qA.Holds w p l) :
  Calls Tryz.prog 21 #[cfV c (.slice lp c.ls.length lc) (.slice mp c.ms.length mc),.slice p N cap] w (EndY c n m l w):=by
 have hb0:0<w.heap.size:=zC (w:=w) (h:=htb 2 (by omega) (by omega));obtain ⟨WA,hWA⟩:∃ WA,WA=w.alloc (boxC c (.slice lp c.ls.length lc) (.slice mp c.ms.length mc)):=⟨_,rfl⟩;have BA:=hid (show Below w.heap.size w WA by rw [hWA];exact yO.alloc yN _);have K:=xC4 c lp mp lc mc n m p N cap l hN h300 hc hn hm hL0 hwf WA (hI.grow BA.out) (fun k h2 h6=>(BA.out.cell (p:=⟨0,k,none⟩) hb0).trans (htb k h2 h6)) (hp.grow BA.out);have HOK:=hid (show Wok c n m N (runW c (Wo.start c) l) by have:=wok_run hc hn hm l (by omega) l.length yN;rw [List.take_length,hN] at this;exact this);have hm3:m<=3:=by have:=(xJ hc).2.2.2.2.1;omega
 have hn8:n<=8:=by have:=(xJ hc).1;omega
 have hL4:c.ls.length<=4:=(xJ hc).2.1;rw [hWA] at K;clear hI htb hp hc hn hm hL0 hwf hb0;go_enter Tryz.func21,Tryz.ntmps21
 go_wp2_with fail
 refine K.mono ?_;rintro e w2 ⟨B,M,T,S,TB,sv,fv,rv,rfl,hB,wi,tls,be⟩;rw [<- hWA] at be;have B2:=hid (show Below w.heap.size w w2 from BA.out.trans (be.mono BA.out.size));have HWI:=hid wi;obtain ⟨R,hR⟩:∃ R,R=M.R:=⟨_,rfl⟩;have c8:w2.cell? ⟨M.R,8,none⟩=some (.slice (some ⟨M.BB,0,none⟩) m M.cb):=wi.cell (j:=8) (by omega);rw [<- hR] at c8 ⊢;have HR:=hid hR;generalize hW:runW c (Wo.start c) l=W at HWI HOK;have HE:=hid hW;have N0:=hid (NumR.nil w2 w2);clear K hB wi tls be hWA BA hR hW;go_wp2;clear c8
 go_loopg [4,11,28] m (fun gg s4 _ s28 wx=>∃ (k:Nat) (p:Option Addr) (c:Nat),k<=m/\m-k<=gg/\s28=.int .i64 k/\s4=.slice p k c/\Aside (Below w2.heap.size w2 wx/\NumR w2 wx (.slice p k c) (Bo.Plain.mapN k fun k=>(W.bk k).reserve)))
 case atStart=>exact ⟨0,none,0,zG _,by omega,rfl,rfl,(show Aside _ from ⟨yO,N0.out⟩)⟩
 case round =>
  obtain ⟨k,p4,c4,hk,hg,rfl,rfl,A⟩:=hrel;by_cases hlt:k<m
  ·have hltz:(k:Int)<(m:Int):=by omega
   have hkn:¬ (k:Int)<0:=by omega
   have wi:=HWI.out.grow A.out.1;have c8:wr.cell? ⟨M.R,8,none⟩=some (.slice (some ⟨M.BB,0,none⟩) m M.cb):=wi.cell (j:=8) (by omega);rw [<- HR.out] at c8;have KR:=xD1 M.BB (k*8) (W.bk k).reserve wr (wi.bk.bk k hlt).c2;obtain ⟨v5,w5,hrun,nr,uw,_,p5,c5,rfl⟩:=A.out.2.snoc (by rw [Bo.Plain.kE];omega) A.out.1.size (W.bk k).reserve;rw [Bo.Plain.kE] at hrun nr;rw [<- Bo.Plain.yS0 k fun k=>(W.bk k).reserve] at nr;have RUN:=hid hrun;have NX:=hid (show Below w2.heap.size w2 w5/\NumR w2 w5 (.slice p5 (k+1) c5) (Bo.Plain.mapN (k+1) fun k=>(W.bk k).reserve) from ⟨A.out.1.trans (uw.below A.out.1.size fun b hb e=>by have:=(A.out.2.lt e).2;omega),nr⟩);generalize (W.bk k).reserve=x at KR RUN;clear wi hrun nr uw A N0
   go_wp2_with fail
   refine KR.mono ?_;rintro e w6 ⟨rfl,hw6⟩;subst hw6
   go_wp2_with (first|(at_builtin;refine yY _ _ 22 RUN.out (by rfl) (by rfl) (by rfl) (by rfl) (by rfl) ?_)|fail)
   go_roundg (m-(k+1))
   case measure=>omega
   case rel=>exact ⟨k+1,p5,c5,by omega,by omega,by go_num,rfl,(show Aside _ from NX.out)⟩
  ·have hltz:¬ (k:Int)<(m:Int):=by omega
   have ek:m=k:=by omega
   subst ek;have c7:wr.cell? ⟨M.R,7,none⟩=some (.slice (some ⟨M.EB,0,none⟩) n M.ce):=(HWI.out.grow A.out.1).cell (j:=7) (by omega);rw [<- HR.out] at c7;have E0:=hid (show EnI w2 wr m c.ls.length W (.slice p4 m c4) (.slice none 0 0) (.slice none 0 0) (Bo.Plain.mapN m fun k=>(W.bk k).reserve) 0 0 (fun _=>0) (fun _=>0) from EnI.nil w2 A.out.2 A.out.1);clear A N0;go_wp2;clear c7
   go_loopg [5,6,12,47] n (fun gg s5 s6 _ s47 wx=>∃ (j:Nat) (p5:Option Addr) (c5:Nat) (p6:Option Addr) (c6:Nat),j<=n/\n-j<=gg/\s47=.int .i64 j/\s5=.slice p5 j c5/\s6=.slice p6 j c6/\Aside (∃ P G,EnI w2 wx m c.ls.length W (.slice p4 m c4) (.slice p5 j c5) (.slice p6 j c6) (Bo.Plain.mapN m fun k=>(W.bk k).reserve) j j P G))
   case atStart=>exact ⟨0,none,0,none,0,zG _,by omega,rfl,rfl,rfl,(show Aside _ from ⟨_,_,E0.out⟩)⟩
   case round =>
    obtain ⟨j,p5,c5,p6,c6,hj,hgj,rfl,rfl,rfl,A2⟩:=hrel;clear E0;obtain ⟨P,G,en⟩:=A2.out;have EN:=hid en;clear A2 en;by_cases hlj:j<n
    ·have hljz:(j:Int)<(n:Int):=by omega
     have hjn:¬ (j:Int)<0:=by omega
     have wi:=HWI.out.grow EN.out.be;have c7:wr.cell? ⟨M.R,7,none⟩=some (.slice (some ⟨M.EB,0,none⟩) n M.ce):=wi.cell (j:=7) (by omega);rw [<- HR.out] at c7;have KP:=xP8 M.EB M.NC M.F M.H M.D M.vo M.lp M.lc n m c.ls W j hlj hm3 (fun k=>(HOK.out.rk j k).1) wr wi.br;clear wi
     go_wp2_with fail
     refine KP.mono ?_;rintro e w3 ⟨rfl,hrow,b3⟩;obtain ⟨p7,c7',w4,hrun,en4⟩:=(EN.out.grow b3).snocP (by omega) hrow;have RUN:=hid hrun;have EN4:=hid en4;clear KP hrow b3 hrun en4 EN c7
     go_upto_region 13 with (first|(at_builtin;refine yY _ _ 46 RUN.out (by rfl) (by rfl) (by rfl) (by rfl) (by rfl) ?_)|fail)
     clear RUN;have wi4:=HWI.out.grow EN4.out.be;have d7:w4.cell? ⟨M.R,7,none⟩=some (.slice (some ⟨M.EB,0,none⟩) n M.ce):=wi4.cell (j:=7) (by omega);rw [<- HR.out] at d7;have KE:=zV3 M.EB (j*4) _ (M.H j) j M.lp M.lc c.ls (W.st j) _ hL4 (HOK.out.st j) w4 (wi4.br.st.sto hlj);clear wi4
     go_wp2_with fail
     refine KE.mono ?_;rintro e w5 ⟨GB,rfl,⟨f,hf⟩,_,b5⟩;obtain ⟨p8,c8,w6,hrun,en6⟩:=(EN4.out.grow b5).snocS (by omega) hf;have RUN:=hid hrun;have EN6:=hid en6;clear KE hf b5 hrun en6 EN4 d7
     go_wp2_with (first|(at_builtin;refine yY _ _ 47 RUN.out (by rfl) (by rfl) (by rfl) (by rfl) (by rfl) ?_)|fail)
     go_roundg (n-(j+1))
     case measure=>omega
     case rel=>exact ⟨j+1,p7,c7',p8,c8,by omega,by omega,by go_num,rfl,rfl,(show Aside _ from ⟨_,_,EN6.out⟩)⟩
    ·have hljz:¬ (j:Int)<(n:Int):=by omega
     have ej:n=j:=by omega
     subst ej;go_wp2
     (try simp only [Exit.inBlock,Exit.then])
     refine bodyPost_ret (zX9 rfl _ _ _) rfl ?_;have en:=EN.out;rw [<- HE.out] at en;exact ⟨p4,c4,p5,c5,p6,c6,w2,P,G,rfl,B2.out.trans (EN.out.be.mono B2.out.size),en⟩
theorem EnI.purse {w0 w:World} {n m L:Nat} {W:Wo} {rv sv:Value} {rl:List Int} {ks:Nat} {P G:Nat->Nat} {pp:Option Addr} {pc:Nat} (h:EnI w0 w m L W rv (.slice pp n pc) sv rl n ks P G) (hn:0<n) :
  ∃ b off,pp=some ⟨b,off,none⟩/\∀ i,i<n->w.cell? ⟨b,off+i,none⟩=some (.slice (some ⟨P i,0,none⟩) m m):=by
 have hl:((List.range n).map P).length=n:=by rw [zL,List.length_range]
 obtain ⟨p,c,e,hh,_⟩:=(encK m).owns h.po hl;injection e with e1 _ _;obtain ⟨b,off,rfl,_,hc⟩:=hh.at 0 (by omega);refine ⟨b,off,e1,fun i hi=>?_⟩;have:=hc i 0 (.slice (some ⟨P i,0,none⟩) m m) (by omega) (by show 0<1;omega) (by
  rw [zA,zV,yH hi];rfl)
 rwa [show off+(i*(encK m).n+0)=off+i by show off+(i*1+0)=off+i;omega] at this
theorem EnI.pcells {w0 w:World} {m L:Nat} {W:Wo} {rv pv sv:Value} {rl:List Int} {kp ks:Nat} {P G:Nat->Nat} (h:EnI w0 w m L W rv pv sv rl kp ks P G) {i k:Nat} (hi:i<kp) (hk:k<m) :
  w.cell? ⟨P i,k*6,none⟩=some (.int .i64 (W.ask i k))/\w.cell? ⟨P i,k*6+1,none⟩=some (.int .i64 0)/\w.cell? ⟨P i,k*6+2,none⟩=some (.int .i64 0)/\w.cell? ⟨P i,k*6+3,none⟩=some (.int .i64 (W.rk i k).free)/\w.cell? ⟨P i,k*6+4,none⟩=some (.int .i64 (W.rk i k).held)/\w.cell? ⟨P i,k*6+5,none⟩=some (.int .i64 (W.rk i k).used):=by
 have f:∀ r,r<6->w.cell? ⟨P i,k*6+r,none⟩=some (puC (puW W i k) r):=fun r hr=>by
  rw [(h.pr i hi).cell (i:=k*6+r) (by omega)];unfold puF;rw [if_pos (by omega),show (k*6+r)/6=k by omega,show (k*6+r)%6=r by omega]
 exact ⟨f 0 (by omega),f 1 (by omega),f 2 (by omega),f 3 (by omega),f 4 (by omega),f 5 (by omega)⟩
namespace Plain
def dstF (f:Nat):Nat:=if f%4-1<f/4 then f%4-1 else f%4
theorem zI5 {c:Cf} {W:Wo} (hn:c.n=4) {j:Nat} (hj:j<16):(xM c W)[j]?=some (if j%4=0 then kG c W (j/4) else rumP c W (j/4) (dstF j)):=by
 unfold xM sends dstF;rw [hn];have:j=0\/j=1\/j=2\/j=3\/j=4\/j=5\/j=6\/j=7\/j=8\/j=9\/j=10\/j=11\/j=12\/j=13\/j=14\/j=15:=by omega
 rcases this with rfl|rfl|rfl|rfl|rfl|rfl|rfl|rfl|rfl|rfl|rfl|rfl|rfl|rfl|rfl|rfl<;>rfl
theorem kW (s:Int) {a:Nat} (ha:a<8):rdB s (a:Int)=reads s a:=by
 unfold rdB reads;rw [decide_eq_true (show (0:Int)<=(a:Int) by omega),decide_eq_true (show (a:Int)<8 by omega),zK];rfl
end Plain
theorem Tryz.guardPurse:Tryz.prog.eqGuardType Tryz.prog.depth 53=false:=by kernel_rfl
theorem xP9 (z i:Nat) (hz:z<256):bits .and .i64 ((z:Int)/2^i) 1=if Plain.reads (z:Int) i=true then 1 else 0:=by
 have e:((z:Int)/2^i)=((z/2^i:Nat):Int):=by simp
 have h:z/2^i<=z:=Nat.div_le_self _ _;have e2:bits .and .i64 ((z/2^i:Nat):Int) 1=((z/2^i%2:Nat):Int):=by
  rw [show (1:Int)=((1:Nat):Int) from rfl,LabP.zN0 _ _ (by omega) (by decide),Nat.and_one_is_mod]
 rw [e,e2];unfold Plain.reads;rw [zK];by_cases hb:z/2^i%2=1
 ·rw [hb];simp
 ·have:z/2^i%2=0:=by omega
  rw [this];simp
theorem Plain.lab_nat {c:Cf} (hc:mayC c=true) (k:Nat):∃ z:Nat,c.ls.getD k 0=(z:Int)/\z<256:=by
 by_cases h:k<c.ls.length
 ·have hm:c.ls.getD k 0∈c.ls:=by rw [zA,zB h];exact zH _
  have:=lab_lt hc _ hm;exact ⟨(c.ls.getD k 0).toNat,by omega,by omega⟩
 ·exact ⟨0,by rw [zA,zN (by omega)];rfl,by omega⟩
theorem SpR.both {w0 w:World} {q:Option Addr} {N k:Nat} {L:List Sp} (h:SpR w0 w (.slice q N k) L):qA.Holds w q L/\(q=none->k=0):=by
 obtain ⟨p',c',e',hh,hn'⟩:=h.form;injection e' with e1 _ e3;rw [e1,e3];exact ⟨hh,hn'⟩
namespace Plain
open Bo.Plain (Bk qP caB mapN begB zN8 amt)
def Vis (c:Cf) (x:Int) (k:Nat):Prop:=∃ i,i<4/\reads x i=true/\reads (qN c.ls k) i=true
structure BkR (x:Int) (b d:Bk):Prop where
 n:b.n=d.n
 cap:b.cap=d.cap
 tk:b.ticks=d.ticks
 rd:b.rounds=d.rounds
 qu:b.quotas=d.quotas
 lw:b.wants.length=d.wants.length
 wa:∀ i,reads x i=true->b.wants.getD i 0=d.wants.getD i 0
 gi:∀ i,reads x i=true->b.given.getD i 0=d.given.getD i 0
 si:∀ i,reads x i=true->b.since.getD i 0=d.since.getD i 0
theorem zY0 {n:Nat} {f g:Nat->Int} {i:Nat} (h:f i=g i):(mapN n f).getD i 0=(mapN n g).getD i 0:=by
 by_cases hi:i<n
 ·rw [Bo.Plain.vS hi,Bo.Plain.vS hi,h]
 ·rw [zA,zA,zN (by rw [Bo.Plain.kE];omega),zN (by rw [Bo.Plain.kE];omega)]
theorem BkR.beg {x:Int} {b d:Bk} (h:BkR x b d) (hr:b.rounds=0->b.reserve=d.reserve):BkR x (begB b) (begB d):=by
 unfold Bo.Plain.begB;by_cases e:b.rounds=0
 ·rw [if_pos e,if_pos (h.rd.symm.trans e)]
  exact ⟨h.n,h.cap,h.tk,h.rd,by show Bo.Plain.qG _ _=Bo.Plain.qG _ _;rw [hr e,h.n,h.cap],h.lw,h.wa,h.gi,fun i _=>by show (Bo.Plain.zeros b.n).getD i 0=(Bo.Plain.zeros d.n).getD i 0;rw [h.n]⟩
 ·rw [if_neg e,if_neg (fun z=>e (h.rd.trans z))]
  exact h
theorem BkR.give {x:Int} {b d:Bk} (h:BkR x b d):BkR x (zN8 b) (zN8 d):=by
 have ha:∀ i,reads x i=true->amt b i=amt d i:=fun i hi=>by
  unfold Bo.Plain.amt;rw [h.wa i hi,h.gi i hi,h.si i hi,h.qu]
 refine ⟨h.n,h.cap,h.tk,?_,h.qu,h.lw,h.wa,fun i hi=>?_,fun i hi=>?_⟩
 ·show (b.rounds+1)%b.ticks=(d.rounds+1)%d.ticks
  rw [h.rd,h.tk]
 ·show (mapN b.n fun i=>b.given.getD i 0+amt b i).getD i 0=(mapN d.n fun i=>d.given.getD i 0+amt d i).getD i 0
  rw [h.n];exact zY0 (by rw [h.gi i hi,ha i hi])
 ·show (mapN b.n fun i=>b.since.getD i 0+amt b i).getD i 0=(mapN d.n fun i=>d.since.getD i 0+amt d i).getD i 0
  rw [h.n];exact zY0 (by rw [h.si i hi,ha i hi])
theorem BkR.round {x:Int} {b d:Bk} (h:BkR x b d) (hr:b.rounds=0->b.reserve=d.reserve):BkR x (qP b) (qP d):=(h.beg hr).give
theorem qN5 (b:Bk) (w y:Int):Bo.Plain.caE b ⟨2,w,y⟩=if (w<0\/(b.n:Int)<=w)\/(y<0\/1048576<y) then 2 else 0:=by
 unfold Bo.Plain.caE;dsimp only;rw [if_neg (by decide),if_neg (by decide),if_pos rfl]
theorem xD3 (b:Bk) (w y:Int):caB b ⟨2,w,y⟩=if (w<0\/(b.n:Int)<=w)\/(y<0\/1048576<y) then b else { b with wants:=b.wants.set w.toNat (max (b.wants.getD w.toNat 0) y) }:=by
 unfold Bo.Plain.caB;rw [qN5];dsimp only;by_cases h:(w<0\/(b.n:Int)<=w)\/(y<0\/1048576<y)
 ·rw [if_pos h,if_pos (by decide),if_pos h]
 ·rw [if_neg h,if_neg (by decide),if_neg (by decide),if_neg (by decide),if_neg h]
theorem zE7 (l:List Int) (w i:Nat) (v:Int):(l.set w v).getD i 0=if w=i/\w<l.length then v else l.getD i 0:=by
 rw [zA,List.getElem?_set];by_cases e:w=i
 ·subst e
  by_cases hl:w<l.length
  ·rw [if_pos rfl,if_pos hl,if_pos ⟨rfl,hl⟩];rfl
  ·rw [if_pos rfl,if_neg hl,if_neg (fun z=>hl z.2),zA,zN (by omega)]
 ·rw [if_neg e,if_neg (fun z=>e z.1),<- zA]
theorem BkR.want {x:Int} {b d:Bk} (h:BkR x b d) (w:Nat) {y z:Int} (hy:reads x w=true->y=z):BkR x (caB b ⟨2,(w:Int),y⟩) (caB d ⟨2,(w:Int),z⟩):=by
 rw [xD3,xD3,zK];by_cases hw:reads x w=true
 ·rw [hy hw]
  by_cases hq:((w:Int)<0\/(b.n:Int)<=(w:Int))\/(z<0\/1048576<z)
  ·rw [if_pos hq,if_pos (by rw [<- h.n];exact hq)]
   exact h
  ·rw [if_neg hq,if_neg (by rw [<- h.n];exact hq)]
   refine ⟨h.n,h.cap,h.tk,h.rd,h.qu,by show (b.wants.set _ _).length=(d.wants.set _ _).length;rw [List.length_set,List.length_set];exact h.lw,fun i hi=>?_,h.gi,h.si⟩;show (b.wants.set w _).getD i 0=(d.wants.set w _).getD i 0;rw [zE7,zE7,h.wa w hw,h.lw,h.wa i hi]
 ·have key:∀ (e:Bk) (v:Int),(if ((w:Int)<0\/(e.n:Int)<=(w:Int))\/(v<0\/1048576<v) then e else { e with wants:=e.wants.set w (max (e.wants.getD w 0) v) }).n=e.n/\(if ((w:Int)<0\/(e.n:Int)<=(w:Int))\/(v<0\/1048576<v) then e else { e with wants:=e.wants.set w (max (e.wants.getD w 0) v) })={ e with wants:=(if ((w:Int)<0\/(e.n:Int)<=(w:Int))\/(v<0\/1048576<v) then e.wants else e.wants.set w (max (e.wants.getD w 0) v)) }:=fun e v=>by
   split<;>exact ⟨rfl,rfl⟩
  rw [(key b y).2,(key d z).2];have len:∀ (e:Bk) (v:Int),(if ((w:Int)<0\/(e.n:Int)<=(w:Int))\/(v<0\/1048576<v) then e.wants else e.wants.set w (max (e.wants.getD w 0) v)).length=e.wants.length:=fun e v=>by
   split
   ·rfl
   ·rw [List.length_set]
  have get:∀ (e:Bk) (v:Int) (i:Nat),reads x i=true->(if ((w:Int)<0\/(e.n:Int)<=(w:Int))\/(v<0\/1048576<v) then e.wants else e.wants.set w (max (e.wants.getD w 0) v)).getD i 0=e.wants.getD i 0:=fun e v i hi=>by
   split
   ·rfl
   ·rw [zE7,if_neg (fun q=>hw (by rw [q.1];exact hi))]
  exact ⟨h.n,h.cap,h.tk,h.rd,h.qu,by show List.length _=List.length _;rw [len,len];exact h.lw,fun i hi=>by show List.getD _ _ _=List.getD _ _ _;rw [get b y i hi,get d z i hi];exact h.wa i hi,h.gi,h.si⟩
structure PoR (c:Cf) (x:Int) (p q:Se.Plain.Po):Prop where
 frm:p.frm=q.frm
 tow:p.«to»=q.«to»
 len:p.data.length=q.data.length
 ask:∀ i:Nat,p.frm=i->p.«to»=4->reads x i=true->p.data=q.data
 own:∀ i:Nat,i<4->p.«to»=i->reads x i=true->p.data=q.data
 hrd:∀ k,Vis c x k->(heaV c p.frm p.«to» (natL p.data)).getD k []=(heaV c q.frm q.«to» (natL q.data)).getD k []
theorem PoR.rfl (c:Cf) (x:Int) (p:Se.Plain.Po):PoR c x p p:=⟨Eq.refl _,Eq.refl _,Eq.refl _,fun _ _ _ _=>Eq.refl _,fun _ _ _ _=>Eq.refl _,fun _ _=>Eq.refl _⟩
structure Blr (c:Cf) (x:Int) (W V:Wo):Prop where
 ask:∀ i k,reads x i=true->W.ask i k=V.ask i k
 gai:∀ i k,reads x i=true->W.gain i k=V.gain i k
 rk:∀ i k,reads x i=true->W.rk i k=V.rk i k
 st:∀ i k,Vis c x k->W.st i k=V.st i k
 len:W.off.posted.length=V.off.posted.length
 po:∀ j,PoR c x (W.off.at j) (V.off.at j)
 op:W.off.opened=V.off.opened
 lo:W.lost=V.lost
 bk:∀ k,k<c.ms.length->BkR x (W.bk k) (V.bk k)
theorem BkR.rfl (x:Int) (b:Bk):BkR x b b:=⟨Eq.refl _,Eq.refl _,Eq.refl _,Eq.refl _,Eq.refl _,Eq.refl _,fun _ _=>Eq.refl _,fun _ _=>Eq.refl _,fun _ _=>Eq.refl _⟩
theorem Blr.rfl (c:Cf) (x:Int) (W:Wo):Blr c x W W:=⟨fun _ _ _=>Eq.refl _,fun _ _ _=>Eq.refl _,fun _ _ _=>Eq.refl _,fun _ _ _=>Eq.refl _,Eq.refl _,fun _=>PoR.rfl c x _,Eq.refl _,Eq.refl _,fun _ _=>BkR.rfl x _⟩
structure TlR (x:Int) (t u:Tl):Prop where
 who:t.who=u.who
 sent:t.sent=u.sent
 rep:t.report=u.report
 own:rdB x t.who=true->t=u
theorem TlR.rfl (x:Int) (t:Tl):TlR x t t:=⟨Eq.refl _,Eq.refl _,Eq.refl _,fun _=>Eq.refl _⟩
theorem Blr.find {c:Cf} {x:Int} {W V:Wo} (h:Blr c x W V) (i:Int):xR W i=xR V i:=by
 have e1:Se.Plain.seenE W.off i=Se.Plain.seenE V.off i:=by unfold Se.Plain.seenE;rw [h.len]
 have e2:Se.Plain.oldO W.off i.toNat=Se.Plain.oldO V.off i.toNat:=by
  unfold Se.Plain.oldO;rw [h.op];refine congrArg (List.any V.off.opened) (funext fun k=>?_);rw [(h.po k).frm,(h.po k).tow,(h.po i.toNat).frm,(h.po i.toNat).tow]
 unfold xR;rw [e1,e2,h.lo]
theorem BkR.symm {x:Int} {b d:Bk} (h:BkR x b d):BkR x d b:=⟨h.n.symm,h.cap.symm,h.tk.symm,h.rd.symm,h.qu.symm,h.lw.symm,fun i hi=>(h.wa i hi).symm,fun i hi=>(h.gi i hi).symm,fun i hi=>(h.si i hi).symm⟩
theorem BkR.trans {x:Int} {b d e:Bk} (h:BkR x b d) (g:BkR x d e):BkR x b e:=⟨h.n.trans g.n,h.cap.trans g.cap,h.tk.trans g.tk,h.rd.trans g.rd,h.qu.trans g.qu,h.lw.trans g.lw,fun i hi=>(h.wa i hi).trans (g.wa i hi),fun i hi=>(h.gi i hi).trans (g.gi i hi),fun i hi=>(h.si i hi).trans (g.si i hi)⟩
theorem BkR.other {x:Int} (b:Bk) {w:Nat} (hw:¬ reads x w=true) (y:Int):BkR x b (caB b ⟨2,(w:Int),y⟩):=by
 rw [xD3,zK];split
 ·exact BkR.rfl x b
 ·exact ⟨Eq.refl _,Eq.refl _,Eq.refl _,Eq.refl _,Eq.refl _,by show _=(b.wants.set w _).length;rw [List.length_set],fun i hi=>by
   show _=(b.wants.set w _).getD i 0;rw [zE7,if_neg (fun q=>hw (by rw [q.1];exact hi))],fun _ _=>Eq.refl _,fun _ _=>Eq.refl _⟩
def PoB (p:Se.Plain.Po):Prop:=(∃ i:Nat,i<4/\p.frm=i/\p.«to»=4)\/(∃ i:Nat,i<4/\p.frm=4/\p.«to»=i)\/∃ i j:Nat,i<4/\j<4/\p.frm=i/\p.«to»=j
theorem Blr.come {c:Cf} {x:Int} {W V:Wo} (hn:c.n=4) (h:Blr c x W V) {p q:Se.Plain.Po} (hp:PoR c x p q) (hb:PoB p):Blr c x (vO c W p) (vO c V q):=by
 unfold vO;rw [<- hp.tow,<- hp.frm,hn];rcases hb with ⟨i,hi,hf,ht⟩|⟨i,hi,hf,ht⟩|⟨i,j,hi,hj,hf,ht⟩
 ·rw [if_pos ht,if_pos ht,hf]
  refine ⟨h.ask,h.gai,h.rk,h.st,h.len,h.po,h.op,h.lo,fun k hk=>?_⟩;by_cases hx:reads x i=true
  ·rw [hp.ask i hf ht hx]
   show BkR x (if _ then _ else _) (if _ then _ else _);split
   ·exact (h.bk k hk).want i fun _=>Eq.refl _
   ·exact h.bk k hk
  ·have a1:∀ (b:Bk) (l:List Int),BkR x b (if k<l.length then caB b ⟨2,(i:Int),l.getD k 0⟩ else b):=fun b l=>by
    split
    ·exact BkR.other b hx _
    ·exact BkR.rfl x b
   exact (a1 (W.bk k) _).symm.trans ((h.bk k hk).trans (a1 (V.bk k) _))
 ·have h4:¬ p.«to»=4:=by omega
  rw [if_neg h4,if_neg h4,if_pos hf,if_pos hf,ht,zK];by_cases hx:reads x i=true
  ·rw [hp.own i hi ht hx]
   refine ⟨h.ask,fun a k ha=>?_,fun a k ha=>?_,h.st,h.len,h.po,h.op,h.lo,h.bk⟩
   ·show (if _ then _ else _:Int)=if _ then _ else _
    rw [h.gai a k ha]
   ·show (if _ then _ else _:Hd.Plain.Rk)=if _ then _ else _
    rw [h.gai a k ha,h.rk a k ha]
  ·refine ⟨h.ask,fun a k ha=>?_,fun a k ha=>?_,h.st,h.len,h.po,h.op,h.lo,h.bk⟩
   ·have hne:a≠i:=fun e=>hx (by rw [<- e];exact ha)
    show (if _ then _ else _:Int)=if _ then _ else _;rw [if_neg (fun z=>hne z.1),if_neg (fun z=>hne z.1)];exact h.gai a k ha
   ·have hne:a≠i:=fun e=>hx (by rw [<- e];exact ha)
    show (if _ then _ else _:Hd.Plain.Rk)=if _ then _ else _;rw [if_neg (fun z=>hne z.1),if_neg (fun z=>hne z.1)];exact h.rk a k ha
 ·have h4:¬ p.«to»=4:=by omega
  have h5:¬ p.frm=4:=by omega
  rw [if_neg h4,if_neg h4,if_neg h5,if_neg h5];refine ⟨h.ask,h.gai,h.rk,fun a k hk=>?_,h.len,h.po,h.op,h.lo,h.bk⟩;have ht:=hp.hrd k hk;rw [<- hp.tow,<- hp.frm] at ht;show (if a=p.«to».toNat then heaK c.ls p.frm.toNat p.«to».toNat (W.st p.«to».toNat) (fun j=>(heaV c p.frm p.«to» (natL p.data)).getD j []) c.ls.length else W.st a) k=(if a=p.«to».toNat then heaK c.ls p.frm.toNat p.«to».toNat (V.st p.«to».toNat) (fun j=>(heaV c p.frm p.«to» (natL q.data)).getD j []) c.ls.length else V.st a) k;split
  ·unfold heaK
   dsimp only;rw [ht,h.st _ k hk]
  ·exact h.st a k hk
theorem Blr.opened {c:Cf} {x:Int} {W V:Wo} (h:Blr c x W V) (i:Nat):Blr c x { W with off:={ W.off with opened:=W.off.opened++[i] } } { V with off:={ V.off with opened:=V.off.opened++[i] } } :=
 ⟨h.ask,h.gai,h.rk,h.st,h.len,h.po,by show W.off.opened++[i]=V.off.opened++[i];rw [h.op],h.lo,h.bk⟩
theorem qC7 {x:Int} (hx:0<=x/\x<16):rdB x 4=false:=by
 have h:x=0\/x=1\/x=2\/x=3\/x=4\/x=5\/x=6\/x=7\/x=8\/x=9\/x=10\/x=11\/x=12\/x=13\/x=14\/x=15:=by omega
 rcases h with h|h|h|h|h|h|h|h|h|h|h|h|h|h|h|h<;>subst h<;>decide
theorem Blr.del {c:Cf} {x:Int} {W V:Wo} (hn:c.n=4) (hx16:0<=x/\x<16) (h:Blr c x W V) (hp:∀ j,j<W.off.posted.length->PoB (W.off.at j)) (i:Int):Blr c x (delW c W i) (delW c V i)/\TlR x (delT W i) (delT V i):=by
 unfold delW delT;rw [<- h.find i];by_cases hf:xR W i≠0
 ·rw [if_pos hf,if_pos hf,if_pos hf,if_pos hf]
  refine ⟨h,?_⟩;have e:(Se.Plain.seenV W.off i).tow=(Se.Plain.seenV V.off i).tow:=by
   unfold Se.Plain.seenV;rw [h.len];split
   ·exact Eq.refl _
   ·exact (h.po i.toNat).tow
  rw [e];exact TlR.rfl x _
 ·rw [if_neg hf,if_neg hf,if_neg hf,if_neg hf]
  have hr:0<=i/\i<(W.off.posted.length:Int):=by
   have h0:xR W i=0:=Classical.not_not.1 hf;have hs:=(zH9 h0).1;unfold Se.Plain.seenE at hs;by_cases z:i<0\/(W.off.posted.length:Int)<=i
   ·rw [if_pos z] at hs;cases hs
   ·omega
  have hP:=hp i.toNat (by omega);have hpo:=h.po i.toNat;refine ⟨(h.opened i.toNat).come hn hpo hP,⟨hpo.tow,Eq.refl _,Eq.refl _,fun hx=>?_⟩⟩;change rdB x (W.off.at i.toNat).«to»=true at hx;have hd:(W.off.at i.toNat).data=(V.off.at i.toNat).data:=by
   rcases hP with ⟨a,ha,hfa,hta⟩|⟨a,ha,hfa,hta⟩|⟨a,b,ha,hb,hfa,hta⟩
   ·rw [hta,qC7 hx16] at hx;cases hx
   ·rw [hta,kW x (by omega)] at hx
    exact hpo.own a ha hta hx
   ·rw [hta,kW x (by omega)] at hx
    exact hpo.own b hb hta hx
  rw [hd,hpo.tow]
theorem yD3 (st tt:List (List En)) (js:List Nat) (h:∀ j∈js,st.getD j []=tt.getD j []):jE st js=jE tt js:=by
 induction js with
 | nil=>exact Eq.refl _
 | cons x js ih =>
  show jZ _++jE st js=jZ _++jE tt js;rw [h x yD,ih (fun j hj=>h j (yC _ hj))]
theorem xD4 (s:Nat->List En) {m k:Nat} (hk:k<m):(stL s m).getD k []=s k:=by
 unfold stL;rw [zA,zV,yH hk];exact Eq.refl _
theorem zY1 {c:Cf} (hc:mayC c=true) (hn:c.n=4) {Z:Int} {s:Nat->List En} (hs:Sok Z s) {i j:Nat} (hi:i<4) (hj:j<4) :
  rumE c j i (stL s c.ls.length)=0/\∀ k,(heaV c j i (rumB c j i (stL s c.ls.length))).getD k []=if k<c.ls.length/\both (c.ls.getD k 0) j i=true then s k else []:=by
 have hst:(stL s c.ls.length).length=c.ls.length:=by simp [stL]
 have hr:refE c j i=0:=by unfold refE;rw [if_pos hc,if_pos (by omega)]
 obtain ⟨h1,_,h3,_⟩:=zC8 hr hst
  (zT.2 fun l hl=>by obtain ⟨t,_,e⟩:=zZ.1 hl;rw [<- e];exact hs.mayL t)
  (fun l hl=>by
   obtain ⟨t,_,e⟩:=zZ.1 hl;rw [<- e];exact zT.2 fun e he=>by
    have:=hs.may t e he;unfold fitE;simp only [Bool.and_eq_true,decide_eq_true_eq];exact ⟨this.2.1.2,this.2.2.2⟩)
 refine ⟨h1,fun k=>?_⟩;rw [h3];by_cases hk:k<c.ls.length
 ·rw [zA,zV,yH hk]
  dsimp only [Option.map_some,Option.getD_some];by_cases hb:both (c.ls.getD k 0) j i=true
  ·rw [if_pos hb,if_pos ⟨hk,hb⟩,xD4 s hk]
  ·rw [if_neg hb,if_neg (fun z=>hb z.2)]
 ·rw [zA,zN (by simp;omega),if_neg (fun z=>hk z.1)]
  exact Eq.refl _
theorem zR4 {c:Cf} (hc:mayC c=true) (hn:c.n=4) {a b:Int} (h:a=4\/b=4) (bl:List Nat):heaV c a b bl=[]:=by
 have:refE c a b≠0:=by
  unfold refE;rw [if_pos hc,if_neg (by omega)];decide
 exact (yX6 this).2
theorem xD5 {c:Cf} {x:Int} {m K:Nat} {W V:Wo} (hc:mayC c=true) (hn:c.n=4) (hW:Wok c 4 m K W) (hV:Wok c 4 m K V) (h:Blr c x W V) {a i:Nat} (ha:a<4) (hi:i<4):PoR c x (rumP c W a i) (rumP c V a i):=by
 have f1:=zY1 hc hn (hW.st a) hi ha;have f2:=zY1 hc hn (hV.st a) hi ha;have hvis:∀ k,reads x i=true->both (c.ls.getD k 0) a i=true->Vis c x k:=fun k hx hb=>by
  unfold both at hb;rw [kW _ (by omega),kW _ (by omega),zQ] at hb;exact ⟨i,hi,hx,hb.2⟩
 refine ⟨Eq.refl _,Eq.refl _,?_,fun j _ h4=>?_,fun j hj hji hx=>?_,fun k hk=>?_⟩
 ·show (byI (rumB c a i (stL (W.st a) c.ls.length))).length=(byI (rumB c a i (stL (V.st a) c.ls.length))).length
  rw [qC5 hc (hW.st a) (by omega) (by omega),qC5 hc (hV.st a) (by omega) (by omega)]
 ·exfalso
  have:((i:Nat):Int)=4:=h4;omega
 ·have e:i=j:=by have:((i:Nat):Int)=(j:Int):=hji;omega
  subst e;show byI (rumB c a i (stL (W.st a) c.ls.length))=byI (rumB c a i (stL (V.st a) c.ls.length));unfold rumB;rw [f1.1,f2.1,if_pos (Eq.refl _),if_pos (Eq.refl _)];rw [yD3 (stL (W.st a) c.ls.length) (stL (V.st a) c.ls.length) _ fun j hj=>?_];unfold comL at hj;obtain ⟨hj1,hj2⟩:=List.mem_filter.1 hj;have hjl:=zY.1 hj1;rw [xD4 _ hjl,xD4 _ hjl];exact h.st a j (hvis j hx hj2)
 ·show (heaV c a i (natL (byI (rumB c a i (stL (W.st a) c.ls.length))))).getD k []=(heaV c a i (natL (byI (rumB c a i (stL (V.st a) c.ls.length))))).getD k []
  rw [vK,vK,f1.2 k,f2.2 k,h.st a k hk]
theorem yO0 {c:Cf} {x:Int} {m K:Nat} {W V:Wo} (hc:mayC c=true) (hn:c.n=4) (hW:Wok c 4 m K W) (hV:Wok c 4 m K V) (h:Blr c x W V) (a:Nat):PoR c x (kG c W a) (kG c V a):=by
 refine ⟨Eq.refl _,Eq.refl _,?_,fun j hf _ hx=>?_,fun j hj hji=>?_,fun k _=>?_⟩
 ·show (byI (xO c (mapN c.ms.length (W.ask a)))).length=(byI (xO c (mapN c.ms.length (V.ask a)))).length
  rw [zM3 hc fun k _=>hW.ask a k,zM3 hc fun k _=>hV.ask a k]
 ·have e:a=j:=by have:((a:Nat):Int)=(j:Int):=hf;omega
  subst e;show byI (xO c (mapN c.ms.length (W.ask a)))=byI (xO c (mapN c.ms.length (V.ask a)));rw [show W.ask a=V.ask a from funext fun k=>h.ask a k hx]
 ·exfalso
  have:c.n=(j:Int):=hji;omega
 ·show (heaV c a c.n _).getD k []=(heaV c a c.n _).getD k []
  rw [zR4 hc hn (.inr hn),zR4 hc hn (.inr hn)]
theorem xD6 {c:Cf} {x:Int} {W V:Wo} (hc:mayC c=true) (hn:c.n=4) (hW:Wob W) (hV:Wob V) (hWn:∀ k,(W.bk k).n=4) (hVn:∀ k,(V.bk k).n=4) (h:∀ k,k<c.ms.length->BkR x (qP (W.bk k)) (qP (V.bk k))) {i:Nat} (hi:i<4):PoR c x (givP c W i) (givP c V i):=by
 have bd:∀ (U:Wo),Wob U->(∀ k,(U.bk k).n=4)->∀ k,0<=(qP (U.bk k)).given.getD i 0/\(qP (U.bk k)).given.getD i 0<=1048576:=fun U hU hn k=>by
  have o:=(hU k).round;have hi2:i<(qP (U.bk k)).n:=by rw [Bo.Plain.roundB_n,hn];omega
  have a:=o.gi i hi2;have b:=o.wa i hi2;omega
 refine ⟨Eq.refl _,Eq.refl _,?_,fun j _ h4=>?_,fun j hj hji hx=>?_,fun k _=>?_⟩
 ·show (byI (xO c (mapN c.ms.length fun k=>(qP (W.bk k)).given.getD i 0))).length=(byI (xO c (mapN c.ms.length fun k=>(qP (V.bk k)).given.getD i 0))).length
  rw [zM3 hc fun k _=>bd W hW hWn k,zM3 hc fun k _=>bd V hV hVn k]
 ·exfalso
  have:((i:Nat):Int)=4:=h4;omega
 ·have e:i=j:=by have:((i:Nat):Int)=(j:Int):=hji;omega
  subst e;show byI (xO c (mapN c.ms.length fun k=>(qP (W.bk k)).given.getD i 0))=byI (xO c (mapN c.ms.length fun k=>(qP (V.bk k)).given.getD i 0));refine congrArg (fun l=>byI (xO c l)) ?_;unfold Bo.Plain.mapN;exact List.map_congr_left fun k hk=>(h k (zY.1 hk)).gi i hx
 ·show (heaV c c.n i _).getD k []=(heaV c c.n i _).getD k []
  rw [zR4 hc hn (.inl hn),zR4 hc hn (.inl hn)]
end Plain
namespace Plain
open Bo.Plain (Bk qP caB mapN begB zN8 amt)
theorem yD4 {f g:Nat->Int}:∀ m,(∀ k,k<m->(0<=f k ↔ 0<=g k))->((mapN m f).filter fun x=>decide (0<=x))=((mapN m g).filter fun x=>decide (0<=x))->∀ k,k<m->0<=f k->f k=g k:=by
 intro m;induction m with
 | zero=>intro _ _ k hk;omega
 | succ m ih =>
  intro hm he k hk h0;rw [Bo.Plain.yS0,Bo.Plain.yS0,List.filter_append,List.filter_append] at he;have hmm:=hm m (by omega);by_cases hf:0<=f m
  ·have hg:=hmm.1 hf
   have e1:[f m].filter (fun x=>decide (0<=x))=[f m]:=by simp [hf]
   have e2:[g m].filter (fun x=>decide (0<=x))=[g m]:=by simp [hg]
   rw [e1,e2] at he;obtain ⟨h1,h2⟩:=List.append_inj' he rfl;by_cases hkm:k=m
   ·subst hkm
    exact List.head_eq_of_cons_eq h2
   ·exact ih (fun k hk=>hm k (by omega)) h1 k (by omega) h0
  ·have hg:¬ 0<=g m:=fun z=>hf (hmm.2 z)
   have e1:[f m].filter (fun x=>decide (0<=x))=[]:=by simp [hf]
   have e2:[g m].filter (fun x=>decide (0<=x))=[]:=by simp [hg]
   rw [e1,e2,List.append_nil,List.append_nil] at he;by_cases hkm:k=m
   ·subst hkm;exact absurd h0 hf
   ·exact ih (fun k hk=>hm k (by omega)) he k (by omega) h0
theorem zY2:∀ (l u:List Se.Plain.Po) (b:Nat),l.map yN9=u.map yN9->evsF b l=evsF b u:=by
 intro l;induction l with
 | nil =>
  intro u b h;cases u with
  | nil=>rfl
  | cons q u=>simp at h
 | cons p l ih =>
  intro u b h;cases u with
  | nil=>simp at h
  | cons q u =>
   rw [List.map_cons,List.map_cons] at h;have h1:=List.head_eq_of_cons_eq h;have h2:=List.tail_eq_of_cons_eq h;unfold yN9 at h1;have a1:p.frm=q.frm:=congrArg (·.1) h1;have a2:p.«to»=q.«to»:=congrArg (·.2.1) h1;have a3:p.data.length=q.data.length:=congrArg (·.2.2) h1;unfold evsF;rw [a1,a2,a3,ih u (b+1) h2]
theorem zM4 {c:Cf} {m K:Nat} {W:Wo} (hc:mayC c=true) (hn:c.n=4) (hw:Wok c 4 m K W) (hb:Wob W) {j:Nat} (hj:20<=j):(xM c W)[j]?=none:=by
 have h20:(xM c W).length=20:=by rw [<- zX8 hn,<- vM hc hn hw hb,zL]
 exact zN (by omega)
theorem Blr.tick {c:Cf} {x:Int} {m K:Nat} {W V:Wo} (hc:mayC c=true) (hn:c.n=4) (hW:Wok c 4 m K W) (hV:Wok c 4 m K V) (bW:Wob W) (bV:Wob V) (h:Blr c x W V) (hrep:zW6 c W=zW6 c V):Blr c x (kT c W) (kT c V)/\TlR x (vN c W) (vN c V):=by
 have rep:∀ (U:Wo),Wob U->∀ k,0<=Bo.Plain.xV1 (U.bk k) ↔ (U.bk k).rounds=0:=fun U hU k=>by
  unfold Bo.Plain.xV1;split
  next e=>exact ⟨fun _=>e,fun _=>(hU k).re⟩
  next e=>exact ⟨fun z=>absurd z (by decide),fun z=>absurd z e⟩
 have hres:∀ k,k<c.ms.length->(W.bk k).rounds=0->(W.bk k).reserve=(V.bk k).reserve:=fun k hk h0=>by
  have h1:=yD4 (f:=fun k=>Bo.Plain.xV1 (W.bk k)) (g:=fun k=>Bo.Plain.xV1 (V.bk k)) c.ms.length (fun k hk=>by rw [rep W bW,rep V bV,(h.bk k hk).rd]) hrep k hk ((rep W bW k).2 h0);unfold Bo.Plain.xV1 at h1;rw [if_pos h0,if_pos ((h.bk k hk).rd.symm.trans h0)] at h1;exact h1
 have hbk:∀ k,k<c.ms.length->BkR x (qP (W.bk k)) (qP (V.bk k)):=fun k hk=>(h.bk k hk).round (hres k hk);have hsh:(xM c W).map yN9=(xM c V).map yN9:=by rw [vM hc hn hW bW,vM hc hn hV bV]
 refine ⟨⟨h.ask,h.gai,fun i k hi=>?_,h.st,?_,fun j=>?_,h.op,h.lo,hbk⟩,⟨Eq.refl _,?_,hrep,fun _=>?_⟩⟩
 ·show Hd.Plain.yJ0 (W.rk i k) ⟨7,0,0,0⟩=Hd.Plain.yJ0 (V.rk i k) ⟨7,0,0,0⟩
  rw [h.rk i k hi]
 ·show (W.off.posted++xM c W).length=(V.off.posted++xM c V).length
  have:=congrArg List.length hsh;rw [zL,zL] at this;rw [zD,zD,h.len,this]
 ·by_cases hj:j<W.off.posted.length
  ·have e:∀ U:Wo,j<U.off.posted.length->(kT c U).off.at j=U.off.at j:=fun U hU=>by
    show (U.off.posted++xM c U).getD j default=U.off.posted.getD j default;rw [zA,zX hU,<- zA]
   rw [e W hj,e V (by rw [<- h.len];exact hj)];exact h.po j
  ·have e:∀ (U:Wo) p,¬ j<U.off.posted.length->(xM c U)[j-U.off.posted.length]?=p->(kT c U).off.at j=p.getD default:=fun U p hU hp=>by
    show (U.off.posted++xM c U).getD j default=_;rw [zA,zR (by omega),hp]
   have hjV:¬ j<V.off.posted.length:=by rw [<- h.len];exact hj
   by_cases h16:j-W.off.posted.length<16
   ·have h16V:j-V.off.posted.length<16:=by rw [<- h.len];exact h16
    rw [e W _ hj (zI5 hn h16),e V _ hjV (zI5 hn h16V),<- h.len];obtain ⟨f,hf⟩:∃ f,f=j-W.off.posted.length:=⟨_,Eq.refl _⟩;rw [<- hf] at h16 ⊢;show PoR c x (if f%4=0 then _ else _) (if f%4=0 then _ else _);split
    ·exact yO0 hc hn hW hV h _
    ·exact xD5 hc hn hW hV h (by omega) (by unfold dstF;split<;>omega)
   ·by_cases h20:j-W.off.posted.length<20
    ·obtain ⟨a,ha⟩:=Nat.exists_eq_add_of_le (show 16<=j-W.off.posted.length by omega)
     rw [e W (some (givP c W a)) hj (by rw [ha];exact zI4 hn (by omega)),e V (some (givP c V a)) hjV (by rw [<- h.len,ha];exact zI4 hn (by omega))];exact xD6 hc hn bW bV hW.bn hV.bn hbk (by omega)
    ·rw [e W none hj (zM4 hc hn hW bW (by omega)),e V none hjV (zM4 hc hn hV bV (by rw [<- h.len];omega))]
     exact PoR.rfl c x _
 ·show evsF W.off.posted.length (xM c W)=evsF V.off.posted.length (xM c V)
  rw [h.len,zY2 _ _ _ hsh]
 ·show ({ tlE 0 with sent:=evsF W.off.posted.length (xM c W),report:=zW6 c W }:Tl)={ tlE 0 with sent:=evsF V.off.posted.length (xM c V),report:=zW6 c V }
  rw [h.len,zY2 _ _ _ hsh,hrep]
def Wpb (W:Wo):Prop:=∀ j,j<W.off.posted.length->PoB (W.off.at j)
theorem Wpb.step {c:Cf} {m K:Nat} {W:Wo} (hc:mayC c=true) (hn:c.n=4) (hw:Wok c 4 m K W) (hb:Wob W) (h:Wpb W) (s:Sp):Wpb (stW c W s):=fun j hj=>by
 have hp:=yD2 c W s;by_cases h9:s.kind=9
 ·rw [if_pos h9] at hp
  unfold Se.Plain.Off.at
  rw [hp] at hj ⊢;by_cases hl:j<W.off.posted.length
  ·rw [zA,zX hl,<- zA]
   exact h j hl
  ·have h20:(xM c W).length=20:=by rw [<- zX8 hn,<- vM hc hn hw hb,zL]
   rw [zD,h20] at hj;rw [zA,zR (by omega)];obtain ⟨f,hf⟩:∃ f,f=j-W.off.posted.length:=⟨_,rfl⟩;rw [<- hf];by_cases h16:f<16
   ·rw [zI5 hn h16]
    show PoB (if f%4=0 then _ else _);split
    ·exact .inl ⟨f/4,by omega,rfl,hn⟩
    ·exact .inr (.inr ⟨f/4,dstF f,by omega,by unfold dstF;split<;>omega,rfl,rfl⟩)
   ·obtain ⟨a,ha⟩:=Nat.exists_eq_add_of_le (show 16<=f by omega)
    rw [ha,zI4 hn (by omega)];exact .inr (.inl ⟨a,by omega,hn,rfl⟩)
 ·rw [if_neg h9] at hp
  unfold Se.Plain.Off.at
  rw [hp] at hj ⊢;exact h j hj
theorem yD5 (c:Cf) (W:Wo) (i:Nat) (s:Sp):(brW c W i s).gain=W.gain/\(brW c W i s).off=W.off/\(brW c W i s).lost=W.lost/\(brW c W i s).bk=W.bk/\(∀ a k,a≠i->(brW c W i s).ask a k=W.ask a k/\(brW c W i s).rk a k=W.rk a k)/\(s.kind≠7->(brW c W i s).st=W.st):=by
 unfold brW;by_cases h7:s.kind=7
 ·rw [if_pos h7]
  exact ⟨rfl,rfl,rfl,rfl,fun _ _ _=>⟨rfl,rfl⟩,fun z=>absurd h7 z⟩
 rw [if_neg h7];split
 ·exact ⟨rfl,rfl,rfl,rfl,fun _ _ _=>⟨rfl,rfl⟩,fun _=>rfl⟩
 split
 ·exact ⟨rfl,rfl,rfl,rfl,fun _ _ _=>⟨rfl,rfl⟩,fun _=>rfl⟩
 split
 ·split
  ·exact ⟨rfl,rfl,rfl,rfl,fun a k ha=>⟨zD8 _ _ _ _ (fun z=>ha z.1),rfl⟩,fun _=>rfl⟩
  ·exact ⟨rfl,rfl,rfl,rfl,fun _ _ _=>⟨rfl,rfl⟩,fun _=>rfl⟩
 ·exact ⟨rfl,rfl,rfl,rfl,fun a k ha=>⟨rfl,zD8 _ _ _ _ (fun z=>ha z.1)⟩,fun _=>rfl⟩
theorem qC8 (c:Cf) (W:Wo) (i:Nat) (s:Sp) (h7:s.kind=7) (a k:Nat):(brW c W i s).st a k=if a=i/\wrE c.ls i s.label s.key s.count=0/\k=s.label.toNat then put (W.st i k) (entW (W.st i k) s.key s.count i false) else W.st a k:=by
 unfold brW;rw [if_pos h7];show (if a=i then wrS c.ls i (W.st i) s.label s.key s.count else W.st a) k=_;by_cases e:a=i
 ·rw [if_pos e]
  unfold wrS;by_cases e0:wrE c.ls i s.label s.key s.count=0
  ·rw [if_neg (fun z=>z e0)]
   show (if k=s.label.toNat then _ else W.st i k)=_;by_cases el:k=s.label.toNat
   ·rw [if_pos el,if_pos ⟨e,e0,el⟩,el]
   ·rw [if_neg el,if_neg (fun z=>el z.2.2),e]
  ·rw [if_pos e0,if_neg (fun z=>e0 z.2.1),e]
 ·rw [if_neg e,if_neg (fun z=>e z.1)]
theorem zR5 (c:Cf) (W:Wo) (i:Nat) (s:Sp):(brT c W i s).sent=[]/\(brT c W i s).report=[]:=by
 unfold brT
 repeat' split
 all_goals exact ⟨rfl,rfl⟩
theorem xD7 {c:Cf} {x:Int} {W V:Wo} (h:Blr c x W V) {i:Nat} (hi:i<4) (hx:reads x i=true) (s:Sp):brT c W i s=brT c V i s/\∀ k,(brW c W i s).ask i k=(brW c V i s).ask i k/\(brW c W i s).rk i k=(brW c V i s).rk i k:=by
 constructor
 ·unfold brT
  rw [show W.ask i s.item.toNat=V.ask i s.item.toNat from h.ask i _ hx,show W.rk i s.item.toNat=V.rk i s.item.toNat from h.rk i _ hx];have hval:valE c.ls i (W.st i) s.label s.key=valE c.ls i (V.st i) s.label s.key/\valV c.ls i (W.st i) s.label s.key=valV c.ls i (V.st i) s.label s.key:=by
   by_cases hr:rfS c.ls i s.label s.key=0
   ·have hv:Vis c x s.label.toNat:=by
     unfold rfS at hr;by_cases e2:(s.label<0\/(c.ls.length:Int)<=s.label)\/(s.key<0\/7<s.key)
     ·rw [if_pos e2] at hr;cases hr
     ·rw [if_neg e2] at hr
      by_cases e3:reads (qN c.ls s.label.toNat) i=false
      ·rw [if_pos e3] at hr;cases hr
      ·exact ⟨i,hi,hx,by simpa using e3⟩
    unfold valV valE;rw [h.st i _ hv];exact ⟨rfl,rfl⟩
   ·have eW:∀ S,valE c.ls i S s.label s.key=rfS c.ls i s.label s.key:=fun S=>by unfold valE;rw [if_pos hr]
    have vW:∀ S,valV c.ls i S s.label s.key=0:=fun S=>by unfold valV;rw [eW,if_pos hr]
    exact ⟨by rw [eW,eW],by rw [vW,vW]⟩
  rw [hval.1,hval.2]
 ·intro k
  unfold brW;rw [show W.ask i s.item.toNat=V.ask i s.item.toNat from h.ask i _ hx,show W.rk i s.item.toNat=V.rk i s.item.toNat from h.rk i _ hx];split
  ·exact ⟨h.ask i k hx,h.rk i k hx⟩
  split
  ·exact ⟨h.ask i k hx,h.rk i k hx⟩
  split
  ·exact ⟨h.ask i k hx,h.rk i k hx⟩
  split
  ·split
   ·refine ⟨?_,h.rk i k hx⟩
    show up2 _ _ _ _ i k=up2 _ _ _ _ i k;unfold up2;rw [h.ask i k hx]
   ·exact ⟨h.ask i k hx,h.rk i k hx⟩
  ·refine ⟨h.ask i k hx,?_⟩
   show up2 _ _ _ _ i k=up2 _ _ _ _ i k;unfold up2;rw [h.rk i k hx]
def Alk (c:Cf) (x:Int) (i:Nat) (s t:Sp):Prop:=s=t\/(¬ reads x i=true/\((s.kind≠7/\t.kind≠7)\/(s.label=t.label/\¬ Vis c x s.label.toNat)))
theorem Blr.br {c:Cf} {x:Int} {W V:Wo} (h:Blr c x W V) {i:Nat} (hi:i<4) {s t:Sp} (ha:Alk c x i s t):Blr c x (brW c W i s) (brW c V i t):=by
 obtain ⟨w1,w2,w3,w4,w5,w6⟩:=yD5 c W i s;obtain ⟨v1,v2,v3,v4,v5,v6⟩:=yD5 c V i t;have hak:∀ a k,reads x a=true->(brW c W i s).ask a k=(brW c V i t).ask a k/\(brW c W i s).rk a k=(brW c V i t).rk a k:=fun a k hx=>by
  by_cases e:a=i
  ·subst e
   rcases ha with ha|ha
   ·rw [<- ha]
    exact (xD7 h hi hx s).2 k
   ·exact absurd hx ha.1
  ·rw [(w5 a k e).1,(w5 a k e).2,(v5 a k e).1,(v5 a k e).2]
   exact ⟨h.ask a k hx,h.rk a k hx⟩
 refine ⟨fun a k hx=>(hak a k hx).1,fun a k hx=>by rw [w1,v1];exact h.gai a k hx,fun a k hx=>(hak a k hx).2,fun a k hk=>?_,by rw [w2,v2];exact h.len,fun j=>by rw [w2,v2];exact h.po j,by rw [w2,v2];exact h.op,by rw [w3,v3];exact h.lo,fun k hk=>by rw [w4,v4];exact h.bk k hk⟩;have out:∀ (U:Wo) (u:Sp),(u.kind=7->¬ Vis c x u.label.toNat)->(brW c U i u).st a k=U.st a k:=fun U u hu=>by
  by_cases h7:u.kind=7
  ·rw [qC8 c U i u h7,if_neg (fun z=>hu h7 (by rw [<- z.2.2];exact hk))]
  ·rw [(yD5 c U i u).2.2.2.2.2 h7]
 rcases ha with ha|⟨_,⟨h1,h2⟩|⟨h1,h2⟩⟩
 ·rw [<- ha]
  by_cases h7:s.kind=7
  ·rw [qC8 c W i s h7,qC8 c V i s h7,h.st i k hk,h.st a k hk]
  ·rw [w6 h7,ha,v6 (by rw [<- ha];exact h7)]
   exact h.st a k hk
 ·rw [w6 h1,v6 h2]
  exact h.st a k hk
 ·rw [out W s (fun _=>h2),out V t (fun _=>by rw [<- h1];exact h2)]
  exact h.st a k hk
end Plain
namespace Plain
def Pair (c:Cf) (x:Int) (s t:Sp):Prop:=s=t\/∃ w:Nat,w<4/\s.who=w/\t.who=w/\¬ reads x w=true/\(1<=s.kind/\s.kind<=8)/\(1<=t.kind/\t.kind<=8)/\((s.kind≠7/\t.kind≠7)\/(s.label=t.label/\¬ Vis c x s.label.toNat))
theorem zY3 {c:Cf} (hn:c.n=4) (W:Wo) {s:Sp} {w:Nat} (hw:w<4) (hs:s.who=w) (hk:1<=s.kind/\s.kind<=8):stW c W s=brW c W w s/\stT c W s={ brT c W w s with who:=(w:Int) }:=by
 have h1:¬ (s.who<0\/c.n<=s.who):=by omega
 unfold stW stT;rw [if_neg (by omega),if_neg (by omega),if_neg (by omega),if_neg (by omega),if_neg h1,if_neg (by omega),if_neg (by omega),if_neg (by omega),if_neg (by omega),if_neg h1,hs,zK];exact ⟨Eq.refl _,Eq.refl _⟩
theorem Blr.branch {c:Cf} {x:Int} {W V:Wo} (hn:c.n=4) (h:Blr c x W V) {w:Nat} (hw:w<4) {s t:Sp} (hs:s.who=w) (ht:t.who=w) (ks:1<=s.kind/\s.kind<=8) (kt:1<=t.kind/\t.kind<=8) (ha:Alk c x w s t):Blr c x (stW c W s) (stW c V t)/\TlR x (stT c W s) (stT c V t):=by
 obtain ⟨a1,a2⟩:=zY3 hn W hw hs ks;obtain ⟨b1,b2⟩:=zY3 hn V hw ht kt;rw [a1,a2,b1,b2];refine ⟨h.br hw ha,⟨Eq.refl _,?_,?_,fun hx=>?_⟩⟩
 ·show (brT c W w s).sent=(brT c V w t).sent
  rw [(zR5 c W w s).1,(zR5 c V w t).1]
 ·show (brT c W w s).report=(brT c V w t).report
  rw [(zR5 c W w s).2,(zR5 c V w t).2]
 ·change rdB x (w:Int)=true at hx
  rw [kW x (by omega)] at hx;rcases ha with ha|ha
  ·rw [<- ha,(xD7 h hw hx s).1]
  ·exact absurd hx ha.1
theorem Blr.step {c:Cf} {x:Int} {m K:Nat} {W V:Wo} (hc:mayC c=true) (hn:c.n=4) (hx16:0<=x/\x<16) (hW:Wok c 4 m K W) (hV:Wok c 4 m K V) (bW:Wob W) (bV:Wob V) (pW:Wpb W) (h:Blr c x W V) {s t:Sp} (hs:Pair c x s t) (hrep:(stT c W s).report=(stT c V t).report):Blr c x (stW c W s) (stW c V t)/\TlR x (stT c W s) (stT c V t):=by
 rcases hs with hs|⟨w,hw,h1,h2,hnx,k1,k2,hd⟩
 ·subst hs
  by_cases h9:s.kind=9
  ·have e1:∀ U,stW c U s=kT c U/\stT c U s=vN c U:=fun U=>by unfold stW stT;rw [if_pos h9,if_pos h9];exact ⟨Eq.refl _,Eq.refl _⟩
   rw [(e1 W).2,(e1 V).2] at hrep;rw [(e1 W).1,(e1 V).1,(e1 W).2,(e1 V).2];exact h.tick hc hn hW hV bW bV hrep
  by_cases h10:s.kind=10
  ·have e1:∀ U,stW c U s=delW c U s.id/\stT c U s=delT U s.id:=fun U=>by unfold stW stT;rw [if_neg h9,if_pos h10,if_neg h9,if_pos h10];exact ⟨Eq.refl _,Eq.refl _⟩
   rw [(e1 W).1,(e1 V).1,(e1 W).2,(e1 V).2];exact h.del hn hx16 pW s.id
  by_cases h11:s.kind=11
  ·have e1:∀ U,stW c U s=losW U s.id/\stT c U s=tlE (xR U s.id):=fun U=>by unfold stW stT;rw [if_neg h9,if_neg h10,if_pos h11,if_neg h9,if_neg h10,if_pos h11];exact ⟨Eq.refl _,Eq.refl _⟩
   rw [(e1 W).1,(e1 V).1,(e1 W).2,(e1 V).2,<- h.find];refine ⟨?_,TlR.rfl x _⟩;unfold losW;rw [<- h.find];split
   ·exact h
   ·exact ⟨h.ask,h.gai,h.rk,h.st,h.len,h.po,h.op,by show W.lost++[s.id]=V.lost++[s.id];rw [h.lo],h.bk⟩
  by_cases hk:s.kind<1\/8<s.kind
  ·have e1:∀ U,stW c U s=U/\stT c U s=tlE 3:=fun U=>by unfold stW stT;rw [if_neg h9,if_neg h10,if_neg h11,if_pos hk,if_neg h9,if_neg h10,if_neg h11,if_pos hk];exact ⟨Eq.refl _,Eq.refl _⟩
   rw [(e1 W).1,(e1 V).1,(e1 W).2,(e1 V).2];exact ⟨h,TlR.rfl x _⟩
  by_cases hw:s.who<0\/c.n<=s.who
  ·have e1:∀ U,stW c U s=U/\stT c U s=tlE 2:=fun U=>by unfold stW stT;rw [if_neg h9,if_neg h10,if_neg h11,if_neg hk,if_pos hw,if_neg h9,if_neg h10,if_neg h11,if_neg hk,if_pos hw];exact ⟨Eq.refl _,Eq.refl _⟩
   rw [(e1 W).1,(e1 V).1,(e1 W).2,(e1 V).2];exact ⟨h,TlR.rfl x _⟩
  have hw2:s.who=(s.who.toNat:Nat):=by omega
  exact h.branch hn (w:=s.who.toNat) (by omega) hw2 hw2 (by omega) (by omega) (.inl (Eq.refl _))
 ·exact h.branch hn hw h1 h2 k1 k2 (.inr ⟨hnx,hd⟩)
inductive Pairs (c:Cf) (x:Int):List Sp->List Sp->Prop
 | nil:Pairs c x [] []
 | cons {s t:Sp} {l u:List Sp}:Pair c x s t->Pairs c x l u->Pairs c x (s :: l) (t :: u)
inductive Tells (x:Int):List Tl->List Tl->Prop
 | nil:Tells x [] []
 | cons {s t:Tl} {l u:List Tl}:TlR x s t->Tells x l u->Tells x (s :: l) (t :: u)
theorem xD8 {c:Cf} {x:Int} {m:Nat} (hc:mayC c=true) (hn:c.n=4) (hm:c.ms.length=m) (hx16:0<=x/\x<16) {l u:List Sp} (hp:Pairs c x l u):∀ (K:Nat) (W V:Wo),K+l.length<=300->Wok c 4 m K W->Wok c 4 m K V->Wob W->Wob V->Wpb W->Blr c x W V->(tlsF c W l).map (·.report)=(tlsF c V u).map (·.report)->Tells x (tlsF c W l) (tlsF c V u)/\Blr c x (runW c W l) (runW c V u):=by
 induction hp with
 | nil=>exact fun K W V _ _ _ _ _ _ h _=>⟨.nil,h⟩
 | @cons s t l u hst _ ih =>
  intro K W V hK hW hV bW bV pW h hr;have hr1:(stT c W s).report=(stT c V t).report:=List.head_eq_of_cons_eq hr;have hr2:=List.tail_eq_of_cons_eq hr;obtain ⟨h1,h2⟩:=h.step hc hn hx16 hW hV bW bV pW hst hr1;have hl:K+1+l.length<=300:=by rw [List.length_cons] at hK;omega
  have hK1:K<300:=by omega
  have r:=ih (K+1) (stW c W s) (stW c V t) hl (hW.step hc hn hm (by omega) s) (hV.step hc hn hm (by omega) t) (bW.step s) (bV.step t) (pW.step hc hn hW bW s) h1 hr2;exact ⟨.cons h2 r.1,r.2⟩
end Plain
namespace Plain
def zY4 (c:Cf) (x:Int) (s:Sp):Bool :=
 !(reads x s.who.toNat)&&(decide (1<=s.kind/\s.kind<=6) || (decide (s.kind=7\/s.kind=8)&&decide ((qN c.ls s.label.toNat).toNat &&& x.toNat=0)))
def otS (s o:Sp):Sp :=
 if s.kind=7\/s.kind=8 then ⟨7+o.kind%2,s.who,s.item,o.count,s.life,s.id,s.label,o.key⟩
 else ⟨1+o.kind%6,s.who,o.item%3,o.count,o.life,o.id,s.label,s.key⟩
def otP (c:Cf) (x:Int) (s o:Sp):Sp:=if zY4 c x s then otS s o else s
def otL (c:Cf) (x:Int) (l os:List Sp) (k:Nat):List Sp:=(List.range l.length).map fun i=>if i<k/\i<os.length then otP c x (l.getD i default) (os.getD i default) else l.getD i default
theorem zR6 (c:Cf) (x:Int) (l os:List Sp) (k:Nat):(otL c x l os k).length=l.length:=by simp [otL]
theorem zM5 (c:Cf) (x:Int) (l os:List Sp) (k:Nat) {i:Nat} (h:i<l.length):(otL c x l os k).getD i default=if i<k/\i<os.length then otP c x (l.getD i default) (os.getD i default) else l.getD i default:=by
 unfold otL;rw [zA,zV,yH h];rfl
theorem xQ0 {c:Cf} {x:Int}:∀ {l u:List Sp},l.length=u.length->(∀ i,i<l.length->Pair c x (l.getD i default) (u.getD i default))->Pairs c x l u:=by
 intro l;induction l with
 | nil =>
  intro u h _;cases u with
  | nil=>exact .nil
  | cons t u=>simp at h
 | cons s l ih =>
  intro u h hp;cases u with
  | nil=>simp at h
  | cons t u =>
   refine .cons (hp 0 (by simp)) (ih (by simpa using h) fun i hi=>?_);have:=hp (i+1) (by simpa using hi);simpa using this
theorem qC9 {c:Cf} {x:Int} {k:Nat} (h:(qN c.ls k).toNat &&& x.toNat=0):¬ Vis c x k:=by
 rintro ⟨i,_,h1,h2⟩;unfold reads at h1 h2;have a:∀ z:Nat,(z/2^i%2==1)=z.testBit i:=fun z=>by
  rw [Nat.testBit_eq_decide_div_mod_eq];rfl
 rw [a] at h1 h2;have:=Nat.testBit_and (qN c.ls k).toNat x.toNat i;rw [h,h1,h2] at this;simp at this
theorem xQ1 {c:Cf} {x:Int} {s o:Sp} (hs:SOk s):Pair c x s (otP c x s o):=by
 unfold otP;cases hp:zY4 c x s with
 | false=>exact .inl (by simp)
 | true =>
  rw [if_pos rfl];unfold zY4 at hp;simp only [Bool.and_eq_true,Bool.or_eq_true,decide_eq_true_eq,Bool.not_eq_true'] at hp;obtain ⟨hr,hk⟩:=hp;obtain ⟨_,hw,hl,_⟩:=hs;refine .inr ⟨s.who.toNat,by omega,by omega,?_,by rw [hr];decide,by omega,?_,?_⟩
  ·unfold otS;split<;>(show s.who=_;omega)
  ·unfold otS
   split
   ·show 1<=7+o.kind%2/\7+o.kind%2<=8;omega
   ·show 1<=1+o.kind%6/\1+o.kind%6<=8;omega
  ·rcases hk with hk|⟨hk,hv⟩
   ·have h7:¬ (s.kind=7\/s.kind=8):=by omega
    unfold otS;rw [if_neg h7];exact .inl ⟨by omega,by show 1+o.kind%6≠7;omega⟩
   ·unfold otS
    rw [if_pos hk];exact .inr ⟨rfl,qC9 hv⟩
theorem xD9 {c:Cf} {x:Int} {l os:List Sp} (hl:∀ s,s∈l->SOk s) (k:Nat):Pairs c x l (otL c x l os k):=by
 refine xQ0 (zR6 c x l os k).symm fun i hi=>?_;rw [zM5 c x l os k hi];split
 ·exact xQ1 (hl _ (by rw [zA,zB hi];exact zH _))
 ·exact .inl rfl
theorem xE0 {c:Cf} {x:Int} {l os:List Sp} {k:Nat} (h:l.length<=k\/os.length<=k):∀ i,i<l.length->(otL c x l os k).getD i default=(otL c x l os l.length).getD i default:=by
 intro i hi;rw [zM5 c x l os k hi,zM5 c x l os _ hi];by_cases h1:i<os.length
 ·rw [if_pos ⟨by omega,h1⟩,if_pos ⟨hi,h1⟩]
 ·rw [if_neg (fun x=>h1 x.2),if_neg (fun x=>h1 x.2)]
theorem qN6 {c:Cf} {x:Int} {l os:List Sp} {k:Nat} (hl:∀ s,s∈l->In64 s.id) (ho:∀ s,s∈os->In64 s.id):∀ s,s∈otL c x l os k->In64 s.id:=by
 intro s hs;obtain ⟨i,hi,rfl⟩:=zZ.1 hs;have hi:=zY.1 hi;have h1:=hl (l.getD i default) (by rw [zA,zB hi];exact zH _);split
 next h =>
  have h2:=ho (os.getD i default) (by rw [zA,zB h.2];exact zH _);unfold otP otS;split
  ·split
   ·exact h1
   ·exact h2
  ·exact h1
 next=>exact h1
end Plain
def BS (B:Nat) (W:World) (pb:Option Addr) (N:Nat) (bs:List Sp):Prop :=
 0<N->∃ g M f,pb=some ⟨g,0,none⟩/\B<=g/\W.rowIs g 32 M f/\N*8<=M/\∀ j q,j<N->q<8->f (j*8+q)=spF (bs.getD j default) q
theorem yI5 (l:List Sp) {j q:Nat} (h:j<l.length) (hq:q<8):(qA.vals l)[j*8+q]?=some (spF (l.getD j default) q):=by
 have:=qA.vals_at default l j q h hq;rw [show j*qA.n+q=j*8+q from rfl] at this;rw [this];have:q=0\/q=1\/q=2\/q=3\/q=4\/q=5\/q=6\/q=7:=by omega
 rcases this with rfl|rfl|rfl|rfl|rfl|rfl|rfl|rfl<;>rfl
theorem SpR.bs {w W:World} {p:Option Addr} {c:Nat} {ts:List Sp} {N:Nat} (h:SpR w W (.slice p N c) ts) (hN:N=ts.length):BS w.heap.size W p N ts:=fun h0=>by
 subst hN;rcases h.ow.2 with ⟨_,h1⟩|⟨g,cap,cur,e,hg,hb,h1,h2,h3,h4⟩
 ·omega
 ·rw [Value.slice.injEq] at e
  obtain ⟨rfl,_,rfl⟩:=e;refine ⟨g,cur.size,fun j=>cur.getD j undef,rfl,hg,⟨cur,hb,rfl,fun i hi=>by simp [hi]⟩,by omega,fun j q hj hq=>?_⟩;have h5:(cur.toList.take (ts.length*8))[j*8+q]?=some (spF (ts.getD j default) q):=by rw [h4];exact yI5 ts hj hq
  rw [List.getElem?_take,if_pos (by omega),Array.getElem?_toList] at h5;show cur.getD (j*8+q) undef=_;rw [Array.getD_eq_getD_getElem?,h5];rfl
theorem BS.holds {B:Nat} {W:World} {pb:Option Addr} {N:Nat} {bs cs:List Sp} (h:BS B W pb N bs) (hl:cs.length=N) (he:∀ i,i<N->bs.getD i default=cs.getD i default):qA.Holds W pb cs:=fun h0=>by
 obtain ⟨g,M,f,rfl,_,hr,hM,hf⟩:=h (by omega);refine ⟨g,0,rfl,hr.lt,fun j u hu=>?_⟩;have hj:j<cs.length*8:=by
  rcases Nat.lt_or_ge j (cs.length*8) with h1|h1
  ·exact h1
  ·rw [zN (by rw [qA.vals_len];exact h1)] at hu;cases hu
 have hd:j/8<cs.length:=by omega
 have hm:j%8<8:=Nat.mod_lt _ (by decide);have e:=yI5 cs hd hm;rw [show j/8*8+j%8=j by omega] at e;rw [e] at hu;injection hu with hu;rw [Nat.zero_add,hr.cell (i:=j) (by omega),<- hu];have:=hf (j/8) (j%8) (by omega) hm;rw [show j/8*8+j%8=j by omega] at this;rw [this,he (j/8) (by omega)]
end Go.Proofs.YtleaknfjbbccgaaGreatDoor
