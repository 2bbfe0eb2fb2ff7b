/-
 Laid together: what the law asks of these.
-/
import Derived.Deep.LoopGhost
import Derived.Deep.RegionHeld3
import Derived.Deep.QuietTactic
import Derived.BigQuiet
import Derived.Deep.CutBlock
import Derived.Test.YtlohgiichckjmaaGreatDoorMu03
import Derived.Test.YtlohgiichckjmaaGreatDoorMu10
import Derived.Test.YtlohgiichckjmaaGreatDoorMu11
import Derived.Test.YtlohgiichckjmaaGreatDoorMu15
import Derived.Test.YtlohgiichckjmaaGreatDoorMu17
import Derived.Test.YtlohgiichckjmaaGreatDoorMu18
import Derived.Test.YtlohgiichckjmaaGreatDoorMu20
namespace Go.Proofs.YtlohgiichckjmaaGreatDoor
set_option maxHeartbeats 16000000
set_option maxRecDepth 100000
namespace Plain
def Wob (W:Wo):Prop:=∀ k,Bo.Plain.Ok (W.bk k)
theorem Wob.start {c:Cf} (hc:mayC c=true):Wob (Wo.start c):=fun k=>by
 have hm:=may_all hc
 have h0:Bo.Plain.Ok (Bo.Plain.Bk.new c.n.toNat c.cap c.t.toNat):=Bo.Plain.Ok.new hm.2.2.2.2.2.2 (by omega)
 show Bo.Plain.Ok (bk0 c k)
 unfold bk0
 split
 ·exact h0.step _
 ·exact h0
theorem Wob.step {c:Cf} {W:Wo} (h:Wob W) (s:Sp):Wob (stW c W s):=by
 unfold stW
 split
 ·exact fun k=>(h k).round
 split
 ·unfold delW
  split
  ·exact h
  ·unfold comeW
   split
   ·intro k
    show Bo.Plain.Ok (if k<_ then _ else _)
    split
    ·exact (h k).step _
    ·exact h k
   split
   ·exact h
   ·exact h
 split
 ·unfold losW
  split<;>exact h
 split
 ·exact h
 split
 ·exact h
 ·intro k
  rw [(brW_keep c W s.who.toNat s).1]
  exact h k
theorem Wob.run {c:Cf} {W:Wo} (h:Wob W) (l:List Sp):Wob (runW c W l):=by
 induction l generalizing W with
 | nil=>exact h
 | cons s l ih=>exact ih (h.step s)
def look3 (p:Se.Plain.Po):Int × Int × Nat:=(p.frm,p.«to»,p.data.length)
def asksZ (c:Cf):Nat:=(21*c.ms.length+7)/8
def shapeB (c:Cf) (i:Nat):List (Int × Int × Nat):=((i:Int),c.n,asksZ c) :: ((List.range c.n.toNat).filter fun j=>j≠i).map fun j:Nat=>((i:Int),(j:Int),34*comN c i j)
def shape (c:Cf):List (Int × Int × Nat):=(List.range c.n.toNat).flatMap (shapeB c)++(List.range c.n.toNat).map fun i:Nat=>(c.n,(i:Int),asksZ c)
theorem mapN_all {m:Nat} {f:Nat->Int} (h:∀ k,k<m->0<=f k/\f k<=1048576):(Bo.Plain.mapN m f).all cntB=true:=by
 rw [List.all_eq_true]
 intro x hx
 unfold Bo.Plain.mapN at hx
 obtain ⟨k,hk,rfl⟩:=List.mem_map.1 hx
 have:=h k (List.mem_range.1 hk)
 unfold cntB
 exact (inR_iff _ _ _).2 this
theorem asks_z {c:Cf} (hc:mayC c=true) {f:Nat->Int} (h:∀ k,k<c.ms.length->0<=f k/\f k<=1048576):(byI (asksB c (Bo.Plain.mapN c.ms.length f))).length=asksZ c:=by
 rw [byI_len]
 have hl:(Bo.Plain.mapN c.ms.length f).length=c.ms.length:=Bo.Plain.mapN_len _ _
 have:=(asks_back hc hl (mapN_all h)).2.2.2
 rw [this,hl]
 rfl
theorem rum_z {c:Cf} (hc:mayC c=true) {Z:Int} {s:Nat->List En} (hs:Sok Z s) {i j:Nat} (hi:(i:Int)<c.n) (hj:(j:Int)<c.n):(byI (rumB c i j (stL s c.ls.length))).length=34*comN c i j:=by
 rw [byI_len]
 have hst:(stL s c.ls.length).length=c.ls.length:=by simp [stL]
 have hr:refE c i j=0:=by unfold refE;rw [if_pos hc,if_pos (by omega)]
 exact (told_heard hr hst
  (List.all_eq_true.2 fun l hl=>by obtain ⟨t,_,rfl⟩:=List.mem_map.1 hl;exact hs.mayL t)
  (fun l hl=>by
   obtain ⟨t,_,rfl⟩:=List.mem_map.1 hl
   exact List.all_eq_true.2 fun e he=>by
    have:=hs.may t e he
    unfold fitE
    simp only [Bool.and_eq_true,decide_eq_true_eq]
    exact ⟨this.2.1.2,this.2.2.2⟩)).2.2.2
theorem flatMap_congr' {α β:Type} {l:List α} {f g:α->List β} (h:∀ a,a∈l->f a=g a):l.flatMap f=l.flatMap g:=by
 induction l with
 | nil=>rfl
 | cons a l ih=>rw [List.flatMap_cons,List.flatMap_cons,h a List.mem_cons_self,ih fun b hb=>h b (List.mem_cons_of_mem _ hb)]
theorem map_flatMap' {α β γ:Type} (l:List α) (f:α->List β) (g:β->γ):(l.flatMap f).map g=l.flatMap fun a=>(f a).map g:=by
 induction l with
 | nil=>rfl
 | cons a l ih=>rw [List.flatMap_cons,List.map_append,List.flatMap_cons,ih]
theorem tick_shape {c:Cf} {n m K:Nat} {W:Wo} (hc:mayC c=true) (hn:c.n=n) (h:Wok c n m K W) (hb:Wob W):(tickP c W).map look3=shape c:=by
 unfold tickP shape
 rw [List.map_append,map_flatMap']
 congr 1
 ·refine flatMap_congr' fun i hi=>?_
  have hi:=List.mem_range.1 hi
  unfold sends shapeB
  rw [List.map_cons,List.map_map]
  congr 1
  ·show ((i:Int),c.n,(byI (asksB c (Bo.Plain.mapN c.ms.length (W.ask i)))).length)=_
   rw [asks_z hc fun k _=>h.ask i k]
  ·refine List.map_congr_left fun j hj=>?_
   have hj:=List.mem_range.1 (List.mem_filter.1 hj).1
   show ((i:Int),(j:Int),(byI (rumB c i j (stL (W.st i) c.ls.length))).length)=_
   rw [rum_z hc (h.st i) (by omega) (by omega)]
 ·rw [List.map_map]
  refine List.map_congr_left fun i hi=>?_
  have hi:=List.mem_range.1 hi
  show (c.n,(i:Int),(byI (asksB c (Bo.Plain.mapN c.ms.length fun k=>(Bo.Plain.roundB (W.bk k)).given.getD i 0))).length)=_
  rw [asks_z hc fun k _=>by
   have o:=(hb k).round
   have hi2:i<(Bo.Plain.roundB (W.bk k)).n:=by rw [Bo.Plain.roundB_n,h.bn];omega
   have a:=o.gi i hi2
   have b:=o.wa i hi2
   omega]
def ticksN (l:List Sp):Nat:=(l.filter fun s=>decide (s.kind=9)).length
theorem ticksN_snoc (l:List Sp) (s:Sp):ticksN (l++[s])=ticksN l+if s.kind=9 then 1 else 0:=by
 unfold ticksN
 rw [List.filter_append,List.length_append]
 by_cases h:s.kind=9
 ·simp [h]
 ·simp [h]
theorem posted_step (c:Cf) (W:Wo) (s:Sp):(stW c W s).off.posted=if s.kind=9 then W.off.posted++tickP c W else W.off.posted:=by
 unfold stW
 by_cases h9:s.kind=9
 ·rw [if_pos h9,if_pos h9];rfl
 rw [if_neg h9,if_neg h9]
 split
 ·unfold delW
  split
  ·rfl
  ·unfold comeW
   split
   ·rfl
   split<;>rfl
 split
 ·unfold losW
  split<;>rfl
 split
 ·rfl
 split
 ·rfl
 ·rw [(brW_keep c W s.who.toNat s).2.1]
theorem wok_all {c:Cf} {n m:Nat} (hc:mayC c=true) (hn:c.n=n) (hm:c.ms.length=m) (l:List Sp) (hl:l.length<=300):Wok c n m l.length (runW c (Wo.start c) l)/\Wob (runW c (Wo.start c) l):=by
 refine ⟨?_,(Wob.start hc).run l⟩
 have:=wok_run hc hn hm l hl l.length (Nat.le_refl _)
 rw [List.take_length] at this
 exact this
theorem posted_len {c:Cf} {n m:Nat} (hc:mayC c=true) (hn:c.n=n) (hm:c.ms.length=m):∀ (k:Nat) (l:List Sp),l.length=k->k<=300->(runW c (Wo.start c) l).off.posted.length=(shape c).length*ticksN l:=by
 intro k
 induction k with
 | zero =>
  intro l hl _
  have:l=[]:=List.length_eq_zero_iff.1 hl
  subst this
  rfl
 | succ k ih =>
  intro l hl hk
  have hne:l≠[]:=by intro e;subst e;simp at hl
  obtain ⟨i,s,rfl⟩:∃ i s,l=i++[s]:=⟨l.dropLast,l.getLast hne,(List.dropLast_concat_getLast hne).symm⟩
  rw [List.length_append,List.length_singleton] at hl
  have hi:=ih i (by omega) (by omega)
  have ok:=wok_all hc hn hm i (by omega)
  rw [runW_app]
  show (stW c (runW c (Wo.start c) i) s).off.posted.length=_
  rw [posted_step,ticksN_snoc]
  by_cases h9:s.kind=9
  ·rw [if_pos h9,if_pos h9,List.length_append,hi,Nat.mul_add,Nat.mul_one]
   have:=congrArg List.length (tick_shape hc hn ok.1 ok.2)
   rw [List.length_map] at this
   rw [this]
  ·rw [if_neg h9,if_neg h9,hi,Nat.add_zero]
end Plain
end Go.Proofs.YtlohgiichckjmaaGreatDoor
namespace Go.Proofs.YtlohgiichckjmaaGreatDoor
set_option maxHeartbeats 16000000
set_option maxRecDepth 100000
namespace Plain
theorem caB_given (b:Bo.Plain.Bk) (w x:Int):(Bo.Plain.caB b ⟨2,w,x⟩).given=b.given/\(Bo.Plain.caB b ⟨2,w,x⟩).ever=b.ever/\(Bo.Plain.caB b ⟨2,w,x⟩).reserve=b.reserve:=by
 unfold Bo.Plain.caB
 split
 ·exact ⟨rfl,rfl,rfl⟩
 ·rw [if_neg (by show ¬ (2:Int)=3;omega),if_neg (by show ¬ (2:Int)=1;omega)]
  exact ⟨rfl,rfl,rfl⟩
end Plain
end Go.Proofs.YtlohgiichckjmaaGreatDoor
namespace Go.Proofs.YtlohgiichckjmaaGreatDoor
set_option maxHeartbeats 16000000
set_option maxRecDepth 100000
namespace Plain
theorem shape_len {c:Cf} (hn:c.n=4):(shape c).length=20:=by
 unfold shape shapeB
 simp only [hn]
 rfl
theorem tls_at (c:Cf):∀ (l:List Sp) (W:Wo) (i:Nat),(tlsF c W l)[i]?=(l[i]?).map (stT c (runW c W (l.take i))):=by
 intro l
 induction l with
 | nil=>intro W i;simp [tlsF]
 | cons s l ih =>
  intro W i
  cases i with
  | zero=>rfl
  | succ i=>exact ih (stW c W s) i
theorem ticksN_take (l:List Sp) (i:Nat) (s:Sp) (hi:l[i]?=some s):ticksN (l.take (i+1))=ticksN (l.take i)+if s.kind=9 then 1 else 0:=by
 rw [List.take_add_one,hi]
 exact ticksN_snoc _ _
theorem ticksN_le (l:List Sp):ticksN l<=l.length:=List.length_filter_le _ _
end Plain
end Go.Proofs.YtlohgiichckjmaaGreatDoor
namespace Go.Proofs.YtlohgiichckjmaaGreatDoor
set_option maxHeartbeats 16000000
set_option maxRecDepth 100000
namespace Plain
def tickS:Sp:=⟨9,0,0,0,0,0,0,0⟩
theorem come_keep {c:Cf} {W:Wo} {p:Se.Plain.Po}:(comeW c W p).off=W.off/\(comeW c W p).lost=W.lost/\(∀ k,((comeW c W p).bk k).given=(W.bk k).given):=by
 unfold comeW
 split
 ·refine ⟨rfl,rfl,fun k=>?_⟩
  show (if k<_ then _ else _:Bo.Plain.Bk).given=_
  split
  ·exact (caB_given _ _ _).1
  ·rfl
 split
 ·exact ⟨rfl,rfl,fun _=>rfl⟩
 ·exact ⟨rfl,rfl,fun _=>rfl⟩
end Plain
end Go.Proofs.YtlohgiichckjmaaGreatDoor
namespace Go.Proofs.YtlohgiichckjmaaGreatDoor
set_option maxHeartbeats 16000000
set_option maxRecDepth 100000
namespace Plain
theorem old_then {c:Cf} {W:Wo} {s:Sp} (hk:s.kind=10\/s.kind=11) (hr:0<=s.id/\s.id<(W.off.posted.length:Int)):findE (stW c W s) s.id=10:=by
 have hs:∀ o:Se.Plain.Off,o.posted=W.off.posted->¬ Se.Plain.seenE o s.id≠0:=fun o e x=>x (by unfold Se.Plain.seenE;rw [e,if_neg (by omega)])
 have hf:findE W s.id=0\/findE W s.id=10:=by
  unfold findE
  rw [if_neg (hs _ rfl)]
  split
  ·exact .inr rfl
  ·exact .inl rfl
 have h9:¬ s.kind=9:=by omega
 unfold stW
 rw [if_neg h9]
 rcases hk with hk|hk
 ·rw [if_pos hk]
  unfold delW
  rcases hf with hf|hf
  ·rw [if_neg (fun x=>x hf)]
   have k:=come_keep (c:=c) (W:={ W with off:={ W.off with opened:=W.off.opened++[s.id.toNat] } }) (p:=W.off.at s.id.toNat)
   unfold findE
   rw [k.1,if_neg (hs (⟨W.off.posted,W.off.opened++[s.id.toNat]⟩:Se.Plain.Off) rfl),if_pos]
   right
   unfold Se.Plain.oldO
   refine List.any_eq_true.2 ⟨s.id.toNat,List.mem_append_right _ List.mem_cons_self,decide_eq_true ⟨Nat.le_refl _,rfl,rfl⟩⟩
  ·rw [if_pos (by rw [hf];decide)]
   exact hf
 ·rw [if_neg (by omega),if_pos hk]
  unfold losW
  rcases hf with hf|hf
  ·rw [if_neg (fun x=>x hf)]
   unfold findE
   rw [if_neg (hs _ rfl),if_pos (.inl (List.mem_append_right _ List.mem_cons_self))]
  ·rw [if_pos (by rw [hf];decide)]
   exact hf
theorem old_still {c:Cf} {W:Wo} {s:Sp} (hk:s.kind=10) (hf:findE W s.id=10):stW c W s=W/\(stT c W s).code=10/\(stT c W s).frame=[]:=by
 have h9:¬ s.kind=9:=by omega
 have hne:findE W s.id≠0:=by rw [hf];decide
 refine ⟨?_,?_,?_⟩
 ·unfold stW delW
  rw [if_neg h9,if_pos hk,if_pos hne]
 ·unfold stT delT
  rw [if_neg h9,if_pos hk,if_pos hne]
  exact hf
 ·unfold stT delT
  rw [if_neg h9,if_pos hk,if_pos hne]
  rfl
theorem runW_snoc (c:Cf) (W:Wo) (l:List Sp) (s:Sp):runW c W (l++[s])=stW c (runW c W l) s:=by rw [runW_app];rfl
theorem old_end {c:Cf} {n m:Nat} (hc:mayC c=true) (hn:c.n=n) (hm:c.ms.length=m) {l:List Sp} (hl:l.length<=300) {s d:Sp} (hk:s.kind=10\/s.kind=11) (hd:d.kind=10) (hid:d.id=s.id) (hr:0<=s.id/\s.id<(((shape c).length*ticksN l:Nat):Int)) :
  runW c (Wo.start c) ((l++[s])++[d])=runW c (Wo.start c) (l++[s])/\∃ t,(tlsF c (Wo.start c) ((l++[s])++[d]))[l.length+1]?=some t/\t.code=10/\t.frame=[]:=by
 have hp:=posted_len hc hn hm l.length l rfl hl
 have ho:findE (runW c (Wo.start c) (l++[s])) d.id=10:=by
  rw [runW_snoc,hid]
  exact old_then hk (by rw [hp];exact hr)
 have hs:=old_still (c:=c) hd ho
 refine ⟨by rw [runW_snoc];exact hs.1,stT c (runW c (Wo.start c) (l++[s])) d,?_,hs.2.1,hs.2.2⟩
 rw [tls_at,List.getElem?_append_right (by simp),List.take_append_of_le_length (by simp),List.take_of_length_le (by simp)]
 simp
end Plain
end Go.Proofs.YtlohgiichckjmaaGreatDoor
namespace Go.Proofs.YtlohgiichckjmaaGreatDoor
set_option maxHeartbeats 16000000
set_option maxRecDepth 100000
open Go.RowKit Go.Shelf Go.Sort
theorem gnow_c (D:Nat->Nat) (vo:Nat->Nat->Value) (n m:Nat) (a g:Nat->Nat->Int) (r:Nat->Nat->Hd.Plain.Rk) (i k:Nat) (hi:i<n) (hk:k<m) (gg:Int) (hv:Hd.Plain.Hv (r i k) gg) (w:World) (h:GoI w D vo n m a g r) :
  Calls Tryz.prog 34 #[.pointer (some ⟨D i,k*6+2,none⟩)] w fun e w'=>e=.returned (Hd.aggS ⟨0,0,(r i k).free,(r i k).held,(r i k).used⟩)/\Below w.heap.size w w':=by
 obtain ⟨hf,hu,hs1⟩:=hv.bdsL
 obtain ⟨hp1,hp2,hp3⟩:=hv.ptsL
 have K:=Hd.now_c _ _ _ _ _ (r i k).free (r i k).used _ _ hp1 (by rw [Hd.Plain.sumP_open];exact hs1.2) (by omega) w (h.stock hi hk)
 rw [Hd.Plain.sumP_open] at K
 exact K
structure Plain.Pu where
 ask:Int
 free:Int
 held:Int
 used:Int
def puC (x:Plain.Pu) (j:Nat):Value:=.int .i64 (if j=0 then x.ask else if j=3 then x.free else if j=4 then x.held else if j=5 then x.used else 0)
def puF (f:Nat->Plain.Pu) (k j:Nat):Value:=if j/6<k then puC (f (j/6)) (j%6) else .int .i64 0
def Plain.puW (W:Plain.Wo) (i k:Nat):Plain.Pu:=⟨W.ask i k,(W.rk i k).free,(W.rk i k).held,(W.rk i k).used⟩
theorem made_rowP (w:World) (m:Nat) (f:Nat->Plain.Pu):(w.alloc (.cells (madeCells #[.int .i64 0,.int .i64 0,.int .i64 0,.int .i64 0,.int .i64 0,.int .i64 0] (m*6)) 52)).rowIs w.heap.size 52 (m*6) (puF f 0) :=
 ⟨_,Deep.blk_alloc_new _ _,size_madeCells _ _,fun i hi=>by
  have h6:i%6<6:=Nat.mod_lt _ (by decide)
  have:i%6=0\/i%6=1\/i%6=2\/i%6=3\/i%6=4\/i%6=5:=by omega
  rcases this with e|e|e|e|e|e<;>simp [madeCells,hi,e,puF]⟩
theorem puF_set (f:Nat->Plain.Pu) (k j:Nat):(if k*6<=j/\j<k*6+6 then puC (f k) (j-k*6) else puF f k j)=puF f (k+1) j:=by
 unfold puF
 by_cases e:k*6<=j/\j<k*6+6
 ·rw [if_pos e,if_pos (by omega),show j/6=k by omega,show j%6=j-k*6 by omega]
 ·rw [if_neg e]
  by_cases l:j/6<k
  ·rw [if_pos l,if_pos (by omega)]
  ·rw [if_neg l,if_neg (by omega)]
theorem puX (f:Nat->Plain.Pu) (k j:Nat) (x:Int) (hx:x=(f k).ask):(if j=k*6+5 then .int .i64 (f k).used else if j=k*6+4 then .int .i64 (f k).held else if j=k*6+3 then .int .i64 (f k).free else if j=k*6+2 then .int .i64 0 else if j=k*6+1 then .int .i64 0 else if j=k*6 then .int .i64 x else puF f k j:Value)=if k*6<=j/\j<k*6+6 then puC (f k) (j-k*6) else puF f k j:=by
 by_cases e:k*6<=j/\j<k*6+6
 ·rw [if_pos e]
  obtain ⟨d,rfl⟩:=Nat.exists_eq_add_of_le e.1
  rw [Nat.add_sub_cancel_left]
  have:d=0\/d=1\/d=2\/d=3\/d=4\/d=5:=by omega
  rcases this with rfl|rfl|rfl|rfl|rfl|rfl<;>simp [puC,hx]
 ·rw [if_neg e,if_neg (by omega),if_neg (by omega),if_neg (by omega),if_neg (by omega),if_neg (by omega),if_neg (by omega)]
theorem infoPu:(Tryz.prog.info? 52).map (fun i=>(i.zero,i.size,i.bytes))=some (some (.agg #[.int .i64 0,.int .i64 0,.int .i64 0,.int .i64 0,.int .i64 0,.int .i64 0]),6,48):=by kernel_rfl
theorem purses_c (EB NC:Nat) (F:Nat->Value) (H D:Nat->Nat) (vo:Nat->Nat->Value) (lp:Option Addr) (lc n m:Nat) (L:List Int) (W:Plain.Wo) (i:Nat) (hi:i<n) (hm:m<=3) (hv:∀ k,∃ g,Hd.Plain.Hv (W.rk i k) g) (w:World)
  (h:BrsI w EB NC F H D vo lp lc n m L W) :
  Calls Tryz.prog 25 #[.pointer (some ⟨EB,i*4,none⟩)] w fun e w'=>e=.returned (.slice (some ⟨w.heap.size,0,none⟩) m m)/\w'.rowIs w.heap.size 52 (m*6) (puF (Plain.puW W i) m)/\Below w.heap.size w w':=by
 have mk:∀ W:World,(Instr.makeSlice 53 (.int .i64 (m:Int)) (.int .i64 (m:Int))).run Tryz.prog W=.ok (.slice (some ⟨W.heap.size,0,none⟩) m m) (W.alloc (.cells (madeCells #[.int .i64 0,.int .i64 0,.int .i64 0,.int .i64 0,.int .i64 0,.int .i64 0] (m*6)) 52)):=fun W=>by
  obtain ⟨i0,hi,hz0,hz1,hz2⟩:=info_parts infoPu
  have:=run_make (P:=Tryz.prog) W 53 52 i0 _ Tryz.underlying53 hi hz0 .i64 .i64 (m:Int) (m:Int) (by omega) (Int.le_refl _) (by rw [hz2];omega) (by omega)
  rw [hz1,show (Value.agg #[.int .i64 0,.int .i64 0,.int .i64 0,.int .i64 0,.int .i64 0,.int .i64 0]).cells=#[.int .i64 0,.int .i64 0,.int .i64 0,.int .i64 0,.int .i64 0,.int .i64 0] from rfl] at this
  simpa using this
 obtain ⟨WA,hWA⟩:∃ WA,WA=w.alloc (.cells (madeCells #[.int .i64 0,.int .i64 0,.int .i64 0,.int .i64 0,.int .i64 0,.int .i64 0] (m*6)) 52):=⟨_,rfl⟩
 have BA:=hid (show Below w.heap.size w WA by rw [hWA];exact (Below.refl _ _).alloc (Nat.le_refl _) _)
 have RA:=hid (show WA.rowIs w.heap.size 52 (m*6) (puF (Plain.puW W i) 0) by rw [hWA];exact made_rowP w m (Plain.puW W i))
 have x3:=h.st.goods hi
 have x3A:=(h.grow BA.out).st.goods hi
 rw [hWA] at x3A
 have HG:=hid h
 have HV:=hid hv
 have mixed:Tryz.prog.follows .mixedOrders=true:=by kernel_rfl
 clear h hv
 go_enter Tryz.func25,Tryz.ntmps25
 go_wp2
 rw [<- hWA]
 clear hWA mk x3 x3A
 go_loopg [4,16] m (fun gg _ s16 wx=>∃ k:Nat,k<=m/\m-k<=gg/\s16=.int .i64 k/\Aside (Below w.heap.size w wx/\wx.rowIs w.heap.size 52 (m*6) (puF (Plain.puW W i) k)))
 case atStart=>exact ⟨0,Nat.zero_le _,by omega,rfl,(show Aside _ from ⟨BA.out,RA.out⟩)⟩
 case round =>
  obtain ⟨k,hk,hg,rfl,AR⟩:=hrel
  clear BA RA
  by_cases hlt:k<m
  ·have hltz:(k:Int)<(m:Int):=by omega
   have hkn:¬ (k:Int)<0:=by omega
   have hB:=HG.out.grow AR.out.1
   obtain ⟨gg5,hvk⟩:=HV.out k
   have KN:=gnow_c D vo n m W.ask W.gain W.rk i k hi hlt gg5 hvk wr.drew (hB.go.grow (Below.refl _ _).drew)
   have x3:=hB.st.goods hi
   have xa:=hB.go.cA hi hlt
   obtain ⟨x,hx⟩:∃ x,x=W.ask i k:=⟨_,rfl⟩
   rw [<- hx] at xa
   have TS:(fun w':World=>w'.cell? ⟨EB,i*4+3,none⟩=some (.slice (some ⟨D i,0,none⟩) m m)/\w'.cell? ⟨D i,k*6,none⟩=some (.int .i64 x)) wr.drew:=⟨x3,xa⟩
   have ARH:=hid AR.out
   have HX:=hid hx
   clear hB hvk xa x3 AR hx
   go_upto_region 5 with fail
   refine AnyBut.begin (fun w':World=>w'.cell? ⟨EB,i*4+3,none⟩=some (.slice (some ⟨D i,0,none⟩) m m)/\w'.cell? ⟨D i,k*6,none⟩=some (.int .i64 x)) 20 mixed ?_
   refine AnyBut.take 0 (.slice (some ⟨w.heap.size,0,none⟩) m m) rfl (by kernel_rfl) (by kernel_rfl) (by kernel_rfl) (by kernel_rfl) (fun _ _ _ h=>h) TS (by rfl) (fun w' hS=>?_) ?_
   ·(obtain ⟨q1,q2⟩:=hS;go_simp)
   (try simp only [Act.put,List.setIfInBounds_toArray,List.set_cons_zero,List.set_cons_succ])
   refine AnyBut.take 1 (.int .i64 (k:Int)) rfl (by kernel_rfl) (by kernel_rfl) (by kernel_rfl) (by kernel_rfl) (fun _ _ _ h=>h) TS (by rfl) (fun w' hS=>?_) ?_
   ·(obtain ⟨q1,q2⟩:=hS;go_simp)
   (try simp only [Act.put,List.setIfInBounds_toArray,List.set_cons_zero,List.set_cons_succ])
   refine AnyBut.take 2 (.pointer (some ⟨EB,i*4,none⟩)) rfl (by kernel_rfl) (by kernel_rfl) (by kernel_rfl) (by kernel_rfl) (fun _ _ _ h=>h) TS (by rfl) (fun w' hS=>?_) ?_
   ·(obtain ⟨q1,q2⟩:=hS;go_simp)
   (try simp only [Act.put,List.setIfInBounds_toArray,List.set_cons_zero,List.set_cons_succ])
   refine AnyBut.take 3 (.pointer (some ⟨EB,i*4,none⟩)) rfl (by kernel_rfl) (by kernel_rfl) (by kernel_rfl) (by kernel_rfl) (fun _ _ _ h=>h) TS (by rfl) (fun w' hS=>?_) ?_
   ·(obtain ⟨q1,q2⟩:=hS;go_simp)
   (try simp only [Act.put,List.setIfInBounds_toArray,List.set_cons_zero,List.set_cons_succ])
   refine AnyBut.take 4 (.pointer (some ⟨EB,i*4+3,none⟩)) rfl (by kernel_rfl) (by kernel_rfl) (by kernel_rfl) (by kernel_rfl) (fun _ _ _ h=>h) TS (by rfl) (fun w' hS=>?_) ?_
   ·(obtain ⟨q1,q2⟩:=hS;go_simp)
   (try simp only [Act.put,List.setIfInBounds_toArray,List.set_cons_zero,List.set_cons_succ])
   refine AnyBut.take 5 (.slice (some ⟨D i,0,none⟩) m m) rfl (by kernel_rfl) (by kernel_rfl) (by kernel_rfl) (by kernel_rfl) (fun _ _ _ h=>h) TS (by rfl) (fun w' hS=>?_) ?_
   ·(obtain ⟨q1,q2⟩:=hS;go_simp)
   (try simp only [Act.put,List.setIfInBounds_toArray,List.set_cons_zero,List.set_cons_succ])
   refine AnyBut.take 6 (.int .i64 (k:Int)) rfl (by kernel_rfl) (by kernel_rfl) (by kernel_rfl) (by kernel_rfl) (fun _ _ _ h=>h) TS (by rfl) (fun w' hS=>?_) ?_
   ·(obtain ⟨q1,q2⟩:=hS;go_simp)
   (try simp only [Act.put,List.setIfInBounds_toArray,List.set_cons_zero,List.set_cons_succ])
   refine AnyBut.take 7 (.pointer (some ⟨D i,k*6,none⟩)) rfl (by kernel_rfl) (by kernel_rfl) (by kernel_rfl) (by kernel_rfl) (fun _ _ _ h=>h) TS (by rfl) (fun w' hS=>?_) ?_
   ·(obtain ⟨q1,q2⟩:=hS;go_simp)
   (try simp only [Act.put,List.setIfInBounds_toArray,List.set_cons_zero,List.set_cons_succ])
   refine AnyBut.take 8 (.pointer (some ⟨D i,k*6,none⟩)) rfl (by kernel_rfl) (by kernel_rfl) (by kernel_rfl) (by kernel_rfl) (fun _ _ _ h=>h) TS (by rfl) (fun w' hS=>?_) ?_
   ·(obtain ⟨q1,q2⟩:=hS;go_simp)
   (try simp only [Act.put,List.setIfInBounds_toArray,List.set_cons_zero,List.set_cons_succ])
   refine AnyBut.take 9 (.int .i64 x) rfl (by kernel_rfl) (by kernel_rfl) (by kernel_rfl) (by kernel_rfl) (fun _ _ _ h=>h) TS (by rfl) (fun w' hS=>?_) ?_
   ·(obtain ⟨q1,q2⟩:=hS;go_simp)
   (try simp only [Act.put,List.setIfInBounds_toArray,List.set_cons_zero,List.set_cons_succ])
   refine AnyBut.take 10 (.pointer (some ⟨EB,i*4,none⟩)) rfl (by kernel_rfl) (by kernel_rfl) (by kernel_rfl) (by kernel_rfl) (fun _ _ _ h=>h) TS (by rfl) (fun w' hS=>?_) ?_
   ·(obtain ⟨q1,q2⟩:=hS;go_simp)
   (try simp only [Act.put,List.setIfInBounds_toArray,List.set_cons_zero,List.set_cons_succ])
   refine AnyBut.take 11 (.pointer (some ⟨EB,i*4,none⟩)) rfl (by kernel_rfl) (by kernel_rfl) (by kernel_rfl) (by kernel_rfl) (fun _ _ _ h=>h) TS (by rfl) (fun w' hS=>?_) ?_
   ·(obtain ⟨q1,q2⟩:=hS;go_simp)
   (try simp only [Act.put,List.setIfInBounds_toArray,List.set_cons_zero,List.set_cons_succ])
   refine AnyBut.take 12 (.pointer (some ⟨EB,i*4+3,none⟩)) rfl (by kernel_rfl) (by kernel_rfl) (by kernel_rfl) (by kernel_rfl) (fun _ _ _ h=>h) TS (by rfl) (fun w' hS=>?_) ?_
   ·(obtain ⟨q1,q2⟩:=hS;go_simp)
   (try simp only [Act.put,List.setIfInBounds_toArray,List.set_cons_zero,List.set_cons_succ])
   refine AnyBut.take 13 (.slice (some ⟨D i,0,none⟩) m m) rfl (by kernel_rfl) (by kernel_rfl) (by kernel_rfl) (by kernel_rfl) (fun _ _ _ h=>h) TS (by rfl) (fun w' hS=>?_) ?_
   ·(obtain ⟨q1,q2⟩:=hS;go_simp)
   (try simp only [Act.put,List.setIfInBounds_toArray,List.set_cons_zero,List.set_cons_succ])
   refine AnyBut.take 14 (.int .i64 (k:Int)) rfl (by kernel_rfl) (by kernel_rfl) (by kernel_rfl) (by kernel_rfl) (fun _ _ _ h=>h) TS (by rfl) (fun w' hS=>?_) ?_
   ·(obtain ⟨q1,q2⟩:=hS;go_simp)
   (try simp only [Act.put,List.setIfInBounds_toArray,List.set_cons_zero,List.set_cons_succ])
   refine AnyBut.take 15 (.pointer (some ⟨D i,k*6,none⟩)) rfl (by kernel_rfl) (by kernel_rfl) (by kernel_rfl) (by kernel_rfl) (fun _ _ _ h=>h) TS (by rfl) (fun w' hS=>?_) ?_
   ·(obtain ⟨q1,q2⟩:=hS;go_simp)
   (try simp only [Act.put,List.setIfInBounds_toArray,List.set_cons_zero,List.set_cons_succ])
   refine AnyBut.take 16 (.pointer (some ⟨D i,k*6+2,none⟩)) rfl (by kernel_rfl) (by kernel_rfl) (by kernel_rfl) (by kernel_rfl) (fun _ _ _ h=>h) TS (by rfl) (fun w' hS=>?_) ?_
   ·(obtain ⟨q1,q2⟩:=hS;go_simp)
   (try simp only [Act.put,List.setIfInBounds_toArray,List.set_cons_zero,List.set_cons_succ])
   refine AnyBut.one 17 (by kernel_rfl) rfl (by rfl) (fun K hK=>?_)
   go_simp
   refine KN.mono ?_
   rintro e w3 ⟨rfl,b3⟩
   have B3:=hid (show Below wr.heap.size wr w3 from ((Below.refl _ _).drew:Below wr.heap.size wr wr.drew).trans b3)
   have T3:(fun w':World=>w'.cell? ⟨EB,i*4+3,none⟩=some (.slice (some ⟨D i,0,none⟩) m m)/\w'.cell? ⟨D i,k*6,none⟩=some (.int .i64 x)) w3:=⟨(b3.cell (p:=⟨EB,i*4+3,none⟩) (World.block_lt_of_cell? (w:=wr.drew) (h:=TS.1))).trans TS.1,(b3.cell (p:=⟨D i,k*6,none⟩) (World.block_lt_of_cell? (w:=wr.drew) (h:=TS.2))).trans TS.2⟩
   refine hK.out _ _ (fun _=>T3) ?_
   clear hK K KN b3
   (try simp only [Act.put,List.setIfInBounds_toArray,List.set_cons_zero,List.set_cons_succ])
   refine AnyBut.one 18 (by kernel_rfl) rfl (by rfl) (fun K hK=>?_)
   go_simp
   refine hK.out _ _ (fun _=>T3) ?_
   clear hK K
   (try simp only [Act.put,List.setIfInBounds_toArray,List.set_cons_zero,List.set_cons_succ])
   refine AnyBut.one 19 (by kernel_rfl) rfl (by rfl) (fun K hK=>?_)
   go_simp
   refine hK.out _ _ (fun _=>T3) ?_
   clear hK K
   (try simp only [Act.put,List.setIfInBounds_toArray,List.set_cons_zero,List.set_cons_succ])
   have R3:=ARH.out.2.of_block (B3.out.block _ ARH.out.2.lt)
   have y0:=R3.cell (i:=k*6) (by omega)
   have y1:=R3.cell (i:=k*6+1) (by omega)
   have y2:=R3.cell (i:=k*6+2) (by omega)
   have y3:=R3.cell (i:=k*6+3) (by omega)
   have y4:=R3.cell (i:=k*6+4) (by omega)
   have y5:=R3.cell (i:=k*6+5) (by omega)
   have z0:=R3.frozen (k*6)
   have z1:=R3.frozen (k*6+1)
   have z2:=R3.frozen (k*6+2)
   have z3:=R3.frozen (k*6+3)
   have z4:=R3.frozen (k*6+4)
   have z5:=R3.frozen (k*6+5)
   have R9:=hid R3
   clear R3
   refine AnyBut.one 20 (by kernel_rfl) rfl (by rfl) (fun K hK=>?_)
   go_simp
   refine hK.out _ _ (fun h=>absurd rfl h) ?_
   clear hK K
   refine AnyBut.done (by kernel_rfl) ?_
   have NX:=hid (show Below w.heap.size w ((((((w3.setCell ⟨w.heap.size,k*6,none⟩ (.int .i64 x)).setCell ⟨w.heap.size,k*6+1,none⟩ (.int .i64 0)).setCell ⟨w.heap.size,k*6+2,none⟩ (.int .i64 0)).setCell ⟨w.heap.size,k*6+3,none⟩ (.int .i64 (W.rk i k).free)).setCell ⟨w.heap.size,k*6+4,none⟩ (.int .i64 (W.rk i k).held)).setCell ⟨w.heap.size,k*6+5,none⟩ (.int .i64 (W.rk i k).used))/\((((((w3.setCell ⟨w.heap.size,k*6,none⟩ (.int .i64 x)).setCell ⟨w.heap.size,k*6+1,none⟩ (.int .i64 0)).setCell ⟨w.heap.size,k*6+2,none⟩ (.int .i64 0)).setCell ⟨w.heap.size,k*6+3,none⟩ (.int .i64 (W.rk i k).free)).setCell ⟨w.heap.size,k*6+4,none⟩ (.int .i64 (W.rk i k).held)).setCell ⟨w.heap.size,k*6+5,none⟩ (.int .i64 (W.rk i k).used)).rowIs w.heap.size 52 (m*6) (puF (Plain.puW W i) (k+1)) from
    ⟨((((((ARH.out.1.trans (B3.out.mono ARH.out.1.size)).setCell (Nat.le_refl _) _).setCell (Nat.le_refl _) _).setCell (Nat.le_refl _) _).setCell (Nat.le_refl _) _).setCell (Nat.le_refl _) _).setCell (Nat.le_refl _) _,
     ((((((R9.out.set (k*6) _).set (k*6+1) _).set (k*6+2) _).set (k*6+3) _).set (k*6+4) _).set (k*6+5) _).congr fun j _=>by rw [<- puF_set];exact puX (Plain.puW W i) k j x HX.out⟩)
   generalize ((((((w3.setCell ⟨w.heap.size,k*6,none⟩ (.int .i64 x)).setCell ⟨w.heap.size,k*6+1,none⟩ (.int .i64 0)).setCell ⟨w.heap.size,k*6+2,none⟩ (.int .i64 0)).setCell ⟨w.heap.size,k*6+3,none⟩ (.int .i64 (W.rk i k).free)).setCell ⟨w.heap.size,k*6+4,none⟩ (.int .i64 (W.rk i k).held)).setCell ⟨w.heap.size,k*6+5,none⟩ (.int .i64 (W.rk i k).used))=W9 at NX ⊢
   clear y0 y1 y2 y3 y4 y5 z0 z1 z2 z3 z4 z5 R9 ARH B3 T3 TS HX
   go_wp2
   go_roundg (m-(k+1))
   case measure=>omega
   case rel=>exact ⟨k+1,by omega,by omega,by go_num,(show Aside _ from NX.out)⟩
  ·have hltz:¬ (k:Int)<(m:Int):=by omega
   have ek:k=m:=by omega
   subst ek
   go_wp2
   go_ret
   exact ⟨rfl,AR.out.2,AR.out.1⟩
end Go.Proofs.YtlohgiichckjmaaGreatDoor
namespace Go.Proofs.YtlohgiichckjmaaGreatDoor
set_option maxHeartbeats 16000000
set_option maxRecDepth 100000
open Go.RowKit Go.Shelf Go.Sort
def encK (m:Nat):Enc Nat:=⟨1,fun b=>[.slice (some ⟨b,0,none⟩) m m],fun _=>rfl,fun a u hu=>by simp only [List.mem_singleton] at hu;subst hu;rfl,by decide⟩
theorem infoPs:(Tryz.prog.info? 53).map (fun i=>(i.zero,i.size,i.bytes))=some (some (.slice none 0 0),1,24):=by kernel_rfl
theorem infoEs:(Tryz.prog.info? 56).map (fun i=>(i.zero,i.size,i.bytes))=some (some (.slice none 0 0),1,24):=by kernel_rfl
theorem own_lt2 {B e n k:Nat} {w:World} {v:Value} {l:List Value} (h:w.ownsRow B e n v k l) {b:Nat} (hb:v.ownBlock=some b):b<w.heap.size/\B<=b:=by
 rcases h.2 with ⟨rfl,_⟩|⟨g,cc,cur,rfl,hg,hh,_⟩
 ·simp [Value.ownBlock] at hb
 ·simp only [Value.ownBlock,Option.some.injEq] at hb
  rw [<- hb];exact ⟨(Array.getElem?_eq_some_iff.1 hh).1,hg⟩
theorem snocK {B t e m k:Nat} {w:World} {v:Value} {l:List Nat} (ht:Tryz.prog.underlying t=some (.slice e)) (hinfo:(Tryz.prog.info? e).map (fun i=>(i.zero,i.size,i.bytes))=some (some (.slice none 0 0),1,24)) (h:w.ownsRow B e 1 v k ((encK m).vals l)) (hk:l.length=k) (hl:k<=1000) (hw:B<=w.heap.size) (x:Nat) :
  ∃ p c w',(Builtin.append_ #[t,t] t #[v,.slice (some ⟨w.heap.size,0,none⟩) 1 1]).run Tryz.prog (w.alloc (.cells #[.slice (some ⟨x,0,none⟩) m m] e))=.ok (.slice p (k+1) c) w'/\w'.ownsRow B e 1 (.slice p (k+1) c) (k+1) ((encK m).vals (l++[x]))/\Uw (fun b=>v.ownBlock=some b) w w':=by
 have bA:Below w.heap.size w (w.alloc (.cells #[.slice (some ⟨x,0,none⟩) m m] e)):=(Below.refl _ _).alloc (Nat.le_refl _) _
 have hA:(w.alloc (.cells #[.slice (some ⟨x,0,none⟩) m m] e)).ownsRow B e 1 v k ((encK m).vals l):=Hd.owns_block h fun b hb=>bA.block b (own_lt2 h hb).1
 obtain ⟨i0,hi,hz0,hz1,hz2⟩:=info_parts hinfo
 obtain ⟨v',w',h1,h2,h3,h4⟩:=Enc.appW (E:=encK m) (w:=w.alloc (.cells #[.slice (some ⟨x,0,none⟩) m m] e)) (B:=B) (c:=1) (m:=1) (q:=[x]) ht hi hz0 hz1 hz2 rfl hA ((encK m).one_holds w x e) rfl (fun e=>by cases e) (by omega) (by omega) (by simp;omega)
 obtain ⟨p,c,rfl,_⟩:=(encK m).owns h2 (by rw [List.length_append,hk];rfl)
 exact ⟨p,c,w',h1,h2,⟨h3.os,h3.tape,h3.output,Nat.le_trans bA.size h3.size,fun k hk hn=>(h3.block k (by simp;omega) (fun e=>hn e.symm)).trans (bA.block k hk)⟩⟩
structure EnI (w0 w:World) (m L:Nat) (W:Plain.Wo) (rv pv sv:Value) (rl:List Int) (kp ks:Nat) (P G:Nat->Nat):Prop where
 be:Below w0.heap.size w0 w
 re:NumR w0 w rv rl
 po:w.ownsRow w0.heap.size 53 1 pv kp ((encK m).vals ((List.range kp).map P))
 so:w.ownsRow w0.heap.size 56 1 sv ks ((encK L).vals ((List.range ks).map G))
 pr:∀ i,i<kp->w.rowIs (P i) 52 (m*6) (puF (Plain.puW W i) m)
 gr:∀ i,i<ks->∃ f,RowL w (G i) L (W.st i) f
namespace EnI
variable {w0 w w':World} {m L:Nat} {W:Plain.Wo} {rv pv sv:Value} {rl:List Int} {kp ks:Nat} {P G:Nat->Nat}
theorem grow (h:EnI w0 w m L W rv pv sv rl kp ks P G) (b:Below w.heap.size w w'):EnI w0 w' m L W rv pv sv rl kp ks P G :=
 ⟨h.be.trans (b.mono h.be.size),h.re.keep fun x hx=>b.block x (h.re.lt hx).1,Hd.owns_block h.po fun x hx=>b.block x (own_lt2 h.po hx).1,Hd.owns_block h.so fun x hx=>b.block x (own_lt2 h.so hx).1,
  fun i hi=>(h.pr i hi).of_block (b.block _ (h.pr i hi).lt),fun i hi=>by obtain ⟨f,hf⟩:=h.gr i hi;exact ⟨f,hf.grow b⟩⟩
theorem nil (w0:World) (h:NumR w0 w rv rl) (b:Below w0.heap.size w0 w):EnI w0 w m L W rv (.slice none 0 0) (.slice none 0 0) rl 0 0 P G :=
 ⟨b,h,World.ownsRow_nil _ _ _ _,World.ownsRow_nil _ _ _ _,fun i hi=>by omega,fun i hi=>by omega⟩
theorem below (h:EnI w0 w m L W rv pv sv rl kp ks P G) {v:Value} (hv:∀ b,v.ownBlock=some b->w0.heap.size<=b) (u:Uw (fun b=>v.ownBlock=some b) w w'):Below w0.heap.size w0 w' :=
 h.be.trans (u.below h.be.size fun b hb e=>by have:=hv b e;omega)
theorem tne {a b:Nat} {s t:TypeId} (hs:tag w a=some s) (ht:tag w b=some t) (hne:s≠t):a≠b:=fun e=>by
 subst e
 rw [hs] at ht
 exact hne (Option.some.inj ht)
theorem noE {v:Value} {t:TypeId} (ht:∀ b,v.ownBlock=some b->tag w b=some t) (hne:t≠72):NoE w (fun b=>v.ownBlock=some b):=fun b hb cs e=>by
 have:=ht b hb
 unfold tag at this
 rw [e] at this
 exact hne (Option.some.inj this).symm
theorem snocP (h:EnI w0 w m L W rv pv sv rl kp ks P G) (hk:kp<=1000) {b:Nat} (hb:w.rowIs b 52 (m*6) (puF (Plain.puW W kp) m)) :
  ∃ p c w',(Builtin.append_ #[46,46] 46 #[pv,.slice (some ⟨w.heap.size,0,none⟩) 1 1]).run Tryz.prog (w.alloc (.cells #[.slice (some ⟨b,0,none⟩) m m] 53))=.ok (.slice p (kp+1) c) w'/\EnI w0 w' m L W rv (.slice p (kp+1) c) sv rl (kp+1) ks (fun i=>if i=kp then b else P i) G:=by
 obtain ⟨p,c,w',h1,h2,u⟩:=snocK Tryz.underlying46 infoPs h.po (by rw [List.length_map,List.length_range]) hk h.be.size b
 have tg:∀ x,pv.ownBlock=some x->tag w x=some 53:=fun x hx=>tag_owns h.po hx
 have kt:∀ x t,x<w.heap.size->tag w x=some t->t≠53->w'.heap[x]?=w.heap[x]?:=fun x t hx ht hne=>u.block x hx fun e=>tne ht (tg x e) hne rfl
 have hm:(List.range (kp+1)).map (fun i=>if i=kp then b else P i)=(List.range kp).map P++[b]:=by
  rw [List.range_succ,List.map_append,List.map_singleton,if_pos rfl]
  refine congrArg (·++[b]) ?_
  exact List.map_congr_left fun i hi=>by rw [if_neg (by have:=List.mem_range.1 hi;omega)]
 refine ⟨p,c,w',h1,h.below (fun x hx=>(own_lt2 h.po hx).2) u,h.re.keep fun x hx=>kt x _ (h.re.lt hx).1 (h.re.tag hx) (by decide),by rw [hm];exact h2,Hd.owns_block h.so fun x hx=>kt x _ (own_lt2 h.so hx).1 (tag_owns h.so hx) (by decide),fun i hi=>?_,fun i hi=>?_⟩
 ·by_cases e:i=kp
  ·subst e
   rw [if_pos rfl]
   exact hb.of_block (kt _ _ hb.lt (tag_row hb) (by decide))
  ·rw [if_neg e]
   have hr:=h.pr i (by omega)
   exact hr.of_block (kt _ _ hr.lt (tag_row hr) (by decide))
 ·obtain ⟨f,hf⟩:=h.gr i hi
  exact ⟨f,hf.uw u (noE tg (by decide)) fun e=>tne (tag_row hf.row) (tg _ e) (by decide) rfl⟩
theorem snocS (h:EnI w0 w m L W rv pv sv rl kp ks P G) (hk:ks<=1000) {b:Nat} {f:Nat->Value} (hb:RowL w b L (W.st ks) f) :
  ∃ p c w',(Builtin.append_ #[47,47] 47 #[sv,.slice (some ⟨w.heap.size,0,none⟩) 1 1]).run Tryz.prog (w.alloc (.cells #[.slice (some ⟨b,0,none⟩) L L] 56))=.ok (.slice p (ks+1) c) w'/\EnI w0 w' m L W rv pv (.slice p (ks+1) c) rl kp (ks+1) P (fun i=>if i=ks then b else G i):=by
 obtain ⟨p,c,w',h1,h2,u⟩:=snocK Tryz.underlying47 infoEs h.so (by rw [List.length_map,List.length_range]) hk h.be.size b
 have tg:∀ x,sv.ownBlock=some x->tag w x=some 56:=fun x hx=>tag_owns h.so hx
 have kt:∀ x t,x<w.heap.size->tag w x=some t->t≠56->w'.heap[x]?=w.heap[x]?:=fun x t hx ht hne=>u.block x hx fun e=>tne ht (tg x e) hne rfl
 have hm:(List.range (ks+1)).map (fun i=>if i=ks then b else G i)=(List.range ks).map G++[b]:=by
  rw [List.range_succ,List.map_append,List.map_singleton,if_pos rfl]
  refine congrArg (·++[b]) ?_
  exact List.map_congr_left fun i hi=>by rw [if_neg (by have:=List.mem_range.1 hi;omega)]
 refine ⟨p,c,w',h1,h.below (fun x hx=>(own_lt2 h.so hx).2) u,h.re.keep fun x hx=>kt x _ (h.re.lt hx).1 (h.re.tag hx) (by decide),Hd.owns_block h.po fun x hx=>kt x _ (own_lt2 h.po hx).1 (tag_owns h.po hx) (by decide),by rw [hm];exact h2,fun i hi=>?_,fun i hi=>?_⟩
 ·have hr:=h.pr i hi
  exact hr.of_block (kt _ _ hr.lt (tag_row hr) (by decide))
 ·have hx:∀ {g:Nat} {s:Nat->List Plain.En} {f':Nat->Value},RowL w g L s f'->RowL w' g L s f':=fun hf=>hf.uw u (noE tg (by decide)) fun e=>tne (tag_row hf.row) (tg _ e) (by decide) rfl
  by_cases e:i=ks
  ·subst e
   rw [if_pos rfl]
   exact ⟨f,hx hb⟩
  ·rw [if_neg e]
   obtain ⟨f',hf⟩:=h.gr i (by omega)
   exact ⟨f',hx hf⟩
end EnI
end Go.Proofs.YtlohgiichckjmaaGreatDoor
namespace Go.Proofs.YtlohgiichckjmaaGreatDoor
set_option maxHeartbeats 16000000
set_option maxRecDepth 100000
open Go.RowKit Go.Shelf Go.Sort
theorem results_four {fn:Func} {t u v x:Tmp} (h:fn.results=#[.tmp t,.tmp u,.tmp v,.tmp x]) (tmps:Array Value) (P:Program) (w:World):(results fn tmps).run P w=.ok (.tuple #[tmps.getD t undef,tmps.getD u undef,tmps.getD v undef,tmps.getD x undef]) w:=by simp [results,h]
theorem reserve_c (R oo:Nat) (x:Int) (w:World) (h:w.cell? ⟨R,oo+2,none⟩=some (.int .i64 x)):Calls Tryz.prog 24 #[.pointer (some ⟨R,oo,none⟩)] w fun e w'=>e=.returned (.int .i64 x)/\w'=w:=by
 go_enter Tryz.func24,Tryz.ntmps24
 go_wp2
 go_ret
 exact ⟨rfl,rfl⟩
def EndY (c:Plain.Cf) (n m:Nat) (l:List Plain.Sp) (w:World) (e:Ending) (w':World):Prop :=
 ∃ rp rc pp pc sp sc w0 P G,e=.returned (.tuple #[.slice rp m rc,.slice pp n pc,.slice sp n sc,.int .i64 0])/\Below w.heap.size w w'/\EnI w0 w' m c.ls.length (Plain.runW c (Plain.Wo.start c) l) (.slice rp m rc) (.slice pp n pc) (.slice sp n sc) (Bo.Plain.mapN m fun k=>((Plain.runW c (Plain.Wo.start c) l).bk k).reserve) n n P G
theorem end_yes (c:Plain.Cf) (lp mp:Option Addr) (lc mc n m:Nat) (p:Option Addr) (N cap:Nat) (l:List Plain.Sp) (hN:l.length=N) (h300:N<=300) (hc:Plain.mayC c=true) (hn:c.n=n) (hm:c.ms.length=m) (hL0:2<=n->0<c.ls.length) (hwf:∀ s,s∈l->(Lit.int .i64 s.id).wf=true)
  (w:World) (hI:CfI w c (.slice lp c.ls.length lc) (.slice mp c.ms.length mc)) (htb:∀ k,2<=k->k<=6->w.cell? ⟨0,k,none⟩=some (.int .i64 (k:Nat))) (hp:encSp.Holds w p l) :
  Calls Tryz.prog 19 #[cfV c (.slice lp c.ls.length lc) (.slice mp c.ms.length mc),.slice p N cap] w (EndY c n m l w):=by
 have hb0:0<w.heap.size:=World.block_lt_of_cell? (w:=w) (h:=htb 2 (by omega) (by omega))
 obtain ⟨WA,hWA⟩:∃ WA,WA=w.alloc (boxC c (.slice lp c.ls.length lc) (.slice mp c.ms.length mc)):=⟨_,rfl⟩
 have BA:=hid (show Below w.heap.size w WA by rw [hWA];exact (Below.refl _ _).alloc (Nat.le_refl _) _)
 have K:=run_yes c lp mp lc mc n m p N cap l hN h300 hc hn hm hL0 hwf WA (hI.grow BA.out) (fun k h2 h6=>(BA.out.cell (p:=⟨0,k,none⟩) hb0).trans (htb k h2 h6)) (hp.grow BA.out)
 have HOK:=hid (show Plain.Wok c n m N (Plain.runW c (Plain.Wo.start c) l) by have:=Plain.wok_run hc hn hm l (by omega) l.length (Nat.le_refl _);rw [List.take_length,hN] at this;exact this)
 have hm3:m<=3:=by have:=(Plain.may_all hc).2.2.2.2.1;omega
 have hn8:n<=8:=by have:=(Plain.may_all hc).1;omega
 have hL4:c.ls.length<=4:=(Plain.may_all hc).2.1
 rw [hWA] at K
 clear hI htb hp hc hn hm hL0 hwf hb0
 go_enter Tryz.func19,Tryz.ntmps19
 go_wp2_with fail
 refine K.mono ?_
 rintro e w2 ⟨B,M,T,S,TB,sv,fv,rv,rfl,hB,wi,tls,be⟩
 rw [<- hWA] at be
 have B2:=hid (show Below w.heap.size w w2 from BA.out.trans (be.mono BA.out.size))
 have HWI:=hid wi
 obtain ⟨R,hR⟩:∃ R,R=M.R:=⟨_,rfl⟩
 have c8:w2.cell? ⟨M.R,8,none⟩=some (.slice (some ⟨M.BB,0,none⟩) m M.cb):=wi.cell (j:=8) (by omega)
 rw [<- hR] at c8 ⊢
 have HR:=hid hR
 generalize hW:Plain.runW c (Plain.Wo.start c) l=W at HWI HOK
 have HE:=hid hW
 have N0:=hid (NumR.nil w2 w2)
 clear K hB wi tls be hWA BA hR hW
 go_wp2
 clear c8
 go_loopg [4,11,28] m (fun gg s4 _ s28 wx=>∃ (k:Nat) (p:Option Addr) (c:Nat),k<=m/\m-k<=gg/\s28=.int .i64 k/\s4=.slice p k c/\Aside (Below w2.heap.size w2 wx/\NumR w2 wx (.slice p k c) (Bo.Plain.mapN k fun k=>(W.bk k).reserve)))
 case atStart=>exact ⟨0,none,0,Nat.zero_le _,by omega,rfl,rfl,(show Aside _ from ⟨Below.refl _ _,N0.out⟩)⟩
 case round =>
  obtain ⟨k,p4,c4,hk,hg,rfl,rfl,A⟩:=hrel
  by_cases hlt:k<m
  ·have hltz:(k:Int)<(m:Int):=by omega
   have hkn:¬ (k:Int)<0:=by omega
   have wi:=HWI.out.grow A.out.1
   have c8:wr.cell? ⟨M.R,8,none⟩=some (.slice (some ⟨M.BB,0,none⟩) m M.cb):=wi.cell (j:=8) (by omega)
   rw [<- HR.out] at c8
   have KR:=reserve_c M.BB (k*8) (W.bk k).reserve wr (wi.bk.bk k hlt).c2
   obtain ⟨v5,w5,hrun,nr,uw,_,p5,c5,rfl⟩:=A.out.2.snoc (by rw [Bo.Plain.mapN_len];omega) A.out.1.size (W.bk k).reserve
   rw [Bo.Plain.mapN_len] at hrun nr
   rw [<- Bo.Plain.mapN_succ k fun k=>(W.bk k).reserve] at nr
   have RUN:=hid hrun
   have NX:=hid (show Below w2.heap.size w2 w5/\NumR w2 w5 (.slice p5 (k+1) c5) (Bo.Plain.mapN (k+1) fun k=>(W.bk k).reserve) from ⟨A.out.1.trans (uw.below A.out.1.size fun b hb e=>by have:=(A.out.2.lt e).2;omega),nr⟩)
   generalize (W.bk k).reserve=x at KR RUN
   clear wi hrun nr uw A N0
   go_wp2_with fail
   refine KR.mono ?_
   rintro e w6 ⟨rfl,hw6⟩
   subst hw6
   go_wp2_with (first|(at_builtin;refine wpList_app _ _ 22 RUN.out (by rfl) (by rfl) (by rfl) (by rfl) (by rfl) ?_)|fail)
   go_roundg (m-(k+1))
   case measure=>omega
   case rel=>exact ⟨k+1,p5,c5,by omega,by omega,by go_num,rfl,(show Aside _ from NX.out)⟩
  ·have hltz:¬ (k:Int)<(m:Int):=by omega
   have ek:m=k:=by omega
   subst ek
   have c7:wr.cell? ⟨M.R,7,none⟩=some (.slice (some ⟨M.EB,0,none⟩) n M.ce):=(HWI.out.grow A.out.1).cell (j:=7) (by omega)
   rw [<- HR.out] at c7
   have E0:=hid (show EnI w2 wr m c.ls.length W (.slice p4 m c4) (.slice none 0 0) (.slice none 0 0) (Bo.Plain.mapN m fun k=>(W.bk k).reserve) 0 0 (fun _=>0) (fun _=>0) from EnI.nil w2 A.out.2 A.out.1)
   clear A N0
   go_wp2
   clear c7
   go_loopg [5,6,12,47] n (fun gg s5 s6 _ s47 wx=>∃ (j:Nat) (p5:Option Addr) (c5:Nat) (p6:Option Addr) (c6:Nat),j<=n/\n-j<=gg/\s47=.int .i64 j/\s5=.slice p5 j c5/\s6=.slice p6 j c6/\Aside (∃ P G,EnI w2 wx m c.ls.length W (.slice p4 m c4) (.slice p5 j c5) (.slice p6 j c6) (Bo.Plain.mapN m fun k=>(W.bk k).reserve) j j P G))
   case atStart=>exact ⟨0,none,0,none,0,Nat.zero_le _,by omega,rfl,rfl,rfl,(show Aside _ from ⟨_,_,E0.out⟩)⟩
   case round =>
    obtain ⟨j,p5,c5,p6,c6,hj,hgj,rfl,rfl,rfl,A2⟩:=hrel
    clear E0
    obtain ⟨P,G,en⟩:=A2.out
    have EN:=hid en
    clear A2 en
    by_cases hlj:j<n
    ·have hljz:(j:Int)<(n:Int):=by omega
     have hjn:¬ (j:Int)<0:=by omega
     have wi:=HWI.out.grow EN.out.be
     have c7:wr.cell? ⟨M.R,7,none⟩=some (.slice (some ⟨M.EB,0,none⟩) n M.ce):=wi.cell (j:=7) (by omega)
     rw [<- HR.out] at c7
     have KP:=purses_c M.EB M.NC M.F M.H M.D M.vo M.lp M.lc n m c.ls W j hlj hm3 (fun k=>(HOK.out.rk j k).1) wr wi.br
     clear wi
     go_wp2_with fail
     refine KP.mono ?_
     rintro e w3 ⟨rfl,hrow,b3⟩
     obtain ⟨p7,c7',w4,hrun,en4⟩:=(EN.out.grow b3).snocP (by omega) hrow
     have RUN:=hid hrun
     have EN4:=hid en4
     clear KP hrow b3 hrun en4 EN c7
     go_upto_region 13 with (first|(at_builtin;refine wpList_app _ _ 46 RUN.out (by rfl) (by rfl) (by rfl) (by rfl) (by rfl) ?_)|fail)
     clear RUN
     have wi4:=HWI.out.grow EN4.out.be
     have d7:w4.cell? ⟨M.R,7,none⟩=some (.slice (some ⟨M.EB,0,none⟩) n M.ce):=wi4.cell (j:=7) (by omega)
     rw [<- HR.out] at d7
     have KE:=entries_c M.EB (j*4) _ (M.H j) j M.lp M.lc c.ls (W.st j) _ hL4 (HOK.out.st j) w4 (wi4.br.st.sto hlj)
     clear wi4
     go_wp2_with fail
     refine KE.mono ?_
     rintro e w5 ⟨GB,rfl,⟨f,hf⟩,_,b5⟩
     obtain ⟨p8,c8,w6,hrun,en6⟩:=(EN4.out.grow b5).snocS (by omega) hf
     have RUN:=hid hrun
     have EN6:=hid en6
     clear KE hf b5 hrun en6 EN4 d7
     go_wp2_with (first|(at_builtin;refine wpList_app _ _ 47 RUN.out (by rfl) (by rfl) (by rfl) (by rfl) (by rfl) ?_)|fail)
     go_roundg (n-(j+1))
     case measure=>omega
     case rel=>exact ⟨j+1,p7,c7',p8,c8,by omega,by omega,by go_num,rfl,rfl,(show Aside _ from ⟨_,_,EN6.out⟩)⟩
    ·have hljz:¬ (j:Int)<(n:Int):=by omega
     have ej:n=j:=by omega
     subst ej
     go_wp2
     (try simp only [Exit.inBlock,Exit.then])
     refine bodyPost_ret (results_four rfl _ _ _) rfl ?_
     have en:=EN.out
     rw [<- HE.out] at en
     exact ⟨p4,c4,p5,c5,p6,c6,w2,P,G,rfl,B2.out.trans (EN.out.be.mono B2.out.size),en⟩
end Go.Proofs.YtlohgiichckjmaaGreatDoor
namespace Go.Proofs.YtlohgiichckjmaaGreatDoor
set_option maxHeartbeats 16000000
set_option maxRecDepth 100000
open Go.RowKit Go.Shelf Go.Sort
theorem EnI.purse {w0 w:World} {n m L:Nat} {W:Plain.Wo} {rv sv:Value} {rl:List Int} {ks:Nat} {P G:Nat->Nat} {pp:Option Addr} {pc:Nat} (h:EnI w0 w m L W rv (.slice pp n pc) sv rl n ks P G) (hn:0<n) :
  ∃ b off,pp=some ⟨b,off,none⟩/\∀ i,i<n->w.cell? ⟨b,off+i,none⟩=some (.slice (some ⟨P i,0,none⟩) m m):=by
 have hl:((List.range n).map P).length=n:=by rw [List.length_map,List.length_range]
 obtain ⟨p,c,e,hh,_⟩:=(encK m).owns h.po hl
 injection e with e1 _ _
 obtain ⟨b,off,rfl,_,hc⟩:=hh.at 0 (by omega)
 refine ⟨b,off,e1,fun i hi=>?_⟩
 have:=hc i 0 (.slice (some ⟨P i,0,none⟩) m m) (by omega) (by show 0<1;omega) (by
  rw [List.getD_eq_getElem?_getD,List.getElem?_map,List.getElem?_range hi];rfl)
 rwa [show off+(i*(encK m).n+0)=off+i by show off+(i*1+0)=off+i;omega] at this
theorem EnI.pcells {w0 w:World} {m L:Nat} {W:Plain.Wo} {rv pv sv:Value} {rl:List Int} {kp ks:Nat} {P G:Nat->Nat} (h:EnI w0 w m L W rv pv sv rl kp ks P G) {i k:Nat} (hi:i<kp) (hk:k<m) :
  w.cell? ⟨P i,k*6,none⟩=some (.int .i64 (W.ask i k))/\w.cell? ⟨P i,k*6+1,none⟩=some (.int .i64 0)/\w.cell? ⟨P i,k*6+2,none⟩=some (.int .i64 0)/\w.cell? ⟨P i,k*6+3,none⟩=some (.int .i64 (W.rk i k).free)/\w.cell? ⟨P i,k*6+4,none⟩=some (.int .i64 (W.rk i k).held)/\w.cell? ⟨P i,k*6+5,none⟩=some (.int .i64 (W.rk i k).used):=by
 have f:∀ r,r<6->w.cell? ⟨P i,k*6+r,none⟩=some (puC (Plain.puW W i k) r):=fun r hr=>by
  rw [(h.pr i hi).cell (i:=k*6+r) (by omega)]
  unfold puF
  rw [if_pos (by omega),show (k*6+r)/6=k by omega,show (k*6+r)%6=r by omega]
 exact ⟨f 0 (by omega),f 1 (by omega),f 2 (by omega),f 3 (by omega),f 4 (by omega),f 5 (by omega)⟩
end Go.Proofs.YtlohgiichckjmaaGreatDoor
namespace Go.Proofs.YtlohgiichckjmaaGreatDoor
set_option maxHeartbeats 16000000
set_option maxRecDepth 100000
open Go.RowKit Go.Shelf Go.Sort
theorem EnI.stores {w0 w:World} {n m L:Nat} {W:Plain.Wo} {rv pv:Value} {rl:List Int} {kp:Nat} {P G:Nat->Nat} {sp:Option Addr} {sc:Nat} (h:EnI w0 w m L W rv pv (.slice sp n sc) rl kp n P G) (hn:0<n) :
  ∃ b off,sp=some ⟨b,off,none⟩/\∀ i,i<n->w.cell? ⟨b,off+i,none⟩=some (.slice (some ⟨G i,0,none⟩) L L):=by
 have hl:((List.range n).map G).length=n:=by rw [List.length_map,List.length_range]
 obtain ⟨p,c,e,hh,_⟩:=(encK L).owns h.so hl
 injection e with e1 _ _
 obtain ⟨b,off,rfl,_,hc⟩:=hh.at 0 (by omega)
 refine ⟨b,off,e1,fun i hi=>?_⟩
 have:=hc i 0 (.slice (some ⟨G i,0,none⟩) L L) (by omega) (by show 0<1;omega) (by
  rw [List.getD_eq_getElem?_getD,List.getElem?_map,List.getElem?_range hi];rfl)
 rwa [show off+(i*(encK L).n+0)=off+i by show off+(i*1+0)=off+i;omega] at this
theorem frames_c (p:Option Addr) (N cap:Nat) (l:List Plain.Sp) (hN:l.length=N) (h300:N<=1000) (w:World) (hp:encSp.Holds w p l) :
  Calls Tryz.prog 13 #[.slice p N cap] w fun e w'=>e=.returned (.int .i64 ((20*Plain.ticksN l:Nat):Int))/\w'=w:=by
 have HP:=hid hp
 have HN:=hid hN
 clear hp hN
 go_enter Tryz.func13,Tryz.ntmps13
 go_wp2
 go_loopg [3,4] N (fun gg s3 s4 wx=>∃ k:Nat,k<=N/\N-k<=gg/\s4=.int .i64 k/\s3=.int .i64 ((20*Plain.ticksN (l.take k):Nat):Int)/\wx=w)
 case atStart=>exact ⟨0,Nat.zero_le _,by omega,rfl,rfl,rfl⟩
 case round =>
  obtain ⟨k,hk,hg,rfl,rfl,hw⟩:=hrel
  have hy:=hw.symm
  clear hw
  subst hy
  by_cases hlt:k<N
  ·have hltz:(k:Int)<(N:Int):=by omega
   have hkn:¬ (k:Int)<0:=by omega
   have hkL:k<l.length:=by have:=HN.out;omega
   obtain ⟨bs,os,eS,lS,gS⟩:=holdsSp HP.out (by omega)
   obtain ⟨c0,_,_,_,_,_,_,_⟩:=gS k hkL
   subst eS
   have hTk:Plain.ticksN (l.take k)<=1000:=by have:=Plain.ticksN_le (l.take k);rw [List.length_take] at this;omega
   have hTn:=hid (Plain.ticksN_take l k (l.getD k default) (by rw [List.getD_eq_getElem?_getD,List.getElem?_eq_getElem hkL];rfl))
   generalize (l.getD k default).kind=kd at c0 hTn
   generalize Plain.ticksN (l.take k)=T at hTk hTn ⊢
   clear gS lS
   by_cases h9:kd=9
   ·subst h9
    go_wp2
    go_roundg (N-(k+1))
    case measure=>omega
    case rel=>exact ⟨k+1,by omega,by omega,by go_num,by have e:=hTn.out;rw [if_pos trivial] at e;rw [e];go_num,rfl⟩
   ·have h9b:(kd==9)=false:=by simp [h9]
    go_wp2
    go_roundg (N-(k+1))
    case measure=>omega
    case rel=>exact ⟨k+1,by omega,by omega,by go_num,by rw [hTn.out,if_neg h9];rfl,rfl⟩
  ·have hltz:¬ (k:Int)<(N:Int):=by omega
   have ek:l.take k=l:=List.take_of_length_le (by have:=HN.out;omega)
   rw [ek]
   go_wp2
   go_ret
   exact ⟨rfl,rfl⟩
def EndedY (c:Plain.Cf) (l:List Plain.Sp) (w:World) (e:Ending) (w':World):Prop :=
 ∃ rp rc pp pc sp sc w0 P G,e=.returned (.tuple #[.slice rp 2 rc,.slice pp 4 pc,.slice sp 4 sc,.bool true])/\Below w.heap.size w w'/\EnI w0 w' 2 3 (Plain.runW c (Plain.Wo.start c) l) (.slice rp 2 rc) (.slice pp 4 pc) (.slice sp 4 sc) (Bo.Plain.mapN 2 fun k=>((Plain.runW c (Plain.Wo.start c) l).bk k).reserve) 4 4 P G
theorem ended_c (c:Plain.Cf) (lp mp:Option Addr) (lc mc:Nat) (p:Option Addr) (N cap:Nat) (l:List Plain.Sp) (hN:l.length=N) (h300:N<=300) (hc:Plain.mayC c=true) (hn:c.n=4) (hL:c.ls.length=3) (hm:c.ms.length=2) (hwf:∀ s,s∈l->(Lit.int .i64 s.id).wf=true) (hp0:p=none->cap=0)
  (w:World) (hI:CfI w c (.slice lp c.ls.length lc) (.slice mp c.ms.length mc)) (htb:∀ k,2<=k->k<=6->w.cell? ⟨0,k,none⟩=some (.int .i64 (k:Nat))) (hp:encSp.Holds w p l) :
  Calls Tryz.prog 14 #[cfV c (.slice lp c.ls.length lc) (.slice mp c.ms.length mc),.slice p N cap] w (EndedY c l w):=by
 have hb0:0<w.heap.size:=World.block_lt_of_cell? (w:=w) (h:=htb 2 (by omega) (by omega))
 have HTB:=hid (fun X (bx:Below w.heap.size w X) k (h2:2<=k) (h6:k<=6)=>(bx.cell (p:=⟨0,k,none⟩) hb0).trans (htb k h2 h6))
 obtain ⟨W2,hW2⟩:∃ W2,W2=w.alloc (boxC c (.slice lp c.ls.length lc) (.slice mp c.ms.length mc)):=⟨_,rfl⟩
 have b2:Below w.heap.size w W2:=by rw [hW2];exact (Below.refl _ _).alloc (Nat.le_refl _) _
 have C2:=hid (show CellC W2 w.heap.size c (.slice lp c.ls.length lc) (.slice mp c.ms.length mc) by rw [hW2];exact CellC.start w c (.slice lp c.ls.length lc) (.slice mp c.ms.length mc))
 have B2:=hid b2
 have I2:=hid (hI.grow b2)
 have HO2:=hid (hp.grow b2)
 have HC:=hid (And.intro hc (And.intro hn (And.intro hL hm)))
 have HWF:=hid hwf
 have HP0:=hid hp0
 have HN:=hid hN
 clear hb0 htb hI hp hc hn hL hm hwf hp0 hN b2
 go_enter Tryz.func14,Tryz.ntmps14
 go_upto_region 1 with fail
 rw [<- hW2]
 obtain ⟨CB,hCB⟩:∃ CB,CB=w.heap.size:=⟨_,rfl⟩
 rw [<- hCB] at C2 ⊢
 clear hW2
 have CW:=hid (fun X (bx:Below W2.heap.size W2 X)=>(C2.out.below bx C2.out.lt:CellC X CB c (.slice lp c.ls.length lc) (.slice mp c.ms.length mc)))
 have IW:=hid (fun X (bx:Below W2.heap.size W2 X)=>I2.out.grow bx)
 have BW:=hid (fun X (bx:Below W2.heap.size W2 X)=>B2.out.trans (bx.mono B2.out.size))
 clear C2 I2 hCB
 have D4:=hid (show Below W2.heap.size W2 W2.drew from (Below.refl _ _).drew)
 obtain ⟨v6,w6,hrun6,sp6,_⟩:=(SpR.nil W2.drew).app (Nat.zero_le _) (p:=p) (c:=cap) (HO2.out.grow D4.out) HP0.out (by have:=HN.out;omega)
 obtain ⟨p6,c6,rfl,hh6,_⟩:=sp6.form
 rw [List.nil_append,HN.out] at hrun6
 rw [List.nil_append] at hh6
 have RUN6:=hid hrun6
 have HH6:=hid hh6
 have B6:=hid (show Below W2.heap.size W2 w6 from D4.out.trans (sp6.be.mono D4.out.size))
 have mixed:Tryz.prog.follows .mixedOrders=true:=by kernel_rfl
 have TS:(fun w':World=>w'.cell? ⟨CB,0,none⟩=some (.int .i64 c.n)/\w'.cell? ⟨CB,1,none⟩=some (.slice lp c.ls.length lc)/\w'.cell? ⟨CB,2,none⟩=some (.int .i64 c.t)/\w'.cell? ⟨CB,3,none⟩=some (.slice mp c.ms.length mc)/\w'.cell? ⟨CB,4,none⟩=some (.int .i64 c.cap)) W2.drew:=by
  obtain ⟨k0,k1,k2,k3,k4⟩:=CW.out _ D4.out
  exact ⟨k0,k1,k2,k3,k4⟩
 have T6:(fun w':World=>w'.cell? ⟨CB,0,none⟩=some (.int .i64 c.n)/\w'.cell? ⟨CB,1,none⟩=some (.slice lp c.ls.length lc)/\w'.cell? ⟨CB,2,none⟩=some (.int .i64 c.t)/\w'.cell? ⟨CB,3,none⟩=some (.slice mp c.ms.length mc)/\w'.cell? ⟨CB,4,none⟩=some (.int .i64 c.cap)) w6:=by
  obtain ⟨k0,k1,k2,k3,k4⟩:=CW.out _ B6.out
  exact ⟨k0,k1,k2,k3,k4⟩
 have K7:=end_yes c lp mp lc mc 4 2 p6 N c6 l HN.out h300 HC.out.1 HC.out.2.1 HC.out.2.2.2 (fun _=>by rw [HC.out.2.2.1];omega) HWF.out w6 (IW.out _ B6.out) (HTB.out _ (BW.out _ B6.out)) HH6.out
 clear hrun6 sp6 hh6
 refine AnyBut.begin (fun w':World=>w'.cell? ⟨CB,0,none⟩=some (.int .i64 c.n)/\w'.cell? ⟨CB,1,none⟩=some (.slice lp c.ls.length lc)/\w'.cell? ⟨CB,2,none⟩=some (.int .i64 c.t)/\w'.cell? ⟨CB,3,none⟩=some (.slice mp c.ms.length mc)/\w'.cell? ⟨CB,4,none⟩=some (.int .i64 c.cap)) 12 mixed ?_
 refine AnyBut.take 0 (cfV c (.slice lp c.ls.length lc) (.slice mp c.ms.length mc)) rfl (by kernel_rfl) (by kernel_rfl) (by kernel_rfl) (by kernel_rfl) (fun _ _ _ h=>h) TS (by rfl) (fun w' hS=>?_) ?_
 ·(obtain ⟨q0,q1,q2,q3,q4⟩:=hS;go_simp)
 (try simp only [Act.put,List.setIfInBounds_toArray,List.set_cons_zero,List.set_cons_succ])
 refine AnyBut.take 1 (.slice p N cap) rfl (by kernel_rfl) (by kernel_rfl) (by kernel_rfl) (by kernel_rfl) (fun _ _ _ h=>h) TS (by rfl) (fun w' hS=>?_) ?_
 ·(go_simp)
 (try simp only [Act.put,List.setIfInBounds_toArray,List.set_cons_zero,List.set_cons_succ])
 refine AnyBut.one 2 (by kernel_rfl) rfl (by rfl) (fun K hK=>?_)
 refine wp_appO _ _ 27 rfl 27 rfl (.slice none 0 0) (.slice p N cap) (by simp [Act.eval]) (by simp [Act.eval]) RUN6.out ?_
 refine hK.out _ _ (fun _=>T6) ?_
 clear hK K
 (try simp only [Act.put,List.setIfInBounds_toArray,List.set_cons_zero,List.set_cons_succ])
 refine AnyBut.one 3 (by kernel_rfl) rfl (by rfl) (fun K hK=>?_)
 go_simp
 refine K7.mono ?_
 rintro e w7 ⟨rp,rc,pp,pc,spp,sc,w0,P,G,rfl,b7,en⟩
 have B7:=hid (show Below W2.heap.size W2 w7 from B6.out.trans (b7.mono B6.out.size))
 rw [HC.out.2.2.1] at en
 have EN:=hid en
 have T7:(fun w':World=>w'.cell? ⟨CB,0,none⟩=some (.int .i64 c.n)/\w'.cell? ⟨CB,1,none⟩=some (.slice lp c.ls.length lc)/\w'.cell? ⟨CB,2,none⟩=some (.int .i64 c.t)/\w'.cell? ⟨CB,3,none⟩=some (.slice mp c.ms.length mc)/\w'.cell? ⟨CB,4,none⟩=some (.int .i64 c.cap)) w7:=by
  obtain ⟨k0,k1,k2,k3,k4⟩:=CW.out _ B7.out
  exact ⟨k0,k1,k2,k3,k4⟩
 refine hK.out _ _ (fun _=>T7) ?_
 clear hK K K7 b7 en T6 TS RUN6 HH6
 (try simp only [Act.put,List.setIfInBounds_toArray,List.set_cons_zero,List.set_cons_succ])
 refine AnyBut.one 4 (by kernel_rfl) rfl (by rfl) (fun K hK=>?_)
 go_simp
 refine hK.out _ _ (fun _=>T7) ?_
 clear hK K
 (try simp only [Act.put,List.setIfInBounds_toArray,List.set_cons_zero,List.set_cons_succ])
 refine AnyBut.take 5 (.slice rp 2 rc) rfl (by kernel_rfl) (by kernel_rfl) (by kernel_rfl) (by kernel_rfl) (fun _ _ _ h=>h) T7 (by rfl) (fun w' hS=>?_) ?_
 ·(go_simp)
 (try simp only [Act.put,List.setIfInBounds_toArray,List.set_cons_zero,List.set_cons_succ])
 refine AnyBut.take 6 (.slice pp 4 pc) rfl (by kernel_rfl) (by kernel_rfl) (by kernel_rfl) (by kernel_rfl) (fun _ _ _ h=>h) T7 (by rfl) (fun w' hS=>?_) ?_
 ·(go_simp)
 (try simp only [Act.put,List.setIfInBounds_toArray,List.set_cons_zero,List.set_cons_succ])
 refine AnyBut.take 7 (.slice spp 4 sc) rfl (by kernel_rfl) (by kernel_rfl) (by kernel_rfl) (by kernel_rfl) (fun _ _ _ h=>h) T7 (by rfl) (fun w' hS=>?_) ?_
 ·(go_simp)
 (try simp only [Act.put,List.setIfInBounds_toArray,List.set_cons_zero,List.set_cons_succ])
 refine AnyBut.take 8 (.int .i64 0) rfl (by kernel_rfl) (by kernel_rfl) (by kernel_rfl) (by kernel_rfl) (fun _ _ _ h=>h) T7 (by rfl) (fun w' hS=>?_) ?_
 ·(go_simp)
 (try simp only [Act.put,List.setIfInBounds_toArray,List.set_cons_zero,List.set_cons_succ])
 refine AnyBut.take 9 (.slice rp 2 rc) rfl (by kernel_rfl) (by kernel_rfl) (by kernel_rfl) (by kernel_rfl) (fun _ _ _ h=>h) T7 (by rfl) (fun w' hS=>?_) ?_
 ·(go_simp)
 (try simp only [Act.put,List.setIfInBounds_toArray,List.set_cons_zero,List.set_cons_succ])
 refine AnyBut.take 10 (.slice pp 4 pc) rfl (by kernel_rfl) (by kernel_rfl) (by kernel_rfl) (by kernel_rfl) (fun _ _ _ h=>h) T7 (by rfl) (fun w' hS=>?_) ?_
 ·(go_simp)
 (try simp only [Act.put,List.setIfInBounds_toArray,List.set_cons_zero,List.set_cons_succ])
 refine AnyBut.take 11 (.slice spp 4 sc) rfl (by kernel_rfl) (by kernel_rfl) (by kernel_rfl) (by kernel_rfl) (fun _ _ _ h=>h) T7 (by rfl) (fun w' hS=>?_) ?_
 ·(go_simp)
 (try simp only [Act.put,List.setIfInBounds_toArray,List.set_cons_zero,List.set_cons_succ])
 refine AnyBut.one 12 (by kernel_rfl) rfl (by rfl) (fun K hK=>?_)
 go_simp
 refine hK.out _ _ (fun h=>absurd rfl h) ?_
 clear hK K
 refine AnyBut.done (by kernel_rfl) ?_
 clear T7
 obtain ⟨pb,po,epp,pcl⟩:=EN.out.purse (by omega)
 obtain ⟨sb,so,esp,scl⟩:=EN.out.stores (by omega)
 subst epp
 subst esp
 have PCL:=hid pcl
 have SCL:=hid scl
 have F7:=hid (BW.out _ B7.out)
 clear pcl scl
 go_wp2
 go_loopg [12] 4 (fun gg s12 wx=>∃ j:Nat,j<=4/\4-j<=gg/\s12=.int .i64 j/\wx=w7)
 case atStart=>exact ⟨0,Nat.zero_le _,by omega,rfl,rfl⟩
 case round =>
  obtain ⟨j,hj,hg,rfl,hw⟩:=hrel
  have hy:=hw.symm
  clear hw
  subst hy
  by_cases hlt:j<4
  ·have hltz:(j:Int)<4:=by omega
   have hjn:¬ (j:Int)<0:=by omega
   have pj:=PCL.out j hlt
   have sj:=SCL.out j hlt
   go_wp2
   go_roundg (4-(j+1))
   case measure=>omega
   case rel=>exact ⟨j+1,by omega,by omega,by go_num,rfl⟩
  ·have hltz:¬ (j:Int)<4:=by omega
   go_wp2
   (try simp only [Exit.inBlock,Exit.then])
   refine bodyPost_ret (results_four rfl _ _ _) rfl ?_
   exact ⟨rp,rc,_,pc,_,sc,w0,P,G,rfl,F7.out,EN.out⟩
end Go.Proofs.YtlohgiichckjmaaGreatDoor
namespace Go.Proofs.YtlohgiichckjmaaGreatDoor
set_option maxHeartbeats 16000000
set_option maxRecDepth 100000
open Go.RowKit Go.Shelf Go.Sort
theorem NumR.cells {w0 w:World} {p:Option Addr} {c n:Nat} {l:List Int} (h:NumR w0 w (.slice p n c) l) (hl:l.length=n) (hn:0<n):∃ b off,p=some ⟨b,off,none⟩/\∀ j,j<n->w.cell? ⟨b,off+j,none⟩=some (.int .i64 (l.getD j 0)):=by
 subst hl
 obtain ⟨s,_,p',c',e⟩:=h.seg
 exact seg_at s hn
end Go.Proofs.YtlohgiichckjmaaGreatDoor
namespace Go.Proofs.YtlohgiichckjmaaGreatDoor
set_option maxHeartbeats 16000000
set_option maxRecDepth 100000
open Go.RowKit Go.Shelf Go.Sort
theorem Tryz.guardPurse:Tryz.prog.eqGuardType Tryz.prog.depth 52=false:=by kernel_rfl
theorem neqP (a f h u:Int) (w:World):(binOp .neq 52 (.agg #[.int .i64 a,.int .i64 0,.int .i64 0,.int .i64 f,.int .i64 h,.int .i64 u]) (.agg #[.int .i64 a,.int .i64 0,.int .i64 0,.int .i64 f,.int .i64 h,.int .i64 u])).run Tryz.prog w=.ok (.bool false) w:=by
 have u3:=Tryz.underlying3
 have a3:=Tryz.isAgg3
 have z3:=Tryz.sizeOf3
 have u4:=Tryz.underlying32
 have a4:=Tryz.isAgg32
 have z4:=Tryz.sizeOf32
 have hS:Tryz.prog.underlying 36=some (.struct (Tryz.prog.fieldsOf 36)):=by kernel_rfl
 have hp:Tryz.prog.stoodInHeld 36=false:=by kernel_rfl
 have hS2:Tryz.prog.underlying 52=some (.struct (Tryz.prog.fieldsOf 52)):=by kernel_rfl
 have hp2:Tryz.prog.stoodInHeld 52=false:=by kernel_rfl
 have aS:=Tryz.isAgg36
 have zS:=Tryz.sizeOf36
 rw [run_neq_struct,show (10000:Nat)=9999+1 from rfl,run_equalIn_agg w 9999 52 _ _ hS2 hp2]
 simp only [Program.fieldsOf,Tryz.underlying52]
 clear hS2 hp2
 have e2:∀ w:World,(Op.equalIn 9999 36 (.agg #[.int .i64 0,.int .i64 0,.int .i64 f,.int .i64 h,.int .i64 u]) (.agg #[.int .i64 0,.int .i64 0,.int .i64 f,.int .i64 h,.int .i64 u])).run Tryz.prog w=.ok true w:=fun w=>by
  rw [show (9999:Nat)=9998+1 from rfl,run_equalIn_agg w 9998 36 _ _ hS hp]
  simp only [Program.fieldsOf,Tryz.underlying36]
  clear hS hp
  go_simp
 clear hS hp
 go_simp
theorem told_at {c:Plain.Cf} {l:List Plain.Sp} {R:List Vi.RT} (hx:R.map (·.x)=(Plain.tlsF c (Plain.Wo.start c) l).map toTd) {w:World} {TB:Nat} (h:Vi.OutT w (some ⟨TB,0,none⟩) R) {k:Nat} {t:Plain.Tl} (ht:(Plain.tlsF c (Plain.Wo.start c) l)[k]?=some t) :
  w.cell? ⟨TB,k*11,none⟩=some (.int .i64 (t.code:Nat))/\∃ pf cf,w.cell? ⟨TB,k*11+9,none⟩=some (.slice pf t.frame.length cf):=by
 have hR:R.length=(Plain.tlsF c (Plain.Wo.start c) l).length:=by have:=congrArg List.length hx;rwa [List.length_map,List.length_map] at this
 have hk:k<(Plain.tlsF c (Plain.Wo.start c) l).length:=(List.getElem?_eq_some_iff.1 ht).1
 obtain ⟨bT,oT,eT,lT,gT⟩:=Vi.holdsT h.hd (by omega)
 have eT1:=Option.some.inj eT
 have ebT:TB=bT:=congrArg Addr.block eT1
 have eoT:0=oT:=congrArg Addr.off eT1
 subst ebT
 subst eoT
 have kR:k<R.length:=by omega
 have hxr:(R.getD k default).x=toTd t:=by
  have e:=congrArg (·[k]?) hx
  simp only [List.getElem?_map,ht,Option.map_some] at e
  rw [List.getElem?_eq_getElem kR,Option.map_some] at e
  rw [List.getD_eq_getElem?_getD,List.getElem?_eq_getElem kR]
  exact Option.some.inj e
 have g0:=gT k kR 0 (by decide)
 change w.cell? ⟨TB,0+(k*11+0),none⟩=some (.int .i64 (R.getD k default).x.code) at g0
 have g9:=gT k kR 9 (by decide)
 change w.cell? ⟨TB,0+(k*11+9),none⟩=some (.slice (R.getD k default).pf (R.getD k default).x.frame.length (R.getD k default).cf) at g9
 rw [Nat.zero_add] at g0 g9
 rw [hxr] at g0 g9
 exact ⟨g0,_,_,g9⟩
theorem worldOld_c (p:Option Addr) (n cap:Nat) (ls:List Int) (hbig:n<=9223372036854775807) (hn:ls.length=n) (hwf:∀ x,x∈ls->In64 x) (ti mi mo:Int) (hti:In64 ti) (hmi:In64 mi) (hmo:In64 mo) (p2:Option Addr) (n2 cap2:Nat) (ds:List Plain.Sp) (hn2:ds.length=n2) (hbig2:n2<=9223372036854775807) (hd:∀ d,d∈ds->InX d) (idx:Int) (hidx:In64 idx) (lo:Bool)
  (w:World) (htb:∀ k,2<=k->k<=6->w.cell? ⟨0,k,none⟩=some (.int .i64 (k:Nat))) (hp:NumsQ w p ls) (hp2:encSp.Holds w p2 ds) :
  Calls Tryz.prog 4 #[.slice p n cap,.int .i64 ti,.int .i64 mi,.int .i64 mo,.slice p2 n2 cap2,.int .i64 idx,.bool lo] w fun e w'=>e=.returned (.bool true)/\Below w.heap.size w w':=by
 have hb0:0<w.heap.size:=World.block_lt_of_cell? (w:=w) (h:=htb 2 (by omega) (by omega))
 have HTB:=hid (fun X (bx:Below w.heap.size w X) k (h2:2<=k) (h6:k<=6)=>(bx.cell (p:=⟨0,k,none⟩) hb0).trans (htb k h2 h6))
 have KC:=cfg_c ti mi mo hti hmi hmo p n cap ls hbig hn hwf w hp
 have KS:=hid (fun X (bx:Below w.heap.size w X)=>stepsOf_c p2 n2 cap2 100 ds hn2 hbig2 (by omega) hd X (hp2.grow bx))
 clear hp hp2 hwf hd htb hb0 hti hmi hmo
 go_enter Tryz.func4,Tryz.ntmps4
 go_wp2_with fail
 refine KC.mono ?_
 rintro e w1 ⟨c,lp,lc,mp,mc,hm,hc4,hc3,hc2,hcc,rfl,hI,b1⟩
 clear hcc
 have HC:=hid (And.intro hm (And.intro hc4 (And.intro hc3 hc2)))
 obtain ⟨W2,hW2⟩:∃ W2,W2=w1.alloc (boxC c (.slice lp c.ls.length lc) (.slice mp c.ms.length mc)):=⟨_,rfl⟩
 have b2:Below w1.heap.size w1 W2:=by rw [hW2];exact (Below.refl _ _).alloc (Nat.le_refl _) _
 have B2:=hid (show Below w.heap.size w W2 from b1.trans (b2.mono b1.size))
 have C2:=hid (show CellC W2 w1.heap.size c (.slice lp c.ls.length lc) (.slice mp c.ms.length mc) by rw [hW2];exact CellC.start w1 c (.slice lp c.ls.length lc) (.slice mp c.ms.length mc))
 have I2:=hid (hI.grow b2)
 clear KC hm hc4 hc3 hc2 hI b1 b2
 go_upto_region 2 with fail
 rw [<- hW2]
 obtain ⟨CB,hCB⟩:∃ CB,CB=w1.heap.size:=⟨_,rfl⟩
 rw [<- hCB] at C2 ⊢
 clear hW2 hCB
 have CW:=hid (fun X (bx:Below W2.heap.size W2 X)=>(C2.out.below bx C2.out.lt:CellC X CB c (.slice lp c.ls.length lc) (.slice mp c.ms.length mc)))
 have IW:=hid (fun X (bx:Below W2.heap.size W2 X)=>I2.out.grow bx)
 have BW:=hid (fun X (bx:Below W2.heap.size W2 X)=>B2.out.trans (bx.mono B2.out.size))
 clear C2 I2
 have K3:=KS.out W2 (BW.out _ (Below.refl _ _))
 go_wp2_with fail
 refine K3.mono ?_
 rintro e w3 ⟨q,kc,L0,rfl,sp,hL,hid5⟩
 obtain ⟨p4,c4,w4,hrun,sp4⟩:=sp.snoc (by omega) Plain.tickS
 have RUN:=hid hrun
 have HL:=hid hL
 have HI5:=hid (show ∀ s,s∈L0++[Plain.tickS]->0<=s.id/\s.id<=100000 from fun s hs=>by
  rcases List.mem_append.1 hs with y|y
  ·exact hid5 s y
  ·rw [List.mem_singleton.1 y];exact ⟨Int.le_refl _,by decide⟩)
 have hT1:1<=Plain.ticksN (L0++[Plain.tickS])/\Plain.ticksN (L0++[Plain.tickS])<=101:=by
  have h1:=Plain.ticksN_le (L0++[Plain.tickS])
  rw [List.length_append] at h1
  have h2:([Plain.tickS]:List Plain.Sp).length=1:=rfl
  have h3:=Plain.ticksN_snoc L0 Plain.tickS
  rw [if_pos (show Plain.tickS.kind=9 from rfl)] at h3
  omega
 have SP4:=hid sp4
 clear K3 KS sp hrun sp4 hid5 hL
 go_upto_region 3 with (first|(at_builtin;refine wpList_app _ _ 27 RUN.out (by rfl) (by rfl) (by rfl) (by rfl) (by rfl) ?_)|fail)
 obtain ⟨N,hN⟩:∃ N,N=L0.length+1:=⟨_,rfl⟩
 obtain ⟨L,hLL⟩:∃ L,L=L0++[Plain.tickS]:=⟨_,rfl⟩
 have hNL:L.length=N:=by rw [hLL,hN,List.length_append];rfl
 have hN1:N<=101:=by have:=HL.out;omega
 have HNL:=hid hNL
 rw [<- hN] at SP4
 rw [<- hLL] at SP4 HI5 hT1
 rw [<- hN]
 clear hN hLL HL RUN
 have B4:=hid (show Below W2.heap.size W2 w4 from SP4.out.be)
 have HO4:=hid (show encSp.Holds w4 p4 L by have h:=SP4.out;rw [<- hNL] at h;exact h.hold)
 have KF:=frames_c p4 N c4 L hNL (by omega) w4 HO4.out
 obtain ⟨F,hF⟩:∃ F:Int,F=((20*Plain.ticksN L:Nat):Int):=⟨_,rfl⟩
 have hF2:0<F/\F<=2020:=by omega
 rw [<- hF] at KF
 have KP:=picked_any idx F hidx.1 hidx.2 hF2.1 (by omega) w4
 obtain ⟨x,hx⟩:∃ x,x=idx%F:=⟨_,rfl⟩
 have hx2:0<=x/\x<F:=by rw [hx];exact ⟨Int.emod_nonneg _ (by omega),Int.emod_lt_of_pos _ hF2.1⟩
 rw [<- hx] at KP
 have HF:=hid hF
 clear hF hx hT1 hNL
 go_wp2_with fail
 refine KF.mono ?_
 rintro e w5 ⟨rfl,hw5⟩
 have hy:=hw5.symm
 clear hw5 KF
 subst hy
 go_wp2_with fail
 refine KP.mono ?_
 rintro e w5 ⟨rfl,hw5⟩
 have hy:=hw5.symm
 clear hw5 KP
 subst hy
 obtain ⟨BB,hBB⟩:∃ BB,BB=w4.heap.size:=⟨_,rfl⟩
 have R5:=hid (rowX w4 ⟨10,0,0,0,0,x,0,0⟩)
 have b5:=hid (show Below w4.heap.size w4 (w4.alloc (boxX ⟨10,0,0,0,0,x,0,0⟩)) from (Below.refl _ _).alloc (Nat.le_refl _) _)
 obtain ⟨W5,hW5⟩:∃ W5,W5=w4.alloc (boxX ⟨10,0,0,0,0,x,0,0⟩):=⟨_,rfl⟩
 rw [<- hW5,<- hBB] at R5
 rw [<- hW5] at b5
 go_upto_region 5 with fail
 rw [<- hW5,<- hBB]
 have HBB:=hid hBB
 clear hW5 hBB
 have y0:W5.cell? ⟨BB,0,none⟩=some (.int .i64 10):=R5.out.cell (i:=0) (by decide)
 have z0:=R5.out.frozen 0
 go_cut [18,49] (fun s18 s49 wx=>s18=.pointer (some ⟨BB,0,none⟩)/\s49=.bool lo/\wx=W5)
 case first =>
  go_wp2
  go_meet
  exact ⟨rfl,rfl,rfl⟩
 rename_i hKK
 obtain ⟨rfl,rfl,hw5⟩:=hcut
 have hy:=hw5.symm
 clear hw5
 subst hy
 refine hKK _ _ ?_
 clear hKK
 go_cut [18] (fun s18 wx=>∃ kd:Int,(kd=10\/kd=11)/\s18=.pointer (some ⟨BB,0,none⟩)/\Aside (wx.rowIs BB 30 8 (spF ⟨kd,0,0,0,0,x,0,0⟩))/\Aside (Below w4.heap.size w4 wx))
 case first =>
  cases lo
  ·go_wp2
   go_meet
   exact ⟨10,.inl rfl,rfl,(show Aside _ from R5.out),(show Aside _ from b5.out)⟩
  ·go_wp2
   go_meet
   exact ⟨11,.inr rfl,rfl,(show Aside _ from (R5.out.set 0 (.int .i64 11)).congr fun j hj=>by
    have:j=0\/j=1\/j=2\/j=3\/j=4\/j=5\/j=6\/j=7:=by omega
    rcases this with rfl|rfl|rfl|rfl|rfl|rfl|rfl|rfl<;>rfl),(show Aside _ from b5.out.setCell (Nat.le_of_eq HBB.out.symm) _)⟩
 obtain ⟨kd,hkd,rfl,HR5,HB5⟩:=hcut
 clear y0 z0 R5 b5 W5 HBB
 obtain ⟨s,hs⟩:∃ s:Plain.Sp,s=⟨kd,0,0,0,0,x,0,0⟩:=⟨_,rfl⟩
 obtain ⟨d,hd⟩:∃ d:Plain.Sp,d=⟨10,0,0,0,0,x,0,0⟩:=⟨_,rfl⟩
 have d0:wc.cell? ⟨BB,0,none⟩=some (.int .i64 kd):=HR5.out.cell (i:=0) (by decide)
 have d1:wc.cell? ⟨BB,1,none⟩=some (.int .i64 0):=HR5.out.cell (i:=1) (by decide)
 have d2:wc.cell? ⟨BB,2,none⟩=some (.int .i64 0):=HR5.out.cell (i:=2) (by decide)
 have d3:wc.cell? ⟨BB,3,none⟩=some (.int .i64 0):=HR5.out.cell (i:=3) (by decide)
 have d4:wc.cell? ⟨BB,4,none⟩=some (.int .i64 0):=HR5.out.cell (i:=4) (by decide)
 have d5:wc.cell? ⟨BB,5,none⟩=some (.int .i64 x):=HR5.out.cell (i:=5) (by decide)
 have d6:wc.cell? ⟨BB,6,none⟩=some (.int .i64 0):=HR5.out.cell (i:=6) (by decide)
 have d7:wc.cell? ⟨BB,7,none⟩=some (.int .i64 0):=HR5.out.cell (i:=7) (by decide)
 have SP5:=SP4.out.grow HB5.out
 obtain ⟨p7,c7,w7,hr7,s7⟩:=SP5.snoc (by have:=HNL.out;omega) ⟨kd,0,0,0,0,x,0,0⟩
 rw [HNL.out] at hr7 s7
 obtain ⟨M,hM⟩:∃ M,M=N+1:=⟨_,rfl⟩
 have hM1:M<=102:=by omega
 rw [<- hM] at hr7 s7
 rw [<- hs] at s7
 have hLM:(L++[s]).length=M:=by rw [List.length_append,HNL.out,hM];rfl
 have s7f:encSp.Holds w7 p7 (L++[s])/\(p7=none->c7=0):=by
  obtain ⟨p',c',e',hh,hn'⟩:=s7.form
  injection e' with e1 _ e3
  rw [e1,e3];exact ⟨hh,hn'⟩
 obtain ⟨v8,w8,hr8,s8,_⟩:=(SpR.nil w7).app (Nat.zero_le _) (p:=p7) (c:=c7) s7f.1 s7f.2 (by omega)
 rw [List.nil_append] at s8
 rw [hLM] at hr8
 obtain ⟨p8,c8,e8,_,_⟩:=s8.form
 rw [hLM] at e8
 subst e8
 obtain ⟨p9,c9,w9,hr9,s9⟩:=s8.snoc (by omega) ⟨10,0,0,0,0,x,0,0⟩
 rw [hLM] at hr9 s9
 rw [<- hd] at s9
 have s9f:encSp.Holds w9 p9 (L++[s]++[d])/\(p9=none->c9=0):=by
  obtain ⟨p',c',e',hh,hn'⟩:=s9.form
  injection e' with e1 _ e3
  rw [e1,e3];exact ⟨hh,hn'⟩
 have R7:=hid hr7
 have R8:=hid hr8
 have R9:=hid hr9
 have B9:=hid (show Below W2.heap.size W2 w9 from s7.be.trans (s9.be.mono s7.be.size))
 have H7:=hid (show encSp.Holds w9 p7 (L++[s]) from s7f.1.grow s9.be)
 have N7:=hid s7f.2
 have H9:=hid s9f.1
 have N9:=hid s9f.2
 have HLM:=hid hLM
 have HLM2:=hid (show (L++[s]++[d]).length=M+1 by rw [List.length_append,hLM];rfl)
 have HW7:=hid (show ∀ z,z∈L++[s]->(Lit.int .i64 z.id).wf=true from fun z hz=>by
  rcases List.mem_append.1 hz with y|y
  ·exact wf_small (HI5.out z y)
  ·rw [List.mem_singleton.1 y,hs];exact wf_small (show 0<=x/\x<=100000 by omega))
 have HW9:=hid (show ∀ z,z∈L++[s]++[d]->(Lit.int .i64 z.id).wf=true from fun z hz=>by
  rcases List.mem_append.1 hz with y|y
  ·exact HW7.out z y
  ·rw [List.mem_singleton.1 y,hd];exact wf_small (show 0<=x/\x<=100000 by omega))
 have HOLD:=hid (Plain.old_end (l:=L) (s:=s) (d:=d) HC.out.1 (n:=4) HC.out.2.1 HC.out.2.2.2 (by have:=HNL.out;omega) (by rw [hs];exact hkd) (by rw [hd]) (by rw [hs,hd]) (by rw [Plain.shape_len HC.out.2.1,hs,<- HF.out];exact hx2))
 have HIX:=hid (show L.length+1=M by rw [HNL.out,hM])
 clear hr7 hr8 hr9 s7f s9f s7 s8 s9 SP5 HR5 HB5 SP4 HO4 B4 HI5 hM hLM
 go_upto_region 8 with (first|(at_builtin;refine wpList_app _ _ 27 R7.out (by rfl) (by rfl) (by rfl) (by rfl) (by rfl) ?_)|fail)
 clear R7 d0 d1 d2 d3 d4 d5 d6 d7
 go_upto_region 9 with (first|(at_builtin;refine wpList_app _ _ 27 R8.out (by rfl) (by rfl) (by rfl) (by rfl) (by rfl) ?_)|(at_builtin;refine wpList_app _ _ 27 R9.out (by rfl) (by rfl) (by rfl) (by rfl) (by rfl) ?_)|fail)
 clear R8 R9 hs hd
 obtain ⟨k0,k1,k2,k3,k4⟩:=CW.out _ B9.out
 have K9:=ended_c c lp mp lc mc p7 M c7 (L++[s]) HLM.out (by omega) HC.out.1 HC.out.2.1 HC.out.2.2.1 HC.out.2.2.2 HW7.out N7.out w9 (IW.out _ B9.out) (HTB.out _ (BW.out _ B9.out)) H7.out
 go_wp2_with fail
 refine K9.mono ?_
 rintro e w10 ⟨rp,rc,pp,pc,spp,sc,w0,P,G,rfl,b10,en⟩
 have B10:=hid (show Below W2.heap.size W2 w10 from B9.out.trans (b10.mono B9.out.size))
 have EN:=hid en
 have H10:=hid (H9.out.grow b10)
 clear K9 b10 en k0 k1 k2 k3 k4 H9 B9 H7 HW7 N7
 obtain ⟨k0,k1,k2,k3,k4⟩:=CW.out _ B10.out
 have K10:=ended_c c lp mp lc mc p9 (M+1) c9 (L++[s]++[d]) HLM2.out (by omega) HC.out.1 HC.out.2.1 HC.out.2.2.1 HC.out.2.2.2 HW9.out N9.out w10 (IW.out _ B10.out) (HTB.out _ (BW.out _ B10.out)) H10.out
 go_upto_region 10 with fail
 go_wp2_with fail
 refine K10.mono ?_
 rintro e w11 ⟨rp6,rc6,pp6,pc6,spp6,sc6,w06,P6,G6,rfl,b11,en6⟩
 have B11:=hid (show Below W2.heap.size W2 w11 from B10.out.trans (b11.mono B10.out.size))
 have EN1:=hid (EN.out.grow b11)
 have EN2:=hid en6
 have H11:=hid (H10.out.grow b11)
 clear K10 b11 en6 k0 k1 k2 k3 k4 H10 B10 EN
 go_upto_region 11 with fail
 have D4:=hid (show Below w11.heap.size w11 w11.drew from (Below.refl _ _).drew)
 obtain ⟨v6,w12,hrun6,sp6,_⟩:=(SpR.nil w11.drew).app (Nat.zero_le _) (p:=p9) (c:=c9) (H11.out.grow D4.out) N9.out (by have:=HLM2.out;omega)
 obtain ⟨p12,c12,rfl,hh6,_⟩:=sp6.form
 rw [List.nil_append,HLM2.out] at hrun6
 rw [List.nil_append] at hh6
 have RUN6:=hid hrun6
 have HH6:=hid hh6
 have G12:=hid (show Below w11.heap.size w11 w12 from D4.out.trans (sp6.be.mono D4.out.size))
 have B12:=hid (show Below W2.heap.size W2 w12 from B11.out.trans (G12.out.mono B11.out.size))
 have mixed:Tryz.prog.follows .mixedOrders=true:=by kernel_rfl
 have TS:(fun w':World=>w'.cell? ⟨CB,0,none⟩=some (.int .i64 c.n)/\w'.cell? ⟨CB,1,none⟩=some (.slice lp c.ls.length lc)/\w'.cell? ⟨CB,2,none⟩=some (.int .i64 c.t)/\w'.cell? ⟨CB,3,none⟩=some (.slice mp c.ms.length mc)/\w'.cell? ⟨CB,4,none⟩=some (.int .i64 c.cap)) w11.drew:=by
  obtain ⟨k0,k1,k2,k3,k4⟩:=CW.out _ (B11.out.trans (D4.out.mono B11.out.size))
  exact ⟨k0,k1,k2,k3,k4⟩
 have T12:(fun w':World=>w'.cell? ⟨CB,0,none⟩=some (.int .i64 c.n)/\w'.cell? ⟨CB,1,none⟩=some (.slice lp c.ls.length lc)/\w'.cell? ⟨CB,2,none⟩=some (.int .i64 c.t)/\w'.cell? ⟨CB,3,none⟩=some (.slice mp c.ms.length mc)/\w'.cell? ⟨CB,4,none⟩=some (.int .i64 c.cap)) w12:=by
  obtain ⟨k0,k1,k2,k3,k4⟩:=CW.out _ B12.out
  exact ⟨k0,k1,k2,k3,k4⟩
 have K11:=wplay_yes c lp mp lc mc 4 2 p12 (M+1) c12 (L++[s]++[d]) HLM2.out (by omega) HC.out.1 HC.out.2.1 HC.out.2.2.2 (fun _=>by rw [HC.out.2.2.1];omega) HW9.out w12 (IW.out _ B12.out) (HTB.out _ (BW.out _ B12.out)) HH6.out
 clear hrun6 sp6 hh6
 refine AnyBut.begin (fun w':World=>w'.cell? ⟨CB,0,none⟩=some (.int .i64 c.n)/\w'.cell? ⟨CB,1,none⟩=some (.slice lp c.ls.length lc)/\w'.cell? ⟨CB,2,none⟩=some (.int .i64 c.t)/\w'.cell? ⟨CB,3,none⟩=some (.slice mp c.ms.length mc)/\w'.cell? ⟨CB,4,none⟩=some (.int .i64 c.cap)) 8 mixed ?_
 refine AnyBut.take 0 (cfV c (.slice lp c.ls.length lc) (.slice mp c.ms.length mc)) rfl (by kernel_rfl) (by kernel_rfl) (by kernel_rfl) (by kernel_rfl) (fun _ _ _ h=>h) TS (by rfl) (fun w' hS=>?_) ?_
 ·(obtain ⟨q0,q1,q2,q3,q4⟩:=hS;go_simp)
 (try simp only [Act.put,List.setIfInBounds_toArray,List.set_cons_zero,List.set_cons_succ])
 refine AnyBut.take 1 (.slice p9 (M+1) c9) rfl (by kernel_rfl) (by kernel_rfl) (by kernel_rfl) (by kernel_rfl) (fun _ _ _ h=>h) TS (by rfl) (fun w' hS=>?_) ?_
 ·(go_simp)
 (try simp only [Act.put,List.setIfInBounds_toArray,List.set_cons_zero,List.set_cons_succ])
 refine AnyBut.one 2 (by kernel_rfl) rfl (by rfl) (fun K hK=>?_)
 refine wp_appO _ _ 27 rfl 27 rfl (.slice none 0 0) (.slice p9 (M+1) c9) (by simp [Act.eval]) (by simp [Act.eval]) RUN6.out ?_
 refine hK.out _ _ (fun _=>T12) ?_
 clear hK K
 (try simp only [Act.put,List.setIfInBounds_toArray,List.set_cons_zero,List.set_cons_succ])
 refine AnyBut.one 3 (by kernel_rfl) rfl (by rfl) (fun K hK=>?_)
 go_simp
 refine K11.mono ?_
 rintro e w13 ⟨TB,R,rfl,hR,hxx,ho,_,b13⟩
 have B13:=hid (show Below W2.heap.size W2 w13 from B12.out.trans (b13.mono B12.out.size))
 have G13:=hid (show Below w11.heap.size w11 w13 from G12.out.trans (b13.mono G12.out.size))
 have T11:(fun w':World=>w'.cell? ⟨CB,0,none⟩=some (.int .i64 c.n)/\w'.cell? ⟨CB,1,none⟩=some (.slice lp c.ls.length lc)/\w'.cell? ⟨CB,2,none⟩=some (.int .i64 c.t)/\w'.cell? ⟨CB,3,none⟩=some (.slice mp c.ms.length mc)/\w'.cell? ⟨CB,4,none⟩=some (.int .i64 c.cap)) w13:=by
  obtain ⟨k0,k1,k2,k3,k4⟩:=CW.out _ B13.out
  exact ⟨k0,k1,k2,k3,k4⟩
 obtain ⟨hrun0,t,htt,htc,htf⟩:=HOLD.out
 rw [HIX.out] at htt
 obtain ⟨c0,pf,cf,c9'⟩:=told_at hxx ho htt
 rw [htc] at c0
 rw [htf] at c9'
 have HT:=hid (And.intro c0 c9')
 rw [hrun0] at EN2
 clear hrun0 htt htc htf c0 c9' HOLD
 refine hK.out _ _ (fun _=>T11) ?_
 clear hK K K11 hR hxx ho b13 T12 TS RUN6 HH6
 (try simp only [Act.put,List.setIfInBounds_toArray,List.set_cons_zero,List.set_cons_succ])
 refine AnyBut.one 4 (by kernel_rfl) rfl (by rfl) (fun K hK=>?_)
 go_simp
 refine hK.out _ _ (fun _=>T11) ?_
 clear hK K
 (try simp only [Act.put,List.setIfInBounds_toArray,List.set_cons_zero,List.set_cons_succ])
 refine AnyBut.take 5 (.slice (some ⟨TB,0,none⟩) (M+1) (M+1)) rfl (by kernel_rfl) (by kernel_rfl) (by kernel_rfl) (by kernel_rfl) (fun _ _ _ h=>h) T11 (by rfl) (fun w' hS=>?_) ?_
 ·(go_simp)
 (try simp only [Act.put,List.setIfInBounds_toArray,List.set_cons_zero,List.set_cons_succ])
 refine AnyBut.take 6 (.int .i64 0) rfl (by kernel_rfl) (by kernel_rfl) (by kernel_rfl) (by kernel_rfl) (fun _ _ _ h=>h) T11 (by rfl) (fun w' hS=>?_) ?_
 ·(go_simp)
 (try simp only [Act.put,List.setIfInBounds_toArray,List.set_cons_zero,List.set_cons_succ])
 refine AnyBut.take 7 (.slice (some ⟨TB,0,none⟩) (M+1) (M+1)) rfl (by kernel_rfl) (by kernel_rfl) (by kernel_rfl) (by kernel_rfl) (fun _ _ _ h=>h) T11 (by rfl) (fun w' hS=>?_) ?_
 ·(go_simp)
 (try simp only [Act.put,List.setIfInBounds_toArray,List.set_cons_zero,List.set_cons_succ])
 refine AnyBut.one 8 (by kernel_rfl) rfl (by rfl) (fun K hK=>?_)
 go_simp
 refine hK.out _ _ (fun h=>absurd rfl h) ?_
 clear hK K
 refine AnyBut.done (by kernel_rfl) ?_
 clear T11
 have HS:=hid (Plain.wok_all HC.out.1 (n:=4) HC.out.2.1 HC.out.2.2.2 (L++[s]) (by have:=HLM.out;omega)).1.st
 generalize Plain.runW c (Plain.Wo.start c) (L++[s])=W at EN1 EN2 HS
 have E13:=hid (EN1.out.grow G13.out)
 have F13:=hid (EN2.out.grow G13.out)
 clear EN1 EN2 G13 G12 B12 B11 D4 H11 HW9 N9
 obtain ⟨rb,ro,erp,rcl⟩:=E13.out.re.cells rfl (by omega)
 obtain ⟨qb,qo,eqp,qcl⟩:=F13.out.re.cells rfl (by omega)
 subst erp
 subst eqp
 have K12:=Vi.sameI_two rb ro rc qb qo rc6 2 _ (by rfl) (by omega) w13 (fun j hj=>rcl j hj) (fun j hj=>qcl j hj)
 obtain ⟨c0,c9'⟩:=HT.out
 have hMM:((M:Int)+1 != (M:Int)+1)=false:=by simp
 clear rcl qcl HT
 go_wp2_with fail
 refine K12.mono ?_
 rintro e w14 ⟨rfl,q14,hw14⟩
 have G14:=hid (show Below w13.heap.size w13 w14 by rw [hw14];exact ⟨rfl,rfl,rfl,Nat.le_refl _,fun _ _=>rfl⟩)
 have E14:=hid (E13.out.grow G14.out)
 have F14:=hid (F13.out.grow G14.out)
 have B14:=hid (show Below W2.heap.size W2 w14 from B13.out.trans (G14.out.mono B13.out.size))
 clear hw14 K12 E13 F13 B13 G14 c0 c9'
 obtain ⟨pb,po,epp,pcl⟩:=E14.out.purse (by omega)
 obtain ⟨ob,oo,eop,ocl⟩:=F14.out.purse (by omega)
 obtain ⟨sb,so,esp,scl⟩:=E14.out.stores (by omega)
 obtain ⟨ub,uo,eup,ucl⟩:=F14.out.stores (by omega)
 subst epp
 subst eop
 subst esp
 subst eup
 clear pcl ocl scl ucl
 go_wp2
 go_loopg [30,31,32] 4 (fun gg s30 _ _ wx=>∃ i:Nat,i<=4/\4-i<=gg/\s30=.int .i64 i/\Aside (Below w14.heap.size w14 wx))
 case atStart=>exact ⟨0,Nat.zero_le _,by omega,rfl,(show Aside _ from Below.refl _ _)⟩
 case round =>
  obtain ⟨i,hi,hg,rfl,A⟩:=hrel
  by_cases hlt:i<4
  ·have hltz:(i:Int)<4:=by omega
   have hin:¬ (i:Int)<0:=by omega
   go_wp2
   go_loopg [31] 2 (fun gg s31 wx=>∃ k:Nat,k<=2/\2-k<=gg/\s31=.int .i64 k/\Aside (Below w14.heap.size w14 wx))
   case atStart=>exact ⟨0,Nat.zero_le _,by omega,rfl,A⟩
   case round =>
    obtain ⟨k,hk,hgk,rfl,A2⟩:=hrel
    by_cases hlk:k<2
    ·have hlkz:(k:Int)<2:=by omega
     have hkn:¬ (k:Int)<0:=by omega
     have E9:=E14.out.grow A2.out
     have F9:=F14.out.grow A2.out
     obtain ⟨pb',po',e9,pcl⟩:=E9.purse (by omega)
     have ep:=Option.some.inj e9
     have ep1:pb=pb':=congrArg Addr.block ep
     have ep2:po=po':=congrArg Addr.off ep
     subst ep1
     subst ep2
     have cj:=pcl i hlt
     obtain ⟨x0,x1,x2,x3,x4,x5⟩:=E9.pcells (i:=i) (k:=k) hlt hlk
     obtain ⟨ob',oo',f9,ocl⟩:=F9.purse (by omega)
     have fp:=Option.some.inj f9
     have fp1:ob=ob':=congrArg Addr.block fp
     have fp2:oo=oo':=congrArg Addr.off fp
     subst fp1
     subst fp2
     have dj:=ocl i hlt
     obtain ⟨y0,y1,y2,y3,y4,y5⟩:=F9.pcells (i:=i) (k:=k) hlt hlk
     have hne:=fun w=>neqP (W.ask i k) (W.rk i k).free (W.rk i k).held (W.rk i k).used w
     generalize W.ask i k=ak at x0 y0 hne
     generalize (W.rk i k).free=fr at x3 y3 hne
     generalize (W.rk i k).held=he at x4 y4 hne
     generalize (W.rk i k).used=us at x5 y5 hne
     have gd:=Tryz.guardPurse
     have NX:=hid A2.out
     clear e9 ep pcl E9 F9 f9 fp ocl A2 A
     go_wp2
     go_quiet (fail)
     go_wp2
     go_roundg (2-(k+1))
     case measure=>omega
     case rel=>exact ⟨k+1,by omega,by omega,by go_num,(show Aside _ from ⟨NX.out.os,NX.out.tape,NX.out.output,NX.out.size,NX.out.block⟩)⟩
    ·have hlkz:¬ (k:Int)<2:=by omega
     clear A
     go_wp2
     go_loopg [32] 3 (fun gg s32 wx=>∃ k:Nat,k<=3/\3-k<=gg/\s32=.int .i64 k/\Aside (Below w14.heap.size w14 wx))
     case atStart=>exact ⟨0,Nat.zero_le _,by omega,rfl,A2⟩
     case round =>
      clear A2
      obtain ⟨j,hj,hgj,rfl,A3⟩:=hrel
      by_cases hlj:j<3
      ·have hljz:(j:Int)<3:=by omega
       have hjn:¬ (j:Int)<0:=by omega
       have E9:=E14.out.grow A3.out
       have F9:=F14.out.grow A3.out
       obtain ⟨pb',po',e9,pcl⟩:=E9.stores (by omega)
       have ep:=Option.some.inj e9
       have ep1:sb=pb':=congrArg Addr.block ep
       have ep2:so=po':=congrArg Addr.off ep
       subst ep1
       subst ep2
       have cj:=pcl i hlt
       obtain ⟨ob',oo',f9,ocl⟩:=F9.stores (by omega)
       have fp:=Option.some.inj f9
       have fp1:ub=ob':=congrArg Addr.block fp
       have fp2:uo=oo':=congrArg Addr.off fp
       subst fp1
       subst fp2
       have dj:=ocl i hlt
       obtain ⟨f,hf⟩:=E9.gr i hlt
       obtain ⟨g,hgg⟩:=F9.gr i hlt
       have x0:wr.cell? ⟨G i,j,none⟩=some (f j):=hf.row.cell (i:=j) hlj
       have y0:wr.cell? ⟨G6 i,j,none⟩=some (g j):=hgg.row.cell (i:=j) hlj
       have bq:=fun q=>(show Below wr.heap.size wr (wr.drewN q) from ⟨rfl,rfl,rfl,Nat.le_refl _,fun _ _=>rfl⟩)
       have K:=hid (fun q=>keep.same_any (f j) (g j) (W.st i j) (by have:=(HS.out i).len j;omega) (wr.drewN q) ((hf.sg j hlj).1.below (bq q) (hf.sg j hlj).2) ((hgg.sg j hlj).1.below (bq q) (hgg.sg j hlj).2))
       obtain ⟨fp,fn,fc,ef⟩:=hf.slices j hlj
       obtain ⟨gp,gn,gc,eg⟩:=hgg.slices j hlj
       rw [ef] at x0 K
       rw [eg] at y0 K
       have NX:=hid A3.out
       clear e9 ep pcl E9 F9 f9 ocl A3 hf hgg ef eg bq
       go_wp2
       go_quiet ((go_at_call 16;exact Calls.quiet_of (K.out _)))
       go_wp2
       go_roundg (3-(j+1))
       case measure=>omega
       case rel=>exact ⟨j+1,by omega,by omega,by go_num,(show Aside _ from ⟨NX.out.os,NX.out.tape,NX.out.output,NX.out.size,NX.out.block⟩)⟩
      ·have hljz:¬ (j:Int)<3:=by omega
       go_wp2
       go_roundg (4-(i+1))
       case measure=>omega
       case rel=>exact ⟨i+1,by omega,by omega,by go_num,A3⟩
  ·have hltz:¬ (i:Int)<4:=by omega
   go_wp2
   go_ret
   exact ⟨rfl,BW.out _ (B14.out.trans (A.out.mono B14.out.size))⟩
end Go.Proofs.YtlohgiichckjmaaGreatDoor
