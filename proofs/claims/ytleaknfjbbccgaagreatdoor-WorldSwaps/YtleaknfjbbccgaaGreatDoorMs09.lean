/- Laid together. -/
import Derived.Laws.MakeOwn
import Derived.Deep.AppendLies
import Derived.Laws.AppendOwnNone
import Derived.Laws.BytesArg
import Derived.Deep.LoopGhost
import Derived.Deep.RegionHeld3
import Derived.Deep.Cut
import Derived.Laws.ResultCell
import Derived.Laws.Rows
import Derived.Test.YtleaknfjbbccgaaGreatDoorMs00
import Derived.Test.YtleaknfjbbccgaaGreatDoorMs03
import Derived.Test.YtleaknfjbbccgaaGreatDoorMs08
namespace Go.Proofs.YtleaknfjbbccgaaGreatDoor
open Plain
set_option maxHeartbeats 16000000
set_option maxRecDepth 100000
open Go.RowKit
namespace Plain
def zI4 (ws:List Int) (bl:List Nat) (j:Nat):Nat:=num (xM bl) (yU (ws.take j)) (ws.getD j 0).toNat
theorem zH0 (ws:List Int) (bl:List Nat) (j:Nat) (h:j<ws.length):(vals (xM bl) 0 (ws.map Int.toNat)).getD j 0=zI4 ws bl j:=by
 have e:ws=ws.take (j+1)++ws.drop (j+1):=(List.take_append_drop _ _).symm;have h2:=vals_take (xM bl) ws j h;have hl:(vals (xM bl) 0 ((ws.take j).map Int.toNat)).length=j:=by rw [vals_len,zL,zU];omega
 have e2:ws.map Int.toNat=(ws.take (j+1)).map Int.toNat++(ws.drop (j+1)).map Int.toNat:=by rw [<- List.map_append,List.take_append_drop]
 rw [e2,zF0,h2,yG,zA,zR (by omega),hl,Nat.sub_self];rfl
def yW (ws:List Int) (bl:List Nat):List Int:=(kM ws bl).map (fun x:Nat=>(x:Int))
theorem yF5 (ws:List Int) (bl:List Nat) (h:szE ws≠0):yS ws bl=szE ws/\yW ws bl=[]:=by
 have e:yS ws bl=szE ws:=by unfold yS;rw [if_neg h]
 exact ⟨e,by unfold yW kM;rw [if_neg (by omega)];rfl⟩
theorem yS6 (ws:List Int) (bl:List Nat) (h:szE ws=0) (hl:bl.length≠szN ws):yS ws bl=4/\yW ws bl=[]:=by
 have e:yS ws bl=4:=by unfold yS;rw [if_pos h,if_neg hl]
 exact ⟨e,by unfold yW kM;rw [if_neg (by omega)];rfl⟩
theorem yS7 (ws:List Int) (bl:List Nat) (h:szE ws=0) (hl:bl.length=szN ws) (hx:num (xM bl) (yU ws) (8*szN ws-yU ws)≠0):yS ws bl=4/\yW ws bl=[]:=by
 have e:yS ws bl=4:=by unfold yS;rw [if_pos h,if_pos hl,if_neg hx]
 exact ⟨e,by unfold yW kM;rw [if_neg (by omega)];rfl⟩
theorem xU4 (ws:List Int) (bl:List Nat) (h:szE ws=0) (hl:bl.length=szN ws) (hx:num (xM bl) (yU ws) (8*szN ws-yU ws)=0) :
  yS ws bl=0/\yW ws bl=(vals (xM bl) 0 (ws.map Int.toNat)).map (fun x:Nat=>(x:Int)):=by
 have e:yS ws bl=0:=by unfold yS;rw [if_pos h,if_pos hl,if_pos hx]
 exact ⟨e,by unfold yW kM;rw [if_pos e]⟩
theorem xN9 (ws:List Int) (k:Nat) (h:k<ws.length) (ha:ws.all okW=true):1<=ws.getD k 0/\ws.getD k 0<=60:=(vO _).1 (yM3 okW ws 0 k h ha)
theorem yS8 (ws:List Int) (k:Nat) (h:k<ws.length):yU (ws.take k)+(ws.getD k 0).toNat<=yU ws:=by
 have h1:=jG ws k h;have h2:=zI8 ws (k+1);omega
end Plain
theorem zA7 {w:World} {u:Value} {bl:List Nat} (h:SegB w u bl):∃ p c,u=.slice p bl.length c:=by
 rcases h with ⟨rfl,p,c,rfl⟩|⟨b,o,c,rfl,_⟩
 ·exact ⟨p,c,rfl⟩
 ·exact ⟨_,c,rfl⟩
theorem kT (z:Nat) (h:z≠0):((z:Int) != 0)=true:=by rw [bne_iff_ne];omega
theorem zL1 (v u:Value) (ws:List Int) (bl:List Nat) (hm:ws.length<=9223372036854775807) (w:World) (h:Seg w v ws) (hz:szE ws≠0) :
  Calls Tryz.prog 126 #[v,u] w fun e w'=>e=.returned (.tuple #[.slice none 0 0,.int .i64 (yS ws bl:Nat)])/\w'=w:=by
 have H:=hid h;have HM:=hid hm;have HP:=hid (yF5 ws bl hz);have HN:=hid (kT _ hz);clear h hm hz;go_enter Tryz.func126,Tryz.ntmps126
 go_wp2_with fail
 refine (vI v ws HM.out _ H.out).mono ?_;rintro e wx ⟨rfl,hx⟩;have hy:=hx.symm;clear hx;subst hy;have hne:=HN.out;generalize szE ws=z at *;generalize szN ws=z' at *;go_wp2;go_ret2
 exact ⟨by rw [HP.out.1];rfl,rfl⟩
theorem zL2 (v:Value) (p:Option Addr) (c:Nat) (ws:List Int) (bl:List Nat) (hm:ws.length<=9223372036854775807) (_hb:bl.length<=9223372036854775807) (w:World) (h:Seg w v ws) (hz:szE ws=0) (hl:bl.length≠szN ws) :
  Calls Tryz.prog 126 #[v,.slice p bl.length c] w fun e w'=>e=.returned (.tuple #[.slice none 0 0,.int .i64 (yS ws bl:Nat)])/\w'=w:=by
 have H:=hid h;have HM:=hid hm;have HZ:=hid hz;have HP:=hid (yS6 ws bl hz hl);have hne:((bl.length:Int) != (szN ws:Int))=true:=by rw [bne_iff_ne];omega
 have HN:=hid hne;clear h hm hz hl hne;go_enter Tryz.func126,Tryz.ntmps126
 go_wp2_with fail
 refine (vI v ws HM.out _ H.out).mono ?_;rintro e wx ⟨rfl,hx⟩;have hy:=hx.symm;clear hx;subst hy;rw [HZ.out];have hne:=HN.out;generalize szN ws=z' at *;go_wp2;go_ret2
 exact ⟨by rw [HP.out.1];rfl,rfl⟩
theorem vJ (p p2:Option Addr) (c c2:Nat) (w:World) :
  Calls Tryz.prog 126 #[.slice p 0 c,.slice p2 0 c2] w fun e w'=>e=.returned (.tuple #[.slice (some ⟨w.heap.size,0,none⟩) 0 0,.int .i64 0])/\Below w.heap.size w w':=by
 have hmk:∀ w:World,(Instr.makeSlice 22 (.int .i64 0) (.int .i64 0)).run Tryz.prog w=.ok (.slice (some ⟨w.heap.size,0,none⟩) 0 0) (w.alloc (.cells (madeCells #[.int .i64 0] 0) 3)) :=
  run_make_row' (P:=Tryz.prog) 22 3 (.int .i64 0) 8 Tryz.underlying22 Tryz.infoInt rfl .i64 .i64 0 (by omega) (by omega)
 go_enter Tryz.func126,Tryz.ntmps126
 go_wp2_with fail
 refine (zN6 p c _).mono ?_;rintro e wx ⟨rfl,hx⟩;have hy:=hx.symm;clear hx;subst hy;rw [show szN []=0 from rfl,show szE []=0 from rfl];go_wp2;refine wp_loop_rounds 1 ?_;rw [rounds_succ]
 go_wp2_with fail
 refine (take_zero _ 0 (by omega) _).mono ?_;rintro e wx ⟨rfl,hx⟩;have hy:=hx.symm;clear hx;subst hy;go_wp2;go_ret2
 exact ⟨rfl,yO.alloc yN _⟩
theorem yS9 {wr w:World} {k n q:Nat} {ws:List Int} {bl:List Nat} {x:Nat} (hx:zI4 ws bl k=x)
  (hrow:wr.rowIs w.heap.size 3 n (fun j=>if j<k then .int .i64 (zI4 ws bl j:Nat) else .int .i64 0)) (hbel:Below w.heap.size w wr) :
  ((
   wr.drewN q).setCell ⟨w.heap.size,k,none⟩ (.int .i64 x)).rowIs w.heap.size 3 n (fun j=>if j<k+1 then .int .i64 (zI4 ws bl j:Nat) else .int .i64 0) /\
   Below w.heap.size w ((wr.drewN q).setCell ⟨w.heap.size,k,none⟩ (.int .i64 x)):=by
 have hrow':(wr.drewN q).rowIs w.heap.size 3 n (fun j=>if j<k then .int .i64 (zI4 ws bl j:Nat) else .int .i64 0):=hrow;refine ⟨(hrow'.set k (.int .i64 x)).congr fun j _=>?_,(below_drewN hbel q).setCell (p:=⟨w.heap.size,k,none⟩) yN _⟩;by_cases c:j=k
 ·subst c;rw [if_pos rfl,if_pos (by omega),hx]
 ·rw [if_neg c]
  by_cases d:j<k
  ·rw [if_pos d,if_pos (by omega)]
  ·rw [if_neg d,if_neg (by omega)]
open Go.Shelf
theorem Tryz.infoFieldQ:(Tryz.prog.info? 218).map (fun i=>(i.zero,i.size,i.bytes))=some (some (.agg #[.int .i64 0,.int .i64 0]),2,16):=by kernel_rfl
theorem qE3 (m:Nat) (hm:m<=1000):∃ cur:Array Value,cur.size=m*2/\(∀ i,i<m*2->cur[i]?=some (.int .i64 0))/\∀ w:World,(Instr.makeSlice 216 (.int .i64 (m:Int)) (.int .i64 (m:Int))).run Tryz.prog w=.ok (.slice (some ⟨w.heap.size,0,none⟩) m m) (w.alloc (.cells cur 218)):=by
 obtain ⟨i,hi,hzz⟩:=Option.map_eq_some_iff.1 Tryz.infoFieldQ;simp only [Prod.mk.injEq] at hzz;obtain ⟨hz,hs,hb⟩:=hzz;refine ⟨madeCells #[.int .i64 0,.int .i64 0] (m*2),size_madeCells _ _,fun i hi=>?_,fun w=>?_⟩
 ·have h8:i%2=0\/i%2=1:=by omega
  unfold madeCells;rw [Array.getElem?_map,Array.getElem?_eq_getElem (by simpa using hi)];simp only [Array.getElem_range,Option.map_some,List.size_toArray,List.length_cons,List.length_nil];rcases h8 with h|h<;>rw [h]<;>rfl
 ·have hr:=run_make (P:=Tryz.prog) w 216 218 i _ Tryz.underlying216 hi hz .i64 .i64 m m (by omega) (Int.le_refl _) (by rw [hb];omega) (by omega)
  simp only [Int.toNat_natCast,hs] at hr;exact hr
def fldF (wd:Int) (vs:List Int) (k j:Nat):Value:=if j<k*2 then (if j%2=0 then .int .i64 wd else .int .i64 (vs.getD (j/2) 0)) else .int .i64 0
def fldL (wd:Int) (vs:List Int):List (Int × Int):=vs.map fun x=>(wd,x)
theorem zO0 (wd:Int) (vs:List Int):(fldL wd vs).length=vs.length:=by simp [fldL]
theorem xU5 (wd:Int) (vs:List Int) (j:Nat) (h:j<vs.length):(fldL wd vs).getD j (0,0)=(wd,vs.getD j 0):=by simp [fldL,h]
theorem xU6 {w:World} {g:Nat} {wd:Int} {vs:List Int} (h:w.rowIs g 218 (vs.length*2) (fldF wd vs vs.length)) (c:Nat):SegF w (.slice (some ⟨g,0,none⟩) vs.length c) (fldL wd vs):=by
 refine .inr ⟨g,0,c,by rw [zO0],fun j hj=>?_⟩;rw [zO0] at hj;rw [xU5 wd vs j hj,Nat.zero_add];refine ⟨?_,?_⟩
 ·rw [h.cell (i:=j*2) (by omega)]
  unfold fldF;rw [if_pos (by omega),if_pos (by omega)]
 ·rw [h.cell (i:=j*2+1) (by omega)]
  unfold fldF;rw [if_pos (by omega),if_neg (by omega),show (j*2+1)/2=j by omega]
theorem xH0 {wr:World} {g k:Nat} {wd x:Int} {vs:List Int} (hx:vs.getD k 0=x) (h:wr.rowIs g 218 (vs.length*2) (fldF wd vs k)) :
  ((wr.setCell ⟨g,k*2,none⟩ (.int .i64 wd)).setCell ⟨g,k*2+1,none⟩ (.int .i64 x)).rowIs g 218 (vs.length*2) (fldF wd vs (k+1)):=by
 refine ((h.set (k*2) (.int .i64 wd)).set (k*2+1) (.int .i64 x)).congr fun j _=>?_;unfold fldF;by_cases e1:j=k*2+1
 ·subst e1
  rw [if_pos rfl,if_pos (by omega),if_neg (by omega),show (k*2+1)/2=k by omega,hx]
 ·rw [if_neg e1]
  by_cases e0:j=k*2
  ·subst e0
   rw [if_pos rfl,if_pos (by omega),if_pos (by omega)]
  ·rw [if_neg e0]
   by_cases e2:j<k*2
   ·simp only [if_pos e2,if_pos (show j<(k+1)*2 by omega)]
   ·simp only [if_neg e2,if_neg (show ¬ j<(k+1)*2 by omega)]
theorem yT0 (wd:Int) (v:Value) (vs:List Int) (hm:vs.length<=1000) (w:World) (hs:Seg w v vs) (hl:Lies w.heap.size v) :
  Calls Tryz.prog 121 #[.int .i64 wd,v] w fun e w'=>∃ u,e=.returned (.tuple #[u,.int .i64 (kL (fldL wd vs):Nat)])/\SegB w' u (qR (fldL wd vs))/\Lies w'.heap.size u/\Below w.heap.size w w':=by
 obtain ⟨p,c,rfl⟩:=yX hs;have HS:=hid (zD3 hs);have HL:=hid hl;obtain ⟨cur,sz,hz,hmk⟩:=qE3 vs.length hm;have R0:=hid (show (w.alloc (.cells cur 218)).rowIs w.heap.size 218 (vs.length*2) (fldF wd vs 0) from ⟨cur,yF _ _,sz,fun i hi=>by unfold fldF;rw [if_neg (by omega)];exact hz i hi⟩);have HP:=hid (fun (u:Value) (W:World) (h:SegF W u (fldL wd vs)) (hv:Lies W.heap.size u)=>xG9 u (fldL wd vs) (by rw [zO0];omega) W h hv);clear hs hl sz hz;go_enter Tryz.func121,Tryz.ntmps121
 go_wp2;clear hmk
 go_loopg [7,8,14] vs.length (fun gg _ _ s14 wr=>∃ k:Nat,k<=vs.length/\vs.length-k<=gg/\s14=.int .i64 k/\Aside (wr.rowIs w.heap.size 218 (vs.length*2) (fldF wd vs k))/\Aside (Below w.heap.size w wr))
 case atStart=>exact ⟨0,zG _,by omega,rfl,R0.out,(show Aside _ from yO.alloc yN _)⟩
 case round =>
  obtain ⟨k,hk,hg,rfl,A,BW⟩:=hrel;by_cases hlt:k<vs.length
  ·have hltz:(k:Int)<(vs.length:Int):=by omega
   obtain ⟨b,off,rfl,hc⟩:=HS.out (by omega);have c0:wr.cell? ⟨b,off+k,none⟩=some (.int .i64 (vs.getD k 0)):=(BW.out.cell (p:=⟨b,off+k,none⟩) (HL.out ⟨b,off,none⟩ vs.length c rfl (by omega))).trans (hc k hlt);clear hc;generalize hy:vs.getD k 0=y at c0;have HY:=hid hy;clear hy;have f0:=A.out.frozen (k*2);have f1:=A.out.frozen (k*2+1);have l0:=A.out.cell (i:=k*2) (by omega);have l1:=A.out.cell (i:=k*2+1) (by omega);have hlt2:=A.out.lt;have R:=hid (xH0 HY.out A.out);have RB:=hid ((BW.out.setCell (p:=⟨w.heap.size,k*2,none⟩) yN (.int .i64 wd)).setCell (p:=⟨w.heap.size,k*2+1,none⟩) yN (.int .i64 y));go_wp2
   go_roundg (vs.length-(k+1))
   case measure=>omega
   case rel=>exact ⟨k+1,by omega,by omega,by go_num,(show Aside _ from R.out),(show Aside _ from RB.out)⟩
  ·have hltz:¬ (k:Int)<(vs.length:Int):=by omega
   have ek:k=vs.length:=by omega
   subst ek;have K:=HP.out _ wr (xU6 A.out vs.length) (qF A.out.lt)
   go_wp2_with fail
   refine K.mono ?_;rintro e w' ⟨u,rfl,h1,h2,h3⟩;have R:=hid (And.intro h1 (And.intro h2 (BW.out.trans (h3.mono BW.out.size))));clear h1 h2 h3 K;go_wp2;go_ret2
   exact ⟨u,rfl,R.out⟩
namespace Plain
def zH1 (c:Cf) (l:List Int):Nat :=
 if mayC c=true then (if l.length=c.ms.length then (if l.all cntB=true then kL (fldL 21 l) else 12) else 1) else 4
def xV (c:Cf) (l:List Int):List Nat :=
 if mayC c=true then (if l.length=c.ms.length then (if l.all cntB=true then qR (fldL 21 l) else []) else []) else []
theorem yT1 {c:Cf} {l:List Int} (h:mayC c=false):zH1 c l=4/\xV c l=[]:=by unfold zH1 xV;rw [h];exact ⟨rfl,rfl⟩
theorem yT2 {c:Cf} {l:List Int} (h:mayC c=true) (h1:l.length≠c.ms.length):zH1 c l=1/\xV c l=[]:=by unfold zH1 xV;rw [if_pos h,if_neg h1,if_pos h,if_neg h1];exact ⟨rfl,rfl⟩
theorem yT3 {c:Cf} {l:List Int} (h:mayC c=true) (h1:l.length=c.ms.length) (h2:l.all cntB=false):zH1 c l=12/\xV c l=[]:=by
 have h3:¬ l.all cntB=true:=by rw [h2];decide
 unfold zH1 xV;rw [if_pos h,if_pos h1,if_neg h3,if_pos h,if_pos h1,if_neg h3];exact ⟨rfl,rfl⟩
theorem yT4 {c:Cf} {l:List Int} (h:mayC c=true) (h1:l.length=c.ms.length) (h2:l.all cntB=true):zH1 c l=kL (fldL 21 l)/\xV c l=qR (fldL 21 l):=by
 unfold zH1 xV;rw [if_pos h,if_pos h1,if_pos h2,if_pos h,if_pos h1,if_pos h2];exact ⟨rfl,rfl⟩
def askE (c:Cf) (b:List Nat):Nat :=
 if mayC c=true then (if yS (List.replicate c.ms.length 21) b=0 then (if (yW (List.replicate c.ms.length 21) b).all cntB=true then 0 else 4) else 4) else 4
def askV (c:Cf) (b:List Nat):List Int :=
 if mayC c=true then (if yS (List.replicate c.ms.length 21) b=0 then (if (yW (List.replicate c.ms.length 21) b).all cntB=true then yW (List.replicate c.ms.length 21) b else []) else []) else []
theorem xH1 {c:Cf} {b:List Nat} (h:mayC c=false):askE c b=4/\askV c b=[]:=by unfold askE askV;rw [h];exact ⟨rfl,rfl⟩
theorem qE4 {c:Cf} {b:List Nat} (h:mayC c=true) (h1:yS (List.replicate c.ms.length 21) b≠0):askE c b=4/\askV c b=[]:=by unfold askE askV;rw [if_pos h,if_neg h1,if_pos h,if_neg h1];exact ⟨rfl,rfl⟩
theorem xH2 {c:Cf} {b:List Nat} (h:mayC c=true) (h1:yS (List.replicate c.ms.length 21) b=0) (h2:(yW (List.replicate c.ms.length 21) b).all cntB=false):askE c b=4/\askV c b=[]:=by
 have h3:¬ (yW (List.replicate c.ms.length 21) b).all cntB=true:=by rw [h2];decide
 unfold askE askV;rw [if_pos h,if_pos h1,if_neg h3,if_pos h,if_pos h1,if_neg h3];exact ⟨rfl,rfl⟩
theorem xO0 {c:Cf} {b:List Nat} (h:mayC c=true) (h1:yS (List.replicate c.ms.length 21) b=0) (h2:(yW (List.replicate c.ms.length 21) b).all cntB=true):askE c b=0/\askV c b=yW (List.replicate c.ms.length 21) b:=by
 unfold askE askV;rw [if_pos h,if_pos h1,if_pos h2,if_pos h,if_pos h1,if_pos h2];exact ⟨rfl,rfl⟩
theorem qE5 (ws:List Int) (bl:List Nat):(yW ws bl).length<=1000000:=by
 by_cases hz:szE ws=0
 ·have:=(jN ws hz).1
  unfold yW kM;rw [zL];split
  ·rw [vals_len,zL];omega
  ·simp
 ·rw [(yF5 ws bl hz).2];simp
end Plain
def xU7 (c:Cf) (l:List Int) (w:World) (e:Ending) (w':World):Prop :=
 ∃ u,e=.returned (.tuple #[u,.int .i64 (zH1 c l:Nat)])/\SegB w' u (xV c l)/\Lies w'.heap.size u/\Below w.heap.size w w'
theorem zO1 {c:Cf} {l:List Int} {w w':World} {E:Nat} (h:zH1 c l=E/\xV c l=[]) (b:Below w.heap.size w w'):xU7 c l w (.returned (.tuple #[.slice none 0 0,.int .i64 (E:Nat)])) w' :=
 ⟨_,by rw [h.1],by rw [h.2];exact SegB.nil _,yT _ _ _,b⟩
structure BcI (w0 w:World) (T:Nat) (c:Cf) (lv mv:Value):Prop where
 cc:qY w T c lv mv
 ci:CfI w c lv mv
 be:Below w0.heap.size w0 w
theorem BcI.start {w:World} {c:Cf} {lv mv:Value} (h:CfI w c lv mv):BcI w (w.alloc (boxC c lv mv)) w.heap.size c lv mv :=
 have b:Below w.heap.size w (w.alloc (boxC c lv mv)):=yO.alloc yN _
 ⟨qY.start w c lv mv,h.grow b,b⟩
theorem BcI.grow {w0 w w':World} {T:Nat} {c:Cf} {lv mv:Value} (h:BcI w0 w T c lv mv) (b:Below w.heap.size w w'):BcI w0 w' T c lv mv :=
 ⟨h.cc.below b h.cc.lt,h.ci.grow b,h.be.trans (b.mono h.be.size)⟩
theorem qE6 (c:Cf) (lv mv v:Value) (l:List Int) (hm:l.length<=9223372036854775807) (w:World) (hI:CfI w c lv mv) (hs:Seg w v l) (hl:Lies w.heap.size v) :
  Calls Tryz.prog 89 #[cfV c lv mv,v] w (xU7 c l w):=by
 have B0:=hid (BcI.start hI);have HS:=hid (fun (X:World) (b:Below w.heap.size w X)=>And.intro (hs.below b hl) (hl.mono b.size));obtain ⟨p,cp,rfl⟩:=yX hs;obtain ⟨lp,lc,rfl⟩:=yX hI.sl;obtain ⟨mp,mc,rfl⟩:=yX hI.sm;have KM:=xG0 c (.slice lp c.ls.length lc) (.slice mp c.ms.length mc) (w.alloc (boxC c (.slice lp c.ls.length lc) (.slice mp c.ms.length mc))) B0.out.ci;clear hs hl hI;obtain ⟨n,ls,t,ms,cap⟩:=c;dsimp only at *;cases hmay:mayC ⟨n,ls,t,ms,cap⟩ with
 | false =>
  rw [hmay] at KM;have HE:=hid (yT1 (l:=l) hmay);clear hmay;go_enter Tryz.func89,Tryz.ntmps89
  go_wp2_with fail
  refine KM.mono ?_;rintro e w1 ⟨rfl,b1⟩;have B1:=hid (B0.out.grow b1);clear B0 KM b1;go_wp2;go_ret2
  exact zO1 HE.out B1.out.be
 | true =>
  rw [hmay] at KM;have HM:=hid hmay;have h3:=hid ((xJ hmay).2.2.2.2.1);clear hmay;by_cases hlen:l.length=ms.length
  ·have K2:=hid (fun (X:World) (b:Below w.heap.size w X)=>vH (.slice p l.length cp) l X hm (HS.out X b).1 (HS.out X b).2)
   have hne:((l.length:Int) != (ms.length:Int))=false:=by rw [hlen];simp
   have HLE:=hid hlen;clear hlen;cases hc:l.all cntB with
   | false =>
    have HE:=hid (yT3 HM.out (c:=⟨n,ls,t,ms,cap⟩) HLE.out hc);simp only [hc] at K2;clear hc;go_enter Tryz.func89,Tryz.ntmps89
    go_wp2_with fail
    refine KM.mono ?_;rintro e w1 ⟨rfl,b1⟩;have B1:=hid (B0.out.grow b1);obtain ⟨c0,c1,c2,c3,c4⟩:=B1.out.cc;clear B0 KM b1
    go_wp2_with fail
    refine (K2.out w1 B1.out.be).mono ?_;rintro e w2 ⟨rfl,b2⟩;have B2:=hid (B1.out.grow b2);clear B1 b2 c0 c1 c2 c3 c4;go_wp2;go_ret2
    exact zO1 HE.out B2.out.be
   | true =>
    have HE:=hid (yT4 HM.out (c:=⟨n,ls,t,ms,cap⟩) HLE.out hc);simp only [hc] at K2;clear hc;have K3:=hid (fun (X:World) (b:Below w.heap.size w X)=>yT0 21 (.slice p l.length cp) l (by have:=h3.out;have:=HLE.out;dsimp only at *;omega) X (HS.out X b).1 (HS.out X b).2);go_enter Tryz.func89,Tryz.ntmps89
    go_wp2_with fail
    refine KM.mono ?_;rintro e w1 ⟨rfl,b1⟩;have B1:=hid (B0.out.grow b1);obtain ⟨c0,c1,c2,c3,c4⟩:=B1.out.cc;clear B0 KM b1
    go_wp2_with fail
    refine (K2.out w1 B1.out.be).mono ?_;rintro e w2 ⟨rfl,b2⟩;have B2:=hid (B1.out.grow b2);clear B1 b2 c0 c1 c2 c3 c4
    go_wp2_with fail
    refine (K3.out w2 B2.out.be).mono ?_;rintro e w3 ⟨u,rfl,g1,g2,g3⟩;have R:=hid (show xU7 ⟨n,ls,t,ms,cap⟩ l w (.returned (.tuple #[u,.int .i64 (kL (fldL 21 l):Nat)])) w3 from ⟨u,by rw [HE.out.1],by rw [HE.out.2];exact g1,g2,B2.out.be.trans (g3.mono B2.out.be.size)⟩);clear g1 g2 g3;go_wp2;go_ret2
    exact R.out
  ·have hne:((l.length:Int) != (ms.length:Int))=true:=by rw [bne_iff_ne];omega
   have HE:=hid (yT2 HM.out (c:=⟨n,ls,t,ms,cap⟩) hlen);go_enter Tryz.func89,Tryz.ntmps89
   go_wp2_with fail
   refine KM.mono ?_;rintro e w1 ⟨rfl,b1⟩;have B1:=hid (B0.out.grow b1);obtain ⟨c0,c1,c2,c3,c4⟩:=B1.out.cc;clear B0 KM b1;go_wp2;go_ret2
   exact zO1 HE.out B1.out.be
namespace Plain
def zC2 (e:En):Nat:=8589934592+(if e.gone=true then 4294967296 else 0)+e.value.toNat*16777216+e.time.toNat*8+e.who.toNat
def fitE (e:En):Bool:=decide (e.key<8)&&decide (e.value<=255)
def xU (l:List En) (k:Nat):Nat:=match look k l with
 | some e=>zC2 e
 | none=>0
def kV (l:List En):List Int:=(List.range 8).map fun k=>((xU l k:Nat):Int)
theorem zL3 (l:List En):(kV l).length=8:=by simp [kV]
theorem yT5 (l:List En) {k:Nat} (h:k<8):(kV l).getD k 0=((xU l k:Nat):Int):=by simp [kV,h]
theorem yT6 {e:En} (h:mayB e=true):(0<=e.key/\e.key<=1048576)/\(0<=e.value/\e.value<=1048576)/\(0<=e.time/\e.time<=1048576)/\(0<=e.who/\e.who<8)/\(e.gone=true->e.value=0):=by
 unfold mayB at h;exact of_decide_eq_true h
theorem yT7 {e:En} (h:fitE e=true):e.key<8/\e.value<=255:=by
 unfold fitE at h;simpa using h
theorem xU8 {e:En} (h:mayB e=true) (hf:fitE e=true):zC2 e<17179869184:=by
 have h1:=yT6 h;have h2:=yT7 hf;unfold zC2;split<;>omega
theorem yT8 {l:List En} (h:∀ e∈l,mayB e=true) (hf:∀ e∈l,fitE e=true) (k:Nat):xU l k<17179869184:=by
 unfold xU;cases hl:look k l with
 | none=>simp
 | some e=>exact xU8 (h e (kZ hl).2) (hf e (kZ hl).2)
def jT (st:List (List En)) (js:List Nat):List Int:=js.flatMap fun i=>kV (st.getD i [])
theorem zH2 (st:List (List En)) (js:List Nat):(jT st js).length=js.length*8:=by
 induction js with
 | nil=>rfl
 | cons j js ih =>
  have:jT st (j :: js)=kV (st.getD j [])++jT st js:=rfl;rw [this,zD,ih,zL3,List.length_cons];omega
theorem yK9 (st:List (List En)) (js:List Nat) (j:Nat):jT st (js++[j])=jT st js++kV (st.getD j []):=by simp [jT]
def zI5 (st:List (List En)) (js:List Nat):Bool:=js.all fun i=>(st.getD i []).all fitE
theorem yT9 {vs:List Int} (hl:vs.length<=32) (h:∀ v∈vs,0<=v/\v<17179869184) :
  kL (fldL 34 vs)=0/\qR (fldL 34 vs)=bytesOf (rbits ((fldL 34 vs).map nat2)) ((34*vs.length+7)/8):=by
 have hw:(fldL 34 vs).map Prod.fst=List.replicate vs.length 34:=by
  unfold fldL;rw [List.map_map];induction vs with
  | nil=>rfl
  | cons v vs ih =>
   rw [List.map_cons,ih (by simp at hl;omega) (fun x hx=>h x (yC _ hx)),List.length_cons,List.replicate_succ];rfl
 have ha:(List.replicate vs.length (34:Int)).all okW=true:=by
  rw [zT];intro x hx;rw [List.eq_of_mem_replicate hx];rfl
 have hz:=zS0 (List.replicate vs.length 34) (by rw [yA];omega) ha;have hf:(fldL 34 vs).all fitB=true:=by
  rw [zT];intro f hf;obtain ⟨v,hv,rfl⟩:=zZ.1 hf;have:=h v hv;unfold fitB;simp only [Bool.and_eq_true,decide_eq_true_eq];refine ⟨this.1,?_⟩;have e:(2:Int)^(34:Int).toNat=17179869184:=by decide
  rw [e];exact this.2
 have hb:yU (List.replicate vs.length (34:Int))=34*vs.length:=by
  unfold yU;rw [List.map_replicate,List.sum_replicate_nat];show vs.length*34=_;omega
 obtain ⟨h1,h2⟩:=zE2 (fldL 34 vs) (by rw [hw];exact hz.1) hf;exact ⟨h1,by rw [h2,hw,hz.2,hb]⟩
end Plain
namespace Plain
theorem zV4 (a i b:Nat) (h:b<2^i):a*2^i ||| b=a*2^i+b:=by
 rw [<- Nat.shiftLeft_eq];exact (Nat.shiftLeft_add_eq_or_of_lt h a).symm
theorem xU9 (R:Nat) (h:R<4294967296):(8589934592+R) ||| 4294967296=12884901888+R:=by
 have e1:(8589934592+R:Nat)=8589934592 ||| R:=(zV4 2 32 R h).symm;have e2:(12884901888+R:Nat)=12884901888 ||| R:=(zV4 3 32 R h).symm;rw [e1,e2,Nat.or_assoc,Nat.or_comm R,<- Nat.or_assoc];rfl
theorem yU0 (v t o:Nat) (hv:v<=255) (ht:t<=1048576) (ho:o<8) :
  bits .or .i64 (bits .or .i64 (bits .or .i64 8589934592 ((v:Int)*16777216)) ((t:Int)*8)) (o:Int)=((8589934592+v*16777216+t*8+o:Nat):Int):=by
 have e0:((v:Int)*16777216)=((v*16777216:Nat):Int):=by simp
 have e1:((t:Int)*8)=((t*8:Nat):Int):=by simp
 rw [e0,e1,show (8589934592:Int)=((8589934592:Nat):Int) from rfl,zJ2 _ _ (by omega) (by omega),show (8589934592 ||| v*16777216:Nat)=8589934592+v*16777216 from zV4 1 33 _ (by omega),
  zJ2 _ _ (by omega) (by omega),show (8589934592+v*16777216 ||| t*8:Nat)=8589934592+v*16777216+t*8 by rw [show (8589934592+v*16777216:Nat)=(512+v)*2^24 by omega];exact zV4 _ 24 _ (by omega),
  zJ2 _ _ (by omega) (by omega),show (8589934592+v*16777216+t*8 ||| o:Nat)=8589934592+v*16777216+t*8+o by rw [show (8589934592+v*16777216+t*8:Nat)=((512+v)*2097152+t)*2^3 by omega];exact zV4 _ 3 _ (by omega)]
theorem xH3 (v t o:Nat) (hv:v<=255) (ht:t<=1048576) (ho:o<8) :
  bits .or .i64 (bits .or .i64 (bits .or .i64 (bits .or .i64 8589934592 ((v:Int)*16777216)) ((t:Int)*8)) (o:Int)) 4294967296=((12884901888+v*16777216+t*8+o:Nat):Int):=by
 rw [yU0 v t o hv ht ho,show (4294967296:Int)=((4294967296:Nat):Int) from rfl,zJ2 _ _ (by omega) (by omega)];have:=xU9 (v*16777216+t*8+o) (by omega);rw [show 8589934592+v*16777216+t*8+o=8589934592+(v*16777216+t*8+o) by omega,this];congr 1
 omega
end Plain
theorem xH4 (x:En) (hm:mayB x=true) (hf:fitE x=true) (w:World) :
  Calls Tryz.prog 147 #[aggE x] w fun e w'=>e=.returned (.int .i64 (zC2 x:Nat))/\w'=w.alloc (boxE x):=by
 have h1:=yT6 hm;have h2:=yT7 hf;clear hm hf;have HR:=hid (show zC2 x=8589934592+(if x.gone=true then 4294967296 else 0)+x.value.toNat*16777216+x.time.toNat*8+x.who.toNat from rfl);obtain ⟨k,v,t,o,g⟩:=x;dsimp only at *;obtain ⟨v,rfl⟩:=zW h1.2.1.1;obtain ⟨t,rfl⟩:=zW h1.2.2.1.1;obtain ⟨o,rfl⟩:=zW h1.2.2.2.1.1;have hv:(v:Int)<=255:=h2.2;have ht:(t:Int)<=1048576:=h1.2.2.1.2;have ho:(o:Int)<8:=h1.2.2.2.1.2;clear h1 h2;have E1:=hid (yU0 v t o (by omega) (by omega) (by omega));have E2:=hid (xH3 v t o (by omega) (by omega) (by omega));cases g with
 | false =>
  go_enter Tryz.func147,Tryz.ntmps147
  go_wp2;go_ret
  refine ⟨?_,rfl⟩;show Ending.returned (.int .i64 (bits .or .i64 (bits .or .i64 (bits .or .i64 8589934592 ((v:Int)*16777216)) ((t:Int)*8)) (o:Int)))=_;rw [E1.out,HR.out];rfl
 | true =>
  go_enter Tryz.func147,Tryz.ntmps147
  go_wp2;go_ret
  refine ⟨?_,rfl⟩;show Ending.returned (.int .i64 (bits .or .i64 (bits .or .i64 (bits .or .i64 (bits .or .i64 8589934592 ((v:Int)*16777216)) ((t:Int)*8)) (o:Int)) 4294967296))=_;rw [E2.out,HR.out];rfl
theorem zH3 {w:World} {base n:Nat} {v:Value} {xs:List Value} {l:List Int} (h:w.ownsRow base 3 1 v n xs) (hn:n=l.length) (hx:xs=l.map (Value.int .i64)):Seg w v l:=by
 subst hn hx;rcases h.2 with ⟨rfl,e⟩|⟨g,cap,cur,rfl,_,_,_,_,_,_⟩
 ·exact .inl ⟨zP.1 e,none,0,rfl⟩
 ·refine .inr ⟨g,0,cap,rfl,fun j hj=>?_⟩
  have:=h.cells (g:=g) rfl j (.int .i64 (l.getD j 0)) (by simp [hj]);by_cases h0:j=0
  ·subst h0;simpa [Addr.add] using this
  ·simpa [Addr.add,h0] using this
theorem zV5 {w:World} {base n e:Nat} {v:Value} {xs:List Value} (h:w.ownsRow base e 1 v n xs):Lies w.heap.size v:=by
 intro p k c hv hk;subst hv;exact (h.lt p.block rfl).2
theorem xZ {w w':World} {B e s n:Nat} {v:Value} {xs:List Value} (h:w.ownsRow B e s v n xs) (b:Below w.heap.size w w'):w'.ownsRow B e s v n xs:=by
 refine ⟨h.1,?_⟩;rcases h.2 with h0|⟨g,cap,cur,e1,h1,h2,h3⟩
 ·exact .inl h0
 ·exact .inr ⟨g,cap,cur,e1,h1,(b.block g (zJ.1 h2).1).trans h2,h3⟩
theorem zO2 {V:World} {t e B n g s by' k:Nat} {v z:Value} {xs ys:List Value} (ht:Tryz.prog.underlying t=some (.slice e)) (hinfo:(Tryz.prog.info? e).map (fun i=>(i.zero,i.size,i.bytes))=some (some z,s,by')) (hz:z.cells.size=s) (hs:0<s) (hy:by'<=1000)
  (hown:V.ownsRow B e s v n xs) (hb:n+k<=100000) (hB:B<=V.heap.size) (hk:1<=k) (hl:ys.length=k*s) (h1:∀ u∈ys,u.oneCell'=true) (hc:∀ j u,ys[j]?=some u->V.cell? ⟨g,j,none⟩=some u) (cp:Nat) :
  ∃ p c U,(Builtin.append_ #[t,t] t #[v,.slice (some ⟨g,0,none⟩) k cp]).run Tryz.prog V=.ok (.slice p (n+k) c) U/\U.ownsRow B e s (.slice p (n+k) c) (n+k) (xs++ys)/\V.grownBy U v.ownBlock:=by
 obtain ⟨j0,hi,hzz⟩:=Option.map_eq_some_iff.1 hinfo;simp only [Prod.mk.injEq] at hzz;obtain ⟨jz0,jz1,jz2⟩:=hzz;have hbb:(n+k)*by'<=140737488355328:=zI (Nat.mul_le_mul hb hy) (by decide);obtain ⟨v',U,h2,h3,h4,_⟩:=run_append_own (P:=Tryz.prog) V B t t e j0 z s by' ht hi jz0 jz1 jz2 hz hs v n xs hown ⟨g,0,none⟩ k cp ys
  hl (fun j u hu=>by rw [zS1,Nat.zero_add];exact hc j u hu) h1 (by unfold maxLen;omega) hbb hB
 rcases h3.2 with ⟨_,h0⟩|⟨g',cap,cur,rfl,_⟩
 ·omega
 ·exact ⟨_,_,U,h2,h3,h4⟩
theorem xV0 (x:Int) (w:World):∀ j u,[Value.int .i64 x][j]?=some u->(w.alloc (.cells #[.int .i64 x] 3)).cell? ⟨w.heap.size,j,none⟩=some u:=by
 intro j u hu
 match j,hu with
 | 0,hu=>simp at hu;subst hu;rw [zM _ _ _ _ rfl];rfl
theorem xV1 {w wr:World} {B k:Nat} {v:Value} {l:List Int} (x:Int) (o:wr.ownsRow B 3 1 v k (l.map (Value.int .i64))) (hk:k<=10000) (hB:B=w.heap.size) (b:Below w.heap.size w wr) :
  ∃ q d U,(Builtin.append_ #[22,22] 22 #[v,.slice (some ⟨wr.heap.size,0,none⟩) 1 1]).run Tryz.prog (wr.alloc (.cells #[.int .i64 x] 3))=.ok (.slice q (k+1) d) U /\
   U.ownsRow B 3 1 (.slice q (k+1) d) (k+1) ((l++[x]).map (Value.int .i64))/\Below w.heap.size w U/\(wr.alloc (.cells #[.int .i64 x] 3)).grownBy U v.ownBlock:=by
 have bA:Below wr.heap.size wr (wr.alloc (.cells #[.int .i64 x] 3)):=yO.alloc yN _;have hBs:B<=wr.heap.size:=by rw [hB];exact b.size
 obtain ⟨q,d,U,r1,r2,r3⟩:=zO2 Tryz.underlying22 Tryz.infoInt rfl (by decide) (by decide) (xZ o bA) (show k+1<=100000 by omega) (zI hBs bA.size) (Nat.le_refl 1) (k:=1) (ys:=[.int .i64 x]) rfl (by intro u hu;simp at hu;subst hu;rfl) (xV0 x wr) 1;refine ⟨q,d,U,r1,?_,(b.trans (bA.mono b.size)).grown r3 (by have:=bA.size;have:=b.size;omega) (fun j hj=>by have:=((xZ o bA).lt j hj).1;rw [hB] at this;exact this),r3⟩;rw [List.map_append];exact r2
theorem qE7 (b k:Nat) (hk:k<8) (w:World) (h:w.cell? ⟨b,0,none⟩=some (.int .i64 (k:Int))) :
  Calls Tryz.prog 148 #[.slice (some ⟨b,0,none⟩) 1 1] w fun e w'=>e=.returned (.tuple #[.int .i64 ((2^k:Nat):Int),.int .i64 0])/\w'=w:=by
 have:k=0\/k=1\/k=2\/k=3\/k=4\/k=5\/k=6\/k=7:=by omega
 rcases this with rfl|rfl|rfl|rfl|rfl|rfl|rfl|rfl
 all_goals
  go_enter Tryz.func148,Tryz.ntmps148
  go_wp2;refine wp_loop_rounds 2 ?_;rw [rounds_succ];go_wp2;rw [rounds_succ];go_wp2;go_ret2
  exact ⟨rfl,rfl⟩
theorem of_no (b:Nat) (x:Int) (hx:¬ (0<=x/\x<8)) (w:World) (h:w.cell? ⟨b,0,none⟩=some (.int .i64 x)) :
  Calls Tryz.prog 148 #[.slice (some ⟨b,0,none⟩) 1 1] w fun e w'=>e=.returned (.tuple #[.int .i64 0,.int .i64 2])/\w'=w:=by
 by_cases h0:0<=x
 ·have h8:decide (x<8)=false:=by rw [decide_eq_false_iff_not];omega
  clear hx;go_enter Tryz.func148,Tryz.ntmps148
  go_wp2;refine wp_loop_rounds 1 ?_;rw [rounds_succ];go_wp2;go_ret2
  exact ⟨rfl,rfl⟩
 ·have h0':decide (0<=x)=false:=by rw [decide_eq_false_iff_not];omega
  clear hx;go_enter Tryz.func148,Tryz.ntmps148
  go_wp2;refine wp_loop_rounds 1 ?_;rw [rounds_succ];go_wp2;go_ret2
  exact ⟨rfl,rfl⟩
theorem qE8 (s:Nat) (hs:s<256) (x:Int):∃ (r cd:Int),(∀ (b:Nat) (w:World),w.cell? ⟨b,0,none⟩=some (.int .i64 x)->Calls Tryz.prog 148 #[.slice (some ⟨b,0,none⟩) 1 1] w fun e w'=>e=.returned (.tuple #[.int .i64 r,.int .i64 cd])/\w'=w) /\
  ((cd=2/\rdB s x=false)\/(cd=0/\∀ w:World,Calls Tryz.prog 63 #[.int .i64 s,.int .i64 r] w fun e w'=>e=.returned (.bool (rdB s x))/\w'=w)):=by
 by_cases hx:0<=x/\x<8
 ·obtain ⟨k,rfl⟩:=zW hx.1
  have hk:k<8:=by omega
  refine ⟨((2^k:Nat):Int),0,fun b w h=>qE7 b k hk w h,.inr ⟨rfl,fun w=>?_⟩⟩;have e:rdB s k=LabP.inB (2^k) s:=by
   unfold rdB;rw [LabP.xF6,zK,zK,decide_eq_true hx.1,decide_eq_true hx.2];rfl
  rw [e];exact zV0 (2^k) s (LabP.xN7 hk) hs w
 ·refine ⟨0,2,fun b w h=>of_no b x hx w h,.inl ⟨rfl,?_⟩⟩
  unfold rdB;by_cases h0:0<=x
  ·rw [decide_eq_false (show ¬ x<8 by omega)];simp
  ·rw [decide_eq_false h0];rfl
theorem yU1 (s b:Nat) (x y:Int) (hs:s<256) (w:World) (hx:w.cell? ⟨b,0,none⟩=some (.int .i64 x)) (hy:w.cell? ⟨b,1,none⟩=some (.int .i64 y)) :
  Calls Tryz.prog 125 #[.int .i64 s,.slice (some ⟨b,0,none⟩) 2 2] w fun e w'=>e=.returned (.bool (rdB s x&&rdB s y))/\Below w.heap.size w w':=by
 have hb:=zC (w:=w) (h:=hx);have hb:b<w.heap.size:=hb;have hne:¬ w.heap.size=b:=by omega
 have hne':¬ b=w.heap.size:=by omega
 have B1:=hid (show Below w.heap.size w (w.alloc (.cells #[.int .i64 x] 3)) from yO.alloc yN _);have B2:=hid (show Below w.heap.size w ((w.alloc (.cells #[.int .i64 x] 3)).alloc (.cells #[.int .i64 y] 3)) from B1.out.alloc B1.out.size _);have hy1:(w.alloc (.cells #[.int .i64 x] 3)).cell? ⟨b,1,none⟩=some (.int .i64 y):=(B1.out.cell (p:=⟨b,1,none⟩) hb).trans hy;have CY:=hid (show ((w.alloc (.cells #[.int .i64 x] 3)).alloc (.cells #[.int .i64 y] 3)).cell? ⟨w.heap.size+1,0,none⟩=some (.int .i64 y) by rw [show w.heap.size+1=(w.alloc (.cells #[.int .i64 x] 3)).heap.size by simp,zM _ _ _ _ rfl];rfl);obtain ⟨r1,d1,o1,k1⟩:=qE8 s hs x;obtain ⟨r2,d2,o2,k2⟩:=qE8 s hs y;have O1:=hid o1;have O2:=hid o2;clear o1 o2;rcases k1 with ⟨rfl,e1⟩|⟨rfl,F1⟩
 ·have HR:=hid (show (rdB s x&&rdB s y)=false by rw [e1];rfl)
  clear k2 e1;go_enter Tryz.func125,Tryz.ntmps125
  go_wp2;refine wp_loop_rounds 1 ?_;rw [rounds_succ]
  go_wp2_with fail
  refine (O1.out _ _ (by rw [zM _ _ _ _ rfl];rfl)).mono ?_;rintro e w0 ⟨rfl,hxx⟩;have hyy:=hxx.symm;clear hxx;subst hyy;go_wp2;go_ret
  exact ⟨by rw [HR.out];rfl,B1.out⟩
 ·cases hc1:rdB s x with
  | false =>
   have HR:=hid (show (false&&rdB s y)=false from rfl);simp only [hc1] at F1;clear k2;go_enter Tryz.func125,Tryz.ntmps125
   go_wp2;refine wp_loop_rounds 1 ?_;rw [rounds_succ]
   go_wp2_with fail
   refine (O1.out _ _ (by rw [zM _ _ _ _ rfl];rfl)).mono ?_;rintro e w0 ⟨rfl,hxx⟩;have hyy:=hxx.symm;clear hxx;subst hyy
   go_wp2_with fail
   refine (F1 _).mono ?_;rintro e w0 ⟨rfl,hxx⟩;have hyy:=hxx.symm;clear hxx;subst hyy;go_wp2;go_ret
   exact ⟨by rw [HR.out];rfl,B1.out⟩
  | true =>
   simp only [hc1] at F1;rcases k2 with ⟨rfl,e2⟩|⟨rfl,F2⟩
   ·have HR:=hid (show (true&&rdB s y)=false by rw [e2];rfl)
    clear e2;go_enter Tryz.func125,Tryz.ntmps125
    go_wp2;refine wp_loop_rounds 2 ?_;rw [rounds_succ]
    go_wp2_with fail
    refine (O1.out _ _ (by rw [zM _ _ _ _ rfl];rfl)).mono ?_;rintro e w0 ⟨rfl,hxx⟩;have hyy:=hxx.symm;clear hxx;subst hyy
    go_wp2_with fail
    refine (F1 _).mono ?_;rintro e w0 ⟨rfl,hxx⟩;have hyy:=hxx.symm;clear hxx;subst hyy;go_wp2;rw [rounds_succ]
    go_wp2_with fail
    refine (O2.out _ _ CY.out).mono ?_;rintro e w0 ⟨rfl,hxx⟩;have hyy:=hxx.symm;clear hxx;subst hyy;go_wp2;go_ret
    exact ⟨by rw [HR.out];rfl,B2.out⟩
   ·cases hc2:rdB s y with
    | false =>
     have HR:=hid (show (true&&false)=false from rfl);simp only [hc2] at F2;go_enter Tryz.func125,Tryz.ntmps125
     go_wp2;refine wp_loop_rounds 2 ?_;rw [rounds_succ]
     go_wp2_with fail
     refine (O1.out _ _ (by rw [zM _ _ _ _ rfl];rfl)).mono ?_;rintro e w0 ⟨rfl,hxx⟩;have hyy:=hxx.symm;clear hxx;subst hyy
     go_wp2_with fail
     refine (F1 _).mono ?_;rintro e w0 ⟨rfl,hxx⟩;have hyy:=hxx.symm;clear hxx;subst hyy;go_wp2;rw [rounds_succ]
     go_wp2_with fail
     refine (O2.out _ _ CY.out).mono ?_;rintro e w0 ⟨rfl,hxx⟩;have hyy:=hxx.symm;clear hxx;subst hyy
     go_wp2_with fail
     refine (F2 _).mono ?_;rintro e w0 ⟨rfl,hxx⟩;have hyy:=hxx.symm;clear hxx;subst hyy;go_wp2;go_ret
     exact ⟨by rw [HR.out];rfl,B2.out⟩
    | true =>
     have HR:=hid (show (true&&true)=true from rfl);simp only [hc2] at F2;go_enter Tryz.func125,Tryz.ntmps125
     go_wp2;refine wp_loop_rounds 3 ?_;rw [rounds_succ]
     go_wp2_with fail
     refine (O1.out _ _ (by rw [zM _ _ _ _ rfl];rfl)).mono ?_;rintro e w0 ⟨rfl,hxx⟩;have hyy:=hxx.symm;clear hxx;subst hyy
     go_wp2_with fail
     refine (F1 _).mono ?_;rintro e w0 ⟨rfl,hxx⟩;have hyy:=hxx.symm;clear hxx;subst hyy;go_wp2;rw [rounds_succ]
     go_wp2_with fail
     refine (O2.out _ _ CY.out).mono ?_;rintro e w0 ⟨rfl,hxx⟩;have hyy:=hxx.symm;clear hxx;subst hyy
     go_wp2_with fail
     refine (F2 _).mono ?_;rintro e w0 ⟨rfl,hxx⟩;have hyy:=hxx.symm;clear hxx;subst hyy;go_wp2;rw [rounds_succ];go_wp2;go_ret
     exact ⟨by rw [HR.out];rfl,B2.out⟩
namespace Plain
def both (s a b:Int):Bool:=rdB s a&&rdB s b
def comL (ls:List Int) (a b:Int) (k:Nat):List Nat:=(List.range k).filter fun i=>both (ls.getD i 0) a b
theorem zA8 (ls:List Int) (a b:Int) (k:Nat):comL ls a b (k+1)=if both (ls.getD k 0) a b=true then comL ls a b k++[k] else comL ls a b k:=by
 unfold comL;rw [List.range_succ,List.filter_append];simp only [List.filter_cons,List.filter_nil];split<;>simp
theorem zH4 (ls:List Int) (a b:Int) (k:Nat):(comL ls a b k).length<=k:=by
 have:=List.length_filter_le (fun i=>both (ls.getD i 0) a b) (List.range k);rw [List.length_range] at this;exact this
theorem yF6 {ls:List Int} {a b:Int} {k i:Nat} (h:i∈comL ls a b k):i<k:=zY.1 (List.mem_filter.1 h).1
def zH5 (l:List Nat):List Int:=l.map fun x:Nat=>(x:Int)
def refE (c:Cf) (a b:Int):Nat:=if mayC c=true then (if (0<=a/\a<c.n)/\(0<=b/\b<c.n) then 0 else 2) else 4
theorem zH6 (l:List Nat):(zH5 l).length=l.length:=by simp [zH5]
theorem yF7 (l:List Nat) (j:Nat) (h:j<l.length):(zH5 l).getD j 0=((l.getD j 0:Nat):Int):=by simp [zH5,h]
end Plain
theorem yF8 (c:Cf) (lv mv:Value) (b:Nat) (x y:Int) (hmay:mayC c=true) (w:World) (hI:CfI w c lv mv) (hx:w.cell? ⟨b,0,none⟩=some (.int .i64 x)) (hy:w.cell? ⟨b,1,none⟩=some (.int .i64 y)) :
  Calls Tryz.prog 99 #[cfV c lv mv,.slice (some ⟨b,0,none⟩) 2 2] w fun e w'=>∃ v,e=.returned v/\Seg w' v (zH5 (comL c.ls x y c.ls.length))/\Lies w'.heap.size v/\Below w.heap.size w w':=by
 have B0:=hid (BcI.start hI);have hb:b<w.heap.size:=zC (w:=w) (h:=hx);have HX:=hid (fun (X:World) (g:Below w.heap.size w X)=>And.intro ((g.cell (p:=⟨b,0,none⟩) hb).trans hx) ((g.cell (p:=⟨b,1,none⟩) hb).trans hy));obtain ⟨lp,lc,rfl⟩:=yX hI.sl;have HS:=hid (fun (X:World) (g:Below w.heap.size w X)=>zD3 (hI.sl.below g hI.ll));have HLT:=hid (lab_lt hmay);have h4:=(xJ hmay).2.1;clear hI hx hy hmay;obtain ⟨n,ls,t,ms,cap⟩:=c;dsimp only at *;obtain ⟨c0,c1,c2,c3,c4⟩:=B0.out.cc;go_enter Tryz.func99,Tryz.ntmps99
 go_wp2;clear c0 c1 c2 c3 c4;obtain ⟨B,hB⟩:∃ B,B=w.heap.size:=⟨_,rfl⟩;have HB:=hid hB;clear hB
 go_loopg [5,6,7,11] ls.length (fun gg s5 _ _ s11 wr=>∃ k m:Nat,k<=ls.length/\ls.length-k<=gg/\s11=.int .i64 k/\Aside (m=(comL ls x y k).length/\wr.ownsRow B 3 1 s5 m ((zH5 (comL ls x y k)).map (Value.int .i64)))/\Aside (Below w.heap.size w wr))
 case atStart=>exact ⟨0,0,zG _,by omega,rfl,(show Aside _ from ⟨rfl,World.ownsRow_nil _ _ _ _⟩),B0.out.be⟩
 case round =>
  obtain ⟨k,m,hk,hg,rfl,A,BW⟩:=hrel;by_cases hlt:k<ls.length
  ·have hltz:(k:Int)<(ls.length:Int):=by omega
   obtain ⟨lb,off,rfl,hc⟩:=HS.out wr BW.out (by omega);have c0:=hc k hlt;clear hc;have hs2:=HLT.out (ls.getD k 0) (by rw [zA6 _ _ hlt];exact zH hlt);obtain ⟨s,hs⟩:=zW hs2.1;rw [hs] at c0 hs2;have KA:=yU1 s b x y (by omega) wr (HX.out wr BW.out).1 (HX.out wr BW.out).2;have HSE:=hid hs;clear hs hs2;have hmk:m<=10000:=by have h1:=A.out.1;have h2:=zH4 ls x y k;omega
   cases hq:(rdB (s:Int) x&&rdB (s:Int) y) with
   | false =>
    rw [hq] at KA;have HQ:=hid (show comL ls x y (k+1)=comL ls x y k by rw [zA8,if_neg (by rw [HSE.out];unfold Plain.both;rw [hq];decide)]);clear hq
    go_wp2_with fail
    refine KA.mono ?_;rintro e w2 ⟨rfl,hb2⟩;have A2:=hid (xZ A.out.2 hb2);have B2:=hid (BW.out.trans (hb2.mono BW.out.size));have HM:=hid A.out.1;clear KA hb2 A BW c0;go_wp2
    go_roundg (ls.length-(k+1))
    case measure=>omega
    case rel=>exact ⟨k+1,m,by omega,by omega,by go_num,(show Aside _ from by rw [HQ.out];exact ⟨HM.out,A2.out⟩),(show Aside _ from B2.out)⟩
   | true =>
    rw [hq] at KA;have HQ:=hid (show comL ls x y (k+1)=comL ls x y k++[k] by rw [zA8,if_pos (by rw [HSE.out];unfold Plain.both;exact hq)]);clear hq
    go_wp2_with fail
    refine KA.mono ?_;rintro e w2 ⟨rfl,hb2⟩;have A2:=xZ A.out.2 hb2;have B2:=hid (BW.out.trans (hb2.mono BW.out.size));have HM:=hid A.out.1;obtain ⟨q,d,U,r1,r2,r3,_⟩:=xV1 (k:Int) A2 hmk HB.out B2.out;have R1:=hid r1;have R2:=hid (show U.ownsRow B 3 1 (.slice q (m+1) d) (m+1) ((zH5 (comL ls x y (k+1))).map (Value.int .i64)) by rw [HQ.out];unfold zH5;rw [List.map_append];exact r2);have RB:=hid r3;have HM2:=hid (show m+1=(comL ls x y (k+1)).length by rw [HQ.out,zD,<- HM.out];rfl);clear KA hb2 A BW c0 r1 r2 r3 A2
    go_wp2_with (first|(at_builtin;refine xE _ _ 22 R1.out (by rfl) (by rfl) (by rfl) (by rfl) (by rfl) ?_)|fail)
    go_roundg (ls.length-(k+1))
    case measure=>omega
    case rel=>exact ⟨k+1,m+1,by omega,by omega,by go_num,(show Aside _ from ⟨HM2.out,R2.out⟩),(show Aside _ from RB.out)⟩
  ·have hltz:¬ (k:Int)<(ls.length:Int):=by omega
   have ek:k=ls.length:=by omega
   subst ek;have R:=hid (show Seg wr _ (zH5 (comL ls x y ls.length)) from zH3 A.out.2 (by rw [zH6];exact A.out.1) rfl);have RL:=hid (zV5 A.out.2);go_wp2;go_ret
   exact ⟨_,rfl,R.out,RL.out,BW.out⟩
theorem jC (w:World) (x y:Int):(w.alloc (.cells #[.int .i64 x,.int .i64 y] 3)).cell? ⟨w.heap.size,0,none⟩=some (.int .i64 x)/\(w.alloc (.cells #[.int .i64 x,.int .i64 y] 3)).cell? ⟨w.heap.size,1,none⟩=some (.int .i64 y):=by
 refine ⟨?_,?_⟩<;>(rw [zM _ _ _ _ rfl];rfl)
theorem zV6 (c:Cf) (lv mv:Value) (x y:Int) (w:World) (hI:CfI w c lv mv) :
  Calls Tryz.prog 98 #[cfV c lv mv,.int .i64 x,.int .i64 y] w fun e w'=>e=.returned (.int .i64 (refE c x y:Nat))/\Below w.heap.size w w':=by
 have B0:=hid (BcI.start hI);have KM:=xG0 c lv mv (w.alloc (boxC c lv mv)) B0.out.ci;clear hI;cases hmay:mayC c with
 | false =>
  rw [hmay] at KM;have HE:=hid (show refE c x y=4 by unfold refE;rw [hmay];rfl);clear hmay;obtain ⟨n,ls,t,ms,cap⟩:=c;go_enter Tryz.func98,Tryz.ntmps98
  go_wp2_with fail
  refine KM.mono ?_;rintro e w1 ⟨rfl,b1⟩;have B1:=hid (B0.out.grow b1);clear B0 KM b1;go_wp2;go_ret
  exact ⟨by rw [HE.out];rfl,B1.out.be⟩
 | true =>
  rw [hmay] at KM;have h18:=(xJ hmay).1;obtain ⟨m,hn⟩:∃ m:Nat,c.n=m:=⟨c.n.toNat,by omega⟩;have h8:m<=8:=by omega
  have HE:=hid (show refE c x y=if (rdB ((2^m-1:Nat):Int) x&&rdB ((2^m-1:Nat):Int) y)=true then 0 else 2 by
   unfold refE;rw [if_pos hmay,LabP.all_rd m h8,LabP.all_rd m h8,hn];simp only [Bool.and_eq_true,decide_eq_true_eq])
  have KE:=hid (fun (X:World)=>zK5 c lv mv m hn h8 X);have hp:=LabP.pow_le h8;have hp1:=Nat.two_pow_pos m;have KI:=hid (fun (X:World) (b:Nat) (h1:X.cell? ⟨b,0,none⟩=some (.int .i64 x)) (h2:X.cell? ⟨b,1,none⟩=some (.int .i64 y))=>yU1 (2^m-1) b x y (by omega) X h1 h2);clear hmay h18 h8 hn hp hp1;generalize (rdB ((2^m-1:Nat):Int) x&&rdB ((2^m-1:Nat):Int) y)=r at HE KI;generalize ((2^m-1:Nat):Int)=z at KE KI;obtain ⟨n,ls,t,ms,cap⟩:=c;cases r with
  | false =>
   have HE2:=hid (HE.out.trans (if_neg (by decide)));clear HE;go_enter Tryz.func98,Tryz.ntmps98
   go_wp2_with fail
   refine KM.mono ?_;rintro e w1 ⟨rfl,b1⟩;have B1:=hid (B0.out.grow b1);obtain ⟨c0,c1,c2,c3,c4⟩:=B1.out.cc;clear B0 KM b1
   go_wp2_with fail
   refine (KE.out w1).mono ?_;rintro e w2 ⟨rfl,b2⟩;have B2:=hid (B1.out.grow b2);have bA:Below w2.heap.size w2 (w2.alloc (.cells #[.int .i64 x,.int .i64 y] 3)):=yO.alloc yN _;have B3:=hid (B2.out.grow bA);clear B1 b2 c0 c1 c2 c3 c4 KE bA B2
   go_wp2_with fail
   refine (KI.out _ _ (jC w2 x y).1 (jC w2 x y).2).mono ?_;rintro e w3 ⟨rfl,b3⟩;have B4:=hid (B3.out.grow b3);clear B3 b3 KI;go_wp2;go_ret
   exact ⟨by rw [HE2.out];rfl,B4.out.be⟩
  | true =>
   have HE2:=hid (HE.out.trans (if_pos rfl));clear HE;go_enter Tryz.func98,Tryz.ntmps98
   go_wp2_with fail
   refine KM.mono ?_;rintro e w1 ⟨rfl,b1⟩;have B1:=hid (B0.out.grow b1);obtain ⟨c0,c1,c2,c3,c4⟩:=B1.out.cc;clear B0 KM b1
   go_wp2_with fail
   refine (KE.out w1).mono ?_;rintro e w2 ⟨rfl,b2⟩;have B2:=hid (B1.out.grow b2);have bA:Below w2.heap.size w2 (w2.alloc (.cells #[.int .i64 x,.int .i64 y] 3)):=yO.alloc yN _;have B3:=hid (B2.out.grow bA);clear B1 b2 c0 c1 c2 c3 c4 KE bA B2
   go_wp2_with fail
   refine (KI.out _ _ (jC w2 x y).1 (jC w2 x y).2).mono ?_;rintro e w3 ⟨rfl,b3⟩;have B4:=hid (B3.out.grow b3);clear B3 b3 KI;go_wp2;go_ret
   exact ⟨by rw [HE2.out];rfl,B4.out.be⟩
theorem xV2 {w:World} {p:Option Addr} {c n:Nat} {l:List En} (h:SegN w (.slice p n c) l) (h0:0<n):∃ b off,p=some ⟨b,off,none⟩/\qD w b off l:=by
 rcases h with ⟨rfl,q,d,e⟩|⟨b,o,c,e,_,g⟩
 ·injection e with _ e2 _;omega
 ·injection e with e1 e2 e3
  exact ⟨b,o,e1,g⟩
namespace Plain
theorem yU2 {l:List En} (hs:Srt l) {k:Nat} (hk:k<l.length) (j:Int):look j (l.take (k+1))=if (en l k).key=j then some (en l k) else look j (l.take k):=by
 rw [zO hk,yD2,<- zM4 hk];by_cases e:(en l k).key=j
 ·rw [if_pos e]
  have h0:look j (l.take k)=none:=kN fun x hx=>by
   obtain ⟨i,hi,rfl⟩:=List.getElem_of_mem hx;rw [zU] at hi;have hik:i<k:=by omega
   have:=(List.pairwise_iff_getElem.1 hs) i k (by omega) hk hik;rw [List.getElem_take];rw [zM4 hk] at e;omega
  rw [h0,xT,if_pos e];rfl
 ·rw [if_neg e,xT,if_neg e,look_nil,Option.or_none]
theorem yA4 {l:List En} (hs:Srt l) {k:Nat} (hk:k<l.length) (j:Nat):xU (l.take (k+1)) j=if (en l k).key=j then zC2 (en l k) else xU (l.take k) j:=by
 unfold xU;rw [yU2 hs hk];by_cases e:(en l k).key=j
 ·rw [if_pos e,if_pos e]
 ·rw [if_neg e,if_neg e]
abbrev ar8 (F:Nat->Int):Array Value:=#[.int .i64 (F 0),.int .i64 (F 1),.int .i64 (F 2),.int .i64 (F 3),.int .i64 (F 4),.int .i64 (F 5),.int .i64 (F 6),.int .i64 (F 7)]
end Plain
structure SlI (w wr:World) (R S:Nat) (F:Nat->Int):Prop where
 rr:wr.rowIs R 187 8 (fun _=>.int .i64 0)
 rs:wr.rowIs S 187 8 (fun j=>.int .i64 (F j))
 hR:w.heap.size<=R
 hS:w.heap.size<=S
 ne:R≠S
 be:Below w.heap.size w wr
theorem SlI.grow {w wr w':World} {R S:Nat} {F:Nat->Int} (h:SlI w wr R S F) (b:Below wr.heap.size wr w'):SlI w w' R S F :=
 ⟨h.rr.of_block (b.block _ h.rr.lt),h.rs.of_block (b.block _ h.rs.lt),h.hR,h.hS,h.ne,h.be.trans (b.mono h.be.size)⟩
theorem SlI.set {w wr:World} {R S:Nat} {F:Nat->Int} (h:SlI w wr R S F) (j:Nat) (x:Int):SlI w (wr.setCell ⟨S,j,none⟩ (.int .i64 x)) R S (fun i=>if i=j then x else F i) :=
 ⟨h.rr.of_block (RowKit.Below.heap_setCell wr ⟨S,j,none⟩ _ R (fun e=>h.ne e)),(h.rs.set j (.int .i64 x)).congr fun i _=>by
  by_cases e:i=j
  ·simp only [if_pos e]
  ·simp only [if_neg e],h.hR,h.hS,h.ne,h.be.setCell (p:=⟨S,j,none⟩) h.hS _⟩
theorem SlI.congr {w wr:World} {R S:Nat} {F G:Nat->Int} (h:SlI w wr R S F) (e:∀ j,j<8->F j=G j):SlI w wr R S G :=
 ⟨h.rr,h.rs.congr fun j hj=>by rw [e j hj],h.hR,h.hS,h.ne,h.be⟩
theorem SlI.start (w:World):SlI w ((w.alloc (.cells #[.int .i64 0,.int .i64 0,.int .i64 0,.int .i64 0,.int .i64 0,.int .i64 0,.int .i64 0,.int .i64 0] 187)).alloc (.cells #[.int .i64 0,.int .i64 0,.int .i64 0,.int .i64 0,.int .i64 0,.int .i64 0,.int .i64 0,.int .i64 0] 187)) w.heap.size (w.heap.size+1) (fun _=>0):=by
 have z:∀ W:World,(W.alloc (.cells #[.int .i64 0,.int .i64 0,.int .i64 0,.int .i64 0,.int .i64 0,.int .i64 0,.int .i64 0,.int .i64 0] 187)).rowIs W.heap.size 187 8 (fun _=>.int .i64 0):=fun W=>by
  refine yK _ _ 187 _ fun i hi=>?_;have:i=0\/i=1\/i=2\/i=3\/i=4\/i=5\/i=6\/i=7:=by have:i<8:=hi;omega
  rcases this with rfl|rfl|rfl|rfl|rfl|rfl|rfl|rfl<;>rfl
 have s1:(w.alloc (.cells #[.int .i64 0,.int .i64 0,.int .i64 0,.int .i64 0,.int .i64 0,.int .i64 0,.int .i64 0,.int .i64 0] 187)).heap.size=w.heap.size+1:=by simp
 refine ⟨(z w).alloc _,by rw [<- s1];exact z _,yN,by omega,by omega,(yO.alloc yN _).alloc (by simp) _⟩
def put8 (W:World) (R:Nat) (F:Nat->Int):World :=
 (((((((W.setCell ⟨R,0,none⟩ (.int .i64 (F 0))).setCell ⟨R,1,none⟩ (.int .i64 (F 1))).setCell ⟨R,2,none⟩ (.int .i64 (F 2))).setCell ⟨R,3,none⟩ (.int .i64 (F 3))).setCell ⟨R,4,none⟩ (.int .i64 (F 4))).setCell ⟨R,5,none⟩ (.int .i64 (F 5))).setCell ⟨R,6,none⟩ (.int .i64 (F 6))).setCell ⟨R,7,none⟩ (.int .i64 (F 7))
theorem zO3 {W:World} {R:Nat} {f:Nat->Value} (h:W.rowIs R 187 8 f) (F:Nat->Int):(put8 W R F).rowIs R 187 8 (fun j=>.int .i64 (F j)):=by
 refine ((((((((h.set 0 (.int .i64 (F 0))).set 1 (.int .i64 (F 1))).set 2 (.int .i64 (F 2))).set 3 (.int .i64 (F 3))).set 4 (.int .i64 (F 4))).set 5 (.int .i64 (F 5))).set 6 (.int .i64 (F 6))).set 7 (.int .i64 (F 7))).congr fun j hj=>?_;have:j=0\/j=1\/j=2\/j=3\/j=4\/j=5\/j=6\/j=7:=by omega
 rcases this with rfl|rfl|rfl|rfl|rfl|rfl|rfl|rfl<;>rfl
theorem zC3 {w W:World} {R:Nat} (h:Below w.heap.size w W) (hR:w.heap.size<=R) (F:Nat->Int):Below w.heap.size w (put8 W R F) :=
 (((((((h.setCell (p:=⟨R,0,none⟩) hR _).setCell (p:=⟨R,1,none⟩) hR _).setCell (p:=⟨R,2,none⟩) hR _).setCell (p:=⟨R,3,none⟩) hR _).setCell (p:=⟨R,4,none⟩) hR _).setCell (p:=⟨R,5,none⟩) hR _).setCell (p:=⟨R,6,none⟩) hR _).setCell (p:=⟨R,7,none⟩) hR _
theorem row8 {w:World} {R:Nat} {F:Nat->Int} (h:w.rowIs R 187 8 (fun j=>.int .i64 (F j))):w.heap[R]?=some (.cells (ar8 F) 187 (0,0)):=by
 obtain ⟨c,hb,hs,hc⟩:=h;have e:c=ar8 F:=by
  apply Array.ext
  ·rw [hs];rfl
  ·intro i h1 h2
   have h3:=hc i (by omega);rw [Array.getElem?_eq_getElem h1] at h3;have h4:=Option.some.inj h3;rw [h4];have:i=0\/i=1\/i=2\/i=3\/i=4\/i=5\/i=6\/i=7:=by omega
   rcases this with rfl|rfl|rfl|rfl|rfl|rfl|rfl|rfl<;>rfl
 rw [hb,e]
theorem jH {fn:Func} {p u:Tmp} {Q:Ending->World->Prop} {a:Act} {w:World} (h:fn.results=#[.cell p 187,.tmp u]) (R:Nat) (F:Nat->Int) (hp:a.tmps.getD p undef=.pointer (some ⟨R,0,none⟩))
  (hg:w.rowIs R 187 8 (fun j=>.int .i64 (F j))) (hd:a.defers=[]) (hR:Q (.returned (.tuple #[.agg (ar8 F),a.tmps.getD u undef])) w):bodyPost Tryz.prog fn Q .ret a w:=by
 refine bodyPost_ret (v:=.tuple #[.agg (ar8 F),a.tmps.getD u undef]) ?_ hd hR;rw [results_cell_tmp h,hp];have hl:=run_loadVar_row (P:=Tryz.prog) w R 187 187 (ar8 F) (0,0) _ (row8 hg) Tryz.underlying187 rfl (by kernel_rfl);simp [asAddr,hl]
def SlP (l:List En) (w:World) (e:Ending) (w':World):Prop :=
 ∃ F:Nat->Int,e=.returned (.tuple #[.agg (ar8 F),.int .i64 (if l.all fitE=true then 0 else 12)])/\(l.all fitE=true->∀ j,j<8->F j=((xU l j:Nat):Int))/\Below w.heap.size w w'
theorem yU3 (v:Value) (l:List En) (hm:mayL l=true) (w:World) (hs:SegN w v l) (hl:Lies w.heap.size v) :
  Calls Tryz.prog 124 #[v] w (SlP l w):=by
 obtain ⟨p,c,rfl,_⟩:=hs.form;have HS:=hid (fun (X:World) (b:Below w.heap.size w X)=>xV2 (hs.below b hl));have h8:=((qW l).1 hm).1;have HM:=hid ((qW l).1 hm).2;have S0:=hid (SlI.start w);clear hs hl hm;obtain ⟨R,hR⟩:∃ R,R=w.heap.size:=⟨_,rfl⟩;obtain ⟨S,hS⟩:∃ S,S=w.heap.size+1:=⟨_,rfl⟩;go_enter Tryz.func124,Tryz.ntmps124
 go_wp2;rw [<- hS,<- hR];rw [<- hS,<- hR] at S0;clear hS hR
 go_loopg [3,6,9] l.length (fun gg _ _ s9 wr=>∃ k:Nat,k<=l.length/\l.length-k<=gg/\s9=.int .i64 k/\Aside (SlI w wr R S (fun j=>((xU (l.take k) j:Nat):Int)))/\Aside ((l.take k).all fitE=true))
 case atStart=>exact ⟨0,zG _,by omega,rfl,(show Aside _ from S0.out),rfl⟩
 case round =>
  obtain ⟨k,hk,hg,rfl,A,AF⟩:=hrel;by_cases hlt:k<l.length
  ·have hltz:(k:Int)<(l.length:Int):=by omega
   obtain ⟨b,off,rfl,hc⟩:=HS.out wr A.out.be (by omega);obtain ⟨c0,c1,c2,c3,c4⟩:=hc k hlt;have HMB:=hid (HM.out.1 _ (qA6 hlt));obtain ⟨x,hx⟩:∃ x,x=Plain.en l k:=⟨_,rfl⟩;rw [<- hx] at c0 c1 c2 c3 c4 HMB;have HX:=hid hx;clear hx hc;have bA:Below wr.heap.size wr (wr.alloc (boxE x)):=yO.alloc yN _;have A2:=hid (A.out.grow bA);have hRlt:R<wr.heap.size:=A.out.rr.lt;have hRne:¬ R=wr.heap.size:=by omega
   have hRne':¬ wr.heap.size=R:=by omega
   cases hfit:fitE x with
   | false =>
    have HF:=hid (show l.all fitE=false from zR9 fitE l default k hlt (by rw [show l.getD k default=x from HX.out.symm];exact hfit));have hko:¬ (x.key<8/\x.value<=255):=fun h=>by
     have:fitE x=true:=by unfold fitE;rw [decide_eq_true h.1,decide_eq_true h.2];rfl
     rw [hfit] at this;cases this
    clear hfit;by_cases q1:8<=x.key
    ·clear hko AF HMB
     obtain ⟨xk,xv,xt,xo,xg⟩:=x;dsimp only at *
     go_upto_region 6 with fail
     obtain ⟨W,hW⟩:∃ W,W=wr.alloc (boxE ⟨xk,xv,xt,xo,xg⟩):=⟨_,rfl⟩;rw [show wr.alloc (.cells #[.int .i64 xk,.int .i64 xv,.int .i64 xt,.int .i64 xo,.bool xg] 75)=W from hW.symm];have A3:=hid (show SlI w W R S (fun j=>((xU (l.take k) j:Nat):Int)) by rw [hW];exact A2.out);clear A2 A bA hW c0 c1 c2 c3 c4 hRlt hRne hRne' q1;have y0:=A3.out.rr.cell (i:=0) (by omega);have y1:=A3.out.rr.cell (i:=1) (by omega);have y2:=A3.out.rr.cell (i:=2) (by omega);have y3:=A3.out.rr.cell (i:=3) (by omega);have y4:=A3.out.rr.cell (i:=4) (by omega);have y5:=A3.out.rr.cell (i:=5) (by omega);have y6:=A3.out.rr.cell (i:=6) (by omega);have y7:=A3.out.rr.cell (i:=7) (by omega);have f0:=A3.out.rr.frozen 0;have f1:=A3.out.rr.frozen 1;have f2:=A3.out.rr.frozen 2;have f3:=A3.out.rr.frozen 3;have f4:=A3.out.rr.frozen 4;have f5:=A3.out.rr.frozen 5;have f6:=A3.out.rr.frozen 6;have f7:=A3.out.rr.frozen 7;have hR3:R<W.heap.size:=A3.out.rr.lt;go_wp2
     (try simp only [Exit.inBlock,Exit.then])
     change bodyPost Tryz.prog _ (SlP l w) Exit.ret _ (put8 W R (fun _=>0));refine jH rfl R (fun _=>0) rfl (zO3 A3.out.rr (fun _=>0)) rfl ⟨fun _=>0,?_,fun h=>absurd h (by rw [HF.out];decide),zC3 A3.out.be A3.out.hR _⟩;rw [if_neg (by rw [HF.out];decide)];rfl
    ·have q2:255<x.value:=by omega
     clear hko AF HMB;obtain ⟨xk,xv,xt,xo,xg⟩:=x;dsimp only at *
     go_upto_region 6 with fail
     obtain ⟨W,hW⟩:∃ W,W=wr.alloc (boxE ⟨xk,xv,xt,xo,xg⟩):=⟨_,rfl⟩;rw [show wr.alloc (.cells #[.int .i64 xk,.int .i64 xv,.int .i64 xt,.int .i64 xo,.bool xg] 75)=W from hW.symm];have A3:=hid (show SlI w W R S (fun j=>((xU (l.take k) j:Nat):Int)) by rw [hW];exact A2.out);clear A2 A bA hW c0 c1 c2 c3 c4 hRlt hRne hRne' q1 q2;have y0:=A3.out.rr.cell (i:=0) (by omega);have y1:=A3.out.rr.cell (i:=1) (by omega);have y2:=A3.out.rr.cell (i:=2) (by omega);have y3:=A3.out.rr.cell (i:=3) (by omega);have y4:=A3.out.rr.cell (i:=4) (by omega);have y5:=A3.out.rr.cell (i:=5) (by omega);have y6:=A3.out.rr.cell (i:=6) (by omega);have y7:=A3.out.rr.cell (i:=7) (by omega);have f0:=A3.out.rr.frozen 0;have f1:=A3.out.rr.frozen 1;have f2:=A3.out.rr.frozen 2;have f3:=A3.out.rr.frozen 3;have f4:=A3.out.rr.frozen 4;have f5:=A3.out.rr.frozen 5;have f6:=A3.out.rr.frozen 6;have f7:=A3.out.rr.frozen 7;have hR3:R<W.heap.size:=A3.out.rr.lt;go_wp2
     (try simp only [Exit.inBlock,Exit.then])
     change bodyPost Tryz.prog _ (SlP l w) Exit.ret _ (put8 W R (fun _=>0));refine jH rfl R (fun _=>0) rfl (zO3 A3.out.rr (fun _=>0)) rfl ⟨fun _=>0,?_,fun h=>absurd h (by rw [HF.out];decide),zC3 A3.out.be A3.out.hR _⟩;rw [if_neg (by rw [HF.out];decide)];rfl
   | true =>
    have hko:=yT7 hfit;have hme:=yT6 HMB.out;have KS:=xH4 x HMB.out hfit;have q1:¬ 8<=x.key:=by omega
    have q2:¬ 255<x.value:=by omega
    obtain ⟨kk,hkk⟩:∃ kk:Nat,x.key=kk:=⟨x.key.toNat,by omega⟩;have hk8:kk<8:=by omega
    have HFT:=hid (show (l.take (k+1)).all fitE=true from vZ fitE l default k hlt AF.out (by rw [show l.getD k default=x from HX.out.symm];exact hfit));have HSL:=hid (fun j=>show xU (l.take (k+1)) j=if j=kk then zC2 x else xU (l.take k) j by
     rw [yA4 HM.out.2 hlt,<- HX.out,hkk];by_cases e:j=kk
     ·rw [if_pos (by omega),if_pos e]
     ·rw [if_neg (by omega),if_neg e])
    have hHP:=hid (show (wr.alloc (boxE x)).cell? ⟨wr.heap.size,0,none⟩=some (.int .i64 x.key)/\(wr.alloc (boxE x)).cell? ⟨wr.heap.size,1,none⟩=some (.int .i64 x.value)/\(wr.alloc (boxE x)).cell? ⟨wr.heap.size,2,none⟩=some (.int .i64 x.time)/\(wr.alloc (boxE x)).cell? ⟨wr.heap.size,3,none⟩=some (.int .i64 x.who)/\(wr.alloc (boxE x)).cell? ⟨wr.heap.size,4,none⟩=some (.bool x.gone) by
     refine ⟨?_,?_,?_,?_,?_⟩<;>(rw [zM _ _ _ _ rfl];rfl))
    have HGL:=hid (show wr.heap.size<(wr.alloc (boxE x)).heap.size by simp);generalize zC2 x=z at KS HSL;have HKS:=hid KS;have hSg:¬ S=wr.heap.size:=by have:=A.out.rs.lt;omega
    have hSg':¬ wr.heap.size=S:=by omega
    clear hko hme hfit AF HMB KS A bA;obtain ⟨xk,xv,xt,xo,xg⟩:=x;dsimp only at *;subst hkk;have hk8z:(kk:Int)<8:=by omega
    go_upto_region 7 with fail
    obtain ⟨W,hW⟩:∃ W,W=wr.alloc (boxE ⟨kk,xv,xt,xo,xg⟩):=⟨_,rfl⟩;rw [show wr.alloc (.cells #[.int .i64 (kk:Int),.int .i64 xv,.int .i64 xt,.int .i64 xo,.bool xg] 75)=W from hW.symm];have A3:=hid (show SlI w W R S (fun j=>((xU (l.take k) j:Nat):Int)) by rw [hW];exact A2.out);have P3:=hHP.out;have L3:=HGL.out;rw [<- hW] at P3 L3;obtain ⟨g,hg'⟩:∃ g,g=wr.heap.size:=⟨_,rfl⟩;rw [<- hg'] at P3 L3 hSg hSg' ⊢;obtain ⟨p0,p1,p2,p3,p4⟩:=P3;clear A2 hHP HGL hW hg' c0 c1 c2 c3 c4 hRlt hRne hRne';have b0:=hid (show Below W.heap.size W W.drew from yO.drew);have HSS:=hid (fun (X:World) (b:Below W.heap.size W X)=>(show X.cell? ⟨g,0,none⟩=some (.int .i64 (kk:Int))/\X.cell? ⟨g,1,none⟩=some (.int .i64 xv)/\X.cell? ⟨g,2,none⟩=some (.int .i64 xt)/\X.cell? ⟨g,3,none⟩=some (.int .i64 xo)/\X.cell? ⟨g,4,none⟩=some (.bool xg) from
     ⟨(b.cell (p:=⟨g,0,none⟩) L3).trans p0,(b.cell (p:=⟨g,1,none⟩) L3).trans p1,(b.cell (p:=⟨g,2,none⟩) L3).trans p2,(b.cell (p:=⟨g,3,none⟩) L3).trans p3,(b.cell (p:=⟨g,4,none⟩) L3).trans p4⟩))
    go_region_held3 (fun w'=>w'.cell? ⟨g,0,none⟩=some (.int .i64 (kk:Int))/\w'.cell? ⟨g,1,none⟩=some (.int .i64 xv)/\w'.cell? ⟨g,2,none⟩=some (.int .i64 xt)/\w'.cell? ⟨g,3,none⟩=some (.int .i64 xo)/\w'.cell? ⟨g,4,none⟩=some (.bool xg)) (go_keep)
     ((go_at_call 147;refine (HKS.out _).mono ?_;rintro e w1 ⟨rfl,hw1⟩;have b1:=hid (show Below W.heap.size W w1 by rw [hw1];exact b0.out.alloc b0.out.size _);obtain ⟨g0,g1,g2,g3,g4⟩:=HSS.out w1 b1.out;have A4:=hid (A3.out.grow b1.out);have u0:=A4.out.rs.cell (i:=kk) hk8;have u1:=A4.out.rs.frozen kk;have u2:S<w1.heap.size:=A4.out.rs.lt;clear hw1))
    have A5:=hid (A4.out.set kk (z:Int));clear g0 g1 g2 g3 g4 u0 u1 u2 A4;go_wp2
    go_roundg (l.length-(k+1))
    case measure=>omega
    case rel=>exact ⟨k+1,by omega,by omega,by go_num,(show Aside _ from A5.out.congr fun j _=>by
     rw [HSL.out j];by_cases e:j=kk
     ·rw [if_pos e,if_pos e]
     ·rw [if_neg e,if_neg e]),(show Aside _ from HFT.out)⟩
  ·have hltz:¬ (k:Int)<(l.length:Int):=by omega
   have ek:k=l.length:=by omega
   subst ek;have hall:=AF.out;rw [List.take_length] at hall;have HF:=hid hall;have A1:=hid (show SlI w wr R S (fun j=>((xU l j:Nat):Int)) by have:=A.out;rwa [List.take_length] at this);clear A AF hall;have z0:=A1.out.rs.cell (i:=0) (by omega);have z1:=A1.out.rs.cell (i:=1) (by omega);have z2:=A1.out.rs.cell (i:=2) (by omega);have z3:=A1.out.rs.cell (i:=3) (by omega);have z4:=A1.out.rs.cell (i:=4) (by omega);have z5:=A1.out.rs.cell (i:=5) (by omega);have z6:=A1.out.rs.cell (i:=6) (by omega);have z7:=A1.out.rs.cell (i:=7) (by omega);have y0:=A1.out.rr.cell (i:=0) (by omega);have y1:=A1.out.rr.cell (i:=1) (by omega);have y2:=A1.out.rr.cell (i:=2) (by omega);have y3:=A1.out.rr.cell (i:=3) (by omega);have y4:=A1.out.rr.cell (i:=4) (by omega);have y5:=A1.out.rr.cell (i:=5) (by omega);have y6:=A1.out.rr.cell (i:=6) (by omega);have y7:=A1.out.rr.cell (i:=7) (by omega);have f0:=A1.out.rr.frozen 0;have f1:=A1.out.rr.frozen 1;have f2:=A1.out.rr.frozen 2;have f3:=A1.out.rr.frozen 3;have f4:=A1.out.rr.frozen 4;have f5:=A1.out.rr.frozen 5;have f6:=A1.out.rr.frozen 6;have f7:=A1.out.rr.frozen 7;have hRlt:R<wr.heap.size:=A1.out.rr.lt;go_wp2
   (try simp only [Exit.inBlock,Exit.then])
   change bodyPost Tryz.prog _ (SlP l w) Exit.ret _ (put8 wr R (fun j=>((xU l j:Nat):Int)));refine jH rfl R (fun j=>((xU l j:Nat):Int)) rfl (zO3 A1.out.rr (fun j=>((xU l j:Nat):Int))) rfl ⟨_,?_,fun _ j _=>rfl,zC3 A1.out.be A1.out.hR _⟩;rw [if_pos HF.out];rfl
namespace Plain
def rumE (c:Cf) (a b:Int) (st:List (List En)):Nat :=
 if refE c a b=0 then (if st.length=c.ls.length then (if st.all mayL=true then (if zI5 st (comL c.ls a b c.ls.length)=true then 0 else 12) else 4) else 1) else refE c a b
def rumB (c:Cf) (a b:Int) (st:List (List En)):List Nat :=
 if rumE c a b st=0 then qR (fldL 34 (jT st (comL c.ls a b c.ls.length))) else []
theorem xV3 {c:Cf} {a b:Int} {st:List (List En)} (h:refE c a b≠0):rumE c a b st=refE c a b/\rumB c a b st=[]:=by
 have e:rumE c a b st=refE c a b:=by unfold rumE;rw [if_neg h]
 exact ⟨e,by unfold rumB;rw [e,if_neg h]⟩
theorem xH5 {c:Cf} {a b:Int} {st:List (List En)} (h:refE c a b=0) (h1:st.length≠c.ls.length):rumE c a b st=1/\rumB c a b st=[]:=by
 have e:rumE c a b st=1:=by unfold rumE;rw [if_pos h,if_neg h1]
 exact ⟨e,by unfold rumB;rw [e];rfl⟩
theorem xH6 {c:Cf} {a b:Int} {st:List (List En)} (h:refE c a b=0) (h1:st.length=c.ls.length) (h2:st.all mayL=false):rumE c a b st=4/\rumB c a b st=[]:=by
 have e:rumE c a b st=4:=by unfold rumE;rw [if_pos h,if_pos h1,if_neg (by rw [h2];decide)]
 exact ⟨e,by unfold rumB;rw [e];rfl⟩
theorem xH7 {c:Cf} {a b:Int} {st:List (List En)} (h:refE c a b=0) (h1:st.length=c.ls.length) (h2:st.all mayL=true) (h3:zI5 st (comL c.ls a b c.ls.length)=false):rumE c a b st=12/\rumB c a b st=[]:=by
 have e:rumE c a b st=12:=by unfold rumE;rw [if_pos h,if_pos h1,if_pos h2,if_neg (by rw [h3];decide)]
 exact ⟨e,by unfold rumB;rw [e];rfl⟩
theorem xO1 {c:Cf} {a b:Int} {st:List (List En)} (h:refE c a b=0) (h1:st.length=c.ls.length) (h2:st.all mayL=true) (h3:zI5 st (comL c.ls a b c.ls.length)=true):rumE c a b st=0/\rumB c a b st=qR (fldL 34 (jT st (comL c.ls a b c.ls.length))):=by
 have e:rumE c a b st=0:=by unfold rumE;rw [if_pos h,if_pos h1,if_pos h2,if_pos h3]
 exact ⟨e,by unfold rumB;rw [e];rfl⟩
theorem yA5 {c:Cf} {a b:Int} (h:refE c a b=0):mayC c=true/\(0<=a/\a<c.n)/\(0<=b/\b<c.n):=by
 unfold refE at h;by_cases h1:mayC c=true
 ·rw [if_pos h1] at h
  by_cases h2:(0<=a/\a<c.n)/\(0<=b/\b<c.n)
  ·exact ⟨h1,h2⟩
  ·rw [if_neg h2] at h;omega
 ·rw [if_neg h1] at h;omega
theorem yU4 {st:List (List En)} (hm:st.all mayL=true) {js:List Nat} (hj:∀ j∈js,j<st.length) (hr:zI5 st js=true):∀ v∈jT st js,0<=v/\v<17179869184:=by
 intro v hv;obtain ⟨j,hjs,hv⟩:=List.mem_flatMap.1 hv;obtain ⟨k,_,rfl⟩:=zZ.1 hv;have hlt:=hj j hjs;have hg:st.getD j []=st[j]:=by rw [zA,zB hlt];rfl
 have h1:=zT.1 hm (st[j]) (zH hlt);have h2:=zT.1 hr j hjs;rw [hg] at h2 ⊢;have:=yT8 ((qW _).1 h1).2.1 (zT.1 h2) k;omega
theorem yU5 (st:List (List En)) (js:List Nat) (k:Nat) (hk:k<js.length) (h:zI5 st (js.take k)=true) (h2:(st.getD (js.getD k 0) []).all fitE=true):zI5 st (js.take (k+1))=true:=vZ _ js 0 k hk h h2
theorem xV4 (st:List (List En)) (js:List Nat) (k:Nat) (hk:k<js.length) (h2:(st.getD (js.getD k 0) []).all fitE=false):zI5 st js=false:=zR9 _ js 0 k hk h2
theorem yU6 (st:List (List En)) (js:List Nat) (k:Nat) (hk:k<js.length):jT st (js.take (k+1))=jT st (js.take k)++kV (st.getD (js.getD k 0) []):=by
 rw [zO hk,yK9];simp [hk]
end Plain
structure ElL (w:World) (u:Value) (l:List En):Prop where
 sg:SegN w u l
 li:Lies w.heap.size u
 le:l.length<=9223372036854775807
theorem ElL.grow {w w':World} {u:Value} {l:List En} (h:ElL w u l) (b:Below w.heap.size w w'):ElL w' u l:=⟨h.sg.below b h.li,h.li.mono b.size,h.le⟩
def zA9 (w:World) (v:Value) (st:List (List En)):Prop :=
 st.length<=9223372036854775807/\∃ p c,v=.slice p st.length c/\(0<st.length->∃ b off,p=some ⟨b,off,none⟩/\b<w.heap.size/\∀ j,j<st.length->∃ u,w.cell? ⟨b,off+j,none⟩=some u/\ElL w u (st.getD j []))
theorem zA9.grow {w w':World} {v:Value} {st:List (List En)} (h:zA9 w v st) (g:Below w.heap.size w w'):zA9 w' v st:=by
 obtain ⟨hm,p,c,rfl,hp⟩:=h;refine ⟨hm,p,c,rfl,fun h0=>?_⟩;obtain ⟨b,off,rfl,hb,hc⟩:=hp h0;refine ⟨b,off,rfl,zF hb g.size,fun j hj=>?_⟩;obtain ⟨u,h1,h2⟩:=hc j hj;exact ⟨u,(g.cell (p:=⟨b,off+j,none⟩) hb).trans h1,h2.grow g⟩
theorem zA9.at {w:World} {p:Option Addr} {c n:Nat} {st:List (List En)} (h:zA9 w (.slice p n c) st) {j:Nat} (hj:j<st.length):∃ b off,p=some ⟨b,off,none⟩/\∃ u,w.cell? ⟨b,off+j,none⟩=some u/\ElL w u (st.getD j []):=by
 obtain ⟨_,p',c',e,hp⟩:=h;injection e with e1 e2 e3;subst e1;obtain ⟨b,off,rfl,_,hc⟩:=hp (by omega);exact ⟨b,off,rfl,hc j hj⟩
def RumP (c:Cf) (a b:Int) (st:List (List En)) (w:World) (e:Ending) (w':World):Prop :=
 ∃ u,e=.returned (.tuple #[u,.int .i64 (rumE c a b st:Nat)])/\SegB w' u (rumB c a b st)/\Lies w'.heap.size u/\Below w.heap.size w w'
theorem zO4 {c:Cf} {a b:Int} {st:List (List En)} {w w':World} {E:Nat} (h:rumE c a b st=E/\rumB c a b st=[]) (g:Below w.heap.size w w'):RumP c a b st w (.returned (.tuple #[.slice none 0 0,.int .i64 (E:Nat)])) w' :=
 ⟨_,by rw [h.1],by rw [h.2];exact SegB.nil _,yT _ _ _,g⟩
theorem app_8 {w wr:World} {B k T:Nat} {v:Value} {l:List Int} {F:Nat->Int} (o:wr.ownsRow B 3 1 v k (l.map (Value.int .i64))) (hk:k<=10000) (hB:B=w.heap.size) (b:Below w.heap.size w wr) (hr:∀ j,j<8->wr.cell? ⟨T,j,none⟩=some (.int .i64 (F j))) :
  ∃ q d U,(Builtin.append_ #[22,22] 22 #[v,.slice (some ⟨T,0,none⟩) 8 8]).run Tryz.prog wr=.ok (.slice q (k+8) d) U /\
   U.ownsRow B 3 1 (.slice q (k+8) d) (k+8) ((l++(List.range 8).map F).map (Value.int .i64))/\Below w.heap.size w U:=by
 have hBs:B<=wr.heap.size:=by rw [hB];exact b.size
 obtain ⟨q,d,U,r1,r2,r3⟩:=zO2 Tryz.underlying22 Tryz.infoInt rfl (by decide) (by decide) o (show k+8<=100000 by omega) hBs (by decide) (k:=8) (g:=T) (ys:=((List.range 8).map F).map (Value.int .i64)) (by simp) (by intro u hu;obtain ⟨x,_,rfl⟩:=zZ.1 hu;rfl) (fun j u hu=>by
  have hj:j<8:=by
   rcases Nat.lt_or_ge j 8 with h|h
   ·exact h
   ·rw [zN (by simpa using h)] at hu;cases hu
  rw [hr j hj];rw [zV,zV,yH hj] at hu;exact hu) 8
 refine ⟨q,d,U,r1,?_,b.grown r3 b.size (fun j hj=>by have:=(o.lt j hj).1;rw [hB] at this;exact this)⟩;rw [List.map_append];exact r2
theorem yU7 (w:World) (F:Nat->Int):∀ j,j<8->(w.alloc (.cells (ar8 F) 187)).cell? ⟨w.heap.size,j,none⟩=some (.int .i64 (F j)):=by
 intro j hj;rw [zM _ _ _ _ rfl];have:j=0\/j=1\/j=2\/j=3\/j=4\/j=5\/j=6\/j=7:=by omega
 rcases this with rfl|rfl|rfl|rfl|rfl|rfl|rfl|rfl<;>rfl
theorem xH8 (c:Cf) (lv mv v:Value) (x y:Int) (st:List (List En)) (w:World) (hI:CfI w c lv mv) (hs:zA9 w v st) :
  Calls Tryz.prog 91 #[cfV c lv mv,.int .i64 x,.int .i64 y,v] w (RumP c x y st w):=by
 have B0:=hid (BcI.start hI);have HS:=hid (fun (X:World) (b:Below w.heap.size w X)=>hs.grow b);have hsm:=hs.1;obtain ⟨_,p,cp,rfl,_⟩:=hs;obtain ⟨lp,lc,rfl⟩:=yX hI.sl;obtain ⟨mp,mc,rfl⟩:=yX hI.sm;have KM:=zV6 c (.slice lp c.ls.length lc) (.slice mp c.ms.length mc) x y (w.alloc (boxC c (.slice lp c.ls.length lc) (.slice mp c.ms.length mc))) B0.out.ci;obtain ⟨E,hE⟩:∃ E,E=refE c x y:=⟨_,rfl⟩;rw [<- hE] at KM;clear hI;by_cases h0:E=0
 ·subst h0
  have hmay:=(yA5 hE.symm).1;have h4:=(xJ hmay).2.1;have KC:=hid (fun (X:World) (b:Nat) (I:CfI X c (.slice lp c.ls.length lc) (.slice mp c.ms.length mc)) (h1:X.cell? ⟨b,0,none⟩=some (.int .i64 x)) (h2:X.cell? ⟨b,1,none⟩=some (.int .i64 y))=>yF8 c _ _ b x y hmay X I h1 h2);by_cases hlen:st.length=c.ls.length
  ·have H1:=hid (fun h=>xH6 (st:=st) hE.symm hlen h)
   have H2:=hid (fun h2 h=>xH7 (st:=st) hE.symm hlen h2 h);have H3:=hid (fun h2 h=>xO1 (st:=st) hE.symm hlen h2 h);have hne:((st.length:Int) != (c.ls.length:Int))=false:=by rw [hlen];simp
   have HLE:=hid hlen;have hst4:st.length<=4:=by omega
   have hJ:=hid (fun j (h:j∈comL c.ls x y c.ls.length)=>show j<st.length by rw [hlen];exact yF6 h);have hJ4:=zH4 c.ls x y c.ls.length;clear hlen hE hmay;obtain ⟨js,hjs⟩:∃ js,js=comL c.ls x y c.ls.length:=⟨_,rfl⟩;rw [<- hjs] at hJ H2 H3 hJ4;simp only [<- hjs] at KC;have hj4:js.length<=4:=by omega
   clear hjs hJ4;obtain ⟨n,ls,t,ms,cap⟩:=c;dsimp only at *;go_enter Tryz.func91,Tryz.ntmps91
   go_wp2_with fail
   refine KM.mono ?_;rintro e w1 ⟨rfl,b1⟩;have B1:=hid (B0.out.grow b1);obtain ⟨c0,c1,c2,c3,c4⟩:=B1.out.cc;clear B0 KM b1;go_wp2;clear c0 c1 c2 c3 c4
   go_loopg [12,33] st.length (fun gg _ s33 wr=>∃ k:Nat,k<=st.length/\st.length-k<=gg/\s33=.int .i64 k/\Aside ((st.take k).all mayL=true)/\Aside (BcI w wr w.heap.size ⟨n,ls,t,ms,cap⟩ (.slice lp ls.length lc) (.slice mp ms.length mc)))
   case atStart=>exact ⟨0,zG _,by omega,rfl,rfl,B1.out⟩
   case round =>
    obtain ⟨k,hk,hg,rfl,A,BW⟩:=hrel;by_cases hlt:k<st.length
    ·have hltz:(k:Int)<(st.length:Int):=by omega
     obtain ⟨b,off,rfl,u,hu,el⟩:=(HS.out wr BW.out.be).at hlt;have KY:=kO u (st.getD k []) el.le wr el.sg el.li;clear el;cases hq:mayL (st.getD k []) with
     | false =>
      rw [hq] at KY;have HN:=hid (H1.out (zR9 _ st [] k hlt hq))
      go_wp2_with fail
      refine KY.mono ?_;rintro e w2 ⟨rfl,b2⟩;have B2:=hid (BW.out.grow b2);clear KY b2 hu;go_wp2;go_ret2
      exact zO4 HN.out B2.out.be
     | true =>
      rw [hq] at KY;have HN:=hid (vZ _ st [] k hlt A.out hq)
      go_wp2_with fail
      refine KY.mono ?_;rintro e w2 ⟨rfl,b2⟩;have B2:=hid (BW.out.grow b2);clear KY b2 hu;go_wp2
      go_roundg (st.length-(k+1))
      case measure=>omega
      case rel=>exact ⟨k+1,by omega,by omega,by go_num,(show Aside _ from HN.out),(show Aside _ from B2.out)⟩
    ·have hltz:¬ (k:Int)<(st.length:Int):=by omega
     have ek:k=st.length:=by omega
     subst ek;have hall:=A.out;rw [List.take_length] at hall;have HA:=hid hall;clear A hall;obtain ⟨c0,c1,c2,c3,c4⟩:=BW.out.cc;have bA:Below wr.heap.size wr (wr.alloc (.cells #[.int .i64 x,.int .i64 y] 3)):=yO.alloc yN _;have B3:=hid (BW.out.grow bA);have K:=KC.out _ _ B3.out.ci (jC wr x y).1 (jC wr x y).2;clear bA
     go_wp2_with fail
     refine K.mono ?_;rintro e w4 ⟨jv,rfl,g1,g2,g3⟩;have B4:=hid (B3.out.grow g3).be;obtain ⟨jp,jc,rfl⟩:=yX g1;have HJ:=hid (fun (X:World) (b:Below w4.heap.size w4 X)=>zD3 (g1.below b g2));have hjl:(zH5 js).length=js.length:=zH6 js;have hjL:=hid hjl;rw [hjl];clear K B3 g1 g2 g3 c0 c1 c2 c3 c4 KC BW hjl;go_wp2;obtain ⟨B,hB⟩:∃ B,B=w4.heap.size:=⟨_,rfl⟩;have HB:=hid hB;clear hB
     go_loopg [13,15,16,17,47] js.length (fun gg s13 _ _ _ s47 wr=>∃ k:Nat,k<=js.length/\js.length-k<=gg/\s47=.int .i64 k/\Aside (zI5 st (js.take k)=true)/\Aside (wr.ownsRow B 3 1 s13 (k*8) ((jT st (js.take k)).map (Value.int .i64)))/\Aside (Below w4.heap.size w4 wr))
     case atStart=>exact ⟨0,zG _,by omega,rfl,rfl,(show Aside _ from World.ownsRow_nil _ _ _ _),(show Aside _ from yO)⟩
     case round =>
      obtain ⟨k,hk,hg,rfl,AR,A,BW⟩:=hrel;by_cases hlt:k<js.length
      ·have hltz:(k:Int)<(js.length:Int):=by omega
       obtain ⟨jb,jo,rfl,hc⟩:=HJ.out wr BW.out (by rw [hjL.out];omega);have c0:=hc k (by rw [hjL.out];exact hlt);rw [yF7 js k hlt] at c0;have hi:=hJ.out (js.getD k 0) (by rw [zA,zB hlt];exact zH hlt);obtain ⟨i,hii⟩:∃ i,i=js.getD k 0:=⟨_,rfl⟩;rw [<- hii] at c0 hi;have hiz:(i:Int)<(st.length:Int):=by omega
       have BWW:=hid (B4.out.trans (BW.out.mono B4.out.size));obtain ⟨b,off,rfl,u,hu,el⟩:=(HS.out wr BWW.out).at hi;have hmi:mayL (st.getD i [])=true:=by rw [zA,zB hi];exact zT.1 HA.out _ (zH hi)
       have KS:=yU3 u (st.getD i []) hmi wr el.sg el.li;have HII:=hid hii;clear hc el hmi hii;cases hq:(st.getD i []).all fitE with
       | false =>
        have HN:=hid (H2.out HA.out (xV4 st js k hlt (by rw [<- HII.out];exact hq)))
        go_wp2_with fail
        refine KS.mono ?_;rintro e w5 ⟨F,rfl,hF,b5⟩;rw [if_neg (by rw [hq];decide)];have B5:=hid (BWW.out.trans (b5.mono BWW.out.size));have B6:=hid (show Below w.heap.size w (w5.alloc (.cells (ar8 F) 187)) from B5.out.alloc B5.out.size _);clear KS hF b5 c0 hu;go_wp2;go_ret2
        exact zO4 HN.out B6.out
       | true =>
        have HN:=hid (yU5 st js k hlt AR.out (by rw [<- HII.out];exact hq))
        go_wp2_with fail
        refine KS.mono ?_;rintro e w5 ⟨F,rfl,hF,b5⟩;rw [if_pos hq];have HF:=hid (hF hq);have bb:Below w5.heap.size w5 (w5.alloc (.cells (ar8 F) 187)):=yO.alloc yN _;have A6:=xZ (xZ A.out b5) bb;have B5:Below w4.heap.size w4 w5:=BW.out.trans (b5.mono BW.out.size);have B6:Below w4.heap.size w4 (w5.alloc (.cells (ar8 F) 187)):=B5.trans (bb.mono B5.size);obtain ⟨q,d,U,r1,r2,r3⟩:=app_8 A6 (show k*8<=10000 by omega) HB.out B6 (yU7 w5 F);have R1:=hid r1;have R2:=hid (show U.ownsRow B 3 1 (.slice q (k*8+8) d) ((k+1)*8) ((jT st (js.take (k+1))).map (Value.int .i64)) by
         rw [yU6 st js k hlt,<- HII.out,show (k+1)*8=k*8+8 by omega];have e:kV (st.getD i [])=(List.range 8).map F:=by
          unfold kV;exact List.map_congr_left fun j hj=>(HF.out j (zY.1 hj)).symm
         rw [e];exact r2)
        have R3:=hid r3;clear KS hF b5 c0 hu bb A6 B5 B6 r1 r2 r3 A BW BWW
        go_wp2_with (first|(at_builtin;refine xE _ _ 22 R1.out (by rfl) (by rfl) (by rfl) (by rfl) (by rfl) ?_)|fail)
        go_roundg (js.length-(k+1))
        case measure=>omega
        case rel=>exact ⟨k+1,by omega,by omega,by go_num,(show Aside _ from HN.out),(show Aside _ from R2.out),(show Aside _ from R3.out)⟩
      ·have hltz:¬ (k:Int)<(js.length:Int):=by omega
       have ek:k=js.length:=by omega
       subst ek;have ha:=A.out;have hr:=AR.out;rw [List.take_length] at ha hr;have h32:(jT st js).length=js.length*8:=zH2 st js;have HE:=hid (H3.out HA.out hr);have HP:=hid (yT9 (vs:=jT st js) (by omega) (yU4 HA.out hJ.out hr)).1;have K:=yT0 34 _ (jT st js) (by omega) wr (zH3 ha h32.symm rfl) (zV5 ha);rw [HP.out] at K;have BWW:=hid (B4.out.trans (BW.out.mono B4.out.size));clear ha hr h32 A AR BW
       go_wp2_with fail
       refine K.mono ?_;rintro e w7 ⟨u,rfl,g1,g2,g3⟩;have R:=hid (show RumP ⟨n,ls,t,ms,cap⟩ x y st w (.returned (.tuple #[u,.int .i64 ((0:Nat):Int)])) w7 from ⟨u,by rw [HE.out.1],by rw [HE.out.2];exact g1,g2,BWW.out.trans (g3.mono BWW.out.size)⟩);clear g1 g2 g3 K;go_wp2;go_ret2
       exact R.out
  ·have hne:((st.length:Int) != (c.ls.length:Int))=true:=by rw [bne_iff_ne];omega
   have HN:=hid (xH5 (st:=st) hE.symm hlen);clear hE KC hmay;obtain ⟨n,ls,t,ms,cap⟩:=c;dsimp only at *;go_enter Tryz.func91,Tryz.ntmps91
   go_wp2_with fail
   refine KM.mono ?_;rintro e w1 ⟨rfl,b1⟩;have B1:=hid (B0.out.grow b1);obtain ⟨c0,c1,c2,c3,c4⟩:=B1.out.cc;clear B0 KM b1;go_wp2;go_ret2
   exact zO4 HN.out B1.out.be
 ·have HN:=hid (xV3 (st:=st) (by rw [<- hE];exact h0))
  have hne:((E:Int) != 0)=true:=by rw [bne_iff_ne];omega
  rw [<- hE] at HN;clear hE;obtain ⟨n,ls,t,ms,cap⟩:=c;dsimp only at *;go_enter Tryz.func91,Tryz.ntmps91
  go_wp2_with fail
  refine KM.mono ?_;rintro e w1 ⟨rfl,b1⟩;have B1:=hid (B0.out.grow b1);clear B0 KM b1;go_wp2;go_ret2
  exact zO4 HN.out B1.out.be
end Go.Proofs.YtleaknfjbbccgaaGreatDoor
