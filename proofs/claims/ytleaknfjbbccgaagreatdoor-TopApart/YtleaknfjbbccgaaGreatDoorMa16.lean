/- Laid together. -/
import Derived.Below
import Derived.Shelf.Abstract
import Derived.Deep.RegionHeld3
import Derived.Deep.DeepCutAuto
import Derived.Test.YtleaknfjbbccgaaGreatDoorMa00
import Derived.Test.YtleaknfjbbccgaaGreatDoorMa08
namespace Go.Proofs.YtleaknfjbbccgaaGreatDoor.Vi
set_option maxHeartbeats 16000000
set_option maxRecDepth 100000
open Go.RowKit Go.Shelf
structure Ev where
 id:Int
 frm:Int
 dst:Int
 size:Int
 deriving Inhabited,DecidableEq
structure Sk where
 code:Int
 id:Int
 free:Int
 held:Int
 used:Int
 deriving Inhabited,DecidableEq
structure Td where
 code:Int
 who:Int
 k:Sk
 val:Int
 sent:List Ev
 frame:List Int
 report:List Int
 deriving Inhabited,DecidableEq
structure RT where
 x:Td
 ps:Option Addr
 cs:Nat
 pf:Option Addr
 cf:Nat
 pr:Option Addr
 cr:Nat
 deriving Inhabited
def RT.cell (r:RT):Nat->Value
 | 0=>.int .i64 r.x.code
 | 1=>.int .i64 r.x.who
 | 2=>.int .i64 r.x.k.code
 | 3=>.int .i64 r.x.k.id
 | 4=>.int .i64 r.x.k.free
 | 5=>.int .i64 r.x.k.held
 | 6=>.int .i64 r.x.k.used
 | 7=>.int .i64 r.x.val
 | 8=>.slice r.ps r.x.sent.length r.cs
 | 9=>.slice r.pf r.x.frame.length r.cf
 | _=>.slice r.pr r.x.report.length r.cr
abbrev aggT (v:Nat->Value):Value:=.agg #[v 0,v 1,v 2,v 3,v 4,v 5,v 6,v 7,v 8,v 9,v 10]
abbrev boxT (v:Nat->Value):Obj:=.cells #[v 0,v 1,v 2,v 3,v 4,v 5,v 6,v 7,v 8,v 9,v 10] 42
def encT:Enc RT:=⟨11,fun r=>[r.cell 0,r.cell 1,r.cell 2,r.cell 3,r.cell 4,r.cell 5,r.cell 6,r.cell 7,r.cell 8,r.cell 9,r.cell 10],fun _=>rfl,fun a u hu=>by
 simp only [List.mem_cons,List.not_mem_nil,or_false] at hu;rcases hu with rfl|rfl|rfl|rfl|rfl|rfl|rfl|rfl|rfl|rfl|rfl<;>rfl,by decide⟩
theorem xB7 (r:RT) (j:Nat) (h:j<11):(encT.enc r)[j]?=some (r.cell j):=by
 have:j=0\/j=1\/j=2\/j=3\/j=4\/j=5\/j=6\/j=7\/j=8\/j=9\/j=10:=by omega
 rcases this with rfl|rfl|rfl|rfl|rfl|rfl|rfl|rfl|rfl|rfl|rfl<;>rfl
def encV:Enc Ev:=⟨4,fun r=>[.int .i64 r.id,.int .i64 r.frm,.int .i64 r.dst,.int .i64 r.size],fun _=>rfl,fun a u hu=>by
 simp only [List.mem_cons,List.not_mem_nil,or_false] at hu;rcases hu with rfl|rfl|rfl|rfl<;>rfl,by decide⟩
def encI:Enc Int:=⟨1,fun z=>[.int .i64 z],fun _=>rfl,fun a u hu=>by simp only [List.mem_singleton] at hu;subst hu;rfl,by decide⟩
def encB:Enc Int:=⟨1,fun z=>[.int .u8 z],fun _=>rfl,fun a u hu=>by simp only [List.mem_singleton] at hu;subst hu;rfl,by decide⟩
def NoT (w:World) (b:Nat):Prop:=∀ cs z,w.heap[b]?≠some (.cells cs 42 z)
structure Sl {α:Type} (E:Enc α) (w:World) (p:Option Addr) (c:Nat) (l:List α):Prop where
 nil:p=none->c=0
 hd:0<l.length->∃ b off,p=some ⟨b,off,none⟩/\b<w.heap.size/\NoT w b/\∀ j u,(E.vals l)[j]?=some u->w.cell? ⟨b,off+j,none⟩=some u
structure Kt (w w':World):Prop where
 size:w.heap.size<=w'.heap.size
 block:∀ b,b<w.heap.size->NoT w b->w'.heap[b]?=w.heap[b]?
theorem NoT.keep {w w':World} {b:Nat} (h:NoT w b) (e:w'.heap[b]?=w.heap[b]?):NoT w' b:=fun cs z=>by rw [e];exact h cs z
namespace Kt
variable {w w' w'':World}
theorem trans (h:Kt w w') (g:Kt w' w''):Kt w w'':=⟨zI h.size g.size,fun b hb hn=>(g.block b (zF hb h.size) (hn.keep (h.block b hb hn))).trans (h.block b hb hn)⟩
theorem of_below (h:Below w.heap.size w w'):Kt w w':=⟨h.size,fun b hb _=>h.block b hb⟩
theorem of_one {g:Nat} (hg:¬ NoT w g) (hs:w'.heap.size=w.heap.size) (h:∀ b,b≠g->w'.heap[b]?=w.heap[b]?):Kt w w':=⟨by omega,fun b _ hn=>h b (fun e=>hg (e ▸ hn))⟩
end Kt
theorem Sl.keep {α:Type} {E:Enc α} {w w':World} {p:Option Addr} {c:Nat} {l:List α} (h:Sl E w p c l) (k:Kt w w'):Sl E w' p c l:=⟨h.nil,fun h0=>by
 obtain ⟨b,off,rfl,hb,hn,hc⟩:=h.hd h0;have e:=k.block b hb hn;refine ⟨b,off,rfl,zF hb k.size,hn.keep e,fun j u hu=>?_⟩;rw [<- hc j u hu];simp only [World.cell?,e]⟩
theorem Sl.none {α:Type} (E:Enc α) (w:World):Sl E w .none 0 []:=⟨fun _=>rfl,fun h=>by simp at h⟩
theorem Sl.holds {α:Type} {E:Enc α} {w:World} {p:Option Addr} {c:Nat} {l:List α} (h:Sl E w p c l):E.Holds w p l:=fun h0=>by
 obtain ⟨b,off,e,hb,_,hc⟩:=h.hd h0;exact ⟨b,off,e,hb,hc⟩
structure TdI (w:World) (y:RT):Prop where
 s:Sl encV w y.ps y.cs y.x.sent
 f:Sl encB w y.pf y.cf y.x.frame
 r:Sl encI w y.pr y.cr y.x.report
theorem TdI.keep {w w':World} {r:RT} (h:TdI w r) (k:Kt w w'):TdI w' r:=⟨h.s.keep k,h.f.keep k,h.r.keep k⟩
structure TdO (w:World) (y:RT):Prop where
 s:encV.Holds w y.ps y.x.sent
 sn:y.ps=none->y.cs=0
 sl:y.x.sent.length*32<=140737488355328
 f:encB.Holds w y.pf y.x.frame
 fn:y.pf=none->y.cf=0
 fl:y.x.frame.length<=140737488355328
 r:encI.Holds w y.pr y.x.report
 rn:y.pr=none->y.cr=0
 rl:y.x.report.length*8<=140737488355328
theorem TdO.grow {w w':World} {r:RT} (h:TdO w r) (g:Below w.heap.size w w'):TdO w' r:=⟨h.s.grow g,h.sn,h.sl,h.f.grow g,h.fn,h.fl,h.r.grow g,h.rn,h.rl⟩
theorem zR0 {α:Type} {E:Enc α} {w:World} {m c t e bytes:Nat} {i:TypeInfo} {z:Value} {p:Option Addr} {q:List α} (ht:Tryz.prog.underlying t=some (.slice e)) (hi:Tryz.prog.info? e=some i) (hz:i.zero=some z) (hsize:i.size=E.n) (hby:i.bytes=bytes) (hzs:z.cells.size=E.n)
  (hq:E.Holds w p q) (hm:q.length=m) (hnil:p=none->c=0) (hlen:m<=maxLen) (hbytes:m*bytes<=140737488355328) (heT:e≠42) :
  ∃ p' c' w',(Builtin.append_ #[t,t] t #[.slice none 0 0,.slice p m c]).run Tryz.prog w=.ok (.slice p' m c') w'/\Sl E w' p' c' q/\Below w.heap.size w w':=by
 have hown:w.ownsRow w.heap.size e E.n (.slice none 0 0) 0 []:=World.ownsRow_nil _ _ _ _;have key:∃ v' w',(Builtin.append_ #[t,t] t #[.slice none 0 0,.slice p m c]).run Tryz.prog w=.ok v' w'/\w'.ownsRow w.heap.size e E.n v' m (E.vals q)/\w.grownBy w' none:=by
  subst hm;cases p with
  | none =>
   have h0:q=[]:=by
    by_cases h:0<q.length
    ·obtain ⟨_,_,e,_⟩:=hq h;cases e
    ·exact zP.1 (by omega)
   subst h0;have hc:=hnil rfl;subst hc;refine ⟨_,w,?_,hown,⟨rfl,rfl,rfl,yN,fun _ _ _=>rfl⟩⟩;exact run_append_owned_none (P:=Tryz.prog) (w:=w) w.heap.size t t e i E.n ht hi _ 0 _ hown
  | some a =>
   obtain ⟨v',w',h1,h2,h3,_⟩:=run_append_own (P:=Tryz.prog) w w.heap.size t t e i z E.n bytes ht hi hz hsize hby hzs E.pos _ 0 _ hown a q.length c (E.vals q)
    (E.vals_len q) (fun j u hu=>by
     have hpos:0<q.length:=by
      rcases Nat.eq_zero_or_pos q.length with h|h
      ·have:q=[]:=zP.1 h
       subst this;simp [Enc.vals] at hu
      ·exact h
     obtain ⟨b,o,e,_,g⟩:=hq hpos;have e':=Option.some.inj e;subst e';rw [jD];exact g j u hu) (E.vals_cell q) (by omega) (by rw [Nat.zero_add];exact hbytes) yN
   rw [Nat.zero_add,List.nil_append] at h2;exact ⟨v',w',h1,h2,h3⟩
 obtain ⟨v',w',h1,h2,h3⟩:=key;have hb:Below w.heap.size w w':=⟨h3.os,h3.tape,h3.output,h3.size,fun k hk=>h3.block k hk (by simp)⟩;rcases h2.2 with ⟨rfl,h0⟩|⟨g,cap,cur,rfl,hg,hb2,k1,k2,k3,k4⟩
 ·have:q=[]:=zP.1 (by omega)
  subst this;subst h0;exact ⟨none,0,w',h1,Sl.none _ _,hb⟩
 ·refine ⟨_,cap,w',h1,⟨(fun e=>by cases e),fun h0=>⟨g,0,rfl,(zJ.1 hb2).1,fun cs z e=>?_,fun j u hu=>?_⟩⟩,hb⟩
  ·rw [hb2] at e
   injection e with e;injection e with _ e _;exact heT e
  ·have:=h2.cells rfl j u hu
   rw [jD] at this;exact this
theorem infoV:(Tryz.prog.info? 98).map (fun i=>(i.zero,i.size,i.bytes))=some (some (.agg #[.int .i64 0,.int .i64 0,.int .i64 0,.int .i64 0]),4,32):=by kernel_rfl
theorem qL9:(Tryz.prog.info? 3).map (fun i=>(i.zero,i.size,i.bytes))=some (some (.int .i64 0),1,8):=by kernel_rfl
theorem infoB:(Tryz.prog.info? 5).map (fun i=>(i.zero,i.size,i.bytes))=some (some (.int .u8 0),1,1):=by kernel_rfl
theorem infoT:(Tryz.prog.info? 42).map (fun i=>(i.zero,i.size,i.bytes))=some (some (.agg #[.int .i64 0,.int .i64 0,.int .i64 0,.int .i64 0,.int .i64 0,.int .i64 0,.int .i64 0,.int .i64 0,.slice none 0 0,.slice none 0 0,.slice none 0 0]),11,136):=by kernel_rfl
theorem appV {w:World} {c:Nat} {p:Option Addr} {q:List Ev} (hq:encV.Holds w p q) (hnil:p=none->c=0) (hb:q.length*32<=140737488355328) :
  ∃ p' c' w',(Builtin.append_ #[39,39] 39 #[.slice none 0 0,.slice p q.length c]).run Tryz.prog w=.ok (.slice p' q.length c') w'/\Sl encV w' p' c' q/\Below w.heap.size w w':=by
 obtain ⟨i0,hi,hz0,hz1,hz2⟩:=info_parts infoV;exact zR0 Tryz.underlying39 hi hz0 hz1 hz2 rfl hq rfl hnil (by unfold maxLen;omega) hb (by decide)
theorem appI {w:World} {c:Nat} {p:Option Addr} {q:List Int} (hq:encI.Holds w p q) (hnil:p=none->c=0) (hb:q.length*8<=140737488355328) :
  ∃ p' c' w',(Builtin.append_ #[22,22] 22 #[.slice none 0 0,.slice p q.length c]).run Tryz.prog w=.ok (.slice p' q.length c') w'/\Sl encI w' p' c' q/\Below w.heap.size w w':=by
 obtain ⟨i0,hi,hz0,hz1,hz2⟩:=info_parts qL9;exact zR0 Tryz.underlying22 hi hz0 hz1 hz2 rfl hq rfl hnil (by unfold maxLen;omega) hb (by decide)
theorem appB {w:World} {c:Nat} {p:Option Addr} {q:List Int} (hq:encB.Holds w p q) (hnil:p=none->c=0) (hb:q.length<=140737488355328) :
  ∃ p' c' w',(Builtin.append_ #[40,40] 40 #[.slice none 0 0,.slice p q.length c]).run Tryz.prog w=.ok (.slice p' q.length c') w'/\Sl encB w' p' c' q/\Below w.heap.size w w':=by
 obtain ⟨i0,hi,hz0,hz1,hz2⟩:=info_parts infoB;exact zR0 Tryz.underlying40 hi hz0 hz1 hz2 rfl hq rfl hnil (by unfold maxLen;omega) (by omega) (by decide)
def putT (W:World) (g o:Nat) (v:Nat->Value):World:=(((((((((((W.setCell ⟨g,o,none⟩ (v 0)).setCell ⟨g,o+1,none⟩ (v 1)).setCell ⟨g,o+2,none⟩ (v 2)).setCell ⟨g,o+3,none⟩ (v 3)).setCell ⟨g,o+4,none⟩ (v 4)).setCell ⟨g,o+5,none⟩ (v 5)).setCell ⟨g,o+6,none⟩ (v 6)).setCell ⟨g,o+7,none⟩ (v 7)).setCell ⟨g,o+8,none⟩ (v 8)).setCell ⟨g,o+9,none⟩ (v 9)).setCell ⟨g,o+10,none⟩ (v 10))
theorem zM0 (W:World) (g o:Nat) (v:Nat->Value) (b:Nat) (hb:b≠g):(putT W g o v).heap[b]?=W.heap[b]?:=by
 unfold putT;rw [zE _ ⟨g,_,none⟩ _ b hb,zE _ ⟨g,_,none⟩ _ b hb,zE _ ⟨g,_,none⟩ _ b hb,zE _ ⟨g,_,none⟩ _ b hb,zE _ ⟨g,_,none⟩ _ b hb,zE _ ⟨g,_,none⟩ _ b hb,zE _ ⟨g,_,none⟩ _ b hb,zE _ ⟨g,_,none⟩ _ b hb,zE _ ⟨g,_,none⟩ _ b hb,zE _ ⟨g,_,none⟩ _ b hb,zE _ ⟨g,_,none⟩ _ b hb]
theorem zX4 (W:World) (g o:Nat) (v:Nat->Value):(putT W g o v).heap.size=W.heap.size:=by simp [putT,World.setCell]
theorem xS5 (W:World) (a:Addr) (v:Value):(W.setCell a v).os=W.os:=rfl
theorem yI2 (W:World) (a:Addr) (v:Value):(W.setCell a v).tape=W.tape:=rfl
theorem zM1 (W:World) (a:Addr) (v:Value):(W.setCell a v).output=W.output:=rfl
theorem vL {B:Nat} {W:World} {g:Nat} (hg:B<=g) (o:Nat) (v:Nat->Value):Below B W (putT W g o v) :=
 ⟨by unfold putT;simp only [xS5],by unfold putT;simp only [yI2],by unfold putT;simp only [zM1],by rw [zX4];exact yN,fun b hb=>zM0 W g o v b (by omega)⟩
theorem zE6 {W:World} {g o N:Nat} {f:Nat->Value} (h:W.rowIs g 42 N f) (v:Nat->Value):(putT W g o v).rowIs g 42 N (fun j=>if o<=j/\j<o+11 then v (j-o) else f j):=by
 have e0:=h.set o (v 0);have e1:=e0.set (o+1) (v 1);have e2:=e1.set (o+2) (v 2);have e3:=e2.set (o+3) (v 3);have e4:=e3.set (o+4) (v 4);have e5:=e4.set (o+5) (v 5);have e6:=e5.set (o+6) (v 6);have e7:=e6.set (o+7) (v 7);have e8:=e7.set (o+8) (v 8);have e9:=e8.set (o+9) (v 9);have e10:=e9.set (o+10) (v 10);clear e0 e1 e2 e3 e4 e5 e6 e7 e8 e9;unfold putT;refine e10.congr fun j hj=>?_;by_cases hh:o<=j/\j<o+11
 ·obtain ⟨k,rfl⟩:∃ k,j=o+k:=⟨j-o,by omega⟩
  have hk:k=0\/k=1\/k=2\/k=3\/k=4\/k=5\/k=6\/k=7\/k=8\/k=9\/k=10:=by omega
  rw [if_pos hh,show o+k-o=k by omega];rcases hk with rfl|rfl|rfl|rfl|rfl|rfl|rfl|rfl|rfl|rfl|rfl<;>simp
 ·rw [if_neg hh]
  simp only [show ¬ j=o by omega,show ¬ j=o+1 by omega,show ¬ j=o+2 by omega,show ¬ j=o+3 by omega,show ¬ j=o+4 by omega,show ¬ j=o+5 by omega,show ¬ j=o+6 by omega,show ¬ j=o+7 by omega,show ¬ j=o+8 by omega,show ¬ j=o+9 by omega,show ¬ j=o+10 by omega,if_false]
theorem xZ8 {c:Array Value} {v:Nat->Value} (hs:c.size=11) (h:∀ i,i<11->c[i]?=some (v i)):c=#[v 0,v 1,v 2,v 3,v 4,v 5,v 6,v 7,v 8,v 9,v 10]:=by
 apply Array.ext_getElem?;intro i
 match i with
 | 0=>simpa using h 0 (by omega)
 | 1=>simpa using h 1 (by omega)
 | 2=>simpa using h 2 (by omega)
 | 3=>simpa using h 3 (by omega)
 | 4=>simpa using h 4 (by omega)
 | 5=>simpa using h 5 (by omega)
 | 6=>simpa using h 6 (by omega)
 | 7=>simpa using h 7 (by omega)
 | 8=>simpa using h 8 (by omega)
 | 9=>simpa using h 9 (by omega)
 | 10=>simpa using h 10 (by omega)
 | i+11=>rw [yI (by omega),yI (by simp)]
theorem zM2 {fn:Func} {p:Tmp} {Q:Ending->World->Prop} {a:Act} {w:World} (h:fn.results=#[.cell p 42]) (G:Nat) (v:Nat->Value) (hp:a.tmps.getD p undef=.pointer (some ⟨G,0,none⟩))
  (hg:w.rowIs G 42 11 v) (hd:a.defers=[]) (hR:Q (.returned (aggT v)) w):bodyPost Tryz.prog fn Q .ret a w:=by
 obtain ⟨c,hb,hs,hc⟩:=hg;have e:=xZ8 hs hc;subst e;exact bodyPost_ret (results_cell_row (P:=Tryz.prog) h _ _ G 42 _ (0,0) _ hp hb Tryz.underlying42 rfl (by kernel_rfl)) hd hR
theorem jR (w:World) (v:Nat->Value):(w.alloc (boxT v)).rowIs w.heap.size 42 11 v:=by
 refine yK w _ 42 _ fun j hi=>?_;have hi5:j<11:=hi;have:j=0\/j=1\/j=2\/j=3\/j=4\/j=5\/j=6\/j=7\/j=8\/j=9\/j=10:=by omega
 rcases this with rfl|rfl|rfl|rfl|rfl|rfl|rfl|rfl|rfl|rfl|rfl<;>rfl
theorem yI3 {w:World} {b n:Nat} {f:Nat->Value} (h:w.rowIs b 42 n f):¬ NoT w b:=fun hn=>by
 obtain ⟨c,hb,_⟩:=h;exact hn _ _ hb
theorem qM0 {w:World} {p:Option Addr} {l:List RT} (h:encT.Holds w p l) (h0:0<l.length):∃ b off,p=some ⟨b,off,none⟩/\b<w.heap.size/\∀ j,j<l.length->∀ i,i<11->w.cell? ⟨b,off+(j*11+i),none⟩=some ((l.getD j default).cell i):=by
 obtain ⟨b,off,rfl,hb,hc⟩:=h.at default h0;exact ⟨b,off,rfl,hb,fun j hj i hi=>hc j i _ hj hi (xB7 _ i hi)⟩
theorem xO2 (p:Option Addr) (c:Nat) (q:List Ev) (w:World) (hq:encV.Holds w p q) (hnil:p=none->c=0) (hb:q.length*32<=140737488355328) :
  Calls Tryz.prog 57 #[.slice p q.length c] w fun e w'=>∃ p' c',e=.returned (.slice p' q.length c')/\Sl encV w' p' c' q/\Below w.heap.size w w':=by
 obtain ⟨p',c',w',hr,hs,hw⟩:=appV hq hnil hb;have RUN:=hid hr;have HS:=hid hs;have HB:=hid hw;clear hr hs hw hq hb hnil;generalize q.length=n at RUN;go_enter Tryz.func57,Tryz.ntmps57
 go_wp2_with (first|(at_builtin;refine yY _ _ 39 RUN.out (by rfl) (by rfl) (by rfl) (by rfl) (by rfl) ?_)|fail)
 go_ret
 exact ⟨_,_,rfl,HS.out,HB.out⟩
theorem xO3 (p:Option Addr) (c:Nat) (q:List Int) (w:World) (hq:encI.Holds w p q) (hnil:p=none->c=0) (hb:q.length*8<=140737488355328) :
  Calls Tryz.prog 58 #[.slice p q.length c] w fun e w'=>∃ p' c',e=.returned (.slice p' q.length c')/\Sl encI w' p' c' q/\Below w.heap.size w w':=by
 obtain ⟨p',c',w',hr,hs,hw⟩:=appI hq hnil hb;have RUN:=hid hr;have HS:=hid hs;have HB:=hid hw;clear hr hs hw hq hb hnil;generalize q.length=n at RUN;go_enter Tryz.func58,Tryz.ntmps58
 go_wp2_with (first|(at_builtin;refine yY _ _ 22 RUN.out (by rfl) (by rfl) (by rfl) (by rfl) (by rfl) ?_)|fail)
 go_ret
 exact ⟨_,_,rfl,HS.out,HB.out⟩
theorem xO4 (p:Option Addr) (c:Nat) (q:List Int) (w:World) (hq:encB.Holds w p q) (hnil:p=none->c=0) (hb:q.length<=140737488355328) :
  Calls Tryz.prog 59 #[.slice p q.length c] w fun e w'=>∃ p' c',e=.returned (.slice p' q.length c')/\Sl encB w' p' c' q/\Below w.heap.size w w':=by
 obtain ⟨p',c',w',hr,hs,hw⟩:=appB hq hnil hb;have RUN:=hid hr;have HS:=hid hs;have HB:=hid hw;clear hr hs hw hq hb hnil;generalize q.length=n at RUN;go_enter Tryz.func59,Tryz.ntmps59
 go_wp2_with (first|(at_builtin;refine yY _ _ 40 RUN.out (by rfl) (by rfl) (by rfl) (by rfl) (by rfl) ?_)|fail)
 go_ret
 exact ⟨_,_,rfl,HS.out,HB.out⟩
def seeT (b:Bool) (t:Td):Td:=if b then t else ⟨0,t.who,⟨0,0,0,0,0⟩,0,t.sent,[],t.report⟩
abbrev xF:Nat->Value:=(RT.mk ⟨0,0,⟨0,0,0,0,0⟩,0,[],[],[]⟩ none 0 none 0 none 0).cell
structure SeenI (W wx:World) (mb:Nat) (who:Int) (qs:Option Addr) (ds:Nat) (sent:List Ev) (qr:Option Addr) (dr:Nat) (report:List Int):Prop where
 row:wx.rowIs mb 42 11 (RT.mk ⟨0,who,⟨0,0,0,0,0⟩,0,sent,[],report⟩ qs ds none 0 qr dr).cell
 s:Sl encV wx qs ds sent
 r:Sl encI wx qr dr report
 be:Below W.heap.size W wx
 lt:W.heap.size<=mb
theorem qB4 (W:World) (g:Nat) (code who kc ki kf kh ku val:Int) (sent:List Ev) (frame report:List Int) (qs:Option Addr) (ds:Nat) (qf:Option Addr) (df:Nat) (qr:Option Addr) (dr:Nat):(((((((((((W.setCell ⟨g,0,none⟩ (.int .i64 code)).setCell ⟨g,1,none⟩ (.int .i64 who)).setCell ⟨g,2,none⟩ (.int .i64 kc)).setCell ⟨g,3,none⟩ (.int .i64 ki)).setCell ⟨g,4,none⟩ (.int .i64 kf)).setCell ⟨g,5,none⟩ (.int .i64 kh)).setCell ⟨g,6,none⟩ (.int .i64 ku)).setCell ⟨g,7,none⟩ (.int .i64 val)).setCell ⟨g,8,none⟩ (.slice qs sent.length ds)).setCell ⟨g,9,none⟩ (.slice qf frame.length df)).setCell ⟨g,10,none⟩ (.slice qr report.length dr))=putT W g 0 (RT.mk ⟨code,who,⟨kc,ki,kf,kh,ku⟩,val,sent,frame,report⟩ qs ds qf df qr dr).cell:=by
 simp only [putT,RT.cell,Nat.zero_add]
theorem xB8 (W:World) (g:Nat) (who:Int) (sent:List Ev) (report:List Int) (qs:Option Addr) (ds:Nat) (qr:Option Addr) (dr:Nat):(((((((((((W.setCell ⟨g,0,none⟩ (.int .i64 0)).setCell ⟨g,1,none⟩ (.int .i64 who)).setCell ⟨g,2,none⟩ (.int .i64 0)).setCell ⟨g,3,none⟩ (.int .i64 0)).setCell ⟨g,4,none⟩ (.int .i64 0)).setCell ⟨g,5,none⟩ (.int .i64 0)).setCell ⟨g,6,none⟩ (.int .i64 0)).setCell ⟨g,7,none⟩ (.int .i64 0)).setCell ⟨g,8,none⟩ (.slice qs sent.length ds)).setCell ⟨g,9,none⟩ (.slice none 0 0)).setCell ⟨g,10,none⟩ (.slice qr report.length dr))=putT W g 0 (RT.mk ⟨0,who,⟨0,0,0,0,0⟩,0,sent,[],report⟩ qs ds none 0 qr dr).cell:=by
 simp only [putT,RT.cell,Nat.zero_add,List.length_nil]
theorem zI1 {W:World} {g:Nat} {f:Nat->Value} (h:W.rowIs g 42 11 f) (v:Nat->Value):(putT W g 0 v).rowIs g 42 11 v :=
 (zE6 (o:=0) h v).congr fun j hj=>by rw [if_pos ⟨zG _,by omega⟩,Nat.sub_zero]
theorem zR1 {W:World} {g:Nat} {n:Nat} {f:Nat->Value} (h:W.rowIs g 42 n f) (o:Nat) (v:Nat->Value):Kt W (putT W g o v):=Kt.of_one (yI3 h) (zX4 W g o v) (zM0 W g o v)
theorem SeenI.made {W w2:World} {who:Int} {qs:Option Addr} {ds:Nat} {sent:List Ev} {qr:Option Addr} {dr:Nat} {report:List Int} (hs:Sl encV w2 qs ds sent) (hr:Sl encI w2 qr dr report) (b:Below W.heap.size W w2) :
  SeenI W (w2.alloc (.cells #[.int .i64 0,.int .i64 who,.int .i64 0,.int .i64 0,.int .i64 0,.int .i64 0,.int .i64 0,.int .i64 0,.slice qs sent.length ds,.slice none 0 0,.slice qr report.length dr] 42)) w2.heap.size who qs ds sent qr dr report :=
 have k:Kt w2 (w2.alloc (.cells #[.int .i64 0,.int .i64 who,.int .i64 0,.int .i64 0,.int .i64 0,.int .i64 0,.int .i64 0,.int .i64 0,.slice qs sent.length ds,.slice none 0 0,.slice qr report.length dr] 42)):=Kt.of_below (yO.alloc yN _)
 ⟨jR w2 (RT.mk ⟨0,who,⟨0,0,0,0,0⟩,0,sent,[],report⟩ qs ds none 0 qr dr).cell,hs.keep k,hr.keep k,b.alloc b.size _,b.size⟩
theorem SeenI.chain {W w2:World} {g:Nat} {f:Nat->Value} {who:Int} {qs:Option Addr} {ds:Nat} {sent:List Ev} {qr:Option Addr} {dr:Nat} {report:List Int} (h:w2.rowIs g 42 11 f) (hs:Sl encV w2 qs ds sent) (hr:Sl encI w2 qr dr report) (b:Below W.heap.size W w2) (hg:W.heap.size<=g) :
  SeenI W ((((((((((((w2.setCell ⟨g,0,none⟩ (.int .i64 0)).setCell ⟨g,1,none⟩ (.int .i64 who)).setCell ⟨g,2,none⟩ (.int .i64 0)).setCell ⟨g,3,none⟩ (.int .i64 0)).setCell ⟨g,4,none⟩ (.int .i64 0)).setCell ⟨g,5,none⟩ (.int .i64 0)).setCell ⟨g,6,none⟩ (.int .i64 0)).setCell ⟨g,7,none⟩ (.int .i64 0)).setCell ⟨g,8,none⟩ (.slice qs sent.length ds)).setCell ⟨g,9,none⟩ (.slice none 0 0)).setCell ⟨g,10,none⟩ (.slice qr report.length dr))) g who qs ds sent qr dr report:=by
 rw [xB8 w2 g who sent report qs ds qr dr];have k:=zR1 h 0 (RT.mk ⟨0,who,⟨0,0,0,0,0⟩,0,sent,[],report⟩ qs ds none 0 qr dr).cell;exact ⟨zI1 h _,hs.keep k,hr.keep k,b.trans ((vL hg _ _).mono yN),hg⟩
theorem see8 {w:World} {g:Nat} {who:Int} {sent:List Ev} {report:List Int} {qs:Option Addr} {ds:Nat} {qr:Option Addr} {dr:Nat} (h:w.rowIs g 42 11 (RT.mk ⟨0,who,⟨0,0,0,0,0⟩,0,sent,[],report⟩ qs ds none 0 qr dr).cell) (code kc ki kf kh ku val:Int) (frame:List Int) (qf:Option Addr) (df:Nat) :
  ((((((((w.setCell ⟨g,0,none⟩ (.int .i64 code)).setCell ⟨g,2,none⟩ (.int .i64 kc)).setCell ⟨g,3,none⟩ (.int .i64 ki)).setCell ⟨g,4,none⟩ (.int .i64 kf)).setCell ⟨g,5,none⟩ (.int .i64 kh)).setCell ⟨g,6,none⟩ (.int .i64 ku)).setCell ⟨g,7,none⟩ (.int .i64 val)).setCell ⟨g,9,none⟩ (.slice qf frame.length df)).rowIs g 42 11 (RT.mk ⟨code,who,⟨kc,ki,kf,kh,ku⟩,val,sent,frame,report⟩ qs ds qf df qr dr).cell/\Kt w ((((((((w.setCell ⟨g,0,none⟩ (.int .i64 code)).setCell ⟨g,2,none⟩ (.int .i64 kc)).setCell ⟨g,3,none⟩ (.int .i64 ki)).setCell ⟨g,4,none⟩ (.int .i64 kf)).setCell ⟨g,5,none⟩ (.int .i64 kh)).setCell ⟨g,6,none⟩ (.int .i64 ku)).setCell ⟨g,7,none⟩ (.int .i64 val)).setCell ⟨g,9,none⟩ (.slice qf frame.length df))/\(∀ B,B<=g->Below B w ((((((((w.setCell ⟨g,0,none⟩ (.int .i64 code)).setCell ⟨g,2,none⟩ (.int .i64 kc)).setCell ⟨g,3,none⟩ (.int .i64 ki)).setCell ⟨g,4,none⟩ (.int .i64 kf)).setCell ⟨g,5,none⟩ (.int .i64 kh)).setCell ⟨g,6,none⟩ (.int .i64 ku)).setCell ⟨g,7,none⟩ (.int .i64 val)).setCell ⟨g,9,none⟩ (.slice qf frame.length df)))/\∀ b,b≠g->((((((((w.setCell ⟨g,0,none⟩ (.int .i64 code)).setCell ⟨g,2,none⟩ (.int .i64 kc)).setCell ⟨g,3,none⟩ (.int .i64 ki)).setCell ⟨g,4,none⟩ (.int .i64 kf)).setCell ⟨g,5,none⟩ (.int .i64 kh)).setCell ⟨g,6,none⟩ (.int .i64 ku)).setCell ⟨g,7,none⟩ (.int .i64 val)).setCell ⟨g,9,none⟩ (.slice qf frame.length df)).heap[b]?=w.heap[b]?:=by
 have e0:=h.set 0 (.int .i64 code);have e2:=e0.set 2 (.int .i64 kc);have e3:=e2.set 3 (.int .i64 ki);have e4:=e3.set 4 (.int .i64 kf);have e5:=e4.set 5 (.int .i64 kh);have e6:=e5.set 6 (.int .i64 ku);have e7:=e6.set 7 (.int .i64 val);have e9:=e7.set 9 (.slice qf frame.length df);clear e0 e2 e3 e4 e5 e6 e7;have ho:∀ b,b≠g->((((((((w.setCell ⟨g,0,none⟩ (.int .i64 code)).setCell ⟨g,2,none⟩ (.int .i64 kc)).setCell ⟨g,3,none⟩ (.int .i64 ki)).setCell ⟨g,4,none⟩ (.int .i64 kf)).setCell ⟨g,5,none⟩ (.int .i64 kh)).setCell ⟨g,6,none⟩ (.int .i64 ku)).setCell ⟨g,7,none⟩ (.int .i64 val)).setCell ⟨g,9,none⟩ (.slice qf frame.length df)).heap[b]?=w.heap[b]?:=fun b hb=>by
  rw [zE _ ⟨g,_,none⟩ _ b hb,zE _ ⟨g,_,none⟩ _ b hb,zE _ ⟨g,_,none⟩ _ b hb,zE _ ⟨g,_,none⟩ _ b hb,zE _ ⟨g,_,none⟩ _ b hb,zE _ ⟨g,_,none⟩ _ b hb,zE _ ⟨g,_,none⟩ _ b hb,zE _ ⟨g,_,none⟩ _ b hb]
 have hz:((((((((w.setCell ⟨g,0,none⟩ (.int .i64 code)).setCell ⟨g,2,none⟩ (.int .i64 kc)).setCell ⟨g,3,none⟩ (.int .i64 ki)).setCell ⟨g,4,none⟩ (.int .i64 kf)).setCell ⟨g,5,none⟩ (.int .i64 kh)).setCell ⟨g,6,none⟩ (.int .i64 ku)).setCell ⟨g,7,none⟩ (.int .i64 val)).setCell ⟨g,9,none⟩ (.slice qf frame.length df)).heap.size=w.heap.size:=by simp [World.setCell]
 refine ⟨e9.congr fun j hj=>?_,Kt.of_one (yI3 h) hz ho,fun B hB=>⟨by simp only [xS5],by simp only [yI2],by simp only [zM1],by rw [hz];exact yN,fun b hb=>ho b (by omega)⟩,ho⟩;have:j=0\/j=1\/j=2\/j=3\/j=4\/j=5\/j=6\/j=7\/j=8\/j=9\/j=10:=by omega
 rcases this with rfl|rfl|rfl|rfl|rfl|rfl|rfl|rfl|rfl|rfl|rfl<;>simp [RT.cell]
theorem see_c (r:RT) (b:Bool) (w:World) (h:TdO w r) :
  Calls Tryz.prog 39 #[aggT r.cell,.bool b] w fun e w'=>∃ r':RT,e=.returned (aggT r'.cell)/\r'.x=seeT b r.x/\TdI w' r'/\Below w.heap.size w w':=by
 obtain ⟨⟨code,who,⟨kc,ki,kf,kh,ku⟩,val,sent,frame,report⟩,ps,cs,pf,cf,pr,cr⟩:=r;have TB0:=hid (show ((w.alloc (boxT (RT.mk ⟨code,who,⟨kc,ki,kf,kh,ku⟩,val,sent,frame,report⟩ ps cs pf cf pr cr).cell)).alloc (boxT xF)).rowIs w.heap.size 42 11 (RT.mk ⟨code,who,⟨kc,ki,kf,kh,ku⟩,val,sent,frame,report⟩ ps cs pf cf pr cr).cell from (jR w _).alloc _);have RB0:=hid (show ((w.alloc (boxT (RT.mk ⟨code,who,⟨kc,ki,kf,kh,ku⟩,val,sent,frame,report⟩ ps cs pf cf pr cr).cell)).alloc (boxT xF)).rowIs (w.heap.size+1) 42 11 xF from by
  have:=jR (w.alloc (boxT (RT.mk ⟨code,who,⟨kc,ki,kf,kh,ku⟩,val,sent,frame,report⟩ ps cs pf cf pr cr).cell)) xF;simpa using this)
 have BE0:=hid (show Below w.heap.size w ((w.alloc (boxT (RT.mk ⟨code,who,⟨kc,ki,kf,kh,ku⟩,val,sent,frame,report⟩ ps cs pf cf pr cr).cell)).alloc (boxT xF)) from (yO.alloc yN _).alloc (by simp) _);obtain ⟨W,hW⟩:∃ W,W=(w.alloc (.cells #[.int .i64 code,.int .i64 who,.int .i64 kc,.int .i64 ki,.int .i64 kf,.int .i64 kh,.int .i64 ku,.int .i64 val,.slice ps sent.length cs,.slice pf frame.length cf,.slice pr report.length cr] 42)).alloc (.cells #[.int .i64 0,.int .i64 0,.int .i64 0,.int .i64 0,.int .i64 0,.int .i64 0,.int .i64 0,.int .i64 0,.slice none 0 0,.slice none 0 0,.slice none 0 0] 42):=⟨_,rfl⟩;have hsz:W.heap.size=w.heap.size+2:=by rw [hW];simp
 have TB0:=hid (show W.rowIs w.heap.size 42 11 _ from by rw [hW];exact TB0.out);have RB0:=hid (show W.rowIs (w.heap.size+1) 42 11 xF from by rw [hW];exact RB0.out);have BE0:=hid (show Below w.heap.size w W from by rw [hW];exact BE0.out);have HO:=hid (h.grow (show Below w.heap.size w W from BE0.out));clear h;obtain ⟨H,hH0⟩:∃ H,H=w.heap.size:=⟨_,rfl⟩;have TB:=hid (show W.rowIs H 42 11 (RT.mk ⟨code,who,⟨kc,ki,kf,kh,ku⟩,val,sent,frame,report⟩ ps cs pf cf pr cr).cell by rw [hH0];exact TB0.out);have RB:=hid (show W.rowIs (H+1) 42 11 xF by rw [hH0];exact RB0.out);have BE:=hid (show Below H w W by rw [hH0];exact BE0.out);have hH:=hid (show H<W.heap.size by omega);have hH1:=hid (show H+1<W.heap.size by omega);have HH:=hid hH0;have HW:=hid hW;clear TB0 RB0 BE0 hsz;show Calls Tryz.prog 39 #[.agg #[.int .i64 code,.int .i64 who,.int .i64 kc,.int .i64 ki,.int .i64 kf,.int .i64 kh,.int .i64 ku,.int .i64 val,.slice ps sent.length cs,.slice pf frame.length cf,.slice pr report.length cr],.bool b] w _;go_enter Tryz.func39,Tryz.ntmps39
 go_upto_region 1 with fail
 rw [<- HW.out,<- HH.out];clear hW hH0;have c1:W.cell? ⟨H,1,none⟩=some (.int .i64 who):=TB.out.cell (i:=1) (by decide);have c8:W.cell? ⟨H,8,none⟩=some (.slice ps sent.length cs):=TB.out.cell (i:=8) (by decide);have c10:W.cell? ⟨H,10,none⟩=some (.slice pr report.length cr):=TB.out.cell (i:=10) (by decide);have hHlt:=hH.out;have neW:¬ W.heap.size=H:=by omega
 have KV:=fun X (bx:Below W.heap.size W X)=>xO2 ps cs sent X (HO.out.s.grow bx) HO.out.sn HO.out.sl;have KI:=fun X (bx:Below W.heap.size W X)=>xO3 pr cr report X (HO.out.r.grow bx) HO.out.rn HO.out.rl;have bA:=hid (show Below W.heap.size W W.drew from yO.drew);have bB:=hid (show Below W.heap.size W (W.alloc (boxT xF)).drew from (yO.alloc yN _).drew)
 go_cut [5] (fun sa wx=>∃ mb qs ds qr dr,sa=.pointer (some ⟨mb,0,none⟩)/\SeenI W wx mb who qs ds sent qr dr report)
 case first =>
  go_region_held3 (fun w'=>w'.cell? ⟨H,1,none⟩=some (.int .i64 who)/\w'.cell? ⟨H,8,none⟩=some (.slice ps sent.length cs)/\w'.cell? ⟨H,10,none⟩=some (.slice pr report.length cr)) (go_keep)
   ((first
   | (go_at_call 57;first
   | (refine (KV _ bA.out).mono ?_;rintro e w1 ⟨qs,ds,rfl,sl,b⟩;have SV:=hid sl;have B9:=hid (bA.out.trans (b.mono bA.out.size));have x1:w1.cell? ⟨H,1,none⟩=some (.int .i64 who):=(TB.out.of_block (B9.out.block _ hH.out)).cell (i:=1) (by decide);have x8:w1.cell? ⟨H,8,none⟩=some (.slice ps sent.length cs):=(TB.out.of_block (B9.out.block _ hH.out)).cell (i:=8) (by decide);have x10:w1.cell? ⟨H,10,none⟩=some (.slice pr report.length cr):=(TB.out.of_block (B9.out.block _ hH.out)).cell (i:=10) (by decide);have new1:¬ w1.heap.size=H:=(by have:=B9.out.size;have:=hH.out;omega);have hs9:=B9.out.size;clear sl b)
   | (refine (KV _ bB.out).mono ?_;rintro e w1 ⟨qs,ds,rfl,sl,b⟩;have SV:=hid sl;have B9:=hid (bB.out.trans (b.mono bB.out.size));have x1:w1.cell? ⟨H,1,none⟩=some (.int .i64 who):=(TB.out.of_block (B9.out.block _ hH.out)).cell (i:=1) (by decide);have x8:w1.cell? ⟨H,8,none⟩=some (.slice ps sent.length cs):=(TB.out.of_block (B9.out.block _ hH.out)).cell (i:=8) (by decide);have x10:w1.cell? ⟨H,10,none⟩=some (.slice pr report.length cr):=(TB.out.of_block (B9.out.block _ hH.out)).cell (i:=10) (by decide);have new1:¬ w1.heap.size=H:=(by have:=B9.out.size;have:=hH.out;omega);have hs9:=B9.out.size;have RZ:=hid (show w1.rowIs W.heap.size 42 11 xF from (show (W.alloc (boxT xF)).drew.rowIs W.heap.size 42 11 xF from jR W xF).of_block (b.block _ (by simp)));have z0:=RZ.out.cell (i:=0) (by decide);have z1:=RZ.out.cell (i:=1) (by decide);have z2:=RZ.out.cell (i:=2) (by decide);have z3:=RZ.out.cell (i:=3) (by decide);have z4:=RZ.out.cell (i:=4) (by decide);have z5:=RZ.out.cell (i:=5) (by decide);have z6:=RZ.out.cell (i:=6) (by decide);have z7:=RZ.out.cell (i:=7) (by decide);have z8:=RZ.out.cell (i:=8) (by decide);have z9:=RZ.out.cell (i:=9) (by decide);have z10:=RZ.out.cell (i:=10) (by decide);have zf0:=RZ.out.frozen 0;have zf1:=RZ.out.frozen 1;have zf2:=RZ.out.frozen 2;have zf3:=RZ.out.frozen 3;have zf4:=RZ.out.frozen 4;have zf5:=RZ.out.frozen 5;have zf6:=RZ.out.frozen 6;have zf7:=RZ.out.frozen 7;have zf8:=RZ.out.frozen 8;have zf9:=RZ.out.frozen 9;have zf10:=RZ.out.frozen 10;clear sl b)
   | (refine (KV _ B9.out).mono ?_;rintro e w2 ⟨qs,ds,rfl,sl,b⟩;have SV:=hid sl;have B8:=hid (B9.out.trans (b.mono (Below.size B9.out)));have B7:=B9;clear x1 x8 x10 hs9 B9;have B9:=B8;clear B8;have x1:w2.cell? ⟨H,1,none⟩=some (.int .i64 who):=(TB.out.of_block (B9.out.block _ hH.out)).cell (i:=1) (by decide);have x8:w2.cell? ⟨H,8,none⟩=some (.slice ps sent.length cs):=(TB.out.of_block (B9.out.block _ hH.out)).cell (i:=8) (by decide);have x10:w2.cell? ⟨H,10,none⟩=some (.slice pr report.length cr):=(TB.out.of_block (B9.out.block _ hH.out)).cell (i:=10) (by decide);have new2:¬ w2.heap.size=H:=(by have:=B9.out.size;have:=hH.out;omega);have hs9:=B9.out.size;have SI2:=hid (SI.out.keep (Kt.of_below b));(first|(have RZ2:=hid (RZ.out.of_block (b.block _ RZ.out.lt));clear z0 z1 z2 z3 z4 z5 z6 z7 z8 z9 z10 zf0 zf1 zf2 zf3 zf4 zf5 zf6 zf7 zf8 zf9 zf10;have y0:=RZ2.out.cell (i:=0) (by decide);have y1:=RZ2.out.cell (i:=1) (by decide);have y2:=RZ2.out.cell (i:=2) (by decide);have y3:=RZ2.out.cell (i:=3) (by decide);have y4:=RZ2.out.cell (i:=4) (by decide);have y5:=RZ2.out.cell (i:=5) (by decide);have y6:=RZ2.out.cell (i:=6) (by decide);have y7:=RZ2.out.cell (i:=7) (by decide);have y8:=RZ2.out.cell (i:=8) (by decide);have y9:=RZ2.out.cell (i:=9) (by decide);have y10:=RZ2.out.cell (i:=10) (by decide);have yf0:=RZ2.out.frozen 0;have yf1:=RZ2.out.frozen 1;have yf2:=RZ2.out.frozen 2;have yf3:=RZ2.out.frozen 3;have yf4:=RZ2.out.frozen 4;have yf5:=RZ2.out.frozen 5;have yf6:=RZ2.out.frozen 6;have yf7:=RZ2.out.frozen 7;have yf8:=RZ2.out.frozen 8;have yf9:=RZ2.out.frozen 9;have yf10:=RZ2.out.frozen 10)|skip);clear sl b)
   | (refine (KV _ (B9.out.alloc B9.out.size _)).mono ?_;rintro e w2 ⟨qs,ds,rfl,sl,b⟩;have SV:=hid sl;have B8:=hid ((B9.out.alloc B9.out.size _).trans (b.mono (Below.size (B9.out.alloc B9.out.size _))));have B7:=B9;clear x1 x8 x10 hs9 B9;have B9:=B8;clear B8;have x1:w2.cell? ⟨H,1,none⟩=some (.int .i64 who):=(TB.out.of_block (B9.out.block _ hH.out)).cell (i:=1) (by decide);have x8:w2.cell? ⟨H,8,none⟩=some (.slice ps sent.length cs):=(TB.out.of_block (B9.out.block _ hH.out)).cell (i:=8) (by decide);have x10:w2.cell? ⟨H,10,none⟩=some (.slice pr report.length cr):=(TB.out.of_block (B9.out.block _ hH.out)).cell (i:=10) (by decide);have new2:¬ w2.heap.size=H:=(by have:=B9.out.size;have:=hH.out;omega);have hs9:=B9.out.size;have SI2:=hid (SI.out.keep ((Kt.of_below (yO.alloc yN _)).trans (Kt.of_below b)));have RZ2:=hid (show w2.rowIs w1.heap.size 42 11 xF from (jR w1 xF).of_block (b.block _ (by simp)));have y0:=RZ2.out.cell (i:=0) (by decide);have y1:=RZ2.out.cell (i:=1) (by decide);have y2:=RZ2.out.cell (i:=2) (by decide);have y3:=RZ2.out.cell (i:=3) (by decide);have y4:=RZ2.out.cell (i:=4) (by decide);have y5:=RZ2.out.cell (i:=5) (by decide);have y6:=RZ2.out.cell (i:=6) (by decide);have y7:=RZ2.out.cell (i:=7) (by decide);have y8:=RZ2.out.cell (i:=8) (by decide);have y9:=RZ2.out.cell (i:=9) (by decide);have y10:=RZ2.out.cell (i:=10) (by decide);have yf0:=RZ2.out.frozen 0;have yf1:=RZ2.out.frozen 1;have yf2:=RZ2.out.frozen 2;have yf3:=RZ2.out.frozen 3;have yf4:=RZ2.out.frozen 4;have yf5:=RZ2.out.frozen 5;have yf6:=RZ2.out.frozen 6;have yf7:=RZ2.out.frozen 7;have yf8:=RZ2.out.frozen 8;have yf9:=RZ2.out.frozen 9;have yf10:=RZ2.out.frozen 10;clear sl b)
   )
   | (go_at_call 58;first
   | (refine (KI _ bA.out).mono ?_;rintro e w1 ⟨qr,dr,rfl,sl,b⟩;have SI:=hid sl;have B9:=hid (bA.out.trans (b.mono bA.out.size));have x1:w1.cell? ⟨H,1,none⟩=some (.int .i64 who):=(TB.out.of_block (B9.out.block _ hH.out)).cell (i:=1) (by decide);have x8:w1.cell? ⟨H,8,none⟩=some (.slice ps sent.length cs):=(TB.out.of_block (B9.out.block _ hH.out)).cell (i:=8) (by decide);have x10:w1.cell? ⟨H,10,none⟩=some (.slice pr report.length cr):=(TB.out.of_block (B9.out.block _ hH.out)).cell (i:=10) (by decide);have new1:¬ w1.heap.size=H:=(by have:=B9.out.size;have:=hH.out;omega);have hs9:=B9.out.size;clear sl b)
   | (refine (KI _ bB.out).mono ?_;rintro e w1 ⟨qr,dr,rfl,sl,b⟩;have SI:=hid sl;have B9:=hid (bB.out.trans (b.mono bB.out.size));have x1:w1.cell? ⟨H,1,none⟩=some (.int .i64 who):=(TB.out.of_block (B9.out.block _ hH.out)).cell (i:=1) (by decide);have x8:w1.cell? ⟨H,8,none⟩=some (.slice ps sent.length cs):=(TB.out.of_block (B9.out.block _ hH.out)).cell (i:=8) (by decide);have x10:w1.cell? ⟨H,10,none⟩=some (.slice pr report.length cr):=(TB.out.of_block (B9.out.block _ hH.out)).cell (i:=10) (by decide);have new1:¬ w1.heap.size=H:=(by have:=B9.out.size;have:=hH.out;omega);have hs9:=B9.out.size;have RZ:=hid (show w1.rowIs W.heap.size 42 11 xF from (show (W.alloc (boxT xF)).drew.rowIs W.heap.size 42 11 xF from jR W xF).of_block (b.block _ (by simp)));have z0:=RZ.out.cell (i:=0) (by decide);have z1:=RZ.out.cell (i:=1) (by decide);have z2:=RZ.out.cell (i:=2) (by decide);have z3:=RZ.out.cell (i:=3) (by decide);have z4:=RZ.out.cell (i:=4) (by decide);have z5:=RZ.out.cell (i:=5) (by decide);have z6:=RZ.out.cell (i:=6) (by decide);have z7:=RZ.out.cell (i:=7) (by decide);have z8:=RZ.out.cell (i:=8) (by decide);have z9:=RZ.out.cell (i:=9) (by decide);have z10:=RZ.out.cell (i:=10) (by decide);have zf0:=RZ.out.frozen 0;have zf1:=RZ.out.frozen 1;have zf2:=RZ.out.frozen 2;have zf3:=RZ.out.frozen 3;have zf4:=RZ.out.frozen 4;have zf5:=RZ.out.frozen 5;have zf6:=RZ.out.frozen 6;have zf7:=RZ.out.frozen 7;have zf8:=RZ.out.frozen 8;have zf9:=RZ.out.frozen 9;have zf10:=RZ.out.frozen 10;clear sl b)
   | (refine (KI _ B9.out).mono ?_;rintro e w2 ⟨qr,dr,rfl,sl,b⟩;have SI:=hid sl;have B8:=hid (B9.out.trans (b.mono (Below.size B9.out)));have B7:=B9;clear x1 x8 x10 hs9 B9;have B9:=B8;clear B8;have x1:w2.cell? ⟨H,1,none⟩=some (.int .i64 who):=(TB.out.of_block (B9.out.block _ hH.out)).cell (i:=1) (by decide);have x8:w2.cell? ⟨H,8,none⟩=some (.slice ps sent.length cs):=(TB.out.of_block (B9.out.block _ hH.out)).cell (i:=8) (by decide);have x10:w2.cell? ⟨H,10,none⟩=some (.slice pr report.length cr):=(TB.out.of_block (B9.out.block _ hH.out)).cell (i:=10) (by decide);have new2:¬ w2.heap.size=H:=(by have:=B9.out.size;have:=hH.out;omega);have hs9:=B9.out.size;have SV2:=hid (SV.out.keep (Kt.of_below b));(first|(have RZ2:=hid (RZ.out.of_block (b.block _ RZ.out.lt));clear z0 z1 z2 z3 z4 z5 z6 z7 z8 z9 z10 zf0 zf1 zf2 zf3 zf4 zf5 zf6 zf7 zf8 zf9 zf10;have y0:=RZ2.out.cell (i:=0) (by decide);have y1:=RZ2.out.cell (i:=1) (by decide);have y2:=RZ2.out.cell (i:=2) (by decide);have y3:=RZ2.out.cell (i:=3) (by decide);have y4:=RZ2.out.cell (i:=4) (by decide);have y5:=RZ2.out.cell (i:=5) (by decide);have y6:=RZ2.out.cell (i:=6) (by decide);have y7:=RZ2.out.cell (i:=7) (by decide);have y8:=RZ2.out.cell (i:=8) (by decide);have y9:=RZ2.out.cell (i:=9) (by decide);have y10:=RZ2.out.cell (i:=10) (by decide);have yf0:=RZ2.out.frozen 0;have yf1:=RZ2.out.frozen 1;have yf2:=RZ2.out.frozen 2;have yf3:=RZ2.out.frozen 3;have yf4:=RZ2.out.frozen 4;have yf5:=RZ2.out.frozen 5;have yf6:=RZ2.out.frozen 6;have yf7:=RZ2.out.frozen 7;have yf8:=RZ2.out.frozen 8;have yf9:=RZ2.out.frozen 9;have yf10:=RZ2.out.frozen 10)|skip);clear sl b)
   | (refine (KI _ (B9.out.alloc B9.out.size _)).mono ?_;rintro e w2 ⟨qr,dr,rfl,sl,b⟩;have SI:=hid sl;have B8:=hid ((B9.out.alloc B9.out.size _).trans (b.mono (Below.size (B9.out.alloc B9.out.size _))));have B7:=B9;clear x1 x8 x10 hs9 B9;have B9:=B8;clear B8;have x1:w2.cell? ⟨H,1,none⟩=some (.int .i64 who):=(TB.out.of_block (B9.out.block _ hH.out)).cell (i:=1) (by decide);have x8:w2.cell? ⟨H,8,none⟩=some (.slice ps sent.length cs):=(TB.out.of_block (B9.out.block _ hH.out)).cell (i:=8) (by decide);have x10:w2.cell? ⟨H,10,none⟩=some (.slice pr report.length cr):=(TB.out.of_block (B9.out.block _ hH.out)).cell (i:=10) (by decide);have new2:¬ w2.heap.size=H:=(by have:=B9.out.size;have:=hH.out;omega);have hs9:=B9.out.size;have SV2:=hid (SV.out.keep ((Kt.of_below (yO.alloc yN _)).trans (Kt.of_below b)));have RZ2:=hid (show w2.rowIs w1.heap.size 42 11 xF from (jR w1 xF).of_block (b.block _ (by simp)));have y0:=RZ2.out.cell (i:=0) (by decide);have y1:=RZ2.out.cell (i:=1) (by decide);have y2:=RZ2.out.cell (i:=2) (by decide);have y3:=RZ2.out.cell (i:=3) (by decide);have y4:=RZ2.out.cell (i:=4) (by decide);have y5:=RZ2.out.cell (i:=5) (by decide);have y6:=RZ2.out.cell (i:=6) (by decide);have y7:=RZ2.out.cell (i:=7) (by decide);have y8:=RZ2.out.cell (i:=8) (by decide);have y9:=RZ2.out.cell (i:=9) (by decide);have y10:=RZ2.out.cell (i:=10) (by decide);have yf0:=RZ2.out.frozen 0;have yf1:=RZ2.out.frozen 1;have yf2:=RZ2.out.frozen 2;have yf3:=RZ2.out.frozen 3;have yf4:=RZ2.out.frozen 4;have yf5:=RZ2.out.frozen 5;have yf6:=RZ2.out.frozen 6;have yf7:=RZ2.out.frozen 7;have yf8:=RZ2.out.frozen 8;have yf9:=RZ2.out.frozen 9;have yf10:=RZ2.out.frozen 10;clear sl b)
   )))
  all_goals (try go_wp2_with fail)
  all_goals go_meet
  ·exact ⟨_,_,_,_,_,rfl,SeenI.made SV2.out SI.out B9.out⟩
  ·exact ⟨_,_,_,_,_,rfl,SeenI.chain RZ2.out SV2.out SI.out B9.out B7.out.size⟩
  ·exact ⟨_,_,_,_,_,rfl,SeenI.chain RZ2.out SV2.out SI.out B9.out yN⟩
 case rest =>
  obtain ⟨mb,qs,ds,qr,dr,rfl,hsee⟩:=hcut;have SE:=hid hsee;have TC:=hid (TB.out.of_block (hsee.be.block _ hH.out));have RC:=hid (RB.out.of_block (hsee.be.block _ hH1.out));have OC:=hid (HO.out.grow hsee.be);have nem:¬ mb=H:=by have:=hsee.lt;have:=hH.out;omega
  have nem1:¬ mb=H+1:=by have:=hsee.lt;have:=hH1.out;omega
  have nem2:¬ H=mb:=by omega
  have nem3:¬ H+1=mb:=by omega
  clear hsee KV KI bA bB c1 c8 c10 hHlt neW;cases b with
  | false =>
   have m0:wc.cell? ⟨mb,0,none⟩=some (.int .i64 0):=SE.out.row.cell (i:=0) (by decide);have m1:wc.cell? ⟨mb,1,none⟩=some (.int .i64 who):=SE.out.row.cell (i:=1) (by decide);have m2:wc.cell? ⟨mb,2,none⟩=some (.int .i64 0):=SE.out.row.cell (i:=2) (by decide);have m3:wc.cell? ⟨mb,3,none⟩=some (.int .i64 0):=SE.out.row.cell (i:=3) (by decide);have m4:wc.cell? ⟨mb,4,none⟩=some (.int .i64 0):=SE.out.row.cell (i:=4) (by decide);have m5:wc.cell? ⟨mb,5,none⟩=some (.int .i64 0):=SE.out.row.cell (i:=5) (by decide);have m6:wc.cell? ⟨mb,6,none⟩=some (.int .i64 0):=SE.out.row.cell (i:=6) (by decide);have m7:wc.cell? ⟨mb,7,none⟩=some (.int .i64 0):=SE.out.row.cell (i:=7) (by decide);have m8:wc.cell? ⟨mb,8,none⟩=some (.slice qs sent.length ds):=SE.out.row.cell (i:=8) (by decide);have m9:wc.cell? ⟨mb,9,none⟩=some (.slice none 0 0):=SE.out.row.cell (i:=9) (by decide);have m10:wc.cell? ⟨mb,10,none⟩=some (.slice qr report.length dr):=SE.out.row.cell (i:=10) (by decide);have r0:=RC.out.cell (i:=0) (by decide);have r1:=RC.out.cell (i:=1) (by decide);have r2:=RC.out.cell (i:=2) (by decide);have r3:=RC.out.cell (i:=3) (by decide);have r4:=RC.out.cell (i:=4) (by decide);have r5:=RC.out.cell (i:=5) (by decide);have r6:=RC.out.cell (i:=6) (by decide);have r7:=RC.out.cell (i:=7) (by decide);have r8:=RC.out.cell (i:=8) (by decide);have r9:=RC.out.cell (i:=9) (by decide);have r10:=RC.out.cell (i:=10) (by decide);have f0:=RC.out.frozen 0;have f1:=RC.out.frozen 1;have f2:=RC.out.frozen 2;have f3:=RC.out.frozen 3;have f4:=RC.out.frozen 4;have f5:=RC.out.frozen 5;have f6:=RC.out.frozen 6;have f7:=RC.out.frozen 7;have f8:=RC.out.frozen 8;have f9:=RC.out.frozen 9;have f10:=RC.out.frozen 10;obtain ⟨W6,hW6⟩:∃ W6,W6=(((((((((((wc.setCell ⟨H+1,0,none⟩ (.int .i64 0)).setCell ⟨H+1,1,none⟩ (.int .i64 who)).setCell ⟨H+1,2,none⟩ (.int .i64 0)).setCell ⟨H+1,3,none⟩ (.int .i64 0)).setCell ⟨H+1,4,none⟩ (.int .i64 0)).setCell ⟨H+1,5,none⟩ (.int .i64 0)).setCell ⟨H+1,6,none⟩ (.int .i64 0)).setCell ⟨H+1,7,none⟩ (.int .i64 0)).setCell ⟨H+1,8,none⟩ (.slice qs sent.length ds)).setCell ⟨H+1,9,none⟩ (.slice none 0 0)).setCell ⟨H+1,10,none⟩ (.slice qr report.length dr)):=⟨_,rfl⟩;go_wp2;rw [<- hW6];have h6:W6=putT wc (H+1) 0 (RT.mk ⟨0,who,⟨0,0,0,0,0⟩,0,sent,[],report⟩ qs ds none 0 qr dr).cell:=by rw [hW6];exact xB8 wc (H+1) who sent report qs ds qr dr
   clear hW6 m0 m1 m2 m3 m4 m5 m6 m7 m8 m9 m10 r0 r1 r2 r3 r4 r5 r6 r7 r8 r9 r10 f0 f1 f2 f3 f4 f5 f6 f7 f8 f9 f10;have F6:=hid (show W6.rowIs (H+1) 42 11 _ by rw [h6];exact zI1 RC.out _);have K6:=hid (show Kt wc W6 by rw [h6];exact zR1 RC.out 0 _);have B6:=hid (show Below H wc W6 by rw [h6];exact vL (by omega) _ _);clear h6;refine zM2 rfl (H+1) (RT.mk ⟨0,who,⟨0,0,0,0,0⟩,0,sent,[],report⟩ qs ds none 0 qr dr).cell rfl F6.out rfl ⟨_,rfl,rfl,⟨SE.out.s.keep K6.out,Sl.none _ _,SE.out.r.keep K6.out⟩,?_⟩;rw [<- HH.out];exact (BE.out.trans (SE.out.be.mono (by have:=hH.out;omega))).trans B6.out
  | true =>
   have KB:=fun X (bx:Below wc.heap.size wc X)=>xO4 pf cf frame X (OC.out.f.grow bx) OC.out.fn OC.out.fl;have bA:=hid (show Below wc.heap.size wc wc.drew from yO.drew);have t0:wc.cell? ⟨H,0,none⟩=some (.int .i64 code):=TC.out.cell (i:=0) (by decide);have t2:wc.cell? ⟨H,2,none⟩=some (.int .i64 kc):=TC.out.cell (i:=2) (by decide);have t3:wc.cell? ⟨H,3,none⟩=some (.int .i64 ki):=TC.out.cell (i:=3) (by decide);have t4:wc.cell? ⟨H,4,none⟩=some (.int .i64 kf):=TC.out.cell (i:=4) (by decide);have t5:wc.cell? ⟨H,5,none⟩=some (.int .i64 kh):=TC.out.cell (i:=5) (by decide);have t6:wc.cell? ⟨H,6,none⟩=some (.int .i64 ku):=TC.out.cell (i:=6) (by decide);have t7:wc.cell? ⟨H,7,none⟩=some (.int .i64 val):=TC.out.cell (i:=7) (by decide);have t9:wc.cell? ⟨H,9,none⟩=some (.slice pf frame.length cf):=TC.out.cell (i:=9) (by decide)
   go_upto_region 3 with fail
   go_region_held3 (fun w'=>w'.cell? ⟨H,0,none⟩=some (.int .i64 code)/\w'.cell? ⟨H,2,none⟩=some (.int .i64 kc)/\w'.cell? ⟨H,3,none⟩=some (.int .i64 ki)/\w'.cell? ⟨H,4,none⟩=some (.int .i64 kf)/\w'.cell? ⟨H,5,none⟩=some (.int .i64 kh)/\w'.cell? ⟨H,6,none⟩=some (.int .i64 ku)/\w'.cell? ⟨H,7,none⟩=some (.int .i64 val)/\w'.cell? ⟨H,9,none⟩=some (.slice pf frame.length cf)) (go_keep)
    ((go_at_call 59;refine (KB _ bA.out).mono ?_;rintro e w5 ⟨qf,df,rfl,sl,b⟩;have SF:=hid sl;have B5:=hid (bA.out.trans b);have T5:=hid (TC.out.of_block (B5.out.block _ TC.out.lt));have M5:=hid (SE.out.row.of_block (B5.out.block _ SE.out.row.lt));have u0:w5.cell? ⟨H,0,none⟩=some (.int .i64 code):=T5.out.cell (i:=0) (by decide);have u2:w5.cell? ⟨H,2,none⟩=some (.int .i64 kc):=T5.out.cell (i:=2) (by decide);have u3:w5.cell? ⟨H,3,none⟩=some (.int .i64 ki):=T5.out.cell (i:=3) (by decide);have u4:w5.cell? ⟨H,4,none⟩=some (.int .i64 kf):=T5.out.cell (i:=4) (by decide);have u5:w5.cell? ⟨H,5,none⟩=some (.int .i64 kh):=T5.out.cell (i:=5) (by decide);have u6:w5.cell? ⟨H,6,none⟩=some (.int .i64 ku):=T5.out.cell (i:=6) (by decide);have u7:w5.cell? ⟨H,7,none⟩=some (.int .i64 val):=T5.out.cell (i:=7) (by decide);have u9:w5.cell? ⟨H,9,none⟩=some (.slice pf frame.length cf):=T5.out.cell (i:=9) (by decide);have m0:w5.cell? ⟨mb,0,none⟩=some (.int .i64 0):=M5.out.cell (i:=0) (by decide);have m1:w5.cell? ⟨mb,1,none⟩=some (.int .i64 who):=M5.out.cell (i:=1) (by decide);have m2:w5.cell? ⟨mb,2,none⟩=some (.int .i64 0):=M5.out.cell (i:=2) (by decide);have m3:w5.cell? ⟨mb,3,none⟩=some (.int .i64 0):=M5.out.cell (i:=3) (by decide);have m4:w5.cell? ⟨mb,4,none⟩=some (.int .i64 0):=M5.out.cell (i:=4) (by decide);have m5:w5.cell? ⟨mb,5,none⟩=some (.int .i64 0):=M5.out.cell (i:=5) (by decide);have m6:w5.cell? ⟨mb,6,none⟩=some (.int .i64 0):=M5.out.cell (i:=6) (by decide);have m7:w5.cell? ⟨mb,7,none⟩=some (.int .i64 0):=M5.out.cell (i:=7) (by decide);have m8:w5.cell? ⟨mb,8,none⟩=some (.slice qs sent.length ds):=M5.out.cell (i:=8) (by decide);have m9:w5.cell? ⟨mb,9,none⟩=some (.slice none 0 0):=M5.out.cell (i:=9) (by decide);have m10:w5.cell? ⟨mb,10,none⟩=some (.slice qr report.length dr):=M5.out.cell (i:=10) (by decide);have n0:=M5.out.frozen 0;have n2:=M5.out.frozen 2;have n3:=M5.out.frozen 3;have n4:=M5.out.frozen 4;have n5:=M5.out.frozen 5;have n6:=M5.out.frozen 6;have n7:=M5.out.frozen 7;have n9:=M5.out.frozen 9;clear sl b))
   rename_i hlast;clear hlast;have e8:=see8 M5.out code kc ki kf kh ku val frame qf df;obtain ⟨W5,hW5⟩:∃ W5,W5=((((((((w5.setCell ⟨mb,0,none⟩ (.int .i64 code)).setCell ⟨mb,2,none⟩ (.int .i64 kc)).setCell ⟨mb,3,none⟩ (.int .i64 ki)).setCell ⟨mb,4,none⟩ (.int .i64 kf)).setCell ⟨mb,5,none⟩ (.int .i64 kh)).setCell ⟨mb,6,none⟩ (.int .i64 ku)).setCell ⟨mb,7,none⟩ (.int .i64 val)).setCell ⟨mb,9,none⟩ (.slice qf frame.length df)):=⟨_,rfl⟩;rw [<- hW5] at e8 ⊢;have R8:=hid e8.1;have K8:=hid e8.2.1;have B8:=hid (e8.2.2.1 H (by have:=SE.out.lt;have:=hH.out;omega));have RC8:=hid ((RC.out.of_block (B5.out.block _ RC.out.lt)).of_block (e8.2.2.2 _ nem3));have S8:=hid ((SE.out.s.keep (Kt.of_below B5.out)).keep K8.out);have I8:=hid ((SE.out.r.keep (Kt.of_below B5.out)).keep K8.out);have F8:=hid (SF.out.keep K8.out);clear hW5 e8 t0 t2 t3 t4 t5 t6 t7 t9 u0 u2 u3 u4 u5 u6 u7 u9 m0 m1 m2 m3 m4 m5 m6 m7 m8 m9 m10 n0 n2 n3 n4 n5 n6 n7 n9;have m0:W5.cell? ⟨mb,0,none⟩=some (.int .i64 code):=R8.out.cell (i:=0) (by decide);have m1:W5.cell? ⟨mb,1,none⟩=some (.int .i64 who):=R8.out.cell (i:=1) (by decide);have m2:W5.cell? ⟨mb,2,none⟩=some (.int .i64 kc):=R8.out.cell (i:=2) (by decide);have m3:W5.cell? ⟨mb,3,none⟩=some (.int .i64 ki):=R8.out.cell (i:=3) (by decide);have m4:W5.cell? ⟨mb,4,none⟩=some (.int .i64 kf):=R8.out.cell (i:=4) (by decide);have m5:W5.cell? ⟨mb,5,none⟩=some (.int .i64 kh):=R8.out.cell (i:=5) (by decide);have m6:W5.cell? ⟨mb,6,none⟩=some (.int .i64 ku):=R8.out.cell (i:=6) (by decide);have m7:W5.cell? ⟨mb,7,none⟩=some (.int .i64 val):=R8.out.cell (i:=7) (by decide);have m8:W5.cell? ⟨mb,8,none⟩=some (.slice qs sent.length ds):=R8.out.cell (i:=8) (by decide);have m9:W5.cell? ⟨mb,9,none⟩=some (.slice qf frame.length df):=R8.out.cell (i:=9) (by decide);have m10:W5.cell? ⟨mb,10,none⟩=some (.slice qr report.length dr):=R8.out.cell (i:=10) (by decide);have r0:=RC8.out.cell (i:=0) (by decide);have r1:=RC8.out.cell (i:=1) (by decide);have r2:=RC8.out.cell (i:=2) (by decide);have r3:=RC8.out.cell (i:=3) (by decide);have r4:=RC8.out.cell (i:=4) (by decide);have r5:=RC8.out.cell (i:=5) (by decide);have r6:=RC8.out.cell (i:=6) (by decide);have r7:=RC8.out.cell (i:=7) (by decide);have r8:=RC8.out.cell (i:=8) (by decide);have r9:=RC8.out.cell (i:=9) (by decide);have r10:=RC8.out.cell (i:=10) (by decide);have f0:=RC8.out.frozen 0;have f1:=RC8.out.frozen 1;have f2:=RC8.out.frozen 2;have f3:=RC8.out.frozen 3;have f4:=RC8.out.frozen 4;have f5:=RC8.out.frozen 5;have f6:=RC8.out.frozen 6;have f7:=RC8.out.frozen 7;have f8:=RC8.out.frozen 8;have f9:=RC8.out.frozen 9;have f10:=RC8.out.frozen 10;obtain ⟨W6,hW6⟩:∃ W6,W6=(((((((((((W5.setCell ⟨H+1,0,none⟩ (.int .i64 code)).setCell ⟨H+1,1,none⟩ (.int .i64 who)).setCell ⟨H+1,2,none⟩ (.int .i64 kc)).setCell ⟨H+1,3,none⟩ (.int .i64 ki)).setCell ⟨H+1,4,none⟩ (.int .i64 kf)).setCell ⟨H+1,5,none⟩ (.int .i64 kh)).setCell ⟨H+1,6,none⟩ (.int .i64 ku)).setCell ⟨H+1,7,none⟩ (.int .i64 val)).setCell ⟨H+1,8,none⟩ (.slice qs sent.length ds)).setCell ⟨H+1,9,none⟩ (.slice qf frame.length df)).setCell ⟨H+1,10,none⟩ (.slice qr report.length dr)):=⟨_,rfl⟩;go_wp2;rw [<- hW6];have h6:W6=putT W5 (H+1) 0 (RT.mk ⟨code,who,⟨kc,ki,kf,kh,ku⟩,val,sent,frame,report⟩ qs ds qf df qr dr).cell:=by rw [hW6];exact qB4 W5 (H+1) code who kc ki kf kh ku val sent frame report qs ds qf df qr dr
   clear hW6 m0 m1 m2 m3 m4 m5 m6 m7 m8 m9 m10 r0 r1 r2 r3 r4 r5 r6 r7 r8 r9 r10 f0 f1 f2 f3 f4 f5 f6 f7 f8 f9 f10;have F6:=hid (show W6.rowIs (H+1) 42 11 _ by rw [h6];exact zI1 RC8.out _);have K6:=hid (show Kt W5 W6 by rw [h6];exact zR1 RC8.out 0 _);have B6:=hid (show Below H W5 W6 by rw [h6];exact vL (by omega) _ _);clear h6;refine zM2 rfl (H+1) (RT.mk ⟨code,who,⟨kc,ki,kf,kh,ku⟩,val,sent,frame,report⟩ qs ds qf df qr dr).cell rfl F6.out rfl ⟨_,rfl,rfl,⟨S8.out.keep K6.out,F8.out.keep K6.out,I8.out.keep K6.out⟩,?_⟩;rw [<- HH.out];exact (((BE.out.trans (SE.out.be.mono (by have:=hH.out;omega))).trans (B5.out.mono (by have:=hH.out;have:=SE.out.be.size;omega))).trans B8.out).trans B6.out
namespace LabM
open LabP
def mem (s n:Nat):List Nat:=(List.range n).filter (fun k=>s/2^k%2==1)
theorem mem_hit (s n:Nat) (h:(s/2^n%2==1)=true):mem s (n+1)=mem s n++[n]:=by
 simp [mem,List.range_succ,List.filter_append,h]
theorem mem_miss (s n:Nat) (h:(s/2^n%2==1)=false):mem s (n+1)=mem s n:=by
 simp [mem,List.range_succ,List.filter_append,h]
theorem mem_le (s n:Nat):(mem s n).length<=n:=by
 have:=List.length_filter_le (fun k=>s/2^k%2==1) (List.range n);simpa [mem] using this
theorem zV0 (n:Nat) (h:n<8):2^n<=128:=by
 have:2^n<=2^7:=Nat.pow_le_pow_right (by decide) (by omega);omega
theorem bit_ne (s n:Nat) (hs:s<256) (hn:n<8):(bits .and .i64 (s:Int) (2^n) != 0)=(s/2^n%2==1):=by
 have hp:=zV0 n hn;have e:((2:Int)^n)=((2^n:Nat):Int):=by simp
 rw [e,zN0 s (2^n) (by omega) (by omega),nat_bit];have hpos:0<2^n:=Nat.two_pow_pos n;have h2:s/2^n%2=0\/s/2^n%2=1:=by omega
 rcases h2 with h2|h2
 ·simp [h2]
 ·rw [h2,yM,bne_iff_ne]
  constructor
  ·intro _;rfl
  ·intro _ h
   omega
theorem wrap_pow (n:Nat) (hn:n<8):wrap64 (2^n)=2^n:=by
 have hp:=zV0 n hn;have e:((2:Int)^n)=((2^n:Nat):Int):=by simp
 rw [e];generalize (2^n:Nat)=x at hp;unfold wrap64;omega
end LabM
theorem xO5 {B k s:Nat} {w wr w1:World} {u v':Value} {o:Obj} (hit:(s/2^k%2==1)=true) (hB:B<=wr.heap.size)
  (hown:wr.ownsRow B 3 1 u (LabM.mem s k).length ((LabM.mem s k).map (fun j:Nat=>Value.int .i64 j))) (hnx:Below B w wr)
  (hown':w1.ownsRow B 3 1 v' ((LabM.mem s k).length+1) ((LabM.mem s k).map (fun j:Nat=>Value.int .i64 j)++[.int .i64 (k:Nat)])) (hgrow:(wr.alloc o).grownBy w1 u.ownBlock) :
  w1.ownsRow B 3 1 v' (LabM.mem s (k+1)).length ((LabM.mem s (k+1)).map (fun j:Nat=>Value.int .i64 j))/\Below B w w1:=by
 have e1:=LabM.mem_hit s k hit;refine ⟨by rw [e1];simpa using hown',(hnx.alloc (by omega) o).grown hgrow (by simp;omega) (fun j hj=>by have:=(hown.lt j hj).1;omega)⟩
theorem zI2 (s:Nat) (hs:s<256) (w:World) :
  Calls Tryz.prog 36 #[.int .i64 s] w fun e w'=>∃ v,e=.returned (.tuple #[v,.int .i64 0]) /\
   w'.ownsRow w.heap.size 3 1 v (LabM.mem s 8).length ((LabM.mem s 8).map (fun j:Nat=>Value.int .i64 j))/\Below w.heap.size w w':=by
 obtain ⟨i0,hi,hz0,hz1,hz2⟩:=info_parts qL9;have e1:=ma s hs;go_enter Tryz.func36,Tryz.ntmps36
 go_wp2
 go_loopw [4,9] (fun v i wr=>∃ k:Nat,k<=8/\i=.int .i64 k/\wr.ownsRow w.heap.size 3 1 v (LabM.mem s k).length ((LabM.mem s k).map (fun j:Nat=>Value.int .i64 j))/\Below w.heap.size w wr)
  (fun _ i _=>8-(intOf i).toNat)
 case atStart=>exact ⟨0,zG _,rfl,World.ownsRow_nil _ _ _ _,yO⟩
 case round =>
  obtain ⟨k,hk,rfl,hown,hnx⟩:=hrel;by_cases hlt:k<8
  ·cases eb:(s/2^k%2==1)
   ·have EB:Hid _:=eb
    have e2:=LabM.bit_ne s k hs hlt;rw [eb,<- LabM.wrap_pow k hlt] at e2;clear eb;go_wp2
    go_roundw
    case rel=>exact ⟨k+1,by omega,by go_num,by rw [LabM.mem_miss s k EB.out];exact hown,hnx⟩
    case measure=>simp [intOf];omega
   ·have EB:Hid _:=eb
    have e2:=LabM.bit_ne s k hs hlt;rw [eb,<- LabM.wrap_pow k hlt] at e2;clear eb
    go_wp2_with (first
     | (at_builtin;refine wpList_append_own _ rfl _ _ 22 rfl w.heap.size 3 i0 (.int .i64 0) 1 8 Tryz.underlying22 hi hz0 hz1 hz2 rfl (by decide) _ _ _ rfl (hown.alloc _) ⟨wr.heap.size,0,none⟩ 1 1 [.int .i64 k] rfl rfl ?c1 ?c2 ?c3 ?c4 ?c5 ?_)
     | go_in)
    case c1 =>
     intro j u hj
     match j,hj with
     | 0,hj=>simp at hj;subst hj;simp [Addr.add]
    case c2=>intro u hu;simp at hu;subst hu;rfl
    case c3=>have:=LabM.mem_le s k;unfold maxLen;omega
    case c4=>have:=LabM.mem_le s k;omega
    case c5=>have:=hnx.size;simp;omega
    intro v' w1 hown' hgrow _;have R:=xO5 EB.out hnx.size hown hnx hown' hgrow;clear hown' hgrow hown hnx;go_wp2
    go_roundw
    case rel=>first|exact ⟨k+1,by omega,by go_num,R.1,R.2⟩|((repeat apply Exists.intro);exact ⟨⟨k+1,by omega,by go_num,R.1,R.2⟩,rfl⟩)
    case measure=>simp [intOf];omega
  ·go_wp2
   go_ret2
   have h8:k=8:=by omega
   subst h8;exact ⟨_,rfl,hown,hnx⟩
theorem yN0 (s:Int) (h1:-9223372036854775808<=s) (h2:s<=9223372036854775807) (h:¬ (0<=s/\s<=255)) (w:World) :
  Calls Tryz.prog 36 #[.int .i64 s] w fun e w'=>e=.returned (.tuple #[.slice none 0 0,.int .i64 2])/\w'=w:=by
 have e1:=qH6 s h1 h2 h;clear h h1 h2;go_enter Tryz.func36,Tryz.ntmps36
 go_wp2;go_ret2
 exact ⟨rfl,rfl⟩
def geB (n x:Int):Bool:=decide (n<=x)
theorem of1_c (x:Int) (T:Nat) (c:Plain.Cf) (lv mv:Value) (w:World) (hc:xW w T c lv mv) :
  Calls Tryz.prog 38 #[.int .i64 x,.pointer (some ⟨T,0,none⟩)] w fun e w'=>e=.returned (.bool (geB c.n x))/\Below w.heap.size w w':=by
 obtain ⟨c0,c1,c2,c3,c4⟩:=hc;obtain ⟨cn,ls,ct,ms,cap⟩:=c;go_enter Tryz.func38,Tryz.ntmps38
 go_wp2;go_ret
 exact ⟨rfl,yO⟩
theorem qM1 (T:Nat) (cf:Plain.Cf) (lv mv:Value) (b off n c:Nat) (l:List Int) (w:World) (hT:xW w T cf lv mv) (hn:l.length=n) (hbig:n<=9223372036854775807) (hb:0<n->b<w.heap.size) (hc:∀ j,j<n->w.cell? ⟨b,off+j,none⟩=some (.int .i64 (l.getD j 0))) :
  Calls Tryz.prog 56 #[.slice (some ⟨b,off,none⟩) n c,.func (.func 38) #[] #[.pointer (some ⟨T,0,none⟩)]] w fun e w'=>e=.returned (.int .i64 (Plain.idxI (geB cf.n) l))/\Below w.heap.size w w':=by
 have HC:=hid hc;clear hc;have HT:=hid hT;clear hT;go_enter Tryz.func56,Tryz.ntmps56
 go_wp2
 go_loopg [5,8] n (fun gg _ s8 wr=>∃ k:Nat,k<=n/\n-k<=gg/\s8=.int .i64 k/\Aside (Below w.heap.size w wr)/\Aside (∀ j,j<k->geB cf.n (l.getD j 0)=false))
 case atStart=>exact ⟨0,zG _,by omega,rfl,Below.refl _ w,fun j hj=>absurd hj (yE _)⟩
 case round =>
  obtain ⟨k,hkk,hg,rfl,BW,A⟩:=hrel;by_cases hlt:k<n
  ·have hltz:(k:Int)<(n:Int):=by omega
   have c0:wr.cell? ⟨b,off+k,none⟩=some (.int .i64 (l.getD k 0)):=(BW.out.cell (p:=⟨b,off+k,none⟩) (hb (by omega))).trans (HC.out k hlt);have hcall:=of1_c (l.getD k 0) T cf lv mv wr (HT.out.below BW.out HT.out.lt);generalize hy:l.getD k 0=y at c0 hcall;have HY:Aside (l.getD k 0=y):=hy;clear hy;cases hq:geB cf.n y with
   | true =>
    rw [hq] at hcall
    go_wp2_with fail
    refine hcall.mono ?_;rintro e w' ⟨rfl,hb'⟩;have HB':=hid (BW.out.trans (hb'.mono BW.out.size));clear hcall hb';go_wp2;go_ret
    refine ⟨?_,HB'.out⟩;rw [Plain.yG2 (by omega) (by rw [HY.out];exact hq) A.out];rfl
   | false =>
    rw [hq] at hcall
    go_wp2_with fail
    refine hcall.mono ?_;rintro e w' ⟨rfl,hb'⟩;have HB':=hid (BW.out.trans (hb'.mono BW.out.size));clear hcall hb';go_wp2
    go_roundg (n-(k+1))
    case measure=>omega
    case rel =>
     refine ⟨k+1,by omega,by omega,by go_num,HB'.out,(show Aside _ from fun j hj=>?_)⟩;by_cases e:j=k
     ·subst e
      rw [HY.out];exact hq
     ·exact A.out j (by omega)
  ·have hltz:¬ (k:Int)<(n:Int):=by omega
   have:k=n:=by omega
   subst this;go_wp2;go_ret
   refine ⟨?_,BW.out⟩;rw [Plain.zV1 (fun j hj=>A.out j (by omega))];rfl
theorem zX5 (T:Nat) (cf:Plain.Cf) (lv mv:Value) (v:Value) (l:List Int) (w:World) (hbig:l.length<=9223372036854775807) (hs:Seg w v l) (hl:Lies w.heap.size v) (hT:xW w T cf lv mv) :
  Calls Tryz.prog 37 #[v,.func (.func 38) #[] #[.pointer (some ⟨T,0,none⟩)]] w fun e w'=>e=.returned (.bool (l.any (geB cf.n)))/\Below w.heap.size w w':=by
 rw [<- Plain.yG3];have K:Calls Tryz.prog 56 #[v,.func (.func 38) #[] #[.pointer (some ⟨T,0,none⟩)]] w fun e w'=>e=.returned (.int .i64 (Plain.idxI (geB cf.n) l))/\Below w.heap.size w w':=by
  rcases hs with ⟨rfl,q,c,rfl⟩|⟨b,off,c,rfl,hc⟩
  ·exact (zC4 q c _ w).mono fun e w' ⟨h1,h2⟩=>⟨by rw [h1];rfl,by rw [h2];exact yO⟩
  ·exact qM1 T cf lv mv b off l.length c l w hT rfl hbig (fun h=>hl ⟨b,off,none⟩ _ _ rfl h) hc
 generalize Plain.idxI (geB cf.n) l=r at K ⊢;clear hs hl hT;go_enter Tryz.func37,Tryz.ntmps37
 go_wp2_with fail
 refine K.mono ?_;rintro e w' ⟨rfl,hb⟩;go_wp2;go_ret
 exact ⟨rfl,hb⟩
theorem qM2 (x:Int) (b off n c:Nat) (l:List Int) (w:World) (hn:l.length=n) (hbig:n<=9223372036854775807) (hc:∀ j,j<n->w.cell? ⟨b,off+j,none⟩=some (.int .i64 (l.getD j 0))) :
  Calls Tryz.prog 60 #[.slice (some ⟨b,off,none⟩) n c,.int .i64 x] w fun e w'=>e=.returned (.int .i64 (Plain.idxI (fun y=>x==y) l))/\w'=w:=by
 have HC:=hid hc;clear hc;go_enter Tryz.func60,Tryz.ntmps60
 go_wp2
 go_loopg [5,8] n (fun gg _ s8 wr=>∃ k:Nat,k<=n/\n-k<=gg/\s8=.int .i64 k/\wr=w/\Aside (∀ j,j<k->(x==l.getD j 0)=false))
 case atStart=>exact ⟨0,zG _,by omega,rfl,rfl,fun j hj=>absurd hj (yE _)⟩
 case round =>
  obtain ⟨k,hkk,hg,rfl,hw,A⟩:=hrel;have hy:=hw.symm;clear hw;subst hy;by_cases hlt:k<n
  ·have hltz:(k:Int)<(n:Int):=by omega
   have c0:=HC.out k hlt;generalize hy:l.getD k 0=y at c0;have HY:Aside (l.getD k 0=y):=hy;clear hy;cases hq:(x==y) with
   | true =>
    go_wp2;go_ret
    refine ⟨?_,rfl⟩;rw [Plain.yG2 (p:=fun y=>x==y) (by omega) (by rw [HY.out];exact hq) A.out];rfl
   | false =>
    go_wp2
    go_roundg (n-(k+1))
    case measure=>omega
    case rel =>
     refine ⟨k+1,by omega,by omega,by go_num,rfl,(show Aside _ from fun j hj=>?_)⟩;by_cases e:j=k
     ·subst e
      rw [HY.out];exact hq
     ·exact A.out j (by omega)
  ·have hltz:¬ (k:Int)<(n:Int):=by omega
   have:k=n:=by omega
   subst this;go_wp2;go_ret
   refine ⟨?_,rfl⟩;rw [Plain.zV1 (p:=fun y=>x==y) (fun j hj=>A.out j (by omega))];rfl
theorem yN1 (x:Int) (p:Option Addr) (c:Nat) (w:World) :
  Calls Tryz.prog 60 #[.slice p 0 c,.int .i64 x] w fun e w'=>e=.returned (.int .i64 (-1))/\w'=w:=by
 go_enter Tryz.func60,Tryz.ntmps60
 go_wp2;refine wp_loop_rounds 1 ?_;rw [rounds_succ];go_wp2;go_ret
 exact ⟨rfl,rfl⟩
theorem yN2 (x:Int) (v:Value) (l:List Int) (w:World) (hbig:l.length<=9223372036854775807) (hs:Seg w v l) :
  Calls Tryz.prog 40 #[v,.int .i64 x] w fun e w'=>e=.returned (.bool (l.any (fun y=>x==y)))/\w'=w:=by
 rw [<- Plain.yG3];have K:Calls Tryz.prog 60 #[v,.int .i64 x] w fun e w'=>e=.returned (.int .i64 (Plain.idxI (fun y=>x==y) l))/\w'=w:=by
  rcases hs with ⟨rfl,q,c,rfl⟩|⟨b,off,c,rfl,hc⟩
  ·exact (yN1 x q c w).mono fun e w' ⟨h1,h2⟩=>⟨by rw [h1];rfl,h2⟩
  ·exact qM2 x b off l.length c l w rfl hbig hc
 generalize Plain.idxI (fun y=>x==y) l=r at K ⊢;clear hs;go_enter Tryz.func40,Tryz.ntmps40
 go_wp2_with fail
 refine K.mono ?_;rintro e w' ⟨rfl,hb⟩;have hy:=hb.symm;clear hb K;subst hy;go_wp2;go_ret
 exact ⟨rfl,rfl⟩
theorem jM {w:World} {base n:Nat} {v:Value} {xs:List Value} {l:List Int} (h:w.ownsRow base 3 1 v n xs) (hn:n=l.length) (hx:xs=l.map (Value.int .i64)):Seg w v l/\Lies w.heap.size v:=by
 subst hn hx;rcases h.2 with ⟨rfl,e⟩|⟨g,cap,cur,rfl,_,hb,_,_,_,_⟩
 ·exact ⟨.inl ⟨zP.1 e,none,0,rfl⟩,fun p n c e h=>by injection e with _ e;omega⟩
 ·refine ⟨.inr ⟨g,0,cap,rfl,fun j hj=>?_⟩,qD (zJ.1 hb).1⟩
  have:=h.cells (g:=g) rfl j (.int .i64 (l.getD j 0)) (by simp [hj]);by_cases h0:j=0
  ·subst h0;simpa [Addr.add] using this
  ·simpa [Addr.add,h0] using this
end Go.Proofs.YtleaknfjbbccgaaGreatDoor.Vi
