/- Laid together. -/
import Derived.Laws.CopyRow
import Derived.Laws.Externs
import Derived.Deep.RegionLaw
import Derived.Shelf.RegionOpenPlain
import Derived.Deep.RegionHeld3
import Derived.BigRegion
import Derived.Deep.Cut
import Derived.Deep.CutRange
import Derived.Carry
import Derived.Test.YtleaknfjbbccgaaGreatDoorMs00
import Derived.Test.YtleaknfjbbccgaaGreatDoorMs04
import Derived.Test.YtleaknfjbbccgaaGreatDoorMs05
namespace Go.Proofs.YtleaknfjbbccgaaGreatDoor.Bo
set_option maxHeartbeats 16000000
set_option maxRecDepth 100000
open Go.RowKit Go.Shelf Go.Sort
structure Un (F:Nat->Prop) (w w':World):Prop where
 os:w'.os=w.os
 tape:w'.tape=w.tape
 output:w'.output=w.output
 size:w.heap.size<=w'.heap.size
 block:∀ k,k<w.heap.size->¬ F k->w'.heap[k]?=w.heap[k]?
namespace Un
variable {F:Nat->Prop} {w w' w'':World}
theorem of_below (h:Below w.heap.size w w'):Un F w w':=⟨h.os,h.tape,h.output,h.size,fun k hk _=>h.block k hk⟩
theorem refl (F:Nat->Prop) (w:World):Un F w w:=of_below yO
theorem trans (h:Un F w w') (g:Un F w' w''):Un F w w'' :=
 ⟨g.os.trans h.os,g.tape.trans h.tape,g.output.trans h.output,zI h.size g.size,fun k hk hp=>(g.block k (zF hk h.size) hp).trans (h.block k hk hp)⟩
theorem thenU {F':Nat->Prop} (h:Un F w w') (g:Un F' w' w'') (hf:∀ k,k<w.heap.size->F' k->F k):Un F w w'' :=
 ⟨g.os.trans h.os,g.tape.trans h.tape,g.output.trans h.output,zI h.size g.size,fun k hk hp=>(g.block k (zF hk h.size) (fun x=>hp (hf k hk x))).trans (h.block k hk hp)⟩
theorem set {b:Nat} (h:F b) (i:Nat) (v:Value):Un F w (w.setCell ⟨b,i,none⟩ v) :=
 ⟨rfl,rfl,rfl,by simp,fun k _ hp=>zE w ⟨b,i,none⟩ v k (fun e=>hp (by have e':k=b:=e;rw [e'];exact h))⟩
end Un
structure Ns (F:Nat->Prop) (w:World) (p:Option Addr) (c:Nat) (l:List Int):Prop where
 nl:p=none->c=0
 cl:0<l.length->∃ b off,p=some ⟨b,off,none⟩/\b<w.heap.size/\¬ F b/\∀ j,j<l.length->w.cell? ⟨b,off+j,none⟩=some (.int .i64 (l.getD j 0))
namespace Ns
variable {F:Nat->Prop} {w w':World} {p:Option Addr} {c:Nat} {l:List Int}
theorem keep {F':Nat->Prop} (h:Ns F w p c l) (g:Un F w w') (hf:∀ k,k<w.heap.size->F' k->F k):Ns F' w' p c l:=⟨h.nl,fun h0=>by
 obtain ⟨b,off,rfl,hb,hk,hc⟩:=h.cl h0;have e:=g.block b hb hk;refine ⟨b,off,rfl,zF hb g.size,fun x=>hk (hf b hb x),fun j hj=>?_⟩;rw [<- hc j hj];simp only [World.cell?,e]⟩
theorem nil (F:Nat->Prop) (w:World):Ns F w none 0 []:=⟨fun _=>rfl,fun h=>by simp at h⟩
theorem of_row {g c:Nat} (h:RowI w g l) (hF:¬ F g):Ns F w (some ⟨g,0,none⟩) c l:=⟨(fun e=>by cases e),fun _=>⟨g,0,rfl,h.lt,hF,fun j hj=>by rw [Nat.zero_add];exact h.cell hj⟩⟩
end Ns
structure RU where
 d:Plain.Ru
 p:Option Addr
 c:Nat
 deriving Inhabited
abbrev aggU (r:RU):Value:=.agg #[.int .i64 (r.d.code:Nat),.slice r.p r.d.grants.length r.c,.int .i64 r.d.report]
abbrev aggC (x:Plain.Ca):Value:=.agg #[.int .i64 x.kind,.int .i64 x.who,.int .i64 x.count]
abbrev boxC (x:Plain.Ca):Obj:=.cells #[.int .i64 x.kind,.int .i64 x.who,.int .i64 x.count] 127
/-! ### What is told, in a box -/
def ruF (r:RU) (j:Nat):Value:=if j=0 then .int .i64 (r.d.code:Nat) else if j=1 then .slice r.p r.d.grants.length r.c else .int .i64 r.d.report
theorem row3 {c:Array Value} {x0 x1 x2:Value} (hs:c.size=3) (h0:c[0]?=some x0) (h1:c[1]?=some x1) (h2:c[2]?=some x2):c=#[x0,x1,x2]:=by
 apply Array.ext_getElem?;intro i
 match i with
 | 0=>simpa using h0
 | 1=>simpa using h1
 | 2=>simpa using h2
 | i+3=>rw [yI (by omega),yI (by simp)]
theorem jJ {fn:Func} {p:Tmp} {Q:Ending->World->Prop} {a:Act} {w:World} (h:fn.results=#[.cell p 124]) (G:Nat) (r:RU) (hp:a.tmps.getD p undef=.pointer (some ⟨G,0,none⟩))
  (hg:w.rowIs G 124 3 (ruF r)) (hd:a.defers=[]) (hR:Q (.returned (aggU r)) w):bodyPost Tryz.prog fn Q .ret a w:=by
 obtain ⟨c,hb,hs,hc⟩:=hg;have e:=row3 hs (hc 0 (by omega)) (hc 1 (by omega)) (hc 2 (by omega));subst e;exact bodyPost_ret (results_cell_row (P:=Tryz.prog) h _ _ G 124 _ (0,0) _ hp hb Tryz.underlying124 rfl (by kernel_rfl)) hd hR
def putU (W:World) (g o:Nat) (r:RU):World :=
 ((W.setCell ⟨g,o,none⟩ (.int .i64 (r.d.code:Nat))).setCell ⟨g,o+1,none⟩ (.slice r.p r.d.grants.length r.c)).setCell ⟨g,o+2,none⟩ (.int .i64 r.d.report)
theorem zN1 {F:Nat->Prop} (W:World) (g o:Nat) (r:RU) (hF:F g):Un F W (putU W g o r):=((Un.set hF _ _).trans (Un.set hF _ _)).trans (Un.set hF _ _)
theorem zA4 {W:World} {G:Nat} {f:Nat->Value} (h:W.rowIs G 124 3 f) (r:RU):(putU W G 0 r).rowIs G 124 3 (ruF r):=by
 have e:=((h.set 0 (.int .i64 (r.d.code:Nat))).set 1 (.slice r.p r.d.grants.length r.c)).set 2 (.int .i64 r.d.report);refine e.congr fun j hj=>?_;have:j=0\/j=1\/j=2:=by omega
 rcases this with rfl|rfl|rfl<;>rfl
theorem zA5 (w:World) (r:RU):(w.alloc (.cells #[.int .i64 (r.d.code:Nat),.slice r.p r.d.grants.length r.c,.int .i64 r.d.report] 124)).rowIs w.heap.size 124 3 (ruF r):=by
 refine yK _ _ 124 _ fun i hi=>?_;have hi4:i<3:=hi;have:i=0\/i=1\/i=2:=by omega
 rcases this with rfl|rfl|rfl<;>rfl
theorem xN3 (a n m:Int) (w:World):Calls Tryz.prog 66 #[.int .i64 a,.int .i64 n,.int .i64 m] w fun e w'=>e=.returned (.bool (decide (a<=n/\n<=m)))/\w'=w:=by
 obtain ⟨b,hb⟩:∃ b,b=decide (a<=n/\n<=m):=⟨_,rfl⟩;rw [<- hb];by_cases h1:a<=n
 ·by_cases h2:n<=m
  ·have H:=hid (show b=true by rw [hb];exact decide_eq_true ⟨h1,h2⟩)
   clear hb;go_enter Tryz.func66,Tryz.ntmps66
   go_wp2;go_ret
   exact ⟨by rw [H.out];rfl,rfl⟩
  ·have H:=hid (show b=false by rw [hb];exact decide_eq_false (fun x=>h2 x.2))
   clear hb;go_enter Tryz.func66,Tryz.ntmps66
   go_wp2;go_ret
   exact ⟨by rw [H.out];rfl,rfl⟩
 ·have H:=hid (show b=false by rw [hb];exact decide_eq_false (fun x=>h1 x.1))
  clear hb;go_enter Tryz.func66,Tryz.ntmps66
  go_wp2;go_ret
  exact ⟨by rw [H.out];rfl,rfl⟩
theorem zK2 {a n m:Int} (h:a<=n/\n<=m) (w:World):Calls Tryz.prog 66 #[.int .i64 a,.int .i64 n,.int .i64 m] w fun e w'=>e=.returned (.bool true)/\w'=w:=by
 have:=xN3 a n m w;rw [decide_eq_true h] at this;exact this
theorem yQ4 {a n m:Int} (h:¬ (a<=n/\n<=m)) (w:World):Calls Tryz.prog 66 #[.int .i64 a,.int .i64 n,.int .i64 m] w fun e w'=>e=.returned (.bool false)/\w'=w:=by
 have:=xN3 a n m w;rw [decide_eq_false h] at this;exact this
theorem yQ5 {w:World} {B e s n:Nat} {v:Value} {xs:List Value} (h:w.ownsRow B e s v n xs) (hn:0<n):∃ g c,v=.slice (some ⟨g,0,none⟩) n c:=by
 rcases h.2 with ⟨_,h0⟩|⟨g,cap,_,rfl,_⟩
 ·omega
 ·exact ⟨g,cap,rfl⟩
theorem _root_.Go.Proofs.YtleaknfjbbccgaaGreatDoor.RowI.src {w:World} {p:Nat} {l:List Int} (h:RowI w p l) (j:Nat) (u:Value) (hj:(ivals l)[j]?=some u):w.cell? ((⟨p,0,none⟩:Addr).add j)=some u:=by
 have hlt:j<l.length:=by
  rcases Nat.lt_or_ge j l.length with x|x
  ·exact x
  ·rw [zN (by simp [ivals];exact x)] at hj;cases hj
 rw [xE5 hlt] at hj;injection hj with hj;rw [jS,Nat.zero_add,<- hj];exact h.cell hlt
theorem yQ6 (l:List Int):(ivals l).length=l.length:=by simp [ivals]
theorem yJ8 (l:List Int):∀ u∈ivals l,u.oneCell'=true:=by
 intro u hu;obtain ⟨x,_,rfl⟩:=zZ.1 hu;rfl
theorem xS5 {w:World} {p n cap:Nat} {l:List Int} {v:Value} (h:RowI w p l) (hn:l.length=n) (h1:1<=n) (h8:n<=1000) {C:Nat} (hv:w.ownsRow C 3 1 v 0 []) (hC:C<=w.heap.size) :
  ∃ g c w',(Builtin.append_ #[22,22] 22 #[v,.slice (some ⟨p,0,none⟩) n cap]).run Tryz.prog w=.ok (.slice (some ⟨g,0,none⟩) n c) w'/\RowI w' g l/\C<=g/\w.grownBy w' v.ownBlock:=by
 obtain ⟨j0,ji,jz0,jz1,jz2⟩:=info_parts Tryz.infoInt;obtain ⟨v',w',r,o,g,_⟩:=run_append_own (P:=Tryz.prog) w C 22 22 3 j0 (.int .i64 0) 1 8 Tryz.underlying22 ji jz0 jz1 jz2 rfl (by decide) v 0 _ hv ⟨p,0,none⟩ n cap (ivals l)
  (by rw [yQ6,hn];omega) h.src (yJ8 l) (by unfold maxLen;omega) (by omega) hC
 rw [List.nil_append,Nat.zero_add] at o;obtain ⟨gb,c,rfl⟩:=yQ5 o h1;obtain ⟨h2,h3⟩:=RowI.of_owns (l:=l) o hn rfl;exact ⟨gb,c,w',r,h2,h3,g⟩
theorem zU3 (p n cap:Nat) (l:List Int) (hn:l.length=n) (h1:1<=n) (h8:n<=1000) (w:World) (h:RowI w p l) :
  Calls Tryz.prog 87 #[.slice (some ⟨p,0,none⟩) n cap] w fun e w' =>
   ∃ g c,e=.returned (.slice (some ⟨g,0,none⟩) n c)/\RowI w' g l/\w.heap.size<=g/\Below w.heap.size w w':=by
 have hown:(w.alloc (.cells #[] 3)).ownsRow w.heap.size 3 1 (.slice (some ⟨w.heap.size,0,none⟩) 0 0) 0 [] :=
  ⟨rfl,.inr ⟨w.heap.size,0,#[],rfl,yN,yF _ _,yN,by unfold maxLen;omega,rfl,rfl⟩⟩
 have bel:Below w.heap.size w (w.alloc (.cells #[] 3)):=yO.alloc yN _;obtain ⟨g,c,W,hrun,hr,hg,hgr⟩:=xS5 (cap:=cap) (h.below bel h.lt) hn h1 h8 hown (by simp);have RUN:=hid hrun;have R:=hid hr;have HG:=hid hg;have HB:=hid (show Below w.heap.size w W from bel.grown hgr (by simp) (fun j hj=>by simp [Value.ownBlock] at hj;omega));clear hrun hr hg hgr h bel hown hn;have he:∀ w:World,(binOp .eql 22 (.slice (some ⟨p,0,none⟩) n cap) (.slice none 0 0)).run Tryz.prog w=.ok (.bool false) w:=fun _=>rfl;go_enter Tryz.func87,Tryz.ntmps87
 go_wp2_with (first|(at_builtin;refine xE _ _ 22 RUN.out (by rfl) (by rfl) (by rfl) (by rfl) (by rfl) ?_)|fail)
 go_wp2;go_ret
 exact ⟨g,c,rfl,R.out,HG.out,HB.out⟩
theorem zZ3 (n:Nat) (h1:1<=n) (h8:n<=8) (w:World):Calls Tryz.prog 158 #[.int .u64 1,.int .u64 (n:Int)] w fun e w'=>e=.returned (.tuple #[.int .u64 0,.int .u64 (n:Int)])/\w'=w:=by
 have:n=1\/n=2\/n=3\/n=4\/n=5\/n=6\/n=7\/n=8:=by omega
 rcases this with rfl|rfl|rfl|rfl|rfl|rfl|rfl|rfl
 all_goals
  go_enter Tryz.func158,Tryz.ntmps158
  go_wp2;go_ret2
  exact ⟨rfl,rfl⟩
theorem xE6 (n:Nat) (h1:1<=n) (h8:n<=8) (w:World):Calls Tryz.prog 135 #[.int .u64 1,.int .u64 (n:Int)] w fun e w'=>e=.returned (.tuple #[.int .u64 0,.int .u64 (n:Int)])/\w'=w:=by
 have K:=zZ3 n h1 h8 w;go_enter Tryz.func135,Tryz.ntmps135
 go_wp2_with fail
 refine K.mono ?_;rintro e wx ⟨rfl,hx⟩;have hy:=hx.symm;clear hx;subst hy;clear K;go_wp2;go_ret2
 exact ⟨rfl,rfl⟩
theorem zM8 {P:Program} {w w':World} {o:Oper} {a:Act} {K:Act->World->Prop} {Q:Exit->Act->World->Prop} {v:Value} (hr:(execOp a.eval o).run P w=.ok (.value v) w') (h:K (a.put o.dst v) w'):o.wp P a w K Q:=by
 unfold Oper.wp;rw [hr];exact h
theorem zG5 {P:Program} {w w':World} {o:Oper} {e:Operand->Value} {d s:Operand} {t t':TypeId} {x y v:Value} (ho:o.op=.call { callee:=.builtin .copy,args:=#[d,s],argTypes:=#[t,t'] }) (hd:e d=x) (hs:e s=y)
  (hr:(Builtin.copy_ #[t,t'] o.type #[x,y]).run P w=.ok v w'):(execOp e o).run P w=.ok (.value v) w':=by
 simp [execOp,ho,resolve,invoke,builtin,hd,hs,hr]
theorem vA {P:Program} {ops:Array Oper} {o:Oper} {a:Act} {w:World} {K:Act->World->Prop} {Q:Exit->Act->World->Prop} {E:Prop} (hgd:o.guard=none) (d s:Operand) (t t':TypeId)
  (ho:o.op=.call { callee:=.builtin .copy,args:=#[d,s],argTypes:=#[t,t'] }) (x y:Value) (hd:a.eval d=x) (hs:a.eval s=y) {v:Value} {w':World}
  (hr:(Builtin.copy_ #[t,t'] o.type #[x,y]).run P w=.ok v w') (h:K (a.put o.dst v) w'):if Region.wanted o (yielded ops a.tmps)=true then o.wp P a w K Q else E:=by
 rw [if_pos (by simp [Region.wanted,hgd])];exact zM8 (zG5 ho hd hs hr) h
theorem below_setRow {B:Nat} {w W:World} {g:Nat} (h:Below B w W) (hg:B<=g) (row:Array Value):Below B w (W.setRow g row) :=
 ⟨h.os,h.tape,h.output,by show w.heap.size<=(W.heap.modify g _).size;rw [Array.size_modify];exact h.size,fun k hk=>by
  show (W.heap.modify g _)[k]?=_;rw [Array.getElem?_modify,if_neg (by omega)];exact h.block k hk⟩
def repF (x:Int) (m j:Nat):Value:=if j<m then .int .i64 x else .int .i64 0
theorem vG {W:World} {g n m b s sc:Nat} {x:Int} (h:W.rowIs g 3 n (repF x m)) (hm:m<n) (hs:∀ j,j<s->W.cell? ⟨b,j,none⟩=some (.int .i64 x)) (k:Nat) (hk:k=min s (n-m)) :
  ∃ W',(∀ ty,(Builtin.copy_ #[22,22] ty #[.slice (some ⟨g,m,none⟩) (n-m) (n-m),.slice (some ⟨b,0,none⟩) s sc]).run Tryz.prog W=.ok (goInt (k:Nat)) W')/\W'.rowIs g 3 n (repF x (m+k))/\(∀ B,B<=g->Below B W W'):=by
 obtain ⟨cur,hb,hn,hc⟩:=h;have hlen:(List.replicate k (Value.int .i64 x)).length=k:=yA;refine ⟨W.setRow g (cur.toList.take m++List.replicate k (Value.int .i64 x)++cur.toList.drop (m+k)).toArray,fun ty=>?_,⟨_,setRow_heap W g cur _ 3 _ hb,?_,fun i hi=>?_⟩,fun B hB=>below_setRow yO hB _⟩
 ·have:=run_copy_row (P:=Tryz.prog) W 22 22 ty 3 g m (n-m) (n-m) ⟨b,0,none⟩ s sc cur 3 (List.replicate k (Value.int .i64 x)) Tryz.underlying22 (by kernel_rfl) hb
   (by rw [hlen,hk]) (fun j v hj=>by
    have hjk:j<k:=by
     rcases Nat.lt_or_ge j k with y|y
     ·exact y
     ·rw [zN (by rw [hlen];exact y)] at hj;cases hj
    rw [List.getElem?_replicate,if_pos hjk] at hj;rw [jS,Nat.zero_add,hs j (by omega),hj]) (by rw [hlen,hn];omega) (fun v hv=>by rw [List.eq_of_mem_replicate hv];rfl)
  rw [hlen] at this;exact this
 ·simp only [List.size_toArray,List.length_append,List.length_take,List.length_drop,hlen,Array.length_toList,hn];omega
 ·have hm2:(cur.toList.take m).length=m:=by rw [zU,Array.length_toList];omega
  simp only [List.getElem?_toArray];unfold repF at hc ⊢;by_cases h1:i<m
  ·rw [yG,zX (by omega),List.getElem?_take,if_pos h1,Array.getElem?_toList,hc i hi,if_pos h1,if_pos (by omega)]
  ·by_cases h2:i<m+k
   ·rw [zX (by rw [zD,hm2,hlen];exact h2),zR (by omega),hm2,List.getElem?_replicate,if_pos (by omega),if_pos h2]
   ·rw [zR (by rw [zD,hm2,hlen];omega),zD,hm2,hlen,List.getElem?_drop,show m+k+(i-(m+k))=i by omega,Array.getElem?_toList,hc i hi,if_neg h1,if_neg h2]
theorem zN2 (bx n:Nat) (x:Int) (h1:1<=n) (h8:n<=8) (w:World) (h:w.cell? ⟨bx,0,none⟩=some (.int .i64 x)) :
  Calls Tryz.prog 112 #[.slice (some ⟨bx,0,none⟩) 1 1,.int .i64 n] w fun e w' =>
   ∃ g,e=.returned (.slice (some ⟨g,0,none⟩) n n)/\RowI w' g (List.replicate n x)/\w.heap.size<=g/\Below w.heap.size w w':=by
 have hbx:=zC (w:=w) (h:=h);have hmk:=run_make_row' (P:=Tryz.prog) 22 3 (.int .i64 0) 8 Tryz.underlying22 Tryz.infoInt rfl .i64 .i64 n (by omega) (by omega);obtain ⟨W0,hW0⟩:∃ W0,W0=w.alloc (.cells (madeCells #[.int .i64 0] n) 3):=⟨_,rfl⟩;have r0:W0.rowIs w.heap.size 3 n (repF x 0):=by
  rw [hW0];exact (World.rowIs_made w (.int .i64 0) n 3).congr fun j _=>by unfold repF;rw [if_neg (by omega)]
 have b0:Below w.heap.size w W0:=by rw [hW0];exact yO.alloc yN _
 obtain ⟨W1,c1,r1,b1⟩:=vG (s:=1) (sc:=1) (b:=bx) r0 (by omega) (fun j hj=>by
  have:j=0:=by omega
  subst this;exact (b0.cell (p:=⟨bx,0,none⟩) hbx).trans h) 1 (by omega)
 rw [Nat.sub_zero,Nat.zero_add] at *;have HR1:=hid r1;have HB1:=hid (b0.trans (b1 w.heap.size yN));have K:=xE6 n h1 h8 w;clear b0 b1 r0 r1 h;have hc0:IntKind.u64.wrap (1:Int)=1:=by decide
 have hcn:IntKind.u64.wrap (n:Int)=(n:Int):=by rw [IntKind.wrap_u64];omega
 have hci:IntKind.i64.wrap (n:Int)=(n:Int):=by rw [IntKind.wrap_i64];omega
 have hg1:¬ (n:Int)<0:=by omega
 have hg2:¬ (9223372036854775807:Int)<(n:Int):=by omega
 go_enter Tryz.func112,Tryz.ntmps112
 go_wp2_with fail
 refine K.mono ?_;rintro e wx ⟨rfl,hx⟩;have hy:=hx.symm;clear hx K;subst hy;have hcp:∀ ty,(Builtin.copy_ #[22,22] ty #[.slice (some ⟨w.heap.size,0,none⟩) n n,.slice (some ⟨bx,0,none⟩) 1 1]).run Tryz.prog (w.alloc (.cells (madeCells #[.int .i64 0] n) 3))=.ok (goInt ((1:Nat):Int)) W1:=by rw [<- hW0];exact c1
 clear c1 hW0
 go_wp2_with (first|(at_builtin;refine wpList_copyK _ rfl _ _ 22 22 rfl _ _ rfl rfl (hcp _) ?_)|fail)
 clear hmk hcp
 go_loopg [8] n (fun gg s8 wx=>∃ m:Nat,1<=m/\m<=n/\n-m<=gg/\s8=.int .i64 m/\Aside (wx.rowIs w.heap.size 3 n (repF x m)/\Below w.heap.size w wx))
 case atStart=>exact ⟨1,yN,h1,by omega,rfl,(show Aside _ from ⟨HR1.out,HB1.out⟩)⟩
 case round =>
  obtain ⟨m,hm1,hmn,hg,rfl,A⟩:=hrel;by_cases hlt:m<n
  ·have hltz:(m:Int)<(n:Int):=by omega
   obtain ⟨k,hk⟩:∃ k,k=min m (n-m):=⟨_,rfl⟩;have rr:wr.drew.rowIs w.heap.size 3 n (repF x m):=A.out.1.of_block rfl;obtain ⟨W2,c2,r2,b2⟩:=vG (s:=m) (sc:=n) (b:=w.heap.size) rr hlt (fun j hj=>by rw [rr.cell (i:=j) (by omega)];unfold repF;rw [if_pos hj]) k hk;have R2:=hid r2;have B2:=hid (A.out.2.trans (Below.trans (yO.drew) (b2 w.heap.size yN)));have hk1:1<=k/\k<=n-m:=by omega
   clear hk r2 b2 rr A;have hnm:¬ n=m:=by omega
   have hz0:(0:Int)<=(m:Int):=by omega
   have hz1:(m:Int)<=(n:Int):=by omega
   have hw1:IntKind.i64.wrap ((m:Int)+(k:Int))=(m:Int)+(k:Int):=by rw [IntKind.wrap_i64];omega
   go_wp2
   go_region_law (refine vA rfl _ _ 22 22 rfl (.slice (some ⟨w.heap.size,m,none⟩) (n-m) (n-m)) (.slice (some ⟨w.heap.size,0,none⟩) m n) (by simp [Act.eval,Act.put]) (by simp [Act.eval,Act.put]) (c2 _) ?_)
   go_wp2
   go_roundg (n-(m+k))
   case measure=>omega
   case rel=>exact ⟨m+k,by omega,by omega,by omega,by go_num,(show Aside _ from ⟨R2.out,B2.out⟩)⟩
  ·have hltz:¬ (m:Int)<(n:Int):=by omega
   have e:m=n:=by omega
   subst e;go_wp2;go_ret
   refine ⟨w.heap.size,rfl,RowI.of_rowIs A.out.1 (by simp) fun i hi=>?_,yN,A.out.2⟩;rw [yA] at hi;rw [Plain.qC3 hi];unfold repF;rw [if_pos hi]
theorem _root_.Go.Proofs.YtleaknfjbbccgaaGreatDoor.Win.congr {X:Win} {w:World} {R o k:Nat} {g g':Nat->Value} (h:w.rowIs R X.t X.n (X.f o k g)) (e:∀ j,j<k->g j=g' j):w.rowIs R X.t X.n (X.f o k g') :=
 World.rowIs.congr h fun j _=>by
  unfold Win.f;by_cases hin:o<=j/\j<o+k
  ·rw [if_pos hin,if_pos hin,e _ (by omega)]
  ·rw [if_neg hin,if_neg hin]
namespace Plain
def yQ7 (b:Bk):List Int:=mapN b.n fun i=>b.quotas.getD i 0-b.since.getD i 0
end Plain
def bkR (A G:Nat) (vl:Value) (b:Plain.Bk) (N:Nat) (j:Nat):Value :=
 if j=0 then .int .i64 b.cap else if j=1 then .int .i64 (b.ticks:Nat) else if j=2 then .int .i64 b.reserve else if j=3 then .int .i64 b.ever
 else if j=4 then .slice (some ⟨A,0,none⟩) b.n b.n else if j=5 then .slice (some ⟨G,0,none⟩) b.n b.n else if j=6 then vl else .int .i64 (N:Nat)
def Fb (R A G:Nat) (vl:Value) (k:Nat):Prop:=k=R\/k=A\/k=G\/vl.ownBlock=some k
structure BkI (B R oo:Nat) (XX:Win) (A G:Nat) (W:World) (vl:Value) (b:Plain.Bk) (N:Nat):Prop where
 row:W.rowIs R XX.t XX.n (XX.f oo 8 (bkR A G vl b N))
 ra:RowI W A b.wants
 rg:RowI W G b.given
 ok:Plain.Ok b
 n1:1<=b.n
 n8:b.n<=8
 rd:b.rounds=N%b.ticks
 lv:(N=0/\vl=.slice none 0 0)\/∃ L,vl=.slice (some ⟨L,0,none⟩) b.n b.n/\RowI W L (Plain.yQ7 b)/\B<=L/\L≠R/\L≠A/\L≠G
 hR:B<=R
 hA:B<=A
 hG:B<=G
 RA:R≠A
 RG:R≠G
 AG:A≠G
 tk:b.ticks<=8
 le:oo+8<=XX.n
namespace BkI
variable {B R oo A G N:Nat} {XX:Win} {W W':World} {vl:Value} {b:Plain.Bk}
theorem grow (h:BkI B R oo XX A G W vl b N) (g:Below W.heap.size W W'):BkI B R oo XX A G W' vl b N :=
 ⟨h.row.of_block (g.block _ h.row.lt),h.ra.of_block (g.block _ h.ra.lt),h.rg.of_block (g.block _ h.rg.lt),h.ok,h.n1,h.n8,h.rd,h.lv.imp id (fun ⟨L,x1,x2,x3⟩=>⟨L,x1,x2.of_block (g.block _ x2.lt),x3⟩),h.hR,h.hA,h.hG,h.RA,h.RG,h.AG,h.tk,h.le⟩
theorem lt (h:BkI B R oo XX A G W vl b N) (k:Nat) (hk:Fb R A G vl k):k<W.heap.size:=by
 rcases hk with rfl|rfl|rfl|hk
 ·exact h.row.lt
 ·exact h.ra.lt
 ·exact h.rg.lt
 ·rcases h.lv with ⟨_,rfl⟩|⟨L,rfl,hr,_⟩
  ·simp [Value.ownBlock] at hk
  ·simp only [Value.ownBlock,Option.some.injEq] at hk
   have:=hr.lt;omega
theorem c0 (h:BkI B R oo XX A G W vl b N):W.cell? ⟨R,oo,none⟩=some (.int .i64 b.cap):=Win.cell h.row h.le (i:=0) (by omega)
theorem c1 (h:BkI B R oo XX A G W vl b N):W.cell? ⟨R,oo+1,none⟩=some (.int .i64 (b.ticks:Nat)):=Win.cell h.row h.le (i:=1) (by omega)
theorem c2 (h:BkI B R oo XX A G W vl b N):W.cell? ⟨R,oo+2,none⟩=some (.int .i64 b.reserve):=Win.cell h.row h.le (i:=2) (by omega)
theorem c3 (h:BkI B R oo XX A G W vl b N):W.cell? ⟨R,oo+3,none⟩=some (.int .i64 b.ever):=Win.cell h.row h.le (i:=3) (by omega)
theorem c4 (h:BkI B R oo XX A G W vl b N):W.cell? ⟨R,oo+4,none⟩=some (.slice (some ⟨A,0,none⟩) b.n b.n):=Win.cell h.row h.le (i:=4) (by omega)
theorem c5 (h:BkI B R oo XX A G W vl b N):W.cell? ⟨R,oo+5,none⟩=some (.slice (some ⟨G,0,none⟩) b.n b.n):=Win.cell h.row h.le (i:=5) (by omega)
theorem c6 (h:BkI B R oo XX A G W vl b N):W.cell? ⟨R,oo+6,none⟩=some vl:=Win.cell h.row h.le (i:=6) (by omega)
theorem c7 (h:BkI B R oo XX A G W vl b N):W.cell? ⟨R,oo+7,none⟩=some (.int .i64 (N:Nat)):=Win.cell h.row h.le (i:=7) (by omega)
theorem hB (h:BkI B R oo XX A G W vl b N):B<=W.heap.size:=by have:=h.row.lt;have:=h.hR;omega
theorem boxed (h:BkI B R oo XX A G W vl b N) {b':Plain.Bk} (row:W'.rowIs R XX.t XX.n (XX.f oo 8 (bkR A G vl b' N))) (u:∀ k,k≠R->W'.heap[k]?=W.heap[k]?) (ok:Plain.Ok b') (hw:b'.wants=b.wants) (hg:b'.given=b.given) (hl:Plain.yQ7 b'=Plain.yQ7 b) (hn:b'.n=b.n) (hr:b'.rounds=b.rounds) (ht:b'.ticks=b.ticks):BkI B R oo XX A G W' vl b' N :=
 ⟨row,by rw [hw];exact h.ra.of_block (u A (fun e=>h.RA e.symm)),by rw [hg];exact h.rg.of_block (u G (fun e=>h.RG e.symm)),ok,by rw [hn];exact h.n1,by rw [hn];exact h.n8,by rw [hr,ht];exact h.rd,
  by rw [hn,hl];exact h.lv.imp id (fun ⟨L,x1,x2,x3,x4,x5⟩=>⟨L,x1,x2.of_block (u L x4),x3,x4,x5⟩),h.hR,h.hA,h.hG,h.RA,h.RG,h.AG,by rw [ht];exact h.tk,h.le⟩
end BkI
def CoP (B R oo:Nat) (XX:Win) (A G N:Nat) (vl:Value) (b:Plain.Bk) (c:Plain.Ca) (w:World) (e:Ending) (w':World):Prop :=
 e=.returned (.int .i64 (Plain.caE b c:Nat))/\BkI B R oo XX A G w' vl (Plain.caB b c) N/\Un (Fb R A G vl) w w'
theorem yE4 {B R oo A G N E:Nat} {XX:Win} {vl:Value} {b:Plain.Bk} {c:Plain.Ca} {w:World} (h:BkI B R oo XX A G w vl b N) (hE:Plain.caE b c=E) (h0:E≠0):CoP B R oo XX A G N vl b c w (.returned (.int .i64 (E:Nat))) w:=by
 have hB:Plain.caB b c=b:=by unfold Plain.caB;rw [hE,if_pos h0]
 exact ⟨by rw [hE],by rw [hB];exact h,Un.refl _ _⟩
theorem xS6 (B R oo A G N:Nat) (XX:Win) (vl:Value) (b:Plain.Bk) (c:Plain.Ca) (hk:c.kind=1) (w:World) (h:BkI B R oo XX A G w vl b N) :
  Calls Tryz.prog 67 #[.pointer (some ⟨R,oo,none⟩),.int .i64 c.count] w fun e w'=>CoP B R oo XX A G N vl b c w e w':=by
 have hE:Plain.caE b c=if c.count<1\/1048576<c.count then 2 else if 1048576<b.ever+c.count then 12 else 0:=by
  unfold Plain.caE;rw [if_neg (by omega),if_pos hk]
 by_cases h1:1<=c.count/\c.count<=1048576
 ·have K:=zK2 h1 w
  rw [if_neg (by omega)] at hE;have e0:-1<=b.ever/\b.ever<=1048576/\0<=b.reserve/\b.reserve<=b.ever:=by
   have:=h.ok.ev;have:=h.ok.em;have:=h.ok.re;have hs:=Plain.vQ (n:=b.n) (f:=fun i=>b.given.getD i 0) (fun i hi=>(h.ok.gi i hi).1);rw [<- Plain.zA2 h.ok.lg] at hs;omega
  have r2:=h.c2;have r3:=h.c3;have f2:=h.row.frozen (oo+2);have f3:=h.row.frozen (oo+3);by_cases h2:1048576<b.ever+c.count
  ·rw [if_pos h2] at hE
   have P0:=hid (yE4 h hE (by decide));clear h hE;obtain ⟨ck,cw,cc⟩:=c;dsimp only at *;generalize b.ever=ev at *;go_enter Tryz.func67,Tryz.ntmps67
   go_wp2_with fail
   refine K.mono ?_;rintro e wx ⟨rfl,hx⟩;have hy:=hx.symm;clear hx K;subst hy;go_wp2;go_ret
   exact P0.out
  ·rw [if_neg h2] at hE
   have hB:Plain.caB b c={ b with ever:=b.ever+c.count,reserve:=b.reserve+c.count }:=by
    unfold Plain.caB;rw [hE,if_neg (by decide),if_neg (by omega),if_pos hk]
   have hok:=h.ok.step c;rw [hB] at hok;obtain ⟨W1,hW1⟩:∃ W1,W1=(w.setCell ⟨R,oo+3,none⟩ (.int .i64 (b.ever+c.count))).setCell ⟨R,oo+2,none⟩ (.int .i64 (b.reserve+c.count)):=⟨_,rfl⟩;have un:Un (Fb R A G vl) w W1:=by rw [hW1];exact (Un.set (.inl rfl) _ _).trans (Un.set (.inl rfl) _ _)
   have P0:=hid (show CoP B R oo XX A G N vl b c w (.returned (.int .i64 ((0:Nat):Int))) W1 from ⟨by rw [hE],by
    rw [hB];refine h.boxed ?_ (fun k hk=>?_) hok rfl rfl rfl rfl rfl rfl
    ·rw [hW1]
     refine Win.set (Win.set h.row 3 (by omega) _ (fun _ _=>rfl)) 2 (by omega) _ fun j hj=>?_;have:j=0\/j=1\/j=2\/j=3\/j=4\/j=5\/j=6\/j=7:=by omega
     rcases this with rfl|rfl|rfl|rfl|rfl|rfl|rfl|rfl<;>rfl
    ·rw [hW1,zE _ ⟨R,oo+2,none⟩ _ k hk,zE _ ⟨R,oo+3,none⟩ _ k hk],un⟩)
   rw [hW1] at P0;clear h hE hB hok un hW1;obtain ⟨ck,cw,cc⟩:=c;dsimp only at *;generalize b.ever=ev at *;generalize b.reserve=re at *;go_enter Tryz.func67,Tryz.ntmps67
   go_wp2_with fail
   refine K.mono ?_;rintro e wx ⟨rfl,hx⟩;have hy:=hx.symm;clear hx K;subst hy;go_wp2;go_ret
   exact P0.out
 ·have K:=yQ4 h1 w
  rw [if_pos (by omega)] at hE;have P0:=hid (yE4 h hE (by decide));clear h hE h1;generalize c.count=cc at *;go_enter Tryz.func67,Tryz.ntmps67
  go_wp2_with fail
  refine K.mono ?_;rintro e wx ⟨rfl,hx⟩;have hy:=hx.symm;clear hx K;subst hy;go_wp2;go_ret
  exact P0.out
theorem yQ8 (B R oo A G N:Nat) (XX:Win) (vl:Value) (b:Plain.Bk) (c:Plain.Ca) (hk:c.kind=2) (w:World) (h:BkI B R oo XX A G w vl b N) :
  Calls Tryz.prog 68 #[.pointer (some ⟨R,oo,none⟩),.int .i64 c.who,.int .i64 c.count] w fun e w'=>CoP B R oo XX A G N vl b c w e w':=by
 have hE:Plain.caE b c=if (c.who<0\/(b.n:Int)<=c.who)\/(c.count<0\/1048576<c.count) then 2 else 0:=by
  unfold Plain.caE;rw [if_neg (by omega),if_neg (by omega),if_pos hk]
 have hn1:=h.n1;have hn8:=h.n8;have r4:=h.c4;by_cases h1:0<=c.who/\c.who<=(b.n:Int)-1
 ·have K1:=zK2 h1 w
  by_cases h2:0<=c.count/\c.count<=1048576
  ·have K2:=zK2 h2 w
   rw [if_neg (by omega)] at hE;have hB:Plain.caB b c={ b with wants:=b.wants.set c.who.toNat (max (b.wants.getD c.who.toNat 0) c.count) }:=by
    unfold Plain.caB;rw [hE,if_neg (by decide),if_neg (by omega),if_neg (by omega)]
   have hok:=h.ok.step c;rw [hB] at hok;have hi:c.who.toNat<b.wants.length:=by rw [h.ok.lw];omega
   have hra:=h.ra.cell hi;have hrf:=h.ra.frozen c.who.toNat;have hwb:=h.ok.wa c.who.toNat (by omega);have P0:=hid (fun q m (hm:m=max (b.wants.getD c.who.toNat 0) c.count)=>show CoP B R oo XX A G N vl b c w (.returned (.int .i64 ((0:Nat):Int))) ((w.drewN q).setCell ⟨A,c.who.toNat,none⟩ (.int .i64 m)) from ⟨by rw [hE],by
    rw [hB];have u:∀ k,k≠A->((w.drewN q).setCell ⟨A,c.who.toNat,none⟩ (.int .i64 m)).heap[k]?=w.heap[k]?:=fun k hk=>zE (w.drewN q) ⟨A,c.who.toNat,none⟩ _ k hk;refine ⟨h.row.of_block (u R h.RA),?_,h.rg.of_block (u G (fun e=>h.AG e.symm)),hok,h.n1,h.n8,h.rd,h.lv.imp id (fun ⟨L,x1,x2,x3,x4,x5,x6⟩=>⟨L,x1,x2.of_block (u L x5),x3,x4,x5,x6⟩),h.hR,h.hA,h.hG,h.RA,h.RG,h.AG,h.tk,h.le⟩;have:=(RowI.of_block (w':=w.drewN q) h.ra rfl).set c.who.toNat hi m;rw [hm] at this ⊢;exact this,Un.trans (Un.of_below (below_drewN yO q)) (Un.set (.inr (.inl rfl)) _ _)⟩)
   clear h hE hB hok;obtain ⟨ck,cw,cc⟩:=c;dsimp only at *;obtain ⟨i,rfl⟩:∃ i:Nat,cw=(i:Int):=⟨cw.toNat,by omega⟩;rw [zK] at *;generalize b.wants.getD i 0=x at *;have hlen:=hid hi;clear hi;generalize b.n=n at *;have hin:(i:Int)<(n:Int):=by omega
   have hi0:(0:Int)<=(i:Int):=by omega
   have hsub:IntKind.i64.wrap ((n:Int)-1)=(n:Int)-1:=by rw [IntKind.wrap_i64];omega
   have body:∀ (m:Int),(if x<cc then cc else x)=m->m=max x cc->Calls Tryz.prog 68 #[.pointer (some ⟨R,oo,none⟩),.int .i64 (i:Int),.int .i64 cc] w fun e w'=>CoP B R oo XX A G N vl b ⟨ck,(i:Int),cc⟩ w e w':=by
    intro m hm hm2;have P1:=hid (fun q=>P0.out q m hm2);clear P0 hm2;go_enter Tryz.func68,Tryz.ntmps68
    go_wp2_with (first|(go_at_call_of 66 (Value.int .i64 (i:Int));refine K1.mono ?_;rintro e w' ⟨rfl,rfl⟩)|fail)
    refine K2.mono ?_;rintro e wx ⟨rfl,hx⟩;have hy:=hx.symm;clear hx K1 K2;subst hy;go_wp2
    go_region
    go_wp2;go_ret
    exact P1.out 1
   refine body _ rfl ?_;split<;>omega
  ·have K2:=yQ4 h2 w
   rw [if_pos (by omega)] at hE;have P0:=hid (yE4 h hE (by decide));clear h hE h2;obtain ⟨ck,cw,cc⟩:=c;dsimp only at *;generalize b.n=n at *;have hsub:IntKind.i64.wrap ((n:Int)-1)=(n:Int)-1:=by rw [IntKind.wrap_i64];omega
   go_enter Tryz.func68,Tryz.ntmps68
   go_wp2_with (first|(go_at_call_of 66 (Value.int .i64 cw);refine K1.mono ?_;rintro e w' ⟨rfl,rfl⟩)|fail)
   refine K2.mono ?_;rintro e wx ⟨rfl,hx⟩;have hy:=hx.symm;clear hx K1 K2;subst hy;go_wp2;go_ret
   exact P0.out
 ·have K1:=yQ4 h1 w
  rw [if_pos (by omega)] at hE;have P0:=hid (yE4 h hE (by decide));clear h hE h1;obtain ⟨ck,cw,cc⟩:=c;dsimp only at *;generalize b.n=n at *;have hsub:IntKind.i64.wrap ((n:Int)-1)=(n:Int)-1:=by rw [IntKind.wrap_i64];omega
  go_enter Tryz.func68,Tryz.ntmps68
  go_wp2_with fail
  refine K1.mono ?_;rintro e wx ⟨rfl,hx⟩;have hy:=hx.symm;clear hx K1;subst hy;go_wp2;go_ret
  exact P0.out
theorem xE7 (B R oo A G N:Nat) (XX:Win) (vl:Value) (b:Plain.Bk) (w:World) (h:BkI B R oo XX A G w vl b N) :
  Calls Tryz.prog 86 #[.pointer (some ⟨R,oo,none⟩)] w fun e w' =>
   ∃ g,e=.returned (.slice (some ⟨g,0,none⟩) b.n b.n)/\RowI w' g (Plain.qE b.reserve (List.replicate b.n b.cap))/\w.heap.size<=g/\Below w.heap.size w w':=by
 have hn1:=h.n1;have hn8:=h.n8;have hlt:=h.row.lt;have hE:Plain.yE0 b.reserve (List.replicate b.n b.cap)=0:=by
  have:=h.ok.ev;have:=h.ok.em;have hs:=Plain.vQ (n:=b.n) (f:=fun i=>b.given.getD i 0) (fun i hi=>(h.ok.gi i hi).1);rw [<- Plain.zA2 h.ok.lg] at hs;exact Plain.qB6 (by rw [yA];omega) ⟨h.ok.re,by omega⟩ (Plain.qC2 h.ok.cap)
 have r0:=h.c0;have r2:=h.c2;have r5:=h.c5;have HE:=hid hE;clear h hE;generalize b.n=n at *;generalize b.cap=cap at *;generalize b.reserve=re at *;obtain ⟨W5,hW5⟩:∃ W5,W5=(w.alloc (.cells #[.int .i64 cap] 3)).drew:=⟨_,rfl⟩;have b5:Below w.heap.size w W5:=by rw [hW5];exact (yO.alloc yN _).drew
 have KR:=zN2 w.heap.size n cap hn1 hn8 W5 (by rw [hW5];show (w.alloc _).cell? _=_;rw [zM _ _ _ _ rfl];rfl);have KS:=fun g W (hr:RowI W g (List.replicate n cap))=>xD8 (some ⟨g,0,none⟩) n n (List.replicate n cap) re HE.out W (by simp) (fun _=>⟨g,0,rfl,hr.lt,fun j hj=>by rw [Nat.zero_add];exact hr.cell hj⟩);rw [hW5] at KR;have B5:=hid b5;have S5:=hid hW5;clear b5 hW5;go_enter Tryz.func86,Tryz.ntmps86
 go_wp2
 go_region_held3 (fun w'=>w'.cell? ⟨R,oo+2,none⟩=some (.int .i64 re)/\w'.cell? ⟨R,oo,none⟩=some (.int .i64 cap)/\w'.cell? ⟨R,oo+5,none⟩=some (.slice (some ⟨G,0,none⟩) n n)) (go_keep) (first
  | (go_at_call 112;refine KR.mono ?_;rw [<- S5.out];rintro e W6 ⟨g6,rfl,hr6,hg6,hb6⟩;have B6:=hid (B5.out.trans (hb6.mono B5.out.size));have R6:=hid hr6;have r2:=(B6.out.cell (p:=⟨R,oo+2,none⟩) hlt).trans r2;have r0:=(B6.out.cell (p:=⟨R,oo,none⟩) hlt).trans r0;have r5:=(B6.out.cell (p:=⟨R,oo+5,none⟩) hlt).trans r5;clear hr6 hg6 hb6)
  | (go_at_call 111;refine (KS _ _ R6.out).mono ?_;rintro e W7 ⟨g7,rfl,hr7,hg7,hb7⟩;have r2:=(hb7.cell (p:=⟨R,oo+2,none⟩) (zC (w:=W6) (h:=r2))).trans r2;have r0:=(hb7.cell (p:=⟨R,oo,none⟩) (zC (w:=W6) (h:=r0))).trans r0;have r5:=(hb7.cell (p:=⟨R,oo+5,none⟩) (zC (w:=W6) (h:=r5))).trans r5;have B7:=hid (B6.out.trans (hb7.mono B6.out.size));have R7:=hid hr7;have G7:=hid (zI B6.out.size hg7);clear hr7 hg7 hb7))
 all_goals
  go_wp2;go_ret
  exact ⟨_,rfl,R7.out,G7.out,B7.out⟩
namespace Plain
theorem xY {n:Nat} {f g:Nat->Int} (h:∀ i,i<n->f i=g i):mapN n f=mapN n g:=List.map_congr_left fun i hi=>h i (zY.1 hi)
theorem zN3 {n:Nat} {f:Nat->Int} (k:Nat) (x:Int) (hk:k<n):(mapN n f).set k x=mapN n fun i=>if i=k then x else f i:=by
 rw [kQ ((mapN n f).set k x),List.length_set,kG];refine xY fun i hi=>?_;rw [zE0 _ _ _ _ (by rw [kG];exact hk)];by_cases e:i=k
 ·rw [if_pos e,if_pos e]
 ·rw [if_neg e,if_neg e,vP hi]
def givS (b:Bk) (k:Nat):Bk:={ b with given:=mapN b.n fun i=>if i<k then b.given.getD i 0+amt b i else b.given.getD i 0,since:=mapN b.n fun i=>if i<k then b.since.getD i 0+amt b i else b.since.getD i 0,reserve:=b.reserve-sumL (mapN k (amt b)) }
theorem qC8 {b:Bk} (h:Ok b):givS b 0=b:=by
 unfold givS;have e1:(mapN b.n fun i=>if i<0 then b.given.getD i 0+amt b i else b.given.getD i 0)=b.given:=by
  rw [xY (g:=fun i=>b.given.getD i 0) (fun i _=>if_neg (by omega)),<- h.lg,<- kQ]
 have e2:(mapN b.n fun i=>if i<0 then b.since.getD i 0+amt b i else b.since.getD i 0)=b.since:=by
  rw [xY (g:=fun i=>b.since.getD i 0) (fun i _=>if_neg (by omega)),<- h.ls,<- kQ]
 rw [e1,e2];have e3:b.reserve-sumL (mapN 0 (amt b))=b.reserve:=by
  have:sumL (mapN 0 (amt b))=0:=rfl;omega
 rw [e3]
theorem givS_all (b:Bk):{ givS b b.n with rounds:=(b.rounds+1)%b.ticks }=yJ4 b:=by
 unfold givS yJ4;rw [xY (g:=fun i=>b.given.getD i 0+amt b i) (fun i hi=>if_pos hi),xY (g:=fun i=>b.since.getD i 0+amt b i) (fun i hi=>if_pos hi)]
theorem xZ5 {b:Bk} {k:Nat} (hk:k<b.n):(givS b k).given.getD k 0=b.given.getD k 0/\(givS b (k+1)).given=(givS b k).given.set k (b.given.getD k 0+amt b k):=by
 refine ⟨?_,?_⟩
 ·show (mapN b.n _).getD k 0=_
  rw [vP hk,if_neg (by omega)]
 ·show mapN b.n _=(mapN b.n _).set k _
  rw [zN3 k _ hk];refine xY fun i hi=>?_;by_cases e:i=k
  ·subst e;rw [if_pos (by omega),if_pos rfl]
  ·rw [if_neg e]
   by_cases h2:i<k
   ·rw [if_pos h2,if_pos (by omega)]
   ·rw [if_neg h2,if_neg (by omega)]
theorem yJ9 {b:Bk} {k:Nat} (hk:k<b.n):(givS b k).since.getD k 0=b.since.getD k 0/\(givS b (k+1)).since=(givS b k).since.set k (b.since.getD k 0+amt b k):=by
 refine ⟨?_,?_⟩
 ·show (mapN b.n _).getD k 0=_
  rw [vP hk,if_neg (by omega)]
 ·show mapN b.n _=(mapN b.n _).set k _
  rw [zN3 k _ hk];refine xY fun i hi=>?_;by_cases e:i=k
  ·subst e;rw [if_pos (by omega),if_pos rfl]
  ·rw [if_neg e]
   by_cases h2:i<k
   ·rw [if_pos h2,if_pos (by omega)]
   ·rw [if_neg h2,if_neg (by omega)]
theorem qC9 {b:Bk} {k:Nat} (hk:k<b.n):(yQ7 (givS b k)).getD k 0=b.quotas.getD k 0-b.since.getD k 0/\yQ7 (givS b (k+1))=(yQ7 (givS b k)).set k (b.quotas.getD k 0-b.since.getD k 0-amt b k):=by
 have hs:=yJ9 hk;refine ⟨?_,?_⟩
 ·show (mapN b.n _).getD k 0=_
  rw [vP hk,hs.1];rfl
 ·show mapN b.n _=(mapN b.n _).set k _
  rw [zN3 k _ hk];refine xY fun i hi=>?_;rw [hs.2,zE0 _ _ _ _ (by show k<(mapN b.n _).length;rw [kG];exact hk)];by_cases e:i=k
  ·subst e
   rw [if_pos rfl,if_pos rfl];show b.quotas.getD i 0-_=_;omega
  ·rw [if_neg e,if_neg e];rfl
theorem xN4 (b:Bk) (k:Nat):(givS b (k+1)).reserve=(givS b k).reserve-amt b k:=by
 show b.reserve-sumL (mapN (k+1) (amt b))=b.reserve-sumL (mapN k (amt b))-amt b k;rw [jB];omega
theorem qD0 (b:Bk):(yQ7 b).length=b.n:=kG _ _
theorem givS_len (b:Bk) (k:Nat):(givS b k).given.length=b.n:=kG _ _
theorem qD1 {b:Bk} (h0:b.rounds=0):yQ7 (begB b)=qE b.reserve (List.replicate b.n b.cap):=by
 unfold begB;rw [if_pos h0];have hl:(qE b.reserve (List.replicate b.n b.cap)).length=b.n:=by rw [zT5,yA]
 conv=>rhs;rw [kQ (qE b.reserve (List.replicate b.n b.cap)),hl]
 refine xY fun i hi=>?_;show (qE b.reserve (List.replicate b.n b.cap)).getD i 0-(zeros b.n).getD i 0=_;rw [jO];omega
theorem amt_min {b:Bk} (h:Ok b) {i:Nat} (hi:i<b.n):amt b i=min (b.wants.getD i 0-b.given.getD i 0) (b.quotas.getD i 0-b.since.getD i 0):=by
 have h1:=h.gi i hi;have h2:=h.si i hi;unfold amt;omega
theorem zK3 {b:Bk} (h:Ok b):0<=b.reserve/\b.reserve<=1048576:=by
 have:=h.ev;have:=h.em;have:=h.re;have hs:=vQ (n:=b.n) (f:=fun i=>b.given.getD i 0) (fun i hi=>(h.gi i hi).1);rw [<- zA2 h.lg] at hs;omega
theorem givS_bd {b:Bk} (h:Ok b) {k:Nat} (hk:k<=b.n):-1048576<=(givS b k).reserve/\(givS b k).reserve<=1048576:=by
 have h1:=zK3 h;have h2:=yP9 (n:=b.n) (k:=k) (f:=amt b) (fun i hi=>(yQ0 h hi).1) hk;have h3:=vQ (n:=k) (f:=amt b) (fun i hi=>(yQ0 h (show i<b.n by omega)).1);have h4:=(zK3 h.give).1;have h5:(yJ4 b).reserve=b.reserve-sumL (mapN b.n (amt b)):=rfl;show -1048576<=b.reserve-sumL (mapN k (amt b))/\b.reserve-sumL (mapN k (amt b))<=1048576;omega
end Plain
def DoP (B R oo:Nat) (XX:Win) (A G N:Nat) (vl:Value) (b:Plain.Bk) (c:Plain.Ca) (w:World) (e:Ending) (w':World):Prop :=
 ∃ r vl' N',e=.returned (aggU r)/\r.d=Plain.caT b c/\BkI B R oo XX A G w' vl' (Plain.caB b c) N'/\N'<=N+1/\Un (Fb R A G vl) w w'/\Ns (fun k=>Fb R A G vl' k\/k<w.heap.size) w' r.p r.c r.d.grants/\∀ k,k<w.heap.size->Fb R A G vl' k->Fb R A G vl k
structure GvI (R oo:Nat) (XX:Win) (A G L H:Nat) (w0 W:World) (b:Plain.Bk) (N k:Nat):Prop where
 row:W.rowIs R XX.t XX.n (XX.f oo 8 (bkR A G (.slice (some ⟨L,0,none⟩) b.n b.n) (Plain.givS b k) N))
 ra:RowI W A b.wants
 rg:RowI W G (Plain.givS b k).given
 rl:RowI W L (Plain.yQ7 (Plain.givS b k))
 box:W.rowIs H 124 3 (ruF ⟨⟨0,[],0⟩,none,0⟩)
 un:Un (Fb R A G (.slice (some ⟨L,0,none⟩) b.n b.n)) w0 W
 le:oo+8<=XX.n
structure Geo (R A G L H:Nat):Prop where
 RA:R≠A
 RG:R≠G
 AG:A≠G
 LR:L≠R
 LA:L≠A
 LG:L≠G
 HR:H≠R
 HA:H≠A
 HG:H≠G
 HL:H≠L
namespace GvI
variable {R oo A G L H N k:Nat} {XX:Win} {w0 W:World} {b:Plain.Bk}
theorem drewN (h:GvI R oo XX A G L H w0 W b N k) (q:Nat):GvI R oo XX A G L H w0 (W.drewN q) b N k :=
 ⟨h.row.of_block rfl,h.ra.of_block rfl,h.rg.of_block rfl,h.rl.of_block rfl,h.box.of_block rfl,h.un.trans (Un.of_below (below_drewN yO q)),h.le⟩
theorem step (h:GvI R oo XX A G L H w0 W b N k) (g:Geo R A G L H) (hk:k<b.n):GvI R oo XX A G L H w0 (((W.setCell ⟨G,k,none⟩ (.int .i64 (b.given.getD k 0+Plain.amt b k))).setCell ⟨L,k,none⟩ (.int .i64 (b.quotas.getD k 0-b.since.getD k 0-Plain.amt b k))).setCell ⟨R,oo+2,none⟩ (.int .i64 ((Plain.givS b k).reserve-Plain.amt b k))) b N (k+1):=by
 obtain ⟨W1,hW1⟩:∃ W1,W1=W.setCell ⟨G,k,none⟩ (.int .i64 (b.given.getD k 0+Plain.amt b k)):=⟨_,rfl⟩;obtain ⟨W2,hW2⟩:∃ W2,W2=W1.setCell ⟨L,k,none⟩ (.int .i64 (b.quotas.getD k 0-b.since.getD k 0-Plain.amt b k)):=⟨_,rfl⟩;rw [<- hW1,<- hW2];have u1:∀ j,j≠G->W1.heap[j]?=W.heap[j]?:=fun j hj=>by rw [hW1];exact zE _ ⟨G,k,none⟩ _ j hj
 have u2:∀ j,j≠L->W2.heap[j]?=W1.heap[j]?:=fun j hj=>by rw [hW2];exact zE _ ⟨L,k,none⟩ _ j hj
 have rg1:RowI W1 G (Plain.givS b (k+1)).given:=by
  rw [hW1,(Plain.xZ5 hk).2];exact h.rg.set k (by rw [Plain.givS_len];exact hk) _
 have rl2:RowI W2 L (Plain.yQ7 (Plain.givS b (k+1))):=by
  rw [hW2,(Plain.qC9 hk).2];exact (h.rl.of_block (u1 L g.LG)).set k (by rw [Plain.qD0];exact hk) _
 have row2:=(h.row.of_block (u1 R g.RG)).of_block (u2 R (fun e=>g.LR e.symm));refine ⟨?_,RowI.other ((h.ra.of_block (u1 A g.AG)).of_block (u2 A (fun e=>g.LA e.symm))) (fun e=>g.RA e.symm) _,RowI.other (rg1.of_block (u2 G (fun e=>g.LG e.symm))) (fun e=>g.RG e.symm) _,RowI.other rl2 g.LR _,?_,?_,h.le⟩
 ·refine Win.set row2 2 (by omega) _ fun j hj=>?_
  have:j=0\/j=1\/j=2\/j=3\/j=4\/j=5\/j=6\/j=7:=by omega
  rcases this with rfl|rfl|rfl|rfl|rfl|rfl|rfl|rfl
  ·rfl
  ·rfl
  ·show Value.int .i64 (Plain.givS b (k+1)).reserve=Value.int .i64 ((Plain.givS b k).reserve-Plain.amt b k)
   rw [Plain.xN4]
  ·rfl
  ·rfl
  ·rfl
  ·rfl
  ·rfl
 ·exact ((h.box.of_block (u1 H g.HG)).of_block (u2 H g.HL)).of_block (zE _ ⟨R,oo+2,none⟩ _ H g.HR)
 ·have un1:Un (Fb R A G (.slice (some ⟨L,0,none⟩) b.n b.n)) W W1:=by rw [hW1];exact Un.set (.inr (.inr (.inl rfl))) _ _
  have un2:Un (Fb R A G (.slice (some ⟨L,0,none⟩) b.n b.n)) W1 W2:=by rw [hW2];exact Un.set (.inr (.inr (.inr rfl))) _ _
  exact ((h.un.trans un1).trans un2).trans (Un.set (.inl rfl) _ _)
end GvI
abbrev zeroU:Obj:=.cells #[.int .i64 0,.slice none 0 0,.int .i64 0] 124
theorem zU4 {B R oo A G N L H:Nat} {XX:Win} {vl:Value} {b:Plain.Bk} {c:Plain.Ca} {w w0 W W':World} {gc cc:Nat} (hk:c.kind=3) (h:BkI B R oo XX A G w vl b N) (g:Geo R A G L H) (hL:B<=L) (gv:GvI R oo XX A G L H w0 W (Plain.begB b) (N+1) b.n)
  (un0:Un (Fb R A G vl) w w0) (hf:∀ k,k<w.heap.size->Fb R A G (.slice (some ⟨L,0,none⟩) b.n b.n) k->Fb R A G vl k) (hH:w.heap.size<=H) (hr:RowI W' gc (Plain.yJ4 (Plain.begB b)).given) (hgc:W.heap.size<=gc) (bel:Below W.heap.size W W') (rep:Int) (hrep:rep=Plain.xR8 b) :
  DoP B R oo XX A G N vl b c w (.returned (aggU ⟨⟨0,(Plain.yJ4 (Plain.begB b)).given,rep⟩,some ⟨gc,0,none⟩,cc⟩)) (putU W' H 0 ⟨⟨0,(Plain.yJ4 (Plain.begB b)).given,rep⟩,some ⟨gc,0,none⟩,cc⟩):=by
 have hE:Plain.caE b c=0:=by unfold Plain.caE;rw [if_pos hk]
 have hT:Plain.caT b c=⟨0,(Plain.yJ4 (Plain.begB b)).given,rep⟩:=by unfold Plain.caT;rw [hE,if_neg (by decide),if_pos hk,hrep];rfl
 have hB:Plain.caB b c=Plain.yJ4 (Plain.begB b):=by unfold Plain.caB;rw [hE,if_neg (by decide),if_pos hk];rfl
 have hn:(Plain.begB b).n=b.n:=Plain.qC4 b;have ht:(Plain.begB b).ticks=b.ticks:=by unfold Plain.begB;split<;>rfl
 have hrd:(Plain.begB b).rounds=b.rounds:=by unfold Plain.begB;split<;>rfl
 have hall:=Plain.givS_all (Plain.begB b);rw [hn] at hall;have hlen:(Plain.yJ4 (Plain.begB b)).given.length=b.n:=by show (Plain.mapN (Plain.begB b).n _).length=_;rw [Plain.kG,hn]
 obtain ⟨r,hr0⟩:∃ r:RU,r=⟨⟨0,(Plain.yJ4 (Plain.begB b)).given,rep⟩,some ⟨gc,0,none⟩,cc⟩:=⟨_,rfl⟩;rw [<- hr0];have up:=zN1 (F:=(·=H)) W' H 0 r rfl;have lv:∀ j,j<W.heap.size->j≠H->(putU W' H 0 r).heap[j]?=W.heap[j]?:=fun j hj hne=>(up.block j (zF hj bel.size) hne).trans (bel.block j hj);have hgne:gc≠H:=by have:=gv.box.lt;omega
 have hrow:RowI (putU W' H 0 r) gc (Plain.yJ4 (Plain.begB b)).given:=hr.of_block (up.block gc hr.lt hgne);have hFb:∀ k,Fb R A G (.slice (some ⟨L,0,none⟩) b.n b.n) k->k<W.heap.size:=fun k hk=>by
  rcases hk with rfl|rfl|rfl|hk
  ·exact gv.row.lt
  ·exact gv.ra.lt
  ·exact gv.rg.lt
  ·simp only [Value.ownBlock,Option.some.injEq] at hk
   have:=gv.rl.lt;omega
 have gun:=gv.un;rw [hn] at gun;refine ⟨r,.slice (some ⟨L,0,none⟩) b.n b.n,N+1,rfl,by rw [hT,hr0],?_,yN,?_,?_,hf⟩
 ·rw [hB]
  refine ⟨?_,?_,?_,h.ok.beg.give,by show 1<=(Plain.begB b).n;rw [hn];exact h.n1,by show (Plain.begB b).n<=8;rw [hn];exact h.n8,?_,.inr ⟨L,by show _=Value.slice _ (Plain.begB b).n (Plain.begB b).n;rw [hn],?_,hL,g.LR,g.LA,g.LG⟩,h.hR,h.hA,h.hG,h.RA,h.RG,h.AG,by show (Plain.begB b).ticks<=8;rw [ht];exact h.tk,h.le⟩
  ·have:=gv.row.of_block (lv R gv.row.lt (fun e=>g.HR e.symm))
   refine Win.congr this fun j hj=>?_;rw [<- hall];have:j=0\/j=1\/j=2\/j=3\/j=4\/j=5\/j=6\/j=7:=by omega
   rcases this with rfl|rfl|rfl|rfl|rfl|rfl|rfl|rfl
   ·rfl
   ·rfl
   ·rfl
   ·rfl
   ·rfl
   ·rfl
   ·show Value.slice _ (Plain.begB b).n (Plain.begB b).n=_;rw [hn];rfl
   ·rfl
  ·exact gv.ra.of_block (lv A gv.ra.lt (fun e=>g.HA e.symm))
  ·rw [<- hall];exact gv.rg.of_block (lv G gv.rg.lt (fun e=>g.HG e.symm))
  ·show ((Plain.begB b).rounds+1)%(Plain.begB b).ticks=(N+1)%(Plain.begB b).ticks
   rw [hrd,ht,h.rd,Nat.mod_add_mod]
  ·have:Plain.yQ7 (Plain.yJ4 (Plain.begB b))=Plain.yQ7 (Plain.givS (Plain.begB b) b.n):=by rw [<- hall];rfl
   rw [this];exact gv.rl.of_block (lv L gv.rl.lt (fun e=>g.HL e.symm))
 ·have u1:Un (Fb R A G vl) w W:=un0.thenU gun hf
  refine ⟨up.os.trans (bel.os.trans u1.os),up.tape.trans (bel.tape.trans u1.tape),up.output.trans (bel.output.trans u1.output),zI u1.size (zI bel.size up.size),fun k hk hF=>?_⟩;rw [lv k (zF hk u1.size) (by omega)];exact u1.block k hk hF
 ·rw [hr0]
  rw [hr0] at hrow;refine Ns.of_row hrow (fun x=>?_);rcases x with x|x
  ·have:=hFb _ x;omega
  ·have:=un0.size;have:=gun.size;omega
theorem GvI.start {B R oo A G L H N:Nat} {XX:Win} {W:World} {b:Plain.Bk} (h:BkI B R oo XX A G W (.slice (some ⟨L,0,none⟩) b.n b.n) b N) (hrl:RowI W L (Plain.yQ7 b)) (g:Geo R A G L H) (box:W.rowIs H 124 3 (ruF ⟨⟨0,[],0⟩,none,0⟩)) :
  GvI R oo XX A G L H (W.setCell ⟨R,oo+7,none⟩ (.int .i64 ((N:Int)+1))) (W.setCell ⟨R,oo+7,none⟩ (.int .i64 ((N:Int)+1))) b (N+1) 0:=by
 have u:∀ j,j≠R->(W.setCell ⟨R,oo+7,none⟩ (.int .i64 ((N:Int)+1))).heap[j]?=W.heap[j]?:=fun j hj=>zE _ ⟨R,oo+7,none⟩ _ j hj;refine ⟨?_,h.ra.of_block (u A (fun e=>h.RA e.symm)),?_,?_,box.of_block (u H g.HR),Un.refl _ _,h.le⟩
 ·rw [Plain.qC8 h.ok]
  refine Win.set h.row 7 (by omega) _ fun j hj=>?_;have:j=0\/j=1\/j=2\/j=3\/j=4\/j=5\/j=6\/j=7:=by omega
  rcases this with rfl|rfl|rfl|rfl|rfl|rfl|rfl|rfl<;>rfl
 ·rw [Plain.qC8 h.ok];exact h.rg.of_block (u G (fun e=>h.RG e.symm))
 ·rw [Plain.qC8 h.ok];exact hrl.of_block (u L g.LR)
theorem BkI.begun {B R oo A G N g:Nat} {XX:Win} {W W2:World} {vl:Value} {b:Plain.Bk} (h:BkI B R oo XX A G W vl b N) (h0:b.rounds=0) (hb:Below W.heap.size W W2) (hr:RowI W2 g (Plain.qE b.reserve (List.replicate b.n b.cap))) (hg:W.heap.size<=g) :
  BkI B R oo XX A G (W2.setCell ⟨R,oo+6,none⟩ (.slice (some ⟨g,0,none⟩) b.n b.n)) (.slice (some ⟨g,0,none⟩) (Plain.begB b).n (Plain.begB b).n) (Plain.begB b) N/\RowI (W2.setCell ⟨R,oo+6,none⟩ (.slice (some ⟨g,0,none⟩) b.n b.n)) g (Plain.yQ7 (Plain.begB b)):=by
 have h2:=h.grow hb;have u:∀ j,j≠R->(W2.setCell ⟨R,oo+6,none⟩ (.slice (some ⟨g,0,none⟩) b.n b.n)).heap[j]?=W2.heap[j]?:=fun j hj=>zE _ ⟨R,oo+6,none⟩ _ j hj;have hn:=Plain.qC4 b;have hgR:g≠R:=by have:=h.row.lt;omega
 have hl:RowI (W2.setCell ⟨R,oo+6,none⟩ (.slice (some ⟨g,0,none⟩) b.n b.n)) g (Plain.yQ7 (Plain.begB b)):=by rw [Plain.qD1 h0];exact hr.of_block (u g hgR)
 refine ⟨⟨?_,?_,?_,h.ok.beg,by rw [hn];exact h.n1,by rw [hn];exact h.n8,?_,.inr ⟨g,rfl,hl,by have:=h.hB;omega,hgR,by have:=h.ra.lt;omega,by have:=h.rg.lt;omega⟩,h.hR,h.hA,h.hG,h.RA,h.RG,h.AG,?_,h.le⟩,hl⟩
 ·rw [hn]
  refine Win.set h2.row 6 (by omega) _ fun j hj=>?_;unfold Plain.begB;rw [if_pos h0];have:j=0\/j=1\/j=2\/j=3\/j=4\/j=5\/j=6\/j=7:=by omega
  rcases this with rfl|rfl|rfl|rfl|rfl|rfl|rfl|rfl<;>rfl
 ·rw [Plain.xZ3];exact h2.ra.of_block (u A (fun e=>h.RA e.symm))
 ·rw [Plain.xZ4];exact h2.rg.of_block (u G (fun e=>h.RG e.symm))
 ·have e1:(Plain.begB b).rounds=b.rounds:=by unfold Plain.begB;split<;>rfl
  have e2:(Plain.begB b).ticks=b.ticks:=by unfold Plain.begB;split<;>rfl
  rw [e1,e2];exact h.rd
 ·have e2:(Plain.begB b).ticks=b.ticks:=by unfold Plain.begB;split<;>rfl
  rw [e2];exact h.tk
theorem xE8 (B R oo A G N:Nat) (XX:Win) (vl:Value) (b:Plain.Bk) (c:Plain.Ca) (hk:c.kind=3) (hN:N<=1000) (h0:b.rounds≠0) (w:World) (h:BkI B R oo XX A G w vl b N) :
  Calls Tryz.prog 69 #[.pointer (some ⟨R,oo,none⟩)] w fun e w'=>DoP B R oo XX A G N vl b c w e w':=by
 obtain ⟨b1,hb1⟩:∃ b1,b1=Plain.begB b:=⟨_,rfl⟩;obtain ⟨W0,hW0⟩:∃ W0,W0=w.alloc zeroU:=⟨_,rfl⟩;have b0:Below w.heap.size w W0:=by rw [hW0];exact yO.alloc yN _
 have x0:=zA5 w ⟨⟨0,[],0⟩,none,0⟩;have rx:W0.rowIs w.heap.size 124 3 (ruF ⟨⟨0,[],0⟩,none,0⟩):=by rw [hW0];exact x0
 clear x0;have hn1:=h.n1;have hn8:=h.n8;have ht0:=h.ok.tk;have htk:=h.tk;have HN1:=hid (show b1.n=b.n by rw [hb1];exact Plain.qC4 b);have OK1:=hid (show Plain.Ok b1 by rw [hb1];exact h.ok.beg);have LEN:=hid (show (Plain.yJ4 b1).given.length=b.n by rw [hb1];show (Plain.mapN (Plain.begB b).n _).length=_;rw [Plain.kG,Plain.qC4]);have hmod:Int.tmod (N:Int) (b.ticks:Nat)=((b.rounds:Nat):Int):=by rw [h.rd];exact (Int.ofNat_tmod _ _).symm
 have hb2:b1=b:=by rw [hb1];unfold Plain.begB;rw [if_neg h0]
 rcases h.lv with ⟨hN0,_⟩|⟨L,hvl,hrl,hL,hLR,hLA,hLG⟩
 ·exfalso
  apply h0;rw [h.rd,hN0,Nat.zero_mod]
 subst hvl;have GEO:=hid (show Geo R A G L w.heap.size from ⟨h.RA,h.RG,h.AG,hLR,hLA,hLG,by have:=h.row.lt;omega,by have:=h.ra.lt;omega,by have:=h.rg.lt;omega,by have:=hrl.lt;omega⟩);have HREP:=hid (show (-1:Int)=Plain.xR8 b by unfold Plain.xR8;rw [if_neg h0]);have hrz:((b.rounds:Int)==0)=false:=by simpa using h0
 have H:=hid h;have HRL:=hid hrl;have RX:=hid rx;have BX:=hid b0;have r7:=(h.grow b0).c7;have r1:=(h.grow b0).c1;have HB1:=hid hb1;have HB2:=hid hb2;clear rx b0 hrl h hb1 hb2 h0;obtain ⟨n,hn⟩:∃ n,n=b.n:=⟨_,rfl⟩;rw [<- hn] at hn1 hn8 HN1 LEN;have HNB:=hid hn;have HW0:=hid hW0;clear hn hW0;have htz:((b.ticks:Nat):Int)≠0:=by omega
 have htz2:(((b.ticks:Nat):Int)==0)=false:=by simpa using htz
 generalize b.ticks=tk at ht0 htk hmod htz htz2 r1;generalize b.rounds=rd at hmod hrz;go_enter Tryz.func69,Tryz.ntmps69
 go_wp2;have eW0:w.alloc (.cells #[.int .i64 0,.slice none 0 0,.int .i64 0] 124)=W0:=HW0.out.symm;rw [eW0]
 go_quiet (fail)
 obtain ⟨W1,hW1⟩:∃ W1,W1=W0.drewN nq:=⟨_,rfl⟩;rw [<- hW1];have B1:=hid (show Below w.heap.size w W1 by rw [hW1];exact below_drewN BX.out nq);have RX1:=hid (show W1.rowIs w.heap.size 124 3 (ruF ⟨⟨0,[],0⟩,none,0⟩) by rw [hW1];exact RX.out.of_block rfl);have H1:=hid (H.out.grow B1.out);clear hW1 r7 r1 RX BX;have q7:=H1.out.c7;have q5:=H1.out.c5;rw [<- HNB.out] at q5;have f7:=H1.out.row.frozen (oo+7);obtain ⟨W9,hW9⟩:∃ W9,W9=W1.setCell ⟨R,oo+7,none⟩ (.int .i64 ((N:Int)+1)):=⟨_,rfl⟩;have GV:=hid (show GvI R oo XX A G L w.heap.size W9 W9 b1 (N+1) 0 by
  rw [hW9,HB2.out];exact GvI.start H1.out (HRL.out.of_block (B1.out.block _ HRL.out.lt)) GEO.out RX1.out)
 have UN0:=hid (show Un (Fb R A G (.slice (some ⟨L,0,none⟩) b.n b.n)) w W9 by rw [hW9];exact (Un.of_below B1.out).trans (Un.set (.inl rfl) _ _));have FIN:=hid (fun (wr W5:World) (gc cc:Nat) (gv:GvI R oo XX A G L w.heap.size W9 wr b1 (N+1) n) (hr:RowI W5 gc (Plain.givS b1 n).given) (hgc:wr.heap.size<=gc) (hbl:Below wr.heap.size wr W5) (rep:Int) (hrep:rep=Plain.xR8 b) =>
  (show DoP B R oo XX A G N (.slice (some ⟨L,0,none⟩) b.n b.n) b c w (.returned (aggU ⟨⟨0,(Plain.yJ4 b1).given,rep⟩,some ⟨gc,0,none⟩,cc⟩)) (putU W5 w.heap.size 0 ⟨⟨0,(Plain.yJ4 b1).given,rep⟩,some ⟨gc,0,none⟩,cc⟩) by
   have eg:(Plain.givS b1 n).given=(Plain.yJ4 b1).given:=by rw [<- HN1.out,<- Plain.givS_all b1]
   rw [eg,HB1.out] at hr;rw [HB1.out,HNB.out] at gv;rw [HB1.out];exact zU4 hk H.out GEO.out hL gv UN0.out (fun _ _ x=>x) yN hr hgc hbl rep hrep))
 clear UN0 B1 RX1 H1 H HRL;go_wp2;rw [<- hW9];clear hW9 q7 q5 f7
 go_loopg [4,5,37] n (fun gg _ _ s37 wx=>∃ k:Nat,k<=n/\n-k<=gg/\s37=.int .i64 k/\Aside (GvI R oo XX A G L w.heap.size W9 wx b1 (N+1) k))
 case atStart=>exact ⟨0,zG _,by omega,rfl,(show Aside _ from GV.out)⟩
 case round =>
  obtain ⟨k,hkk,hg,rfl,AA⟩:=hrel;clear GV;have HI:=hid AA.out;clear AA;by_cases hlt:k<n
  ·have hltz:(k:Int)<(n:Int):=by omega
   have hk0:(0:Int)<=(k:Int):=by omega
   have hkb:k<b1.n:=by rw [HN1.out];exact hlt
   have r2:wr.cell? ⟨R,oo+2,none⟩=some (.int .i64 (Plain.givS b1 k).reserve):=Win.cell HI.out.row HI.out.le (i:=2) (by omega);have r4:wr.cell? ⟨R,oo+4,none⟩=some (.slice (some ⟨A,0,none⟩) n n):=by rw [<- HN1.out];exact Win.cell HI.out.row HI.out.le (i:=4) (by omega)
   have r5:wr.cell? ⟨R,oo+5,none⟩=some (.slice (some ⟨G,0,none⟩) n n):=by rw [<- HN1.out];exact Win.cell HI.out.row HI.out.le (i:=5) (by omega)
   have r6:wr.cell? ⟨R,oo+6,none⟩=some (.slice (some ⟨L,0,none⟩) n n):=by rw [<- HN1.out];exact Win.cell HI.out.row HI.out.le (i:=6) (by omega)
   have ca:wr.cell? ⟨A,k,none⟩=some (.int .i64 (b1.wants.getD k 0)):=HI.out.ra.cell (by rw [OK1.out.lw];exact hkb);have cg:wr.cell? ⟨G,k,none⟩=some (.int .i64 (b1.given.getD k 0)):=by rw [<- (Plain.xZ5 hkb).1];exact HI.out.rg.cell (by rw [Plain.givS_len];exact hkb)
   have cl:wr.cell? ⟨L,k,none⟩=some (.int .i64 (b1.quotas.getD k 0-b1.since.getD k 0)):=by rw [<- (Plain.qC9 hkb).1];exact HI.out.rl.cell (by rw [Plain.qD0];exact hkb)
   have fg:=HI.out.rg.frozen k;have fl:=HI.out.rl.frozen k;have fr:=HI.out.row.frozen (oo+2);have hb:=Plain.yQ0 OK1.out hkb;have hmin:=Plain.amt_min OK1.out hkb;have hwa:=OK1.out.wa k hkb;have hgi:=OK1.out.gi k hkb;have hsi:=OK1.out.si k hkb;have hqu:=OK1.out.qu k hkb;have hcp:=OK1.out.cap.2;have hre:=Plain.givS_bd OK1.out (Nat.le_of_lt hkb);have ST:=hid (fun q=>(HI.out.drewN q).step GEO.out hkb);clear HI;generalize Plain.amt b1 k=am at *;generalize (Plain.givS b1 k).reserve=re at *;generalize b1.wants.getD k 0=wk at *;generalize b1.given.getD k 0=gk at *;have hlk:0<=b1.quotas.getD k 0-b1.since.getD k 0/\b1.quotas.getD k 0-b1.since.getD k 0<=1048576:=by omega
   clear hsi hqu hcp;generalize b1.quotas.getD k 0-b1.since.getD k 0=lk at *;have hsub:IntKind.i64.wrap (wk-gk)=wk-gk:=by rw [IntKind.wrap_i64];omega
   have hmn:(if lk<wk-gk then lk else wk-gk)=am:=by rw [hmin];split<;>omega
   clear hmin;go_wp2
   go_region
   obtain ⟨W3,hW3⟩:∃ W3,W3=wr.drewN 1:=⟨_,rfl⟩;have eW:wr.drew=W3:=hW3.symm;have ST3:=hid (ST.out 1);rw [<- hW3] at ST3;rw [eW];have q2:W3.cell? ⟨R,oo+2,none⟩=some (.int .i64 re):=by rw [hW3];simpa using r2
   have q5:W3.cell? ⟨R,oo+5,none⟩=some (.slice (some ⟨G,0,none⟩) n n):=by rw [hW3];simpa using r5
   have q6:W3.cell? ⟨R,oo+6,none⟩=some (.slice (some ⟨L,0,none⟩) n n):=by rw [hW3];simpa using r6
   have qg:W3.cell? ⟨G,k,none⟩=some (.int .i64 gk):=by rw [hW3];simpa using cg
   have ql:W3.cell? ⟨L,k,none⟩=some (.int .i64 lk):=by rw [hW3];simpa using cl
   have pg:W3.frozen? ⟨G,k,none⟩=false:=by rw [hW3];exact fg
   have pl:W3.frozen? ⟨L,k,none⟩=false:=by rw [hW3];exact fl
   have pr:W3.frozen? ⟨R,oo+2,none⟩=false:=by rw [hW3];exact fr
   clear hW3 eW r2 r4 r5 r6 ca cg cl fg fl fr ST;have n1:=GEO.out.RG;have n2:=GEO.out.LR;have n3:=GEO.out.LG;have n1':=n1.symm;have n2':=n2.symm;have n3':=n3.symm;go_wp2
   go_roundg (n-(k+1))
   case measure=>omega
   case rel=>exact ⟨k+1,by omega,by omega,by go_num,(show Aside _ from ST3.out)⟩
  ·have hltz:¬ (k:Int)<(n:Int):=by omega
   have ek:k=n:=by omega
   subst ek;have r5:wr.cell? ⟨R,oo+5,none⟩=some (.slice (some ⟨G,0,none⟩) k k):=by rw [<- HN1.out];exact Win.cell HI.out.row HI.out.le (i:=5) (by omega)
   have K:=zU3 G k k _ (by rw [Plain.givS_len,HN1.out]) hn1 (by omega) wr HI.out.rg
   go_wp2_with fail
   refine K.mono ?_;rintro e W5 ⟨gc,cc,rfl,hr,hgc,hbl⟩;have R5:=hid (HI.out.box.of_block (hbl.block _ HI.out.box.lt));have HE:=hid (fun rep hrep=>FIN.out wr W5 gc cc HI.out hr hgc hbl rep hrep);clear K hr hgc hbl HI;have y0:W5.cell? ⟨w.heap.size,0,none⟩=some (.int .i64 0):=R5.out.cell (i:=0) (by omega);have y1:W5.cell? ⟨w.heap.size,1,none⟩=some (.slice none 0 0):=R5.out.cell (i:=1) (by omega);have y2:W5.cell? ⟨w.heap.size,2,none⟩=some (.int .i64 0):=R5.out.cell (i:=2) (by omega);have z0:=R5.out.frozen 0;have z1:=R5.out.frozen 1;have z2:=R5.out.frozen 2;go_wp2
   (try simp only [Exit.inBlock,Exit.then])
   have HX:=HE.out (-1) HREP.out;obtain ⟨r,hr0⟩:∃ r:RU,r=⟨⟨0,(Plain.yJ4 b1).given,-1⟩,some ⟨gc,0,none⟩,cc⟩:=⟨_,rfl⟩;have e6:((W5.setCell ⟨w.heap.size,0,none⟩ (.int .i64 0)).setCell ⟨w.heap.size,1,none⟩ (.slice (some ⟨gc,0,none⟩) k cc)).setCell ⟨w.heap.size,2,none⟩ (.int .i64 (-1))=putU W5 w.heap.size 0 r:=by
    rw [hr0];unfold putU;rw [show (Plain.yJ4 b1).given.length=k from LEN.out];rfl
   rw [e6];rw [<- hr0] at HX;exact jJ rfl w.heap.size r rfl (zA4 R5.out r) rfl HX
theorem yQ9 (B R oo A G N:Nat) (XX:Win) (vl:Value) (b:Plain.Bk) (c:Plain.Ca) (hk:c.kind=3) (hN:N<=1000) (h0:b.rounds=0) (w:World) (h:BkI B R oo XX A G w vl b N) :
  Calls Tryz.prog 69 #[.pointer (some ⟨R,oo,none⟩)] w fun e w'=>DoP B R oo XX A G N vl b c w e w':=by
 obtain ⟨b1,hb1⟩:∃ b1,b1=Plain.begB b:=⟨_,rfl⟩;obtain ⟨W0,hW0⟩:∃ W0,W0=w.alloc zeroU:=⟨_,rfl⟩;have b0:Below w.heap.size w W0:=by rw [hW0];exact yO.alloc yN _
 have x0:=zA5 w ⟨⟨0,[],0⟩,none,0⟩;have rx:W0.rowIs w.heap.size 124 3 (ruF ⟨⟨0,[],0⟩,none,0⟩):=by rw [hW0];exact x0
 clear x0;have hn1:=h.n1;have hn8:=h.n8;have ht0:=h.ok.tk;have htk:=h.tk;have HN1:=hid (show b1.n=b.n by rw [hb1];exact Plain.qC4 b);have OK1:=hid (show Plain.Ok b1 by rw [hb1];exact h.ok.beg);have LEN:=hid (show (Plain.yJ4 b1).given.length=b.n by rw [hb1];show (Plain.mapN (Plain.begB b).n _).length=_;rw [Plain.kG,Plain.qC4]);have hmod:Int.tmod (N:Int) (b.ticks:Nat)=((b.rounds:Nat):Int):=by rw [h.rd];exact (Int.ofNat_tmod _ _).symm
 have HREP:=hid (show b.reserve=Plain.xR8 b by unfold Plain.xR8;rw [if_pos h0]);have hrz:((b.rounds:Int)==0)=true:=by simpa using h0
 have H:=hid h;have H0:=hid h0;have RX:=hid rx;have BX:=hid b0;have r7:=(h.grow b0).c7;have r1:=(h.grow b0).c1;have HB1:=hid hb1;clear rx b0 h hb1 h0;obtain ⟨n,hn⟩:∃ n,n=b.n:=⟨_,rfl⟩;rw [<- hn] at hn1 hn8 HN1 LEN;have HNB:=hid hn;have HW0:=hid hW0;clear hn hW0;have htz:((b.ticks:Nat):Int)≠0:=by omega
 have htz2:(((b.ticks:Nat):Int)==0)=false:=by simpa using htz
 generalize b.ticks=tk at ht0 htk hmod htz htz2 r1;generalize b.rounds=rd at hmod hrz;go_enter Tryz.func69,Tryz.ntmps69
 go_wp2;have eW0:w.alloc (.cells #[.int .i64 0,.slice none 0 0,.int .i64 0] 124)=W0:=HW0.out.symm;rw [eW0]
 go_quiet (fail)
 obtain ⟨W1,hW1⟩:∃ W1,W1=W0.drewN nq:=⟨_,rfl⟩;rw [<- hW1];have B1:=hid (show Below w.heap.size w W1 by rw [hW1];exact below_drewN BX.out nq);have RX1:=hid (show W1.rowIs w.heap.size 124 3 (ruF ⟨⟨0,[],0⟩,none,0⟩) by rw [hW1];exact RX.out.of_block rfl);have H1:=hid (H.out.grow B1.out);clear hW1 r7 r1 RX BX;have q2:=H1.out.c2;have K:=xE7 B R oo A G N XX vl b W1 H1.out;rw [<- HNB.out] at K
 go_wp2_with fail
 refine K.mono ?_;rintro e W2 ⟨L,rfl,hr2,hg2,hb2⟩;have B2:=hid hb2;have G2:=hid hg2;have R2:=hid (show RowI W2 L (Plain.qE b.reserve (List.replicate b.n b.cap)) by rw [<- HNB.out];exact hr2);clear K hr2 hb2 hg2 q2;have H2:=hid (H1.out.grow B2.out);have q7:=H2.out.c7;have q6:=H2.out.c6;have q5:=H2.out.c5;rw [<- HNB.out] at q5;have f7:=H2.out.row.frozen (oo+7);have f6:=H2.out.row.frozen (oo+6);have GEO:=hid (show Geo R A G L w.heap.size from ⟨H.out.RA,H.out.RG,H.out.AG,by have:=H1.out.row.lt;have:=G2.out;omega,by have:=H1.out.ra.lt;have:=G2.out;omega,by have:=H1.out.rg.lt;have:=G2.out;omega,by have:=H.out.row.lt;omega,by have:=H.out.ra.lt;omega,by have:=H.out.rg.lt;omega,by have:=RX1.out.lt;have:=G2.out;omega⟩);obtain ⟨W8,hW8⟩:∃ W8,W8=W2.setCell ⟨R,oo+6,none⟩ (.slice (some ⟨L,0,none⟩) n n):=⟨_,rfl⟩;have BG:=H1.out.begun H0.out B2.out R2.out G2.out;rw [<- HB1.out,<- HNB.out,<- hW8] at BG;have RX8:W8.rowIs w.heap.size 124 3 (ruF ⟨⟨0,[],0⟩,none,0⟩):=by
  rw [hW8];exact (RX1.out.of_block (B2.out.block _ RX1.out.lt)).of_block (zE _ ⟨R,oo+6,none⟩ _ _ GEO.out.HR)
 obtain ⟨W9,hW9⟩:∃ W9,W9=W8.setCell ⟨R,oo+7,none⟩ (.int .i64 ((N:Int)+1)):=⟨_,rfl⟩;have GV:=hid (show GvI R oo XX A G L w.heap.size W9 W9 b1 (N+1) 0 by
  rw [hW9];exact GvI.start BG.1 BG.2 GEO.out RX8)
 have hLn:w.heap.size<=L:=by have:=B1.out.size;have:=G2.out;omega
 have HLN:=hid hLn;have UN0:=hid (show Un (Fb R A G vl) w W9 by rw [hW9,hW8];exact (((Un.of_below B1.out).trans (Un.of_below B2.out)).trans (Un.set (.inl rfl) _ _)).trans (Un.set (.inl rfl) _ _));have FIN:=hid (fun (wr W5:World) (gc cc:Nat) (gv:GvI R oo XX A G L w.heap.size W9 wr b1 (N+1) n) (hr:RowI W5 gc (Plain.givS b1 n).given) (hgc:wr.heap.size<=gc) (hbl:Below wr.heap.size wr W5) (rep:Int) (hrep:rep=Plain.xR8 b) =>
  (show DoP B R oo XX A G N vl b c w (.returned (aggU ⟨⟨0,(Plain.yJ4 b1).given,rep⟩,some ⟨gc,0,none⟩,cc⟩)) (putU W5 w.heap.size 0 ⟨⟨0,(Plain.yJ4 b1).given,rep⟩,some ⟨gc,0,none⟩,cc⟩) by
   have eg:(Plain.givS b1 n).given=(Plain.yJ4 b1).given:=by rw [<- HN1.out,<- Plain.givS_all b1]
   rw [eg,HB1.out] at hr;rw [HB1.out,HNB.out] at gv;rw [HB1.out];exact zU4 hk H.out GEO.out (by have:=H.out.hB;have:=HLN.out;omega) gv UN0.out (fun k hk x=>by
    rcases x with x|x|x|x
    ·exact .inl x
    ·exact .inr (.inl x)
    ·exact .inr (.inr (.inl x))
    ·simp only [Value.ownBlock,Option.some.injEq] at x
     have:=HLN.out;omega) yN hr hgc hbl rep hrep))
 have e9:W9=(W2.setCell ⟨R,oo+6,none⟩ (.slice (some ⟨L,0,none⟩) n n)).setCell ⟨R,oo+7,none⟩ (.int .i64 ((N:Int)+1)):=by rw [hW9,hW8]
 clear UN0 B1 RX1 H1 H RX8 BG hLn B2 G2 R2 H2 hW8 hW9;generalize b.reserve=re0 at HREP ⊢;go_wp2;rw [<- e9];clear e9 q7 q6 q5 f7 f6
 go_loopg [4,5,37] n (fun gg _ _ s37 wx=>∃ k:Nat,k<=n/\n-k<=gg/\s37=.int .i64 k/\Aside (GvI R oo XX A G L w.heap.size W9 wx b1 (N+1) k))
 case atStart=>exact ⟨0,zG _,by omega,rfl,(show Aside _ from GV.out)⟩
 case round =>
  obtain ⟨k,hkk,hg,rfl,AA⟩:=hrel;clear GV;have HI:=hid AA.out;clear AA;by_cases hlt:k<n
  ·have hltz:(k:Int)<(n:Int):=by omega
   have hk0:(0:Int)<=(k:Int):=by omega
   have hkb:k<b1.n:=by rw [HN1.out];exact hlt
   have r2:wr.cell? ⟨R,oo+2,none⟩=some (.int .i64 (Plain.givS b1 k).reserve):=Win.cell HI.out.row HI.out.le (i:=2) (by omega);have r4:wr.cell? ⟨R,oo+4,none⟩=some (.slice (some ⟨A,0,none⟩) n n):=by rw [<- HN1.out];exact Win.cell HI.out.row HI.out.le (i:=4) (by omega)
   have r5:wr.cell? ⟨R,oo+5,none⟩=some (.slice (some ⟨G,0,none⟩) n n):=by rw [<- HN1.out];exact Win.cell HI.out.row HI.out.le (i:=5) (by omega)
   have r6:wr.cell? ⟨R,oo+6,none⟩=some (.slice (some ⟨L,0,none⟩) n n):=by rw [<- HN1.out];exact Win.cell HI.out.row HI.out.le (i:=6) (by omega)
   have ca:wr.cell? ⟨A,k,none⟩=some (.int .i64 (b1.wants.getD k 0)):=HI.out.ra.cell (by rw [OK1.out.lw];exact hkb);have cg:wr.cell? ⟨G,k,none⟩=some (.int .i64 (b1.given.getD k 0)):=by rw [<- (Plain.xZ5 hkb).1];exact HI.out.rg.cell (by rw [Plain.givS_len];exact hkb)
   have cl:wr.cell? ⟨L,k,none⟩=some (.int .i64 (b1.quotas.getD k 0-b1.since.getD k 0)):=by rw [<- (Plain.qC9 hkb).1];exact HI.out.rl.cell (by rw [Plain.qD0];exact hkb)
   have fg:=HI.out.rg.frozen k;have fl:=HI.out.rl.frozen k;have fr:=HI.out.row.frozen (oo+2);have hb:=Plain.yQ0 OK1.out hkb;have hmin:=Plain.amt_min OK1.out hkb;have hwa:=OK1.out.wa k hkb;have hgi:=OK1.out.gi k hkb;have hsi:=OK1.out.si k hkb;have hqu:=OK1.out.qu k hkb;have hcp:=OK1.out.cap.2;have hre:=Plain.givS_bd OK1.out (Nat.le_of_lt hkb);have ST:=hid (fun q=>(HI.out.drewN q).step GEO.out hkb);clear HI;generalize Plain.amt b1 k=am at *;generalize (Plain.givS b1 k).reserve=re at *;generalize b1.wants.getD k 0=wk at *;generalize b1.given.getD k 0=gk at *;have hlk:0<=b1.quotas.getD k 0-b1.since.getD k 0/\b1.quotas.getD k 0-b1.since.getD k 0<=1048576:=by omega
   clear hsi hqu hcp;generalize b1.quotas.getD k 0-b1.since.getD k 0=lk at *;have hsub:IntKind.i64.wrap (wk-gk)=wk-gk:=by rw [IntKind.wrap_i64];omega
   have hmn:(if lk<wk-gk then lk else wk-gk)=am:=by rw [hmin];split<;>omega
   clear hmin;go_wp2
   go_region
   obtain ⟨W3,hW3⟩:∃ W3,W3=wr.drewN 1:=⟨_,rfl⟩;have eW:wr.drew=W3:=hW3.symm;have ST3:=hid (ST.out 1);rw [<- hW3] at ST3;rw [eW];have q2:W3.cell? ⟨R,oo+2,none⟩=some (.int .i64 re):=by rw [hW3];simpa using r2
   have q5:W3.cell? ⟨R,oo+5,none⟩=some (.slice (some ⟨G,0,none⟩) n n):=by rw [hW3];simpa using r5
   have q6:W3.cell? ⟨R,oo+6,none⟩=some (.slice (some ⟨L,0,none⟩) n n):=by rw [hW3];simpa using r6
   have qg:W3.cell? ⟨G,k,none⟩=some (.int .i64 gk):=by rw [hW3];simpa using cg
   have ql:W3.cell? ⟨L,k,none⟩=some (.int .i64 lk):=by rw [hW3];simpa using cl
   have pg:W3.frozen? ⟨G,k,none⟩=false:=by rw [hW3];exact fg
   have pl:W3.frozen? ⟨L,k,none⟩=false:=by rw [hW3];exact fl
   have pr:W3.frozen? ⟨R,oo+2,none⟩=false:=by rw [hW3];exact fr
   clear hW3 eW r2 r4 r5 r6 ca cg cl fg fl fr ST;have n1:=GEO.out.RG;have n2:=GEO.out.LR;have n3:=GEO.out.LG;have n1':=n1.symm;have n2':=n2.symm;have n3':=n3.symm;go_wp2
   go_roundg (n-(k+1))
   case measure=>omega
   case rel=>exact ⟨k+1,by omega,by omega,by go_num,(show Aside _ from ST3.out)⟩
  ·have hltz:¬ (k:Int)<(n:Int):=by omega
   have ek:k=n:=by omega
   subst ek;have r5:wr.cell? ⟨R,oo+5,none⟩=some (.slice (some ⟨G,0,none⟩) k k):=by rw [<- HN1.out];exact Win.cell HI.out.row HI.out.le (i:=5) (by omega)
   have K:=zU3 G k k _ (by rw [Plain.givS_len,HN1.out]) hn1 (by omega) wr HI.out.rg
   go_wp2_with fail
   refine K.mono ?_;rintro e W5 ⟨gc,cc,rfl,hr,hgc,hbl⟩;have R5:=hid (HI.out.box.of_block (hbl.block _ HI.out.box.lt));have HE:=hid (fun rep hrep=>FIN.out wr W5 gc cc HI.out hr hgc hbl rep hrep);clear K hr hgc hbl HI;have y0:W5.cell? ⟨w.heap.size,0,none⟩=some (.int .i64 0):=R5.out.cell (i:=0) (by omega);have y1:W5.cell? ⟨w.heap.size,1,none⟩=some (.slice none 0 0):=R5.out.cell (i:=1) (by omega);have y2:W5.cell? ⟨w.heap.size,2,none⟩=some (.int .i64 0):=R5.out.cell (i:=2) (by omega);have z0:=R5.out.frozen 0;have z1:=R5.out.frozen 1;have z2:=R5.out.frozen 2;go_wp2
   (try simp only [Exit.inBlock,Exit.then])
   have HX:=HE.out (re0) HREP.out;obtain ⟨r,hr0⟩:∃ r:RU,r=⟨⟨0,(Plain.yJ4 b1).given,re0⟩,some ⟨gc,0,none⟩,cc⟩:=⟨_,rfl⟩;have e6:((W5.setCell ⟨w.heap.size,0,none⟩ (.int .i64 0)).setCell ⟨w.heap.size,1,none⟩ (.slice (some ⟨gc,0,none⟩) k cc)).setCell ⟨w.heap.size,2,none⟩ (.int .i64 re0)=putU W5 w.heap.size 0 r:=by
    rw [hr0];unfold putU;rw [show (Plain.yJ4 b1).given.length=k from LEN.out];rfl
   rw [e6];rw [<- hr0] at HX;exact jJ rfl w.heap.size r rfl (zA4 R5.out r) rfl HX
theorem xS7 (B R oo A G N:Nat) (XX:Win) (vl:Value) (b:Plain.Bk) (c:Plain.Ca) (hk:c.kind=3) (hN:N<=1000) (w:World) (h:BkI B R oo XX A G w vl b N) :
  Calls Tryz.prog 69 #[.pointer (some ⟨R,oo,none⟩)] w fun e w'=>DoP B R oo XX A G N vl b c w e w':=by
 by_cases h0:b.rounds=0
 ·exact yQ9 B R oo A G N XX vl b c hk hN h0 w h
 ·exact xE8 B R oo A G N XX vl b c hk hN h0 w h
theorem xN5 {B R oo A G N H:Nat} {XX:Win} {vl:Value} {b:Plain.Bk} {c:Plain.Ca} {w w1 W W':World} (hk:c.kind≠3) (un1:Un (Fb R A G vl) w w1) (h:BkI B R oo XX A G W vl (Plain.caB b c) N) (un:Un (Fb R A G vl) w1 W) (up:Un (·=H) W W') (hH:w.heap.size<=H) (hne:∀ k,Fb R A G vl k->k≠H) :
  DoP B R oo XX A G N vl b c w (.returned (aggU ⟨⟨Plain.caE b c,[],-1⟩,none,0⟩)) W':=by
 have hT:Plain.caT b c=⟨Plain.caE b c,[],-1⟩:=by
  unfold Plain.caT;by_cases h0:Plain.caE b c≠0
  ·rw [if_pos h0]
  ·rw [if_neg h0,if_neg hk,Classical.not_not.1 h0]
 have lv:∀ j,j<W.heap.size->j≠H->W'.heap[j]?=W.heap[j]?:=fun j hj hne=>up.block j hj hne;have uw:=un1.trans un;refine ⟨_,vl,N,rfl,hT.symm,⟨h.row.of_block (lv R h.row.lt (hne _ (.inl rfl))),h.ra.of_block (lv A h.ra.lt (hne _ (.inr (.inl rfl)))),h.rg.of_block (lv G h.rg.lt (hne _ (.inr (.inr (.inl rfl))))),h.ok,h.n1,h.n8,h.rd,?_,h.hR,h.hA,h.hG,h.RA,h.RG,h.AG,h.tk,h.le⟩,Nat.le_succ _,?_,Ns.nil _ _,fun _ _ x=>x⟩
 ·rcases h.lv with x|⟨L,x1,x2,x3⟩
  ·exact .inl x
  ·exact .inr ⟨L,x1,x2.of_block (lv L x2.lt (hne _ (.inr (.inr (.inr (by rw [x1];rfl)))))),x3⟩
 ·refine ⟨up.os.trans uw.os,up.tape.trans uw.tape,up.output.trans uw.output,zI uw.size up.size,fun k hk hF=>?_⟩
  rw [lv k (zF hk uw.size) (by omega)];exact uw.block k hk hF
theorem qD2 (B R oo A G N:Nat) (XX:Win) (vl:Value) (b:Plain.Bk) (c:Plain.Ca) (hk:c.kind=1\/c.kind=2) (w:World) (h:BkI B R oo XX A G w vl b N) :
  Calls Tryz.prog 48 #[.pointer (some ⟨R,oo,none⟩),aggC c] w fun e w'=>DoP B R oo XX A G N vl b c w e w':=by
 obtain ⟨WA,hWA⟩:∃ WA,WA=(w.alloc (boxC c)).alloc zeroU:=⟨_,rfl⟩;have rG:Hid (WA.rowIs (w.heap.size+1) 124 3 (ruF ⟨⟨0,[],0⟩,none,0⟩)):=hid (by
  have:=zA5 (w.alloc (boxC c)) ⟨⟨0,[],0⟩,none,0⟩;rw [hWA];simpa using this)
 have BA:=hid (show Below w.heap.size w WA by rw [hWA];exact (yO.alloc yN _).alloc (by simp) _);have HA:=hid (h.grow BA.out);have HNE:=hid (show ∀ k,Fb R A G vl k->k≠w.heap.size+1 from fun k hk=>by have:=h.lt k hk;omega);have FIN:=hid (fun (W:World) (hI:BkI B R oo XX A G W vl (Plain.caB b c) N) (un:Un (Fb R A G vl) WA W)=>xN5 (H:=w.heap.size+1) (by omega) (Un.of_below BA.out) hI un (zN1 W _ 0 ⟨⟨Plain.caE b c,[],-1⟩,none,0⟩ rfl) (by omega) HNE.out);have K1:=fun h1=>xS6 B R oo A G N XX vl b c h1 WA HA.out;have K2:=fun h2=>yQ8 B R oo A G N XX vl b c h2 WA HA.out;have GB:=hid (show w.heap.size+1<WA.heap.size/\¬ Fb R A G vl (w.heap.size+1) from ⟨rG.out.lt,fun x=>HNE.out _ x rfl⟩);have d1:WA.cell? ⟨w.heap.size,1,none⟩=some (.int .i64 c.who):=by rw [hWA,yJ _ _ _ (by simp),zM _ _ _ _ rfl];rfl
 have d2:WA.cell? ⟨w.heap.size,2,none⟩=some (.int .i64 c.count):=by rw [hWA,yJ _ _ _ (by simp),zM _ _ _ _ rfl];rfl
 have HW:=hid hWA;clear hWA h HA HNE BA;rcases hk with hk|hk
 ·have K:=K1 hk
  clear K1 K2;have HK:=hid hk;obtain ⟨ck,cw,cc⟩:=c;dsimp only at *;subst hk;go_enter Tryz.func48,Tryz.ntmps48
  go_wp2_with fail
  have eW:(w.alloc (.cells #[.int .i64 1,.int .i64 cw,.int .i64 cc] 127)).alloc (.cells #[.int .i64 0,.slice none 0 0,.int .i64 0] 124)=WA:=HW.out.symm;rw [eW];clear eW;refine K.mono ?_;rintro e W1 ⟨rfl,hI,un⟩;have R1:=hid (rG.out.of_block (un.block _ GB.out.1 GB.out.2));have HX:=hid (FIN.out W1 hI un);clear K hI un FIN;generalize Plain.caE b ⟨1,cw,cc⟩=E at *;have y0:W1.cell? ⟨w.heap.size+1,0,none⟩=some (.int .i64 0):=R1.out.cell (i:=0) (by omega);have y1:W1.cell? ⟨w.heap.size+1,1,none⟩=some (.slice none 0 0):=R1.out.cell (i:=1) (by omega);have y2:W1.cell? ⟨w.heap.size+1,2,none⟩=some (.int .i64 0):=R1.out.cell (i:=2) (by omega);have z0:=R1.out.frozen 0;have z1:=R1.out.frozen 1;have z2:=R1.out.frozen 2;go_wp2
  (try simp only [Exit.inBlock,Exit.then])
  obtain ⟨W6,hW6⟩:∃ W6,W6=((W1.setCell ⟨w.heap.size+1,0,none⟩ (.int .i64 (E:Nat))).setCell ⟨w.heap.size+1,1,none⟩ (.slice none 0 0)).setCell ⟨w.heap.size+1,2,none⟩ (.int .i64 (-1)):=⟨_,rfl⟩;rw [<- hW6];have e6:W6=putU W1 (w.heap.size+1) 0 ⟨⟨E,[],-1⟩,none,0⟩:=by rw [hW6];rfl
  rw [<- e6] at HX;have R6:W6.rowIs (w.heap.size+1) 124 3 (ruF ⟨⟨E,[],-1⟩,none,0⟩):=by rw [e6];exact zA4 R1.out _
  clear hW6 e6;exact jJ rfl (w.heap.size+1) ⟨⟨E,[],-1⟩,none,0⟩ rfl R6 rfl HX.out
 ·have K:=K2 hk
  clear K1 K2;have HK:=hid hk;obtain ⟨ck,cw,cc⟩:=c;dsimp only at *;subst hk;go_enter Tryz.func48,Tryz.ntmps48
  go_wp2_with fail
  have eW:(w.alloc (.cells #[.int .i64 2,.int .i64 cw,.int .i64 cc] 127)).alloc (.cells #[.int .i64 0,.slice none 0 0,.int .i64 0] 124)=WA:=HW.out.symm;rw [eW];clear eW;refine K.mono ?_;rintro e W1 ⟨rfl,hI,un⟩;have R1:=hid (rG.out.of_block (un.block _ GB.out.1 GB.out.2));have HX:=hid (FIN.out W1 hI un);clear K hI un FIN;generalize Plain.caE b ⟨2,cw,cc⟩=E at *;have y0:W1.cell? ⟨w.heap.size+1,0,none⟩=some (.int .i64 0):=R1.out.cell (i:=0) (by omega);have y1:W1.cell? ⟨w.heap.size+1,1,none⟩=some (.slice none 0 0):=R1.out.cell (i:=1) (by omega);have y2:W1.cell? ⟨w.heap.size+1,2,none⟩=some (.int .i64 0):=R1.out.cell (i:=2) (by omega);have z0:=R1.out.frozen 0;have z1:=R1.out.frozen 1;have z2:=R1.out.frozen 2;go_wp2
  (try simp only [Exit.inBlock,Exit.then])
  obtain ⟨W6,hW6⟩:∃ W6,W6=((W1.setCell ⟨w.heap.size+1,0,none⟩ (.int .i64 (E:Nat))).setCell ⟨w.heap.size+1,1,none⟩ (.slice none 0 0)).setCell ⟨w.heap.size+1,2,none⟩ (.int .i64 (-1)):=⟨_,rfl⟩;rw [<- hW6];have e6:W6=putU W1 (w.heap.size+1) 0 ⟨⟨E,[],-1⟩,none,0⟩:=by rw [hW6];rfl
  rw [<- e6] at HX;have R6:W6.rowIs (w.heap.size+1) 124 3 (ruF ⟨⟨E,[],-1⟩,none,0⟩):=by rw [e6];exact zA4 R1.out _
  clear hW6 e6;exact jJ rfl (w.heap.size+1) ⟨⟨E,[],-1⟩,none,0⟩ rfl R6 rfl HX.out
theorem zF8 (B R oo A G N:Nat) (XX:Win) (vl:Value) (b:Plain.Bk) (c:Plain.Ca) (hk:c.kind≠1/\c.kind≠2/\c.kind≠3) (w:World) (h:BkI B R oo XX A G w vl b N) :
  Calls Tryz.prog 48 #[.pointer (some ⟨R,oo,none⟩),aggC c] w fun e w'=>DoP B R oo XX A G N vl b c w e w':=by
 have hE:Plain.caE b c=3:=by unfold Plain.caE;rw [if_neg hk.2.2,if_neg hk.1,if_neg hk.2.1]
 have hB:Plain.caB b c=b:=by unfold Plain.caB;rw [hE,if_pos (by decide)]
 obtain ⟨WA,hWA⟩:∃ WA,WA=(w.alloc (boxC c)).alloc (.cells #[.int .i64 3,.slice none 0 0,.int .i64 (-1)] 124):=⟨_,rfl⟩;have b1:Below w.heap.size w (w.alloc (boxC c)):=yO.alloc yN _;have rG:Hid (WA.rowIs (w.heap.size+1) 124 3 (ruF ⟨⟨3,[],-1⟩,none,0⟩)):=hid (by
  have:=zA5 (w.alloc (boxC c)) ⟨⟨3,[],-1⟩,none,0⟩;rw [hWA];simpa using this)
 have HX:=hid (xN5 (H:=w.heap.size+1) (W':=WA) hk.2.2 (Un.of_below b1) (by rw [hB];exact h.grow b1) (Un.refl _ _) (by rw [hWA];exact Un.of_below (yO.alloc yN _)) (by omega) (fun k hk=>by have:=h.lt k hk;omega));rw [hE] at HX;have HW:=hid hWA;clear h b1 hE hB hWA;obtain ⟨ck,cw,cc⟩:=c;dsimp only at *;have g1:(ck==1)=false:=by simpa using hk.1
 have g2:(ck==2)=false:=by simpa using hk.2.1
 have g3:(ck==3)=false:=by simpa using hk.2.2
 clear hk;go_enter Tryz.func48,Tryz.ntmps48
 go_wp2
 (try simp only [Exit.inBlock,Exit.then])
 have eW:(w.alloc (.cells #[.int .i64 ck,.int .i64 cw,.int .i64 cc] 127)).alloc (.cells #[.int .i64 3,.slice none 0 0,.int .i64 (-1)] 124)=WA:=HW.out.symm;rw [eW];clear eW;exact jJ rfl (w.heap.size+1) ⟨⟨3,[],-1⟩,none,0⟩ rfl rG.out rfl HX.out
theorem xS8 {B R oo A G N H:Nat} {XX:Win} {vl:Value} {b:Plain.Bk} {c:Plain.Ca} {w w1 W:World} {r:RU} {vl':Value} {N':Nat} (un1:Un (Fb R A G vl) w w1) (hT:r.d=Plain.caT b c) (h:BkI B R oo XX A G W vl' (Plain.caB b c) N') (hN:N'<=N+1) (un:Un (Fb R A G vl) w1 W) (hs:Ns (fun k=>Fb R A G vl' k\/k<w1.heap.size) W r.p r.c r.d.grants)
  (hf:∀ k,k<w1.heap.size->Fb R A G vl' k->Fb R A G vl k) (hH:w.heap.size<=H) (hne:∀ k,Fb R A G vl' k->k≠H) (hsz:H<w1.heap.size) :
  DoP B R oo XX A G N vl b c w (.returned (aggU r)) (putU W H 0 r):=by
 have up:=zN1 (F:=(·=H)) W H 0 r rfl;have lv:∀ j,j<W.heap.size->j≠H->(putU W H 0 r).heap[j]?=W.heap[j]?:=fun j hj hne=>up.block j hj hne;have uw:=un1.trans un;refine ⟨r,vl',N',rfl,hT,⟨h.row.of_block (lv R h.row.lt (hne _ (.inl rfl))),h.ra.of_block (lv A h.ra.lt (hne _ (.inr (.inl rfl)))),h.rg.of_block (lv G h.rg.lt (hne _ (.inr (.inr (.inl rfl))))),h.ok,h.n1,h.n8,h.rd,?_,h.hR,h.hA,h.hG,h.RA,h.RG,h.AG,h.tk,h.le⟩,hN,?_,?_,fun k hk x=>hf k (by omega) x⟩
 ·rcases h.lv with x|⟨L,x1,x2,x3⟩
  ·exact .inl x
  ·exact .inr ⟨L,x1,x2.of_block (lv L x2.lt (hne _ (.inr (.inr (.inr (by rw [x1];rfl)))))),x3⟩
 ·refine ⟨up.os.trans uw.os,up.tape.trans uw.tape,up.output.trans uw.output,zI uw.size up.size,fun k hk hF=>?_⟩
  rw [lv k (zF hk uw.size) (by omega)];exact uw.block k hk hF
 ·exact hs.keep (zN1 (F:=fun k=>Fb R A G vl' k\/k<w1.heap.size) W H 0 r (.inr hsz)) (fun k _ x=>x.imp id (fun y=>by omega))
theorem xE9 (B R oo A G N:Nat) (XX:Win) (vl:Value) (b:Plain.Bk) (c:Plain.Ca) (hk:c.kind=3) (hN:N<=1000) (w:World) (h:BkI B R oo XX A G w vl b N) :
  Calls Tryz.prog 48 #[.pointer (some ⟨R,oo,none⟩),aggC c] w fun e w'=>DoP B R oo XX A G N vl b c w e w':=by
 obtain ⟨WA,hWA⟩:∃ WA,WA=(w.alloc (boxC c)).alloc zeroU:=⟨_,rfl⟩;have rG:Hid (WA.rowIs (w.heap.size+1) 124 3 (ruF ⟨⟨0,[],0⟩,none,0⟩)):=hid (by
  have:=zA5 (w.alloc (boxC c)) ⟨⟨0,[],0⟩,none,0⟩;rw [hWA];simpa using this)
 have BA:=hid (show Below w.heap.size w WA by rw [hWA];exact (yO.alloc yN _).alloc (by simp) _);have HA:=hid (h.grow BA.out);have HNE:=hid (show ∀ k,Fb R A G vl k->k≠w.heap.size+1 from fun k hk=>by have:=h.lt k hk;omega);have K:=xS7 B R oo A G N XX vl b c hk hN WA HA.out;have FIN:=hid (fun (W:World) (r:RU) vl' N' (hT:r.d=Plain.caT b c) (hI:BkI B R oo XX A G W vl' (Plain.caB b c) N') (hN':N'<=N+1) (un:Un (Fb R A G vl) WA W) (hs:Ns (fun k=>Fb R A G vl' k\/k<WA.heap.size) W r.p r.c r.d.grants) (hf:∀ k,k<WA.heap.size->Fb R A G vl' k->Fb R A G vl k) =>
  xS8 (H:=w.heap.size+1) (Un.of_below BA.out) hT hI hN' un hs hf (by omega) (fun k hk e=>by
   have h1:=rG.out.lt;exact HNE.out k (hf k (by omega) hk) e) rG.out.lt)
 have HW:=hid hWA;have GB:=hid (show ¬ Fb R A G vl (w.heap.size+1) from fun x=>HNE.out _ x rfl);clear hWA h HA HNE BA;obtain ⟨ck,cw,cc⟩:=c;dsimp only at *;subst hk;go_enter Tryz.func48,Tryz.ntmps48
 go_wp2_with fail
 have eW:(w.alloc (.cells #[.int .i64 3,.int .i64 cw,.int .i64 cc] 127)).alloc (.cells #[.int .i64 0,.slice none 0 0,.int .i64 0] 124)=WA:=HW.out.symm;rw [eW];clear eW;refine K.mono ?_;rintro e W1 ⟨⟨⟨E,gs,rp⟩,p,q⟩,vl',N',rfl,hT,hI,hN',un,hs,hf⟩;have R1:=hid (rG.out.of_block (un.block _ rG.out.lt GB.out));have HX:=hid (FIN.out W1 ⟨⟨E,gs,rp⟩,p,q⟩ vl' N' hT hI hN' un hs hf);clear K hT hI un FIN hs hf;have y0:W1.cell? ⟨w.heap.size+1,0,none⟩=some (.int .i64 0):=R1.out.cell (i:=0) (by omega);have y1:W1.cell? ⟨w.heap.size+1,1,none⟩=some (.slice none 0 0):=R1.out.cell (i:=1) (by omega);have y2:W1.cell? ⟨w.heap.size+1,2,none⟩=some (.int .i64 0):=R1.out.cell (i:=2) (by omega);have z0:=R1.out.frozen 0;have z1:=R1.out.frozen 1;have z2:=R1.out.frozen 2;go_wp2
 (try simp only [Exit.inBlock,Exit.then])
 obtain ⟨W6,hW6⟩:∃ W6,W6=((W1.setCell ⟨w.heap.size+1,0,none⟩ (.int .i64 (E:Nat))).setCell ⟨w.heap.size+1,1,none⟩ (.slice p gs.length q)).setCell ⟨w.heap.size+1,2,none⟩ (.int .i64 rp):=⟨_,rfl⟩;rw [<- hW6];have e6:W6=putU W1 (w.heap.size+1) 0 ⟨⟨E,gs,rp⟩,p,q⟩:=by rw [hW6];rfl
 rw [<- e6] at HX;have R6:W6.rowIs (w.heap.size+1) 124 3 (ruF ⟨⟨E,gs,rp⟩,p,q⟩):=by rw [e6];exact zA4 R1.out _
 clear hW6 e6;exact jJ rfl (w.heap.size+1) ⟨⟨E,gs,rp⟩,p,q⟩ rfl R6 rfl HX.out
theorem xN0 (B R oo A G N:Nat) (XX:Win) (vl:Value) (b:Plain.Bk) (c:Plain.Ca) (hN:N<=1000) (w:World) (h:BkI B R oo XX A G w vl b N) :
  Calls Tryz.prog 48 #[.pointer (some ⟨R,oo,none⟩),aggC c] w fun e w'=>DoP B R oo XX A G N vl b c w e w':=by
 by_cases h3:c.kind=3
 ·exact xE9 B R oo A G N XX vl b c h3 hN w h
 by_cases h1:c.kind=1
 ·exact qD2 B R oo A G N XX vl b c (.inl h1) w h
 by_cases h2:c.kind=2
 ·exact qD2 B R oo A G N XX vl b c (.inr h2) w h
 ·exact zF8 B R oo A G N XX vl b c ⟨h1,h2,h3⟩ w h
abbrev xN6 (mo tk:Int) (A G bm:Nat):Array Value:=#[.int .i64 mo,.int .i64 tk,.int .i64 0,.int .i64 0,.slice (some ⟨A,0,none⟩) bm bm,.slice (some ⟨G,0,none⟩) bm bm,.slice none 0 0,.int .i64 0]
theorem zK4 {fn:Func} {p u:Tmp} {Q:Ending->World->Prop} {a:Act} {w:World} (h:fn.results=#[.cell p 88,.tmp u]) (R:Nat) (c:Array Value) (v:Value) (hs:c.size=8) (hp:a.tmps.getD p undef=.pointer (some ⟨R,0,none⟩)) (hu:a.tmps.getD u undef=v)
  (hg:w.heap[R]?=some (.cells c 88 (0,0))) (hd:a.defers=[]) (hR:Q (.returned (.tuple #[.agg c,v])) w):bodyPost Tryz.prog fn Q .ret a w:=by
 refine bodyPost_ret ?_ hd hR;rw [results_cell_tmp h,hp,hu];have hl:=run_loadVar_row (P:=Tryz.prog) w R 88 88 c (0,0) _ hg Tryz.underlying88 rfl (by rw [hs];kernel_rfl);simp [asAddr,hl]
theorem al3 (W:World) (o1 o2 o3:Obj):(((W.alloc o1).alloc o2).alloc o3).drew.heap[W.heap.size]?=some o1/\(((W.alloc o1).alloc o2).alloc o3).drew.heap[W.heap.size+1]?=some o2/\(((W.alloc o1).alloc o2).alloc o3).drew.heap[W.heap.size+1+1]?=some o3/\Below W.heap.size W (((W.alloc o1).alloc o2).alloc o3).drew:=by
 have s1:(W.alloc o1).heap.size=W.heap.size+1:=by simp
 have s2:((W.alloc o1).alloc o2).heap.size=W.heap.size+1+1:=by simp
 have b2:Below (W.alloc o1).heap.size (W.alloc o1) ((W.alloc o1).alloc o2):=yO.alloc yN _;have b3:Below ((W.alloc o1).alloc o2).heap.size ((W.alloc o1).alloc o2) (((W.alloc o1).alloc o2).alloc o3):=yO.alloc yN _;refine ⟨?_,?_,?_,(((yO.alloc yN _).alloc (by omega) _).alloc (by omega) _).drew⟩
 ·exact (b3.block _ (by omega)).trans ((b2.block _ (by omega)).trans (yF _ _))
 ·have:=yF (W.alloc o1) o2
  rw [s1] at this;exact (b3.block _ (by omega)).trans this
 ·have:=yF ((W.alloc o1).alloc o2) o3
  rw [s2] at this;exact this
theorem mkZ {wx:World} {b bm:Nat} (h:wx.heap[b]?=some (.cells (madeCells #[.int .i64 0] bm) 3)):wx.rowIs b 3 bm (fun _=>.int .i64 0):=⟨_,h,size_madeCells _ _,fun i hi=>by simp [madeCells,hi,Nat.mod_one]⟩
def NewP (bm tk:Nat) (mo:Int) (w:World) (e:Ending) (w':World):Prop :=
 ∃ A G,e=.returned (.tuple #[.agg (xN6 mo tk A G bm),.int .i64 0])/\w'.rowIs A 3 bm (fun _=>.int .i64 0)/\w'.rowIs G 3 bm (fun _=>.int .i64 0)/\w.heap.size<=A/\w.heap.size<=G/\A≠G/\Below w.heap.size w w'
theorem new_yes (bm tk:Nat) (mo:Int) (h1:1<=(bm:Int)/\(bm:Int)<=8) (h2:0<=mo/\mo<=1048576) (h3:1<=(tk:Int)/\(tk:Int)<=8) (w:World) :
  Calls Tryz.prog 47 #[.int .i64 bm,.int .i64 mo,.int .i64 tk] w fun e w'=>NewP bm tk mo w e w':=by
 have K1:=fun W=>zK2 h1 W;have K2:=fun W=>zK2 h2 W;have K3:=fun W=>zK2 h3 W;have hmb:=run_make_row' (P:=Tryz.prog) 22 3 (.int .i64 0) 8 Tryz.underlying22 Tryz.infoInt rfl .i64 .i64 bm (by omega) (by omega);go_enter Tryz.func47,Tryz.ntmps47
 go_wp2_with fail
 refine (K1 _).mono ?_;rintro e wx ⟨rfl,hx⟩;have hy:=hx.symm;clear hx K1;subst hy
 go_wp2_with fail
 refine (K2 _).mono ?_;rintro e wx ⟨rfl,hx⟩;have hy:=hx.symm;clear hx K2;subst hy
 go_wp2_with fail
 refine (K3 _).mono ?_;rintro e wx ⟨rfl,hx⟩;have hy:=hx.symm;clear hx K3;subst hy;go_wp2
 go_region
 all_goals
  go_wp2
  (try simp only [Exit.inBlock,Exit.then])
 all_goals
  first
   | exact zK4 rfl w.heap.size _ (.int .i64 0) rfl rfl rfl (al3 _ _ _ _).1 rfl ⟨_,_,rfl,mkZ (al3 _ _ _ _).2.1,mkZ (al3 _ _ _ _).2.2.1,by omega,by omega,by omega,(al3 _ _ _ _).2.2.2⟩
   | exact zK4 rfl w.heap.size _ (.int .i64 0) rfl rfl rfl (al3 _ _ _ _).1 rfl ⟨_,_,rfl,mkZ (al3 _ _ _ _).2.2.1,mkZ (al3 _ _ _ _).2.1,by omega,by omega,by omega,(al3 _ _ _ _).2.2.2⟩
theorem BkI.fresh {B R oo A G:Nat} {XX:Win} {W:World} {m t:Nat} {cap:Int} (hm1:1<=m) (hm8:m<=8) (hc:0<=cap/\cap<=1048576) (ht1:1<=t) (ht8:t<=8) (row:W.rowIs R XX.t XX.n (XX.f oo 8 (bkR A G (.slice none 0 0) (Plain.Bk.new m cap t) 0))) (ra:W.rowIs A 3 m (fun _=>.int .i64 0)) (rg:W.rowIs G 3 m (fun _=>.int .i64 0)) (hR:B<=R) (hA:B<=A) (hG:B<=G) (RA:R≠A) (RG:R≠G) (AG:A≠G) (le:oo+8<=XX.n) :
  BkI B R oo XX A G W (.slice none 0 0) (Plain.Bk.new m cap t) 0 :=
 ⟨row,RowI.of_rowIs ra (by show (Plain.zeros m).length<=m;rw [Plain.jX];exact yN) (fun i _=>by show Value.int .i64 0=Value.int .i64 ((Plain.zeros m).getD i 0);rw [Plain.jO]),RowI.of_rowIs rg (by show (Plain.zeros m).length<=m;rw [Plain.jX];exact yN) (fun i _=>by show Value.int .i64 0=Value.int .i64 ((Plain.zeros m).getD i 0);rw [Plain.jO]),
  Plain.Ok.new hc (by omega),hm1,hm8,by show 0=0%t;simp,.inl ⟨rfl,rfl⟩,hR,hA,hG,RA,RG,AG,ht8,le⟩
theorem qD3 (mo:Int) (tk A G bm:Nat):∀ i,i<8->(xN6 mo tk A G bm)[i]?=some (bkR A G (.slice none 0 0) (Plain.Bk.new bm mo tk) 0 i):=fun i hi=>by
 have:i=0\/i=1\/i=2\/i=3\/i=4\/i=5\/i=6\/i=7:=by omega
 rcases this with rfl|rfl|rfl|rfl|rfl|rfl|rfl|rfl<;>rfl
end Go.Proofs.YtleaknfjbbccgaaGreatDoor.Bo
