/- Laid together. -/
import Derived.OrdersHeld
import Derived.StillTail
import Derived.Deep.RegionHeld3
import Derived.WalkKit
import Derived.Test.YtleaknfjbbccgaaGreatDoorRows
import Derived.Deep.OwnRows
import Derived.Deep.LoopGhost
import Derived.Shelf.Abstract
import Derived.Deep.QuietTactic
import Derived.BigQuiet
import Derived.Laws.StructEq
import Derived.OwnWalk
import Derived.Laws.Externs
import Derived.Deep.RegionLaw
import Derived.Shelf.RegionOpenPlain
import Derived.Shelf.SlSortCmp.QuietGrown
import Derived.Test.YtleaknfjbbccgaaGreatDoorMs00
import Derived.Test.YtleaknfjbbccgaaGreatDoorMs01
namespace Go.Proofs.YtleaknfjbbccgaaGreatDoor
open Plain
set_option maxHeartbeats 16000000
set_option maxRecDepth 100000
open Go
section
variable {P:Program} {ops:Array Oper} {Q:Exit->Act->World->Prop} {md:Region.Mode} {S:World->Prop} {x:Nat}
def yP (P:Program) (md:Region.Mode) (ops:Array Oper) (Q:Exit->Act->World->Prop) (S:World->Prop) (x:Nat):Nat->Array Bool->Act->World->Prop
 | 0,listed,a,w=>Region.ready md ops listed=[]/\Q .normal a w
 | n+1,listed,a,w=>(Region.ready md ops listed=[]->Q .normal a w) /\
   ∀ i,i∈Region.ready md ops listed->wpOp P ops Q i (fun b u=>(i≠x->S u)/\yP P md ops Q S x n (listed.setIfInBounds i true) b u) a w
theorem yP.any:∀ (n:Nat) (listed:Array Bool) (a:Act) (w:World),yP P md ops Q S x n listed a w->wpAny P md ops Q n listed a w
 | 0,_,_,_,h=>h
 | n+1,_,_,_,h=>⟨h.1,fun i hi=>wpOp_mono (fun b u k=>yP.any n _ b u k.2) (h.2 i hi)⟩
theorem xC1 {i j:Nat} {listed:Array Bool} (hx:Region.waitsFor md ops x i=true) (hi:i∈Region.ready md ops listed) (hj:j∈Region.ready md ops listed):j≠x:=by
 rintro rfl;obtain ⟨oj,hoj,e,he,hb,rfl⟩:=Region.waitsFor_spec hx;obtain ⟨_,o,ho,hall⟩:=mem_ready.1 hj;obtain rfl:o=oj:=Option.some.inj (ho.symm.trans hoj);have h1:=hall e he hb;have h0:=(mem_ready.1 hi).1;rw [getD_both h0] at h1;cases h1
theorem yP.first {i:Nat} {oi:Oper} {v:Value} (hi:ops[i]?=some oi) (hsel:∀ (j:Nat) (o:Oper) cs b,ops[j]?=some o->o.op≠.select cs b)
  (hQ:∀ c a w,Q (.panic c) (a.put oi.dst v) w->Q (.panic c) a w) (hx:Region.waitsFor md ops x i=true) :
  ∀ (n:Nat) (listed:Array Bool) (a:Act) (w:World),
   (∀ j oj,ops[j]?=some oj->j≠i->listed.getD j true=false->(∀ e∈oj.after,Region.binds md e=true->e.on≠i)->oi.apart ops oj=true) ->
   i∈Region.ready md ops listed->YieldsIf P ops S oi v a->S w ->
   yP P md ops Q S x n (listed.setIfInBounds i true) (a.put oi.dst v) w->yP P md ops Q S x (n+1) listed a w:=by
 intro n;induction n with
 | zero =>
  intro listed a w _ hr hy hS H;refine ⟨fun h=>(by rw [h] at hr;cases hr),fun j hj=>?_⟩;by_cases hji:j=i
  ·subst hji;exact hy.wpOp hi hS ⟨fun _=>hS,H⟩
  ·have h1:=ready_mono hj hji
   rw [H.1] at h1;cases h1
 | succ n ih =>
  intro listed a w hfree hr hy hS H;refine ⟨fun h=>(by rw [h] at hr;cases hr),fun j hj=>?_⟩;by_cases hji:j=i
  ·subst hji;exact hy.wpOp hi hS ⟨fun _=>hS,H⟩
  ·have hjx:=xC1 hx hr hj
   have h1:=H.2 j (ready_mono hj hji);obtain ⟨hjun,oj,hoj,hall⟩:=mem_ready.1 hj;have hnot:∀ e∈oj.after,Region.binds md e=true->e.on≠i:=fun e he hb heq=>by
    have k1:=hall e he hb;rw [heq,getD_both (mem_ready.1 hr).1] at k1;cases k1
   have h2:=wpOp_putIf hoj (hfree j oj hoj hji hjun hnot) (fun cs b=>hsel i oi cs b hi) (fun cs b=>hsel j oj cs b hoj) hQ hy h1;refine wpOp_mono (fun b u h3=>⟨fun _=>h3.2.1 hjx,?_⟩) h2;refine ih (listed.setIfInBounds j true) b u (fun k ok hk hki hun hno=>hfree k ok hk hki ?_ hno) (ready_mono hr (Ne.symm hji)) h3.1 (h3.2.1 hjx) ?_
   ·by_cases hjk:j=k
    ·subst hjk;exact hjun
    ·rw [getD_set_ne true hjk] at hun;exact hun
   ·rw [Array.setIfInBounds_comm _ _ hji]
    exact h3.2.2
theorem yP.take (i:Nat) (v:Value) {d:Option Tmp} {op:Op} {ty:TypeId} {pos:String} {aft:Array Edge} {g:Option (Nat × Bool)} {n:Nat} {listed:Array Bool} {a:Act} {w:World} (hi:ops[i]?=some ⟨d,op,ty,pos,aft,g⟩)
  (hs:Region.noSelect ops=true) (hf:Region.free md ops listed i=true) (hr:(Region.ready md ops listed).contains i=true) (hx:Region.waitsFor md ops x i=true)
  (hQ:∀ c a w,Q (.panic c) (a.put d v) w->Q (.panic c) a w) (hS:S w) (hw:Region.wanted ⟨d,op,ty,pos,aft,g⟩ (yielded ops a.tmps)=true) (hy:∀ w,S w->(execOp a.eval ⟨d,op,ty,pos,aft,g⟩).run P w=.ok (.value v) w)
  (h:yP P md ops Q S x n (listed.setIfInBounds i true) (a.put d v) w):yP P md ops Q S x (n+1) listed a w :=
 yP.first hi (Region.noSelect_spec hs) hQ hx n listed a w (Region.free_spec hi hf) (by simpa using hr) (.inl ⟨hw,hy⟩) hS h
theorem yP.one (i:Nat) {d:Option Tmp} {op:Op} {ty:TypeId} {pos:String} {aft:Array Edge} {g:Option (Nat × Bool)} {n:Nat} {listed:Array Bool} {a:Act} {w:World} (hr:Region.ready md ops listed=[i]) (hi:ops[i]?=some ⟨d,op,ty,pos,aft,g⟩) (hw:Region.wanted ⟨d,op,ty,pos,aft,g⟩ (yielded ops a.tmps)=true)
  (h:∀ K:Act->World->Prop,Shut (∀ b u,(i≠x->S u)->yP P md ops Q S x n (listed.setIfInBounds i true) b u->K b u)->Oper.wp P ⟨d,op,ty,pos,aft,g⟩ a w K Q):yP P md ops Q S x (n+1) listed a w:=by
 refine ⟨fun h0=>(by rw [hr] at h0;cases h0),fun j hj=>?_⟩;rw [hr] at hj;obtain rfl:j=i:=by simpa using hj
 refine wpOp_step hi fun K hK=>?_;rw [if_pos hw];exact h K fun b u h1 h2=>hK b u ⟨h1,h2⟩
theorem yP.done {n:Nat} {listed:Array Bool} {a:Act} {w:World} (hr:Region.ready md ops listed=[]) (h:Q .normal a w):yP P md ops Q S x n listed a w:=by
 cases n with
 | zero=>exact ⟨hr,h⟩
 | succ n=>exact ⟨fun _=>h,by rw [hr];simp⟩
theorem yP.begin (S:World->Prop) (x:Nat) {id:Nat} {a:Act} {w:World} (hm:P.follows .mixedOrders=true)
  (h:yP P .any ops Q S x ops.size (Array.replicate ops.size false) a w.drew):(Code.region id ops true).wp P Q a w :=
 wp_region_any hm (yP.any _ _ _ _ h)
end
theorem xF {P:Program} {o:Oper} {a:Act} {w:World} {K:Act->World->Prop} {Q:Exit->Act->World->Prop} (s x:Operand) (t:TypeId)
  (ho:o.op=.call { callee:=.builtin .append,args:=#[s,x],argTypes:=#[t,t] }) (ty:TypeId) (hty:o.type=ty) (v1 v2:Value) (hs:a.eval s=v1) (hx:a.eval x=v2) {v':Value} {w':World}
  (hr:(Builtin.append_ #[t,t] ty #[v1,v2]).run P w=.ok v' w') (h:K (a.put o.dst v') w'):o.wp P a w K Q:=by
 unfold Oper.wp execOp;simp only [ho,resolve,invoke,builtin,Sem.run_bind,Sem.run_pure,Result.andThen_ok,List.map_toArray,List.map_cons,List.map_nil,hs,hx,hty,hr];exact h
namespace LabP
theorem toNat_ofInt (a:Nat) (h:a<9223372036854775808):(BitVec.ofInt 64 (a:Int)).toNat=a:=by
 rw [BitVec.ofInt_natCast,BitVec.toNat_ofNat];exact Nat.mod_eq_of_lt (by omega)
theorem kF (a:Nat) (h:a<9223372036854775808):IntKind.i64.wrap (a:Int)=(a:Int):=by
 simp only [IntKind.wrap,IntKind.bits,IntKind.signed];simp;omega
theorem wrap_zero (a:Nat) (h:a<18446744073709551616):IntKind.i64.wrap (a:Int)=0 ↔ a=0:=by
 simp only [IntKind.wrap,IntKind.bits,IntKind.signed];simp;omega
theorem zJ2 (a b:Nat) (ha:a<9223372036854775808) (hb:b<9223372036854775808) :
  bits .or .i64 (a:Int) (b:Int)=((a ||| b:Nat):Int):=by
 have hx:a ||| b<2^63:=Nat.or_lt_two_pow (by omega) (by omega);show IntKind.i64.wrap ((BitVec.ofInt 64 (a:Int) ||| BitVec.ofInt 64 (b:Int)).toNat:Int)=_;rw [BitVec.toNat_or,toNat_ofInt a ha,toNat_ofInt b hb,kF _ (by omega)]
theorem yN9 (x y:BitVec 64):(x &&& ~~~y).toNat=0 ↔ x.toNat &&& y.toNat=x.toNat:=by
 have hb:∀ i,(x &&& ~~~y).toNat.testBit i=(x.toNat.testBit i&&!y.toNat.testBit i):=by
  intro i;show (x &&& ~~~y).getLsbD i=(x.getLsbD i&&!y.getLsbD i);rw [BitVec.getLsbD_and,BitVec.getLsbD_not];by_cases hi:i<64
  ·simp [hi]
  ·rw [BitVec.getLsbD_of_ge x i (by omega)];simp
 constructor
 ·intro h
  apply Nat.eq_of_testBit_eq;intro i;have:=hb i;rw [h,Nat.zero_testBit] at this;rw [Nat.testBit_and]
  revert this
  cases x.toNat.testBit i<;>cases y.toNat.testBit i<;>simp
 ·intro h
  apply Nat.eq_of_testBit_eq;intro i;have e:(x.toNat &&& y.toNat).testBit i=x.toNat.testBit i:=by rw [h]
  rw [hb i,Nat.zero_testBit];rw [Nat.testBit_and] at e
  revert e
  cases x.toNat.testBit i<;>cases y.toNat.testBit i<;>simp
theorem zG1 (a b:Int):bits .andNot .i64 a b=0 ↔ (BitVec.ofInt 64 a).toNat &&& (BitVec.ofInt 64 b).toNat=(BitVec.ofInt 64 a).toNat:=by
 rw [<- yN9];show IntKind.i64.wrap ((BitVec.ofInt 64 a &&& ~~~BitVec.ofInt 64 b).toNat:Int)=0 ↔ _;exact wrap_zero _ (BitVec.isLt _)
theorem qW (a:Int) (h1:-9223372036854775808<=a) (h2:a<9223372036854775808):bits .andNot .i64 a 255=0 ↔ (0<=a/\a<=255):=by
 rw [zG1];have e:(BitVec.ofInt 64 255).toNat=2^8-1:=by decide
 rw [e,Nat.and_two_pow_sub_one_eq_mod,BitVec.toNat_ofInt];omega
theorem yO0 (a b:Nat) (ha:a<256) (hb:b<256):bits .andNot .i64 (a:Int) (b:Int)=0 ↔ a &&& b=a:=by
 rw [zG1,toNat_ofInt a (by omega),toNat_ofInt b (by omega)]
end LabP
namespace Plain
structure En where
 key:Int
 value:Int
 time:Int
 who:Int
 gone:Bool
 deriving DecidableEq,Inhabited
def newer (a b:En):Bool :=
 if a.time=b.time then (if a.who=b.who then (if a.gone=b.gone then decide (b.value<a.value) else b.gone) else decide (b.who<a.who)) else decide (b.time<a.time)
def mayB (e:En):Bool :=
 decide ((0<=e.key/\e.key<=1048576)/\(0<=e.value/\e.value<=1048576)/\(0<=e.time/\e.time<=1048576)/\(0<=e.who/\e.who<8)/\(e.gone=true->e.value=0))
def ascB:List En->Bool
 | []=>true
 | [_]=>true
 | a :: b :: l=>decide (a.key<b.key)&&ascB (b :: l)
def mayL (l:List En):Bool:=decide (l.length<=8)&&l.all mayB&&ascB l
def en (l:List En) (i:Nat):En:=l.getD i default
def Srt (l:List En):Prop:=l.Pairwise (fun a b=>a.key<b.key)
theorem zM4 {l:List En} {i:Nat} (h:i<l.length):en l i=l[i]:=by simp [en,h]
theorem qA6 {l:List En} {i:Nat} (h:i<l.length):en l i∈l:=by rw [zM4 h];exact zH h
theorem xQ2 (l:List En):ascB l=true ↔ Srt l:=by
 unfold Srt;induction l with
 | nil=>simp [ascB]
 | cons a l ih =>
  cases l with
  | nil=>simp [ascB]
  | cons b l =>
   simp only [ascB,Bool.and_eq_true,decide_eq_true_eq,ih,List.pairwise_cons];constructor
   ·rintro ⟨h1,h2,h3⟩
    refine ⟨fun x hx=>?_,h2,h3⟩;rcases List.mem_cons.1 hx with rfl|hx
    ·exact h1
    ·have:=h2 x hx;omega
   ·rintro ⟨h1,h2,h3⟩
    exact ⟨h1 b (yD),h2,h3⟩
theorem xN1 (l:List En):ascB l=true ↔ ∀ i,i+1<l.length->(en l i).key<(en l (i+1)).key:=by
 induction l with
 | nil=>simp [ascB]
 | cons a l ih =>
  cases l with
  | nil=>simp [ascB]
  | cons b l =>
   simp only [ascB,Bool.and_eq_true,decide_eq_true_eq,ih];constructor
   ·rintro ⟨h1,h2⟩ i hi
    cases i with
    | zero=>exact h1
    | succ i=>exact h2 i (by simpa using hi)
   ·intro h
    exact ⟨h 0 (by simp),fun i hi=>h (i+1) (by simpa using hi)⟩
theorem qW (l:List En):mayL l=true ↔ l.length<=8/\(∀ e∈l,mayB e=true)/\Srt l:=by
 unfold mayL;rw [zQ,zQ,xQ2,decide_eq_true_eq,zT];exact ⟨fun ⟨⟨a,b⟩,c⟩=>⟨a,b,c⟩,fun ⟨a,b,c⟩=>⟨⟨a,b⟩,c⟩⟩
/-! What stands under a key. -/
def look (k:Int) (l:List En):Option En:=l.find? (fun e=>e.key==k)
theorem look_nil (k:Int):look k []=none:=rfl
theorem xT (k:Int) (a:En) (l:List En):look k (a :: l)=if a.key=k then some a else look k l:=by
 unfold look;rw [List.find?_cons];by_cases h:a.key=k
 ·simp [h]
 ·have:(a.key==k)=false:=by simpa using h
  simp [h,this]
theorem yD2 (k:Int) (a b:List En):look k (a++b)=(look k a).or (look k b):=by
 unfold look;exact List.find?_append
theorem kZ {k:Int} {l:List En} {e:En} (h:look k l=some e):e.key=k/\e∈l:=by
 unfold look at h;exact ⟨by simpa using List.find?_some h,List.mem_of_find?_eq_some h⟩
theorem kN {k:Int} {l:List En} (h:∀ e∈l,e.key≠k):look k l=none:=by
 unfold look;rw [List.find?_eq_none];intro e he;simpa using h e he
theorem zM5 {l:List En} (hs:Srt l) {e:En} (he:e∈l):look e.key l=some e:=by
 induction l with
 | nil=>simp at he
 | cons a l ih =>
  have hs':=List.pairwise_cons.1 hs;rw [xT];rcases List.mem_cons.1 he with rfl|h
  ·simp
  ·have:=hs'.1 e h
   rw [if_neg (by omega)];exact ih hs'.2 h
theorem xC2 {a b:List En} (ha:Srt a) (hb:Srt b) (h:∀ k,look k a=look k b):a=b:=by
 induction a generalizing b with
 | nil =>
  cases b with
  | nil=>rfl
  | cons y b =>
   have:=h y.key;rw [look_nil,xT,if_pos rfl] at this;cases this
 | cons x a ih =>
  have hx:=List.pairwise_cons.1 ha;cases b with
  | nil =>
   have:=h x.key;rw [look_nil,xT,if_pos rfl] at this;cases this
  | cons y b =>
   have hy:=List.pairwise_cons.1 hb;have h1:=h x.key;have h2:=h y.key;rw [xT,if_pos rfl] at h1;rw [xT (a:=y),if_pos rfl] at h2;have e:x=y:=by
    rw [xT] at h1 h2;by_cases c:y.key=x.key
    ·rw [if_pos c] at h1;injection h1
    ·rw [if_neg c] at h1
     rw [if_neg (fun d=>c d.symm)] at h2;have k1:=hy.1 _ (kZ h1.symm).2;have k2:=hx.1 _ (kZ h2).2;omega
   subst e;rw [ih hx.2 hy.2];intro k;have h3:=h k;rw [xT,xT] at h3;by_cases c:x.key=k
   ·rw [kN (fun e he=>by have:=hx.1 e he;omega),kN (fun e he=>by have:=hy.1 e he;omega)]
   ·rwa [if_neg c,if_neg c] at h3
/-! The newer one of two. -/
def top (x y:En):En:=if newer y x then y else x
/-! The program's way: each of b is put into a. -/
def less (k:Int) (l:List En):Nat:=l.countP (fun e=>decide (e.key<k))
def put (l:List En) (e:En):List En :=
 match l with
 | []=>[e]
 | a :: l=>if e.key<a.key then e :: a :: l else if e.key=a.key then top a e :: l else a :: put l e
def xB (a b:List En):List En:=b.foldl put a
theorem zM6 {l:List En} {e x:En} (h:x∈put l e):x=e\/x∈l:=by
 induction l with
 | nil=>simp [put] at h;exact .inl h
 | cons a l ih =>
  unfold put at h;split at h
  ·rcases List.mem_cons.1 h with h|h
   ·exact .inl h
   ·exact .inr h
  ·split at h
   ·rcases List.mem_cons.1 h with h|h
    ·unfold top at h
     split at h
     ·exact .inl h
     ·exact .inr (by rw [h];exact yD)
    ·exact .inr (yC _ h)
   ·rcases List.mem_cons.1 h with h|h
    ·exact .inr (by rw [h];exact yD)
    ·rcases ih h with h|h
     ·exact .inl h
     ·exact .inr (yC _ h)
theorem xQ3 {a e:En} (h:e.key=a.key):(top a e).key=a.key:=by unfold top;split<;>simp_all
theorem zX7 {l:List En} (h:Srt l) (e:En):Srt (put l e):=by
 induction l with
 | nil=>simp [put,Srt]
 | cons a l ih =>
  have ha:=List.pairwise_cons.1 h;unfold put;split
  ·rename_i c
   refine List.pairwise_cons.2 ⟨fun x hx=>?_,h⟩;rcases List.mem_cons.1 hx with rfl|hx
   ·exact c
   ·have:=ha.1 x hx;omega
  ·split
   ·rename_i c
    exact List.pairwise_cons.2 ⟨fun x hx=>by rw [xQ3 c];exact ha.1 x hx,ha.2⟩
   ·refine List.pairwise_cons.2 ⟨fun x hx=>?_,ih ha.2⟩
    rcases zM6 hx with rfl|hx
    ·omega
    ·exact ha.1 x hx
theorem zS9 {a:List En} (h:Srt a) (b:List En):Srt (xB a b):=by
 induction b generalizing a with
 | nil=>exact h
 | cons e b ih=>exact ih (zX7 h e)
theorem xQ4 (l:List En) (e:En):l.length<=(put l e).length/\(put l e).length<=l.length+1:=by
 induction l with
 | nil=>simp [put]
 | cons a l ih =>
  unfold put;split
  ·simp
  ·split
   ·simp
   ·simp;omega
theorem yO1 (a b:List En):a.length<=(xB a b).length/\(xB a b).length<=a.length+b.length:=by
 induction b generalizing a with
 | nil=>simp [xB]
 | cons e b ih =>
  have:=ih (put a e);have h2:=xQ4 a e;have e1:xB a (e :: b)=xB (put a e) b:=rfl;rw [e1];simp;omega
theorem yO2 {a b:List En} {x:En} (h:x∈xB a b):x∈a\/x∈b:=by
 induction b generalizing a with
 | nil=>exact .inl h
 | cons e b ih =>
  have e1:xB a (e :: b)=xB (put a e) b:=rfl;rw [e1] at h;rcases ih h with h|h
  ·rcases zM6 h with rfl|h
   ·exact .inr yD
   ·exact .inl h
  ·exact .inr (yC _ h)
theorem yI3 (a b:List En) (i:Nat) (h:i<b.length):xB a (b.take (i+1))=put (xB a (b.take i)) (en b i):=by
 unfold xB;rw [zO h,List.foldl_append,zM4 h];rfl
/-! The place of a key. -/
theorem yO3 (k:Int) (l:List En):less k l<=l.length:=List.countP_le_length
theorem zT0 (k:Int) (a:En) (l:List En):less k (a :: l)=less k l+if a.key<k then 1 else 0:=by
 unfold less;rw [List.countP_cons];simp
theorem yO4 {k:Int} {l:List En} (hs:Srt l) {i:Nat} (hi:i<l.length):(en l i).key<k ↔ i<less k l:=by
 induction l generalizing i with
 | nil=>simp at hi
 | cons a l ih =>
  have ha:=List.pairwise_cons.1 hs;rw [zT0];have hz:¬ a.key<k->less k l=0:=by
   intro h;unfold less;rw [List.countP_eq_zero];intro x hx;have:=ha.1 x hx;simp;omega
  cases i with
  | zero =>
   show a.key<k ↔ _;by_cases c:a.key<k
   ·simp [c]
   ·simp [c,hz c]
  | succ i =>
   have e:en (a :: l) (i+1)=en l i:=rfl;rw [e,ih ha.2 (by simpa using hi)];by_cases c:a.key<k
   ·simp [c]
   ·simp [c,hz c]
def hasK (k:Int) (l:List En):Bool:=decide (less k l<l.length/\(en l (less k l)).key=k)
theorem qA7 {l:List En} (hs:Srt l) (e:En) :
  put l e=if hasK e.key l=true then (if newer e (en l (less e.key l))=true then l.set (less e.key l) e else l) else l.take (less e.key l)++e :: l.drop (less e.key l):=by
 induction l with
 | nil=>rfl
 | cons a l ih =>
  have ha:=List.pairwise_cons.1 hs;have hz:¬ a.key<e.key->less e.key l=0:=by
   intro h;unfold less;rw [List.countP_eq_zero];intro x hx;have:=ha.1 x hx;simp;omega
  unfold hasK;rw [zT0];unfold put;by_cases c:e.key<a.key
  ·have c1:¬ a.key<e.key:=by omega
   rw [if_pos c,hz c1,if_neg c1];have:¬ (0+0<(a :: l).length/\(en (a :: l) (0+0)).key=e.key):=by
    rintro ⟨_,h⟩;have:(en (a :: l) (0+0)).key=a.key:=rfl;omega
   simp only [this,decide_false,Bool.false_eq_true,if_false];rfl
  ·rw [if_neg c]
   by_cases d:e.key=a.key
   ·have c1:¬ a.key<e.key:=by omega
    rw [if_pos d,hz c1,if_neg c1];have:(0+0<(a :: l).length/\(en (a :: l) (0+0)).key=e.key):=⟨by simp,d.symm⟩;simp only [this,and_self,decide_true,if_true];have e1:en (a :: l) (0+0)=a:=rfl;rw [e1];unfold top;by_cases f:newer e a=true
    ·rw [if_pos f,if_pos f];rfl
    ·rw [if_neg f,if_neg f]
   ·have c1:a.key<e.key:=by omega
    rw [if_neg d,if_pos c1,ih ha.2];have e1:en (a :: l) (less e.key l+1)=en l (less e.key l):=rfl;unfold hasK;rw [e1];simp only [List.length_cons,Nat.add_lt_add_iff_right];split
    ·split
     ·rfl
     ·rfl
    ·rfl
/-! The document's way: both from the left. -/
/-! What the calls come to. -/
def jU (a b:List En):Nat:=if mayL a=true/\mayL b=true then (if (xB a b).length<=8 then 0 else 8) else 4
def kK (a b:List En):List En:=if jU a b=0 then xB a b else []
end Plain
namespace Plain
/-! Entries of six keys. -/
theorem zX8 {l:List En} (hs:Srt l) (lo hi:Int) (h:∀ e∈l,lo<=e.key/\e.key<hi):l.length<=(hi-lo).toNat:=by
 induction l generalizing lo with
 | nil=>simp
 | cons a l ih =>
  have ha:=List.pairwise_cons.1 hs;have h1:=h a yD;have:=ih ha.2 (lo+1) fun e he=>by
   have:=ha.1 e he;have:=h e (yC _ he);omega
  simp only [List.length_cons];omega
/-! What a fold holds. -/
/-! The notes turned round. -/
end Plain
namespace Plain
abbrev Stt:=Nat->Nat->List En
def Stt.nil:Stt:=fun _ _=>[]
def reads (s:Int) (who:Nat):Bool:=s.toNat/2^who%2==1
def maxT (l:List En):Int:=l.foldl (fun t e=>max t e.time) 0
def jM (L:List Int) (j:Nat):Int:=L.getD j 0
def lives (k:Int) (l:List En):Bool:=match look k l with
 | some e=>!e.gone
 | none=>false
/-! ### Times -/
theorem xC3 (l:List En) (t:Int) (ht:0<=t):l.foldl (fun t e=>max t e.time) t=max t (maxT l):=by
 unfold maxT;induction l generalizing t with
 | nil=>simp only [List.foldl_nil];omega
 | cons a l ih =>
  simp only [List.foldl_cons];rw [ih (max t a.time) (by omega),ih (max 0 a.time) (by omega)];omega
theorem zT1 (a:En) (l:List En):maxT (a :: l)=max (max 0 a.time) (maxT l):=by
 show l.foldl (fun t e=>max t e.time) (max 0 a.time)=_;exact xC3 l _ (by omega)
theorem yD3 (l:List En):0<=maxT l:=by
 induction l with
 | nil=>exact Int.le_refl _
 | cons a l ih=>rw [zT1];omega
theorem zX9 {l:List En} {b:Int} (hb:0<=b) (h:∀ e∈l,e.time<=b):maxT l<=b:=by
 induction l with
 | nil=>exact hb
 | cons a l ih =>
  rw [zT1];have h1:=h a (yD ..);have h2:=ih fun e he=>h e (yC _ he);omega
/-! ### What holds of what each has -/
end Plain
open Go.RowKit
def encE (e:En):List Value:=[.int .i64 e.key,.int .i64 e.value,.int .i64 e.time,.int .i64 e.who,.bool e.gone]
def evals (l:List En):List Value:=l.flatMap encE
theorem jI (a:En) (l:List En):evals (a :: l)=encE a++evals l:=rfl
theorem jV (a b:List En):evals (a++b)=evals a++evals b:=by simp [evals]
theorem xH (e:En):(encE e).length=5:=rfl
theorem xX (l:List En):(evals l).length=l.length*5:=by
 induction l with
 | nil=>rfl
 | cons a l ih=>rw [jI,zD,xH,ih,List.length_cons];omega
theorem qX (l:List En) (i:Nat) (h:i<=l.length):(evals l).take (i*5)=evals (l.take i)/\(evals l).drop (i*5)=evals (l.drop i):=by
 have e:evals l=evals (l.take i)++evals (l.drop i):=by rw [<- jV,List.take_append_drop]
 have hl:(evals (l.take i)).length=i*5:=by rw [xX,zU,Nat.min_eq_left h]
 rw [e];exact ⟨by rw [List.take_append_of_le_length (by omega),yB (by omega)],by rw [List.drop_append_of_le_length (by omega),List.drop_of_length_le (by omega),List.nil_append]⟩
theorem yD4 (l:List En) (j k:Nat) (hj:j<l.length) (hk:k<5):(evals l)[j*5+k]?=(encE (Plain.en l j))[k]?:=by
 induction l generalizing j with
 | nil=>simp at hj
 | cons a l ih =>
  rw [jI];cases j with
  | zero =>
   rw [zX (by rw [xH];omega),Nat.zero_mul,Nat.zero_add];rfl
  | succ j =>
   rw [zR (by rw [xH];omega),xH,show (j+1)*5+k-5=j*5+k by omega,ih j (by simpa using hj)];rfl
theorem zD9 (e:En):∀ u∈encE e,u.oneCell'=true:=by
 intro u hu;simp only [encE,List.mem_cons,List.not_mem_nil,or_false] at hu;rcases hu with rfl|rfl|rfl|rfl|rfl<;>rfl
theorem zG2 (l:List En):∀ u∈evals l,u.oneCell'=true:=by
 intro u hu;obtain ⟨e,_,h⟩:=List.mem_flatMap.1 hu;exact zD9 e u h
structure CellN (w:World) (b o:Nat) (e:En):Prop where
 c0:w.cell? ⟨b,o,none⟩=some (.int .i64 e.key)
 c1:w.cell? ⟨b,o+1,none⟩=some (.int .i64 e.value)
 c2:w.cell? ⟨b,o+2,none⟩=some (.int .i64 e.time)
 c3:w.cell? ⟨b,o+3,none⟩=some (.int .i64 e.who)
 c4:w.cell? ⟨b,o+4,none⟩=some (.bool e.gone)
theorem CellN.below {w w':World} {b o B:Nat} {e:En} (h:CellN w b o e) (hb:Below B w w') (hlt:b<B):CellN w' b o e :=
 ⟨(hb.cell (p:=⟨b,o,none⟩) hlt).trans h.c0,(hb.cell (p:=⟨b,o+1,none⟩) hlt).trans h.c1,(hb.cell (p:=⟨b,o+2,none⟩) hlt).trans h.c2,(hb.cell (p:=⟨b,o+3,none⟩) hlt).trans h.c3,(hb.cell (p:=⟨b,o+4,none⟩) hlt).trans h.c4⟩
theorem CellN.lt {w:World} {b o:Nat} {e:En} (h:CellN w b o e):b<w.heap.size:=zC (w:=w) (h:=h.c0)
def qD (w:World) (b off:Nat) (l:List En):Prop:=∀ j,j<l.length->CellN w b (off+j*5) (Plain.en l j)
def SegN (w:World) (v:Value) (l:List En):Prop :=
 (l=[]/\∃ p cap,v=.slice p 0 cap)\/∃ b off cap,v=.slice (some ⟨b,off,none⟩) l.length cap/\l.length<=cap/\qD w b off l
theorem qD.below {w w':World} {b off B:Nat} {l:List En} (h:qD w b off l) (hb:Below B w w') (hlt:b<B):qD w' b off l:=fun j hj=>(h j hj).below hb hlt
theorem SegN.below {w w':World} {v:Value} {l:List En} {B:Nat} (h:SegN w v l) (hb:Below B w w') (hv:Lies B v):SegN w' v l:=by
 rcases h with ⟨rfl,p1,c1,rfl⟩|⟨b1,o1,c1,rfl,hc1,g1⟩
 ·exact .inl ⟨rfl,p1,c1,rfl⟩
 ·by_cases h0:0<l.length
  ·exact .inr ⟨b1,o1,c1,rfl,hc1,g1.below hb (hv ⟨b1,o1,none⟩ _ _ rfl h0)⟩
  ·exact .inr ⟨b1,o1,c1,rfl,hc1,fun j hj=>by omega⟩
theorem SegN.nil (w:World):SegN w (.slice none 0 0) []:=.inl ⟨rfl,none,0,rfl⟩
theorem SegN.form {w:World} {v:Value} {l:List En} (h:SegN w v l):∃ p cap,v=.slice p l.length cap/\(0<l.length->∃ b off,p=some ⟨b,off,none⟩/\l.length<=cap/\qD w b off l):=by
 rcases h with ⟨rfl,p1,c1,rfl⟩|⟨b1,o1,c1,rfl,hc1,g1⟩
 ·exact ⟨p1,c1,rfl,fun h=>by simp at h⟩
 ·exact ⟨_,c1,rfl,fun _=>⟨b1,o1,rfl,hc1,g1⟩⟩
theorem SegN.some {w:World} {v:Value} {l:List En} (h:SegN w v l) (hl:0<l.length):∃ b off cap,v=.slice (some ⟨b,off,none⟩) l.length cap/\l.length<=cap/\qD w b off l:=by
 rcases h with ⟨rfl,_⟩|h
 ·simp at hl
 ·exact h
theorem qD.vals {w:World} {b off:Nat} {l:List En} (h:qD w b off l):∀ j u,(evals l)[j]?=some u->w.cell? ⟨b,off+j,none⟩=some u:=by
 intro j u hj;have hlt:j<l.length*5:=by
  rw [<- xX];exact (List.getElem?_eq_some_iff.1 hj).1
 have e:j=j/5*5+j%5:=by omega
 have hk:j%5<5:=Nat.mod_lt _ (by omega);have h1:j/5<l.length:=by omega
 have c:=h (j/5) h1;rw [e,yD4 l _ _ h1 hk] at hj;rw [e,<- Nat.add_assoc];generalize j%5=k at hj hk;generalize off+j/5*5=o at c
 match k,hk,hj with
 | 0,_,hj=>injection hj with hj;subst hj;exact c.c0
 | 1,_,hj=>injection hj with hj;subst hj;exact c.c1
 | 2,_,hj=>injection hj with hj;subst hj;exact c.c2
 | 3,_,hj=>injection hj with hj;subst hj;exact c.c3
 | 4,_,hj=>injection hj with hj;subst hj;exact c.c4
theorem qD.of_vals {w:World} {b off:Nat} {l:List En} (h:∀ j u,(evals l)[j]?=some u->w.cell? ⟨b,off+j,none⟩=some u):qD w b off l:=by
 intro j hj;have g:∀ k u,k<5->(encE (Plain.en l j))[k]?=some u->w.cell? ⟨b,off+(j*5+k),none⟩=some u:=fun k u hk hu=>h _ u (by rw [yD4 l j k hj hk];exact hu);refine ⟨?_,?_,?_,?_,?_⟩
 ·have:=g 0 _ (by omega) rfl;rwa [Nat.add_zero] at this
 ·have:=g 1 _ (by omega) rfl;rwa [<- Nat.add_assoc] at this
 ·have:=g 2 _ (by omega) rfl;rwa [<- Nat.add_assoc] at this
 ·have:=g 3 _ (by omega) rfl;rwa [<- Nat.add_assoc] at this
 ·have:=g 4 _ (by omega) rfl;rwa [<- Nat.add_assoc] at this
theorem zG3 (g k:Nat):(⟨g,0,none⟩:Addr).add k=⟨g,k,none⟩:=by
 by_cases h:k=0
 ·subst h;simp [Addr.add]
 ·simp [Addr.add,h]
theorem zM7 (g o k:Nat):(⟨g,o,none⟩:Addr).add k=⟨g,o+k,none⟩:=by
 by_cases h:k=0
 ·subst h;simp [Addr.add]
 ·simp [Addr.add,h]
def OwnN (w:World) (B T:Nat) (v:Value) (l:List En):Prop:=w.ownsRow B T 5 v l.length (evals l)
theorem OwnN.cells {w:World} {B T g n c:Nat} {l:List En} (h:OwnN w B T (.slice (some ⟨g,0,none⟩) n c) l):qD w g 0 l :=
 qD.of_vals fun j u hj=>by
  have h2:w.ownsRow B T 5 (.slice (some ⟨g,0,none⟩) n c) l.length (evals l):=h;rcases h2.2 with ⟨e,_⟩|⟨g',cap',cur,e,hg,hb,h1,_,h3,h4⟩
  ·cases e
  ·injection e with e1 e2 e3
   injection e1 with e1;injection e1 with e1 _ _;subst e1;rw [<- h4,List.getElem?_take] at hj;split at hj
   ·rw [Nat.zero_add]
    simp only [World.cell?,hb];rw [Array.getElem?_toList] at hj;rw [hj];rfl
   ·cases hj
theorem OwnN.seg {w:World} {B T:Nat} {v:Value} {l:List En} (h:OwnN w B T v l):SegN w v l/\Lies w.heap.size v:=by
 have h2:w.ownsRow B T 5 v l.length (evals l):=h;rcases h2.2 with ⟨rfl,h0⟩|⟨g,cap,cur,rfl,_,hg,hc,_⟩
 ·exact ⟨.inl ⟨zP.1 h0,_,_,rfl⟩,yT _ _ _⟩
 ·exact ⟨.inr ⟨g,0,cap,rfl,hc,h.cells⟩,qF (zJ.1 hg).1⟩
theorem OwnN.row {w:World} {B T:Nat} {v:Value} {l:List En} (h:OwnN w B T v l) (hl:0<l.length) :
  ∃ g cap cur,v=.slice (some ⟨g,0,none⟩) l.length cap/\B<=g/\w.heap[g]?=some (.cells cur T (0,0))/\l.length<=cap/\cap<=maxLen/\cur.size=cap*5/\cur.toList.take (l.length*5)=evals l:=by
 have h2:w.ownsRow B T 5 v l.length (evals l):=h;rcases h2.2 with ⟨rfl,h0⟩|h3
 ·omega
 ·exact h3
theorem OwnN.mk {w:World} {B T g cap:Nat} {cur:Array Value} {l:List En} (hB:B<=g) (hg:w.heap[g]?=some (.cells cur T (0,0))) (hc:l.length<=cap) (hm:cap<=maxLen) (hs:cur.size=cap*5) (ht:cur.toList.take (l.length*5)=evals l) :
  OwnN w B T (.slice (some ⟨g,0,none⟩) l.length cap) l:=⟨xX l,.inr ⟨g,cap,cur,rfl,hB,hg,hc,hm,hs,ht⟩⟩
theorem OwnN.nil (w:World) (B T:Nat):OwnN w B T (.slice none 0 0) []:=⟨rfl,.inl ⟨rfl,rfl⟩⟩
theorem OwnN.grow {w w':World} {B T:Nat} {v:Value} {l:List En} (h:OwnN w B T v l) (g:Below w.heap.size w w'):OwnN w' B T v l:=by
 refine ⟨h.1,?_⟩;rcases h.2 with h0|⟨b,cap,cur,e,hB,hb,h3⟩
 ·exact .inl h0
 ·exact .inr ⟨b,cap,cur,e,hB,(g.block b (zJ.1 hb).1).trans hb,h3⟩
theorem OwnN.base {w:World} {B C T:Nat} {v:Value} {l:List En} (h:OwnN w B T v l) (hc:C<=B):OwnN w C T v l:=by
 refine ⟨h.1,?_⟩;rcases h.2 with h0|⟨b,cap,cur,e,hB,h3⟩
 ·exact .inl h0
 ·exact .inr ⟨b,cap,cur,e,by omega,h3⟩
abbrev aggE (e:En):Value:=.agg #[.int .i64 e.key,.int .i64 e.value,.int .i64 e.time,.int .i64 e.who,.bool e.gone]
abbrev boxE (e:En):Obj:=.cells #[.int .i64 e.key,.int .i64 e.value,.int .i64 e.time,.int .i64 e.who,.bool e.gone] 75
theorem xQ5 (a b:En) (w:World) :
  Calls Tryz.prog 156 #[aggE a,aggE b] w fun e w'=>e=.returned (.bool (newer a b))/\w'=(w.alloc (boxE a)).alloc (boxE b):=by
 obtain ⟨ak,av,ati,aw,ag⟩:=a;obtain ⟨bk,bv,bt,bw,bg⟩:=b;by_cases h1:ati=bt
 ·subst h1
  by_cases h2:aw=bw
  ·subst h2
   have e1:newer ⟨ak,av,ati,aw,ag⟩ ⟨bk,bv,ati,aw,bg⟩=if ag=bg then decide (bv<av) else bg:=by simp [newer]
   rw [e1];cases ag<;>cases bg
   all_goals
    go_enter Tryz.func156,Tryz.ntmps156
    go_wp2;go_ret
    exact ⟨rfl,rfl⟩
  ·have e1:newer ⟨ak,av,ati,aw,ag⟩ ⟨bk,bv,ati,bw,bg⟩=decide (bw<aw):=by simp [newer,h2]
   rw [e1];have b1:(aw != bw)=true:=bne_iff_ne.2 h2;go_enter Tryz.func156,Tryz.ntmps156
   go_wp2;go_ret
   exact ⟨rfl,rfl⟩
 ·have e1:newer ⟨ak,av,ati,aw,ag⟩ ⟨bk,bv,bt,bw,bg⟩=decide (bt<ati):=by simp [newer,h1]
  rw [e1];have b1:(ati != bt)=true:=bne_iff_ne.2 h1;go_enter Tryz.func156,Tryz.ntmps156
  go_wp2;go_ret
  exact ⟨rfl,rfl⟩
theorem xQ6 (e:En) (w:World) :
  Calls Tryz.prog 145 #[aggE e] w fun r w'=>r=.returned (.bool (mayB e))/\w'=w.alloc (boxE e):=by
 obtain ⟨k,v,t,o,g⟩:=e;by_cases hk:k<0\/1048576<k
 ·have e1:mayB ⟨k,v,t,o,g⟩=false:=by unfold mayB;simp only [decide_eq_false_iff_not];omega
  rw [e1];rcases hk with hk|hk
  all_goals
   go_enter Tryz.func145,Tryz.ntmps145
   go_wp2;go_ret
   exact ⟨rfl,rfl⟩
 have hk1:0<=k:=by omega
 have hk2:k<=1048576:=by omega
 by_cases hv:v<0\/1048576<v
 ·have e1:mayB ⟨k,v,t,o,g⟩=false:=by unfold mayB;simp only [decide_eq_false_iff_not];omega
  rw [e1];clear hk;rcases hv with hv|hv
  all_goals
   go_enter Tryz.func145,Tryz.ntmps145
   go_wp2;go_ret
   exact ⟨rfl,rfl⟩
 have hv1:0<=v:=by omega
 have hv2:v<=1048576:=by omega
 by_cases ht:t<0\/1048576<t
 ·have e1:mayB ⟨k,v,t,o,g⟩=false:=by unfold mayB;simp only [decide_eq_false_iff_not];omega
  rw [e1];clear hk hv;rcases ht with ht|ht
  all_goals
   go_enter Tryz.func145,Tryz.ntmps145
   go_wp2;go_ret
   exact ⟨rfl,rfl⟩
 have ht1:0<=t:=by omega
 have ht2:t<=1048576:=by omega
 by_cases ho:o<0\/8<=o
 ·have e1:mayB ⟨k,v,t,o,g⟩=false:=by unfold mayB;simp only [decide_eq_false_iff_not];omega
  rw [e1];clear hk hv ht;rcases ho with ho|ho
  all_goals
   go_enter Tryz.func145,Tryz.ntmps145
   go_wp2;go_ret
   exact ⟨rfl,rfl⟩
 have ho1:0<=o:=by omega
 have ho2:o<8:=by omega
 clear hk hv ht ho;cases g with
 | false =>
  have e1:mayB ⟨k,v,t,o,false⟩=true:=by unfold mayB;simp;omega
  rw [e1];go_enter Tryz.func145,Tryz.ntmps145
  go_wp2;go_ret
  exact ⟨rfl,rfl⟩
 | true =>
  by_cases h0:v=0
  ·subst h0
   have e1:mayB ⟨k,0,t,o,true⟩=true:=by unfold mayB;simp;omega
   rw [e1];go_enter Tryz.func145,Tryz.ntmps145
   go_wp2;go_ret
   exact ⟨rfl,rfl⟩
  ·have e1:mayB ⟨k,v,t,o,true⟩=false:=by unfold mayB;simp only [decide_eq_false_iff_not];intro h;exact h0 (h.2.2.2.2 (by simp))
   rw [e1];have b0:(v==0)=false:=beq_eq_false_iff_ne.2 h0;go_enter Tryz.func145,Tryz.ntmps145
   go_wp2;go_ret
   exact ⟨rfl,rfl⟩
theorem qA8 (e:En) (w:World) :
  Calls Tryz.prog 144 #[aggE e] w fun r w'=>r=.returned (.bool (!mayB e))/\w'=(w.alloc (boxE e)).alloc (boxE e):=by
 have K:=fun W=>xQ6 e W;generalize mayB e=r at K ⊢;go_enter Tryz.func144,Tryz.ntmps144
 go_wp2_with (go_at_call 145;refine (K _).mono ?_;rintro r w' ⟨rfl,rfl⟩)
 go_ret
 exact ⟨rfl,rfl⟩
open Go.Shelf
namespace Plain
def idx (p:En->Bool) (l:List En):Int:=if l.findIdx p<l.length then (l.findIdx p:Nat) else -1
theorem yO5 {p:En->Bool} {l:List En} {k:Nat} (hk:k<l.length) (h:p (en l k)=true) (ha:∀ j,j<k->p (en l j)=false):idx p l=k:=by
 have e:l.findIdx p=k:=by
  rw [List.findIdx_eq hk];rw [zM4 hk] at h;refine ⟨h,fun j hj=>?_⟩;have:=ha j hj;rw [zM4 (by omega)] at this;exact this
 unfold idx;rw [e,if_pos hk]
theorem yD5 {p:En->Bool} {l:List En} (ha:∀ j,j<l.length->p (en l j)=false):idx p l=-1:=by
 have e:l.findIdx p=l.length:=List.findIdx_eq_length.2 fun x hx=>by
  obtain ⟨j,hj,rfl⟩:=List.getElem_of_mem hx;have:=ha j hj;rw [zM4 hj] at this;exact this
 unfold idx;rw [e,if_neg (by omega)]
theorem yO6 (p:En->Bool) (l:List En):decide (0<=idx p l)=l.any p:=by
 unfold idx;by_cases h:l.findIdx p<l.length
 ·rw [if_pos h,List.any_eq_true.2 ⟨l[l.findIdx p],zH h,List.findIdx_getElem⟩]
  simp
 ·rw [if_neg h]
  have:l.any p=false:=by
   rw [List.any_eq_false];intro x hx hp;exact h (List.findIdx_lt_length_of_exists ⟨x,hx,hp⟩)
  rw [this];rfl
end Plain
def xC4 (g:Nat) (p:En->Bool) (w:World):Prop :=
 ∀ (W:World) (x:En),Below w.heap.size w W->Calls Tryz.prog g #[aggE x] W fun e w'=>e=.returned (.bool (p x))/\Below w.heap.size w w'
theorem xQ7 (p:En->Bool) (g:Nat) (eg:∀ args w,(callFunc g args).run Tryz.prog w=.ok (.enter g args) w) (b off n c:Nat) (l:List En) (w:World)
  (hp:xC4 g p w) (hn:l.length=n) (hbig:n<=9223372036854775807) (hb:0<n->b<w.heap.size) (hc:qD w b off l) :
  Calls Tryz.prog 107 #[.slice (some ⟨b,off,none⟩) n c,.func (.func g) #[] #[]] w fun e w'=>e=.returned (.int .i64 (Plain.idx p l))/\Below w.heap.size w w':=by
 have HC:=hid hc;have HP:=hid hp;clear hc hp;go_enter Tryz.func107,Tryz.ntmps107
 go_wp2
 go_loopg [5,8] n (fun gg _ s8 wr=>∃ kk:Nat,kk<=n/\n-kk<=gg/\s8=.int .i64 kk/\Aside (Below w.heap.size w wr)/\Aside (∀ j,j<kk->p (Plain.en l j)=false))
 case atStart=>exact ⟨0,zG _,by omega,rfl,Below.refl _ w,fun j hj=>absurd hj (yE _)⟩
 case round =>
  obtain ⟨kk,hkk,hg,rfl,BW,A⟩:=hrel;by_cases hlt:kk<n
  ·have hltz:(kk:Int)<(n:Int):=by omega
   obtain ⟨c0,c1,c2,c3,c4⟩:=(HC.out kk (by omega)).below BW.out (hb (by omega));have hcall:=HP.out wr (Plain.en l kk) BW.out;have B:Aside (∀ x,Plain.en l kk=x->x=Plain.en l kk):=fun x h=>h.symm;generalize hy:Plain.en l kk=y at c0 c1 c2 c3 c4 hcall;have HY:Aside (Plain.en l kk=y):=hy;clear hy B;cases hq:p y with
   | true =>
    rw [hq] at hcall
    go_wp2_with (go_at_fn g;refine hcall.mono ?_;rintro e w' ⟨rfl,hb'⟩)
    go_ret
    refine ⟨?_,hb'⟩;rw [yO5 (by omega) (by rw [HY.out];exact hq) A.out];rfl
   | false =>
    rw [hq] at hcall
    go_wp2_with (go_at_fn g;refine hcall.mono ?_;rintro e w' ⟨rfl,hb'⟩)
    go_roundg (n-(kk+1))
    case measure=>omega
    case rel =>
     refine ⟨kk+1,by omega,by omega,by go_num,hb',(show Aside _ from fun j hj=>?_)⟩;by_cases e:j=kk
     ·subst e
      rw [HY.out];exact hq
     ·exact A.out j (by omega)
  ·have hltz:¬ (kk:Int)<(n:Int):=by omega
   have:kk=n:=by omega
   subst this;go_wp2;go_ret
   refine ⟨?_,BW.out⟩;rw [yD5 (fun j hj=>A.out j (by omega))];rfl
theorem zT2 (p:Option Addr) (c:Nat) (f:Value) (w:World) :
  Calls Tryz.prog 107 #[.slice p 0 c,f] w fun e w'=>e=.returned (.int .i64 (-1))/\w'=w:=by
 go_enter Tryz.func107,Tryz.ntmps107
 go_wp2;refine wp_loop_rounds 1 ?_;rw [rounds_succ];go_wp2;go_ret
 exact ⟨rfl,rfl⟩
theorem yO7 (p:En->Bool) (g:Nat) (eg:∀ args w,(callFunc g args).run Tryz.prog w=.ok (.enter g args) w) (v:Value) (l:List En) (w:World)
  (hp:xC4 g p w) (hbig:l.length<=9223372036854775807) (hs:SegN w v l) (hl:Lies w.heap.size v) :
  Calls Tryz.prog 107 #[v,.func (.func g) #[] #[]] w fun e w'=>e=.returned (.int .i64 (Plain.idx p l))/\Below w.heap.size w w':=by
 rcases hs with ⟨rfl,q,c,rfl⟩|⟨b,off,c,rfl,_,hc⟩
 ·exact (zT2 q c _ w).mono fun e w' ⟨h1,h2⟩=>⟨by rw [h1];rfl,by rw [h2];exact yO⟩
 ·exact xQ7 p g eg b off l.length c l w hp rfl hbig (fun h=>hl ⟨b,off,none⟩ _ _ rfl h) hc
theorem zT3 (p:En->Bool) (g:Nat) (eg:∀ args w,(callFunc g args).run Tryz.prog w=.ok (.enter g args) w) (v:Value) (l:List En) (w:World)
  (hp:xC4 g p w) (hbig:l.length<=9223372036854775807) (hs:SegN w v l) (hl:Lies w.heap.size v) :
  Calls Tryz.prog 143 #[v,.func (.func g) #[] #[]] w fun e w'=>e=.returned (.bool (l.any p))/\Below w.heap.size w w':=by
 rw [<- yO6];have K:=yO7 p g eg v l w hp hbig hs hl;generalize Plain.idx p l=r at K ⊢;go_enter Tryz.func143,Tryz.ntmps143
 go_wp2_with (go_at_call 107;refine K.mono ?_;rintro e w' ⟨rfl,hb⟩)
 go_ret
 exact ⟨rfl,hb⟩
theorem below_drewN {B:Nat} {w w':World} (h:Below B w w') (q:Nat):Below B w (w'.drewN q):=h.trans ⟨rfl,rfl,rfl,yN,fun _ _=>rfl⟩
theorem zJ3 (w:World) (a b:Nat):(w.drewN a).drewN b=w.drewN (a+b):=World.drewN_drewN w a b
namespace Plain
theorem qA9 {l:List En} {k:Nat} (hk:k+1<l.length) (h:¬ (en l k).key<(en l (k+1)).key):ascB l=false:=by
 cases e:ascB l with
 | false=>rfl
 | true=>exact absurd ((xN1 l).1 e k hk) h
end Plain
theorem xC5 (l:List En) (b off c:Nat) (hl:l.length<=9223372036854775807) (h0:0<l.length) (w:World) (hc:qD w b off l) :
  Calls Tryz.prog 146 #[.slice (some ⟨b,off,none⟩) l.length c] w fun e w'=>e=.returned (.bool (ascB l))/\∃ q,w'=w.drewN q:=by
 have HC:=hid hc;clear hc;go_enter Tryz.func146,Tryz.ntmps146
 go_wp2
 go_loopw [3] (fun i wx=>∃ k q:Nat,k<l.length/\i=.int .i64 (k+1:Nat)/\wx=w.drewN q/\∀ j,j<k->(Plain.en l j).key<(Plain.en l (j+1)).key) (fun i _=>l.length+1-(intOf i).toNat)
 case atStart=>exact ⟨0,0,h0,rfl,rfl,fun j hj=>by omega⟩
 case round =>
  obtain ⟨k,q,hk,rfl,hw,ha⟩:=hrel;have HW:=hid hw;have HA:=hid ha;clear hw ha;by_cases hlt:k+1<l.length
  ·have c1:wr.cell? ⟨b,off+k*5,none⟩=some (.int .i64 (Plain.en l k).key):=by rw [HW.out];simpa using (HC.out k (by omega)).c0
   have c2:wr.cell? ⟨b,off+(k+1)*5,none⟩=some (.int .i64 (Plain.en l (k+1)).key):=by rw [HW.out];simpa using (HC.out (k+1) hlt).c0
   have hlt':((k:Int)+1)<(l.length:Int):=by omega
   have hk':(k:Int)<(l.length:Int):=by omega
   have hn:=qA9 hlt;generalize hx:(Plain.en l k).key=x at c1 hn;generalize hy:(Plain.en l (k+1)).key=y at c2 hn;have HX:=hid hx;have HY:=hid hy;clear hx hy;have e1:(((k+1:Nat):Int))=(k:Int)+1:=by omega
   rw [e1];clear e1;by_cases hxy:x<y
   ·clear hn
    have HXY:=hid hxy;go_wp2
    go_quiet (fail)
    go_wp2
    go_roundw
    case rel =>
     refine ⟨k+1,_,hlt,by go_num,by rw [HW.out,zJ3],fun j hj=>?_⟩;by_cases e:j=k
     ·subst e;rw [HX.out,HY.out];exact HXY.out
     ·exact HA.out j (by omega)
    case measure=>simp [intOf];omega
   ·have hn':=hid (hn hxy)
    clear hn;have hyx:y<=x:=by omega
    go_wp2
    go_quiet (fail)
    go_wp2;go_ret
    exact ⟨by rw [hn'.out];rfl,_,by rw [HW.out,zJ3]⟩
  ·have ek:k+1=l.length:=by omega
   have HE:=hid ((xN1 l).2 fun j hj=>HA.out j (by omega));have hge:¬ (((k+1:Nat):Int))<(l.length:Int):=by omega
   go_wp2;go_ret
   exact ⟨by rw [HE.out];rfl,_,HW.out⟩
theorem yO8 (p:Option Addr) (c:Nat) (w:World) :
  Calls Tryz.prog 146 #[.slice p 0 c] w fun e w'=>e=.returned (.bool true)/\w'=w:=by
 go_enter Tryz.func146,Tryz.ntmps146
 go_wp2;refine wp_loop_rounds 1 ?_;rw [rounds_succ];go_wp2;go_ret
 exact ⟨rfl,rfl⟩
theorem xQ8 (v:Value) (l:List En) (hl:l.length<=9223372036854775807) (w:World) (hs:SegN w v l) :
  Calls Tryz.prog 146 #[v] w fun e w'=>e=.returned (.bool (ascB l))/\Below w.heap.size w w':=by
 rcases hs with ⟨rfl,q,c,rfl⟩|⟨b,off,c,rfl,_,hc⟩
 ·exact (yO8 q c w).mono fun e w' ⟨h1,h2⟩=>⟨by rw [h1];rfl,by rw [h2];exact yO⟩
 ·by_cases h0:0<l.length
  ·exact (xC5 l b off c hl h0 w hc).mono fun e w' ⟨h1,q,h2⟩=>⟨h1,by rw [h2];exact below_drewN yO q⟩
  ·obtain rfl:l=[]:=zP.1 (by omega)
   exact (yO8 _ c w).mono fun e w' ⟨h1,h2⟩=>⟨by rw [h1];rfl,by rw [h2];exact yO⟩
theorem xC6 (w:World):xC4 144 (fun e=>!mayB e) w:=fun W x hb =>
 (qA8 x W).mono fun e w' ⟨h1,h2⟩=>⟨h1,by rw [h2];exact (hb.alloc hb.size _).alloc (by simpa using Nat.le_succ_of_le hb.size) _⟩
namespace Plain
theorem xC7 {l:List En} (h:8<l.length):mayL l=false:=by unfold mayL;rw [decide_eq_false (by omega)];rfl
theorem xQ9 {l:List En} (h:l.any (fun e=>!mayB e)=true):mayL l=false:=by
 unfold mayL;have:l.all mayB=false:=by
  rw [List.all_eq_false];obtain ⟨x,hx,hp⟩:=List.any_eq_true.1 h;exact ⟨x,hx,by simpa using hp⟩
 rw [this];simp
theorem xR0 {l:List En} (h8:l.length<=8) (h:l.any (fun e=>!mayB e)=false):mayL l=ascB l:=by
 unfold mayL;have:l.all mayB=true:=by
  rw [zT];intro x hx;have:=(List.any_eq_false.1 h) x hx;simpa using this
 rw [this,decide_eq_true h8];simp
end Plain
theorem kO (v:Value) (l:List En) (hl:l.length<=9223372036854775807) (w:World) (hs:SegN w v l) (hy:Lies w.heap.size v) :
  Calls Tryz.prog 123 #[v] w fun e w'=>e=.returned (.bool (mayL l))/\Below w.heap.size w w':=by
 obtain ⟨p,c,rfl,_⟩:=hs.form;by_cases h8:l.length<=8
 ·have h8':(l.length:Int)<=8:=by omega
  have eg:∀ args w,(callFunc 144 args).run Tryz.prog w=.ok (.enter 144 args) w:=enters_of Tryz.func144 (by kernel_rfl) rfl;have K:=zT3 (fun e=>!mayB e) 144 eg _ l w (xC6 w) hl hs hy;have HS:=hid hs;have HY:=hid hy;clear hs hy;cases hq:l.any (fun e=>!mayB e) with
  | true =>
   rw [hq] at K;rw [xQ9 hq];clear hq;go_enter Tryz.func123,Tryz.ntmps123
   go_wp2_with (go_at_call 143;refine K.mono ?_;rintro e w1 ⟨rfl,b1⟩)
   go_ret
   exact ⟨rfl,b1⟩
  | false =>
   rw [hq] at K;rw [xR0 h8 hq];clear hq;have K2:=fun w1 b1=>xQ8 _ l hl w1 (HS.out.below (B:=w.heap.size) (w':=w1) b1 HY.out);generalize ascB l=r at K2 ⊢;go_enter Tryz.func123,Tryz.ntmps123
   go_wp2_with (first
    | (go_at_call 143;refine K.mono ?_;rintro e w1 ⟨rfl,b1⟩)
    | (go_at_call 146;refine (K2 _ (by assumption)).mono ?_;rintro e w2 ⟨rfl,b2⟩))
   go_ret
   exact ⟨rfl,b1.trans (b2.mono b1.size)⟩
 ·have h8':¬ (l.length:Int)<=8:=by omega
  rw [xC7 (by omega)];clear hs;go_enter Tryz.func123,Tryz.ntmps123
  go_wp2;go_ret
  exact ⟨rfl,yO⟩
theorem Tryz.infoEntry:(Tryz.prog.info? 75).map (fun i=>(i.zero,i.size,i.bytes))=some (some (.agg #[.int .i64 0,.int .i64 0,.int .i64 0,.int .i64 0,.bool false]),5,40):=by kernel_rfl
theorem Tryz.sizeEntry:(Tryz.prog.info? 75).map (·.size)=some 5:=by kernel_rfl
theorem Tryz.guardEntry:Tryz.prog.eqGuardType Tryz.prog.depth 75=false:=by kernel_rfl
theorem neqE (x y:En) (w:World):(binOp .neq 75 (aggE x) (aggE y)).run Tryz.prog w=.ok (.bool (x != y)) w:=by
 have u3:=Tryz.underlying3;have u4:=Tryz.underlying4;have a3:=Tryz.isAgg3;have z3:=Tryz.sizeOf3;have a4:=Tryz.isAgg4;have z4:=Tryz.sizeOf4;have hS:Tryz.prog.underlying 75=some (.struct (Tryz.prog.fieldsOf 75)):=by kernel_rfl
 have hp:Tryz.prog.stoodInHeld 75=false:=by kernel_rfl
 obtain ⟨xk,xv,xt,xo,xg⟩:=x;obtain ⟨yk,yv,yt,yo,yg⟩:=y;rw [run_neq_struct,show (10000:Nat)=9999+1 from rfl,run_equalIn_agg w 9999 75 _ _ hS hp];simp only [Program.fieldsOf,Tryz.underlying75];go_simp;by_cases h1:xk=yk<;>by_cases h2:xv=yv<;>by_cases h3:xt=yt<;>by_cases h4:xo=yo<;>by_cases h5:xg=yg<;>simp [h1,h2,h3,h4,h5,bne]
def setE (w:World) (g o:Nat) (y:En):World :=
 ((((w.setCell ⟨g,o,none⟩ (.int .i64 y.key)).setCell ⟨g,o+1,none⟩ (.int .i64 y.value)).setCell ⟨g,o+2,none⟩ (.int .i64 y.time)).setCell ⟨g,o+3,none⟩ (.int .i64 y.who)).setCell ⟨g,o+4,none⟩ (.bool y.gone)
theorem jL {w:World} {g i:Nat} {cur:Array Value} {t:TypeId} {v:Value} (hg:w.heap[g]?=some (.cells cur t (0,0))):(w.setCell ⟨g,i,none⟩ v).heap[g]?=some (.cells (cur.setIfInBounds i v) t (0,0)):=by
 simp [World.setCell,Array.getElem?_modify,hg]
theorem yI4 (pre post:List Value) (x0 x1 x2 x3 x4 a b c d e:Value) :
  (((((pre++x0 :: x1 :: x2 :: x3 :: x4 :: post).set pre.length a).set (pre.length+1) b).set (pre.length+2) c).set (pre.length+3) d).set (pre.length+4) e=pre++[a,b,c,d,e]++post:=by
 rw [List.set_append_right _ _ (by omega),List.set_append_right _ _ (by omega),List.set_append_right _ _ (by omega),List.set_append_right _ _ (by omega),List.set_append_right _ _ (by omega)];simp
theorem yO9 (l:List Value) (o:Nat) (a b c d e:Value) (h:o+5<=l.length) :
  ((((l.set o a).set (o+1) b).set (o+2) c).set (o+3) d).set (o+4) e=l.take o++[a,b,c,d,e]++l.drop (o+5):=by
 have hl:(l.take o).length=o:=by rw [zU];omega
 have hd:(l.drop o).length=l.length-o:=List.length_drop;have e1:l=l.take o++l.drop o:=(List.take_append_drop o l).symm;have e2:l.drop (o+5)=(l.drop o).drop 5:=by rw [List.drop_drop]
 rw [e2];generalize l.drop o=r at hd e1
 match r,hd with
 | [],hd=>simp at hd;omega
 | [_],hd=>simp at hd;omega
 | [_,_],hd=>simp at hd;omega
 | [_,_,_],hd=>simp at hd;omega
 | [_,_,_,_],hd=>simp at hd;omega
 | x0 :: x1 :: x2 :: x3 :: x4 :: post,_ =>
  have:=yI4 (l.take o) post x0 x1 x2 x3 x4 a b c d e;rw [hl,<- e1] at this;exact this
theorem zY0 (cur:List Value) (o n:Nat) (cs:List Value) (h:o+cs.length<=n) (hn:n<=cur.length) :
  (cur.take o++cs++cur.drop (o+cs.length)).take n=(cur.take n).take o++cs++(cur.take n).drop (o+cs.length):=by
 have h1:(cur.take o).length=o:=by rw [zU];omega
 rw [List.take_take,Nat.min_eq_left (by omega),List.drop_take,List.take_append,List.take_append,zD,h1];rw [yB (l:=cur.take o) (by omega),yB (l:=cs) (by omega)]
theorem yP0 (l:List En) (i:Nat) (h:i<l.length) (y:En):(evals l).take (i*5)++encE y++(evals l).drop (i*5+5)=evals (l.set i y):=by
 have e:l.set i y=l.take i++y :: l.drop (i+1):=by rw [List.set_eq_take_append_cons_drop,if_pos h]
 rw [(qX l i (by omega)).1,show i*5+5=(i+1)*5 by omega,(qX l (i+1) (by omega)).2,e,jV,jI,yG]
def zY1 (cur:Array Value) (o:Nat) (y:En):Array Value :=
 ((((cur.setIfInBounds o (.int .i64 y.key)).setIfInBounds (o+1) (.int .i64 y.value)).setIfInBounds (o+2) (.int .i64 y.time)).setIfInBounds (o+3) (.int .i64 y.who)).setIfInBounds (o+4) (.bool y.gone)
theorem yD6 {w:World} {g o:Nat} {cur:Array Value} {t:TypeId} (hg:w.heap[g]?=some (.cells cur t (0,0))) (y:En):(setE w g o y).heap[g]?=some (.cells (zY1 cur o y) t (0,0)) :=
 jL (jL (jL (jL (jL hg))))
theorem yI5 (cur:Array Value) (o:Nat) (y:En):(zY1 cur o y).size=cur.size:=by simp [zY1]
theorem zJ4 (cur:Array Value) (o:Nat) (y:En) (h:o+5<=cur.size):(zY1 cur o y).toList=cur.toList.take o++encE y++cur.toList.drop (o+5):=by
 unfold zY1;simp only [Array.toList_setIfInBounds];exact yO9 _ _ _ _ _ _ _ (by simpa using h)
theorem yI6 (cur:Array Value) (l:List En) (i:Nat) (y:En) (hi:i<l.length) (hs:l.length*5<=cur.size) (ht:cur.toList.take (l.length*5)=evals l):(zY1 cur (i*5) y).toList.take (l.length*5)=evals (l.set i y):=by
 rw [zJ4 cur (i*5) y (by omega)];have e:=zY0 cur.toList (i*5) (l.length*5) (encE y) (by rw [xH];omega) (by rw [Array.length_toList];exact hs);rw [ht,xH,yP0 l i hi] at e;exact e
theorem OwnN.set {w:World} {B T g n c:Nat} {l:List En} (h:OwnN w B T (.slice (some ⟨g,0,none⟩) n c) l) (i:Nat) (hi:i<l.length) (y:En):OwnN (setE w g (i*5) y) B T (.slice (some ⟨g,0,none⟩) n c) (l.set i y):=by
 obtain ⟨g',cap,cur,e,hB,hb,hc,hm,hs,ht⟩:=h.row (by omega);simp only [Value.slice.injEq,Option.some.injEq,Addr.mk.injEq,and_true] at e;obtain ⟨rfl,rfl,rfl⟩:=e;have hlen:(l.set i y).length=l.length:=List.length_set;have key:=OwnN.mk (w:=setE w g (i*5) y) (l:=l.set i y) (T:=T) (cap:=c) hB (yD6 hb y) (by rw [hlen];exact hc) hm (by rw [yI5];exact hs) (by rw [hlen];exact yI6 cur l i y hi (by omega) ht);rw [hlen] at key;exact key
theorem zJ5 {B g o:Nat} {w0 w:World} (h:Below B w0 w) (hg:B<=g) (y:En):Below B w0 (setE w g o y) :=
 ((((h.setCell (p:=⟨g,o,none⟩) hg _).setCell (p:=⟨g,o+1,none⟩) hg _).setCell (p:=⟨g,o+2,none⟩) hg _).setCell (p:=⟨g,o+3,none⟩) hg _).setCell (p:=⟨g,o+4,none⟩) hg _
theorem OwnN.frozen {w:World} {B T g n c:Nat} {l:List En} (h:OwnN w B T (.slice (some ⟨g,0,none⟩) n c) l) (hl:0<l.length) (o:Nat):w.frozen? ⟨g,o,none⟩=false:=by
 obtain ⟨g',cap,cur,e,hB,hb,_⟩:=h.row hl;injection e with e1 e2 e3;injection e1 with e1;injection e1 with e1 _ _;subst e1;simp [World.frozen?,hb]
theorem OwnN.at {w:World} {B T:Nat} {v:Value} {l:List En} (h:OwnN w B T v l) (hl:0<l.length):∃ g c,v=.slice (some ⟨g,0,none⟩) l.length c/\B<=g/\g<w.heap.size/\l.length<=c/\c<=9223372036854775807:=by
 obtain ⟨g,c,cur,e,hB,hb,hc,hm,_⟩:=h.row hl;exact ⟨g,c,e,hB,(zJ.1 hb).1,hc,hm⟩
theorem OwnN.form {w:World} {B T:Nat} {v:Value} {l:List En} (h:OwnN w B T v l):∃ p c,v=.slice p l.length c:=by
 rcases h.2 with ⟨rfl,h0⟩|⟨g,cap,_,rfl,_⟩
 ·exact ⟨_,_,by rw [h0]⟩
 ·exact ⟨_,_,rfl⟩
theorem zJ6 (a:Addr) (n c:Nat) (l:List En) (hn:l.length=n) (h8:n<=1000) (w:World) (hlt:0<n->a.block<w.heap.size) (hc:∀ j u,(evals l)[j]?=some u->w.cell? (a.add j)=some u) :
  Calls Tryz.prog 42 #[.slice (some a) n c] w fun e w'=>∃ v',e=.returned v'/\OwnN w' w.heap.size 75 v' l/\Below w.heap.size w w':=by
 obtain ⟨i0,hi,hz0,hz1,hz2⟩:=info_parts Tryz.infoEntry;have HC:=hid hc;have HN:=hid hn;have HL:=hid hlt;clear hc hn hlt;have he:∀ w:World,(binOp .eql 56 (.slice (some a) n c) (.slice none 0 0)).run Tryz.prog w=.ok (.bool false) w:=fun _=>rfl;have hown:(w.alloc (.cells #[] 75)).ownsRow w.heap.size 75 5 (.slice (some ⟨w.heap.size,0,none⟩) 0 0) 0 [] :=
  ⟨rfl,.inr ⟨w.heap.size,0,#[],rfl,yN,yF _ _,yN,by unfold maxLen;omega,rfl,rfl⟩⟩
 go_enter Tryz.func42,Tryz.ntmps42
 go_wp2_with (first
  | (at_builtin;refine wpList_append_own _ rfl _ _ 56 rfl w.heap.size 75 i0 _ 5 40 Tryz.underlying56 hi hz0 hz1 hz2 rfl (by decide) _ _ _ rfl hown a n c (evals l) rfl ?c0 ?c1 ?c2 ?c3 ?c4 ?c5 ?_)
  | go_in)
 case c0=>rw [xX,HN.out]
 case c1 =>
  intro j u hj;have h1:=HC.out j u hj;have hjl:=(List.getElem?_eq_some_iff.1 hj).1;rw [xX,HN.out] at hjl;have h2:(a.add j).block<w.heap.size:=by
   have:=HL.out (by omega);by_cases h:j=0
   ·subst h;simpa [Addr.add] using this
   ·simpa [Addr.add,h] using this
  exact (((Below.refl w.heap.size w).alloc yN (.cells #[] 75)).cell h2).trans h1
 case c2=>exact zG2 l
 case c3=>unfold maxLen;omega
 case c4=>omega
 case c5=>simp
 intro v' w1 hown' hgrow _;have R:=hid (show OwnN w1 w.heap.size 75 v' l by
  have e:=HN.out;unfold OwnN;rw [e];simpa using hown')
 have RB:=hid (show Below w.heap.size w w1 from ((Below.refl w.heap.size w).alloc yN (.cells #[] 75)).grown hgrow (by simp) (fun j hj=>by simp [Value.ownBlock] at hj;omega));clear hown' hgrow he hown;go_wp2;go_ret
 exact ⟨v',rfl,R.out,RB.out⟩
theorem yI7 (n c:Nat) (w:World):Calls Tryz.prog 42 #[.slice none n c] w fun e w'=>e=.returned (.slice none 0 0)/\w'=w:=by
 have he:∀ w:World,(binOp .eql 56 (.slice none n c) (.slice none 0 0)).run Tryz.prog w=.ok (.bool true) w:=fun _=>rfl;go_enter Tryz.func42,Tryz.ntmps42
 go_wp2;go_ret
 exact ⟨rfl,rfl⟩
theorem zG4 (v:Value) (l:List En) (h8:l.length<=1000) (w:World) (hs:SegN w v l) (hy:Lies w.heap.size v) :
  Calls Tryz.prog 42 #[v] w fun e w'=>∃ v',e=.returned v'/\OwnN w' w.heap.size 75 v' l/\Below w.heap.size w w':=by
 rcases hs with ⟨rfl,q,c,rfl⟩|⟨b,off,c,rfl,_,hc⟩
 ·cases q with
  | none=>exact (yI7 0 c w).mono fun e w' ⟨h1,h2⟩=>⟨_,h1,OwnN.nil _ _ _,by rw [h2];exact yO⟩
  | some a=>exact zJ6 a 0 c [] rfl (by omega) w (fun h=>by omega) (fun j u hj=>by simp [evals] at hj)
 ·exact zJ6 ⟨b,off,none⟩ l.length c l rfl h8 w (fun h=>hy ⟨b,off,none⟩ _ _ rfl h) (fun j u hj=>by rw [zM7];exact hc.vals j u hj)
namespace Plain
def cmpI (a b:Int):Int:=if a<b then -1 else if b<a then 1 else 0
end Plain
theorem xN2 (x:En) (k:Int) (w:World) :
  Calls Tryz.prog 153 #[aggE x,.int .i64 k] w fun e w'=>e=.returned (.int .i64 (cmpI x.key k))/\w'=w.alloc (boxE x):=by
 obtain ⟨xk,xv,xt,xo,xg⟩:=x;unfold cmpI;dsimp only;by_cases h1:xk<k
 ·rw [if_pos h1]
  go_enter Tryz.func153,Tryz.ntmps153
  go_wp2;go_ret
  exact ⟨rfl,rfl⟩
 ·rw [if_neg h1]
  by_cases h2:k<xk
  ·rw [if_pos h2]
   go_enter Tryz.func153,Tryz.ntmps153
   go_wp2;go_ret
   exact ⟨rfl,rfl⟩
  ·rw [if_neg h2]
   go_enter Tryz.func153,Tryz.ntmps153
   go_wp2;go_ret
   exact ⟨rfl,rfl⟩
theorem zY2 (b off n c:Nat) (k:Int) (l:List En) (hs:Srt l) (hn:l.length=n) (hbig:n<=1000) (w:World) (hb:0<n->b<w.heap.size) (hc:qD w b off l) :
  Calls Tryz.prog 152 #[.slice (some ⟨b,off,none⟩) n c,.int .i64 k,.func (.func 153) #[] #[]] w fun e w' =>
   e=.returned (.tuple #[.int .i64 (Plain.less k l:Nat),.bool (hasK k l)])/\Below w.heap.size w w':=by
 have HC:=hid hc;have HN:=hid hn;have HS:=hid hs;have HL:=hid (yO3 k l);clear hc hn hs;go_enter Tryz.func152,Tryz.ntmps152
 go_wp2
 go_loopw [9,10] (fun s9 s10 wx=>∃ i j:Nat,s9=.int .i64 i/\s10=.int .i64 j/\i<=Plain.less k l/\Plain.less k l<=j/\j<=n/\Below w.heap.size w wx) (fun s9 s10 _=>(intOf s10).toNat-(intOf s9).toNat)
 case atStart=>exact ⟨0,n,rfl,rfl,zG _,by rw [<- HN.out];exact HL.out,yN,yO⟩
 case round =>
  obtain ⟨i,j,rfl,rfl,h1,h2,h3,hbel⟩:=hrel;have HB:=hid hbel;have H1:=hid h1;have H2:=hid h2;clear hbel h1 h2;by_cases hij:i<j
  ·have hij':(i:Int)<(j:Int):=by omega
   obtain ⟨h,hh⟩:∃ h,h=(i+j)/2:=⟨_,rfl⟩;have hh1:i<=h:=by omega
   have hh2:h<j:=by omega
   have hh2':(h:Int)<(n:Int):=by omega
   have hdiv:((i:Int)+(j:Int))/2=(h:Int):=by omega
   have HH:=hid hh;clear hh;obtain ⟨c0,c1,c2,c3,c4⟩:=(HC.out h (by rw [HN.out];omega)).below HB.out (hb (by omega));have KC:=fun W=>xN2 (Plain.en l h) k W;have HA:=hid (yO4 (k:=k) HS.out (i:=h) (by rw [HN.out];omega));generalize Plain.en l h=y at c0 c1 c2 c3 c4 KC HA;by_cases hy:y.key<k
   ·have e1:cmpI y.key k=-1:=by unfold cmpI;rw [if_pos hy]
    rw [e1] at KC;have hlo:=HA.out.1 hy;clear e1
    go_wp2_with (go_at_call 153;refine (KC _).mono ?_;rintro e w' ⟨rfl,rfl⟩)
    go_roundw
    case rel=>exact ⟨h+1,j,by go_num,rfl,hlo,H2.out,h3,HB.out.alloc HB.out.size _⟩
    case measure=>simp [intOf];omega
   ·have hz:¬ cmpI y.key k<0:=by
     unfold cmpI;rw [if_neg hy];split<;>omega
    have hhi:Plain.less k l<=h:=by
     have:=mt HA.out.2 hy;omega
    generalize cmpI y.key k=z at KC hz;have hz0:0<=z:=by omega
    go_wp2_with (go_at_call 153;refine (KC _).mono ?_;rintro e w' ⟨rfl,rfl⟩)
    go_roundw
    case rel=>exact ⟨i,h,rfl,rfl,H1.out,hhi,by omega,HB.out.alloc HB.out.size _⟩
    case measure=>simp [intOf];omega
  ·have hij':¬ (i:Int)<(j:Int):=by omega
   have ei:i=Plain.less k l:=by have:=H1.out;have:=H2.out;omega
   by_cases hin:i<n
   ·have hin':(i:Int)<(n:Int):=by omega
    obtain ⟨c0,c1,c2,c3,c4⟩:=(HC.out i (by rw [HN.out];exact hin)).below HB.out (hb (by omega));have KC:=fun W=>xN2 (Plain.en l i) k W;have HA:=hid (mt (yO4 (k:=k) HS.out (i:=i) (by rw [HN.out];exact hin)).1 (by omega));have HK:=hid (show hasK k l=decide ((Plain.en l i).key=k) by
     unfold hasK;rw [<- ei,HN.out];simp [hin])
    have HE:=hid ei;clear ei;generalize Plain.en l i=y at c0 c1 c2 c3 c4 KC HA HK;have hcm:cmpI y.key k=if y.key=k then 0 else 1:=by
     have:=HA.out;unfold cmpI;rw [if_neg this];by_cases e:y.key=k
     ·rw [if_pos e,if_neg (by omega)]
     ·rw [if_neg e,if_pos (by omega)]
    rw [hcm] at KC;clear hcm;by_cases e:y.key=k
    ·rw [if_pos e] at KC
     have HR:=hid (show hasK k l=true by rw [HK.out];exact decide_eq_true e);clear e
     go_wp2_with (go_at_call 153;refine (KC _).mono ?_;rintro e w' ⟨rfl,rfl⟩)
     go_ret2
     exact ⟨by rw [HR.out,<- HE.out];rfl,HB.out.alloc HB.out.size _⟩
    ·rw [if_neg e] at KC
     have HR:=hid (show hasK k l=false by rw [HK.out];exact decide_eq_false e);clear e
     go_wp2_with (go_at_call 153;refine (KC _).mono ?_;rintro e w' ⟨rfl,rfl⟩)
     go_ret2
     exact ⟨by rw [HR.out,<- HE.out];rfl,HB.out.alloc HB.out.size _⟩
   ·have hin':¬ (i:Int)<(n:Int):=by omega
    have HR:=hid (show hasK k l=false by
     unfold hasK;rw [<- ei,HN.out];simp [hin])
    have HE:=hid ei;clear ei;go_wp2;go_ret2
    exact ⟨by rw [HR.out,<- HE.out];rfl,HB.out⟩
theorem yI8 (p:Option Addr) (c:Nat) (k:Int) (f:Value) (w:World) :
  Calls Tryz.prog 152 #[.slice p 0 c,.int .i64 k,f] w fun e w'=>e=.returned (.tuple #[.int .i64 0,.bool false])/\w'=w:=by
 go_enter Tryz.func152,Tryz.ntmps152
 go_wp2;refine wp_loop_rounds 1 ?_;rw [rounds_succ];go_wp2;go_ret2
 exact ⟨rfl,rfl⟩
theorem yI9 (v:Value) (k:Int) (l:List En) (hs:Srt l) (hbig:l.length<=1000) (w:World) (h:SegN w v l) (hy:Lies w.heap.size v) :
  Calls Tryz.prog 152 #[v,.int .i64 k,.func (.func 153) #[] #[]] w fun e w' =>
   e=.returned (.tuple #[.int .i64 (Plain.less k l:Nat),.bool (hasK k l)])/\Below w.heap.size w w':=by
 rcases h with ⟨rfl,q,c,rfl⟩|⟨b,off,c,rfl,_,hc⟩
 ·exact (yI8 q c k _ w).mono fun e w' ⟨h1,h2⟩=>⟨by rw [h1];rfl,by rw [h2];exact yO⟩
 ·exact zY2 b off l.length c k l hs rfl hbig w (fun h0=>hy ⟨b,off,none⟩ _ _ rfl h0) hc
theorem zM8 {P:Program} {w w':World} {o:Oper} {a:Act} {K:Act->World->Prop} {Q:Exit->Act->World->Prop} {v:Value} (hr:(execOp a.eval o).run P w=.ok (.value v) w') (h:K (a.put o.dst v) w'):o.wp P a w K Q:=by
 unfold Oper.wp;rw [hr];exact h
theorem zG5 {P:Program} {w w':World} {o:Oper} {e:Operand->Value} {d s:Operand} {t t':TypeId} {x y v:Value} (ho:o.op=.call { callee:=.builtin .copy,args:=#[d,s],argTypes:=#[t,t'] }) (hd:e d=x) (hs:e s=y)
  (hr:(Builtin.copy_ #[t,t'] o.type #[x,y]).run P w=.ok v w'):(execOp e o).run P w=.ok (.value v) w':=by
 simp [execOp,ho,resolve,invoke,builtin,hd,hs,hr]
theorem vA {P:Program} {ops:Array Oper} {o:Oper} {a:Act} {w:World} {K:Act->World->Prop} {Q:Exit->Act->World->Prop} {E:Prop} (hgd:o.guard=none) (d s:Operand) (t t':TypeId)
  (ho:o.op=.call { callee:=.builtin .copy,args:=#[d,s],argTypes:=#[t,t'] }) (x y:Value) (hd:a.eval d=x) (hs:a.eval s=y) {v:Value} {w':World}
  (hr:(Builtin.copy_ #[t,t'] o.type #[x,y]).run P w=.ok v w') (h:K (a.put o.dst v) w'):if Region.wanted o (yielded ops a.tmps)=true then o.wp P a w K Q else E:=by
 rw [if_pos (by simp [Region.wanted,hgd])];exact zM8 (zG5 ho hd hs hr) h
theorem zM9 {w:World} {vb:Nat} {x:En} (h:w.heap[vb]?=some (boxE x)):∀ j u,(encE x)[j]?=some u->w.cell? ((⟨vb,0,none⟩:Addr).add j)=some u:=by
 intro j u hj;rw [zG3];simp only [World.cell?,h]
 match j,hj with
 | 0,hj=>injection hj with hj;subst hj;rfl
 | 1,hj=>injection hj with hj;subst hj;rfl
 | 2,hj=>injection hj with hj;subst hj;rfl
 | 3,hj=>injection hj with hj;subst hj;rfl
 | 4,hj=>injection hj with hj;subst hj;rfl
theorem yJ0 (v:Value) (vb B:Nat) (l:List En) (x:En) (w:World) (hl:l.length<=1000) (hB:B<=w.heap.size) (h:OwnN w B 75 v l) (hv:w.heap[vb]?=some (boxE x)) :
  Calls Tryz.prog 155 #[v,.int .i64 (l.length:Nat),.slice (some ⟨vb,0,none⟩) 1 1] w fun e w' =>
   ∃ v',e=.returned v'/\OwnN w' B 75 v' (l++[x])/\Below B w w':=by
 obtain ⟨p,c,rfl⟩:=h.form;obtain ⟨i0,hi,hz0,hz1,hz2⟩:=info_parts Tryz.infoEntry;have H:=hid (show w.ownsRow B 75 5 (.slice p l.length c) l.length (evals l) from h);have HV:=hid (zM9 hv);have HG:=hid (show ∀ j,(Value.slice p l.length c).ownBlock=some j->B<=j by
  intro j hj;rcases h.2 with ⟨e,_⟩|⟨g,cap,cur,e,hg,_⟩
  ·rw [e] at hj;simp [Value.ownBlock] at hj
  ·rw [e] at hj;simp [Value.ownBlock] at hj;omega)
 clear h hv;generalize hn:l.length=n at hl H HG ⊢;have HN:=hid hn;clear hn;have hcn:n=c\/¬ c=n:=by omega
 rcases hcn with rfl|hcn
 all_goals
  go_enter Tryz.func155,Tryz.ntmps155
  go_wp2_with (first
   | (at_builtin;refine wpList_append_own _ rfl _ _ 56 rfl B 75 i0 _ 5 40 Tryz.underlying56 hi hz0 hz1 hz2 rfl (by decide) _ n (evals l) rfl ?c0 ⟨vb,0,none⟩ 1 1 (encE x) rfl rfl ?c1 ?c2 ?c3 ?c4 ?c5 ?_)
   | fail)
  case c0=>exact H.out
  case c1=>exact HV.out
  case c2=>exact zD9 _
  case c3=>unfold maxLen;omega
  case c4=>omega
  case c5=>exact hB
  intro v' w2 hown' hgrow _;have R:=hid (show OwnN w2 B 75 v' (l++[x]) by
   unfold OwnN;rw [jV,zD,HN.out];have e:evals [x]=encE x:=by rw [jI];simp [evals]
   rw [e];exact hown')
  have RB:=hid (show Below B w w2 from yO.grown hgrow hB HG.out);clear hown' hgrow;go_wp2;go_ret
  exact ⟨v',rfl,R.out,RB.out⟩
theorem xR1 (cur:Array Value) (l:List En) (x:En) (i:Nat) (hi:i<l.length) (hs:(l.length+1)*5<=cur.size) (ht:cur.toList.take (i*5)=evals (l.take i)) :
  (((cur.toList.take (i*5)++encE x++cur.toList.drop (i*5+5)).take ((i+1)*5)++evals (l.drop i)++(cur.toList.take (i*5)++encE x++cur.toList.drop (i*5+5)).drop ((i+1)*5+(l.length-i)*5)).take ((l.length+1)*5))=evals (l.take i++x :: l.drop i):=by
 have h1:(cur.toList.take (i*5)).length=i*5:=by rw [zU,Array.length_toList];omega
 have h2:(cur.toList.take (i*5)++encE x).length=(i+1)*5:=by rw [zD,h1,xH];omega
 have h3:(cur.toList.take (i*5)++encE x++cur.toList.drop (i*5+5)).take ((i+1)*5)=cur.toList.take (i*5)++encE x:=by
  rw [List.take_append_of_le_length (by omega),yB (by omega)]
 have h4:(evals (l.drop i)).length=(l.length-i)*5:=by rw [xX,List.length_drop]
 rw [h3,List.take_append_of_le_length (by rw [zD,h2,h4];omega),yB (by rw [zD,h2,h4];omega),ht,jV,jI,yG]
theorem vE (cur:List Value) (o:Nat) (cs:List Value) (h:o+cs.length<=cur.length):(cur.take o++cs++cur.drop (o+cs.length)).length=cur.length:=by
 simp only [List.length_append,List.length_take,List.length_drop];omega
theorem yD7 (l:List En) (x:En) (i:Nat) (hi:i<=l.length):(l.take i++x :: l.drop i).length=l.length+1:=by
 simp only [List.length_append,List.length_cons,List.length_take,List.length_drop];omega
theorem zY3 (g n i vb B:Nat) (l:List En) (x:En) (w:World) (hn:l.length=n) (hi:i<n) (hl:n<=1000) (hB:B<=w.heap.size) (h:OwnN w B 75 (.slice (some ⟨g,0,none⟩) n n) l) (hv:w.heap[vb]?=some (boxE x)) :
  Calls Tryz.prog 155 #[.slice (some ⟨g,0,none⟩) n n,.int .i64 i,.slice (some ⟨vb,0,none⟩) 1 1] w fun e w' =>
   ∃ v',e=.returned v'/\OwnN w' B 75 v' (l.take i++x :: l.drop i)/\Below B w w':=by
 obtain ⟨i0,hi0,hz0,hz1,hz2⟩:=info_parts Tryz.infoEntry;have hcs:=h.cells.vals;simp only [Nat.zero_add] at hcs;have hgw:g<w.heap.size:=h.seg.2 ⟨g,0,none⟩ _ _ rfl (by omega);have hvw:vb<w.heap.size:=(zJ.1 hv).1;have hti:(evals (l.take i)).length=i*5:=by rw [xX,zU];omega
 have hdi:(evals (l.drop i)).length=(n-i)*5:=by rw [xX,List.length_drop,hn]
 have hold:(Builtin.firstCells i0.size i (.slice (some ⟨g,0,none⟩) i n)).run Tryz.prog w.drew=.ok (evals (l.take i)).toArray w.drew:=by
  rw [hz1];exact run_firstCells_some w.drew 5 i ⟨g,0,none⟩ i n (evals (l.take i)) hti (fun j v hj=>by
   rw [zG3];refine hcs j v ?_;rw [<- (qX l i (by omega)).1,List.getElem?_take] at hj;split at hj
   ·exact hj
   ·cases hj)
 obtain ⟨G,hG⟩:∃ G,G=grownCap w (n+1) n 75:=⟨_,rfl⟩;have hGn:n+1<=G:=by rw [hG];exact grownCap_ge w _ _ _
 have hG63:G<=maxLen:=by rw [hG];exact grownCap_le_maxLen w (n+1) n 75 (by unfold maxLen;omega)
 obtain ⟨z,hz⟩:∃ z:Value,z=.agg #[.int .i64 0,.int .i64 0,.int .i64 0,.int .i64 0,.bool false]:=⟨_,rfl⟩;have hzc:z.cells.size=5:=by rw [hz];rfl
 rw [<- hz] at hz0;obtain ⟨ROW,hROW⟩:∃ ROW:Array Value,ROW=(evals (l.take i)).toArray++Builtin.zeroCells z.cells (n+1-i)++Builtin.zeroCells z.cells (G-(n+1)):=⟨_,rfl⟩;have hRs:ROW.size=G*5:=by
  rw [hROW];simp [Builtin.zeroCells,hzc,hti];omega
 have hRt:ROW.toList.take (i*5)=evals (l.take i):=by
  rw [hROW];simp only [Array.toList_append,List.append_assoc];rw [List.take_append_of_le_length (by omega),yB (by omega)]
 obtain ⟨W1,hW1⟩:∃ W1,W1=w.drew.alloc (.cells ROW 75):=⟨_,rfl⟩;have hrz:∀ ty,(Builtin.append_ #[56,3] ty #[.slice (some ⟨g,0,none⟩) i n,.int .i64 ((n:Int)+1-(i:Int))]).run Tryz.prog w=.ok (.slice (some ⟨w.heap.size,0,none⟩) (n+1) G) W1:=fun ty=>by
  have hk:=Lib.run_append_grow_zeros w 56 3 ty 75 i0 z .i64 .i64 Tryz.underlying56 Tryz.underlying3 hi0 hz0 (some ⟨g,0,none⟩) i n (evals (l.take i)) hold (n+1-i) (by omega) (by omega) (by omega) (by omega) (by rw [hz2];omega) (by rw [hz2,show i+(n+1-i)=n+1 by omega];exact growslice_fits (by omega) (by omega));rw [show i+(n+1-i)=n+1 by omega,<- hG,<- hROW,<- hW1] at hk;rw [show (n:Int)+1-(i:Int)=((n+1-i:Nat):Int) by omega];exact hk
 have hb1:W1.heap[w.heap.size]?=some (.cells ROW 75 (0,0)):=by rw [hW1];exact yF w.drew _
 have hbel1:Below w.heap.size w W1:=by rw [hW1];exact (yO.drew).alloc yN _
 obtain ⟨R1,hR1⟩:∃ R1:Array Value,R1=(ROW.toList.take (i*5)++encE x++ROW.toList.drop (i*5+5)).toArray:=⟨_,rfl⟩;obtain ⟨W2,hW2⟩:∃ W2,W2=W1.setRow w.heap.size R1:=⟨_,rfl⟩;have hcpA:∀ ty dc,(Builtin.copy_ #[56,56] ty #[.slice (some ⟨w.heap.size,i*5,none⟩) (n+1-i) dc,.slice (some ⟨vb,0,none⟩) 1 1]).run Tryz.prog W1=.ok (goInt 1) W2:=fun ty dc=>by
  have hm:Nat.min 1 (n+1-i)=1:=Nat.min_eq_left (by omega);have:=jF (P:=Tryz.prog) W1 56 56 ty 75 w.heap.size (i*5) (n+1-i) dc ⟨vb,0,none⟩ 1 1 5 ROW 75 (encE x) Tryz.underlying56 Tryz.sizeEntry hb1 (by rw [hm,xH]) (zM9 ((hbel1.block vb hvw).trans hv)) (by rw [xH,hRs];omega) (zD9 x);rw [hm,xH,<- hR1,<- hW2] at this;exact this
 have hR1s:R1.size=G*5:=by
  rw [hR1];have:=vE ROW.toList (i*5) (encE x) (by rw [xH,Array.length_toList,hRs];omega);rw [xH] at this;simpa [hRs] using this
 have hb2:W2.heap[w.heap.size]?=some (.cells R1 75 (0,0)):=by rw [hW2];exact setRow_heap W1 w.heap.size _ _ 75 _ hb1
 have hbel2:Below w.heap.size w W2:=by rw [hW2];exact below_setRow hbel1 yN _
 obtain ⟨R2,hR2⟩:∃ R2:Array Value,R2=(R1.toList.take ((i+1)*5)++evals (l.drop i)++R1.toList.drop ((i+1)*5+(n-i)*5)).toArray:=⟨_,rfl⟩;obtain ⟨W3,hW3⟩:∃ W3,W3=W2.drew.setRow w.heap.size R2:=⟨_,rfl⟩;have hcpB:∀ ty dc sc,(Builtin.copy_ #[56,56] ty #[.slice (some ⟨w.heap.size,(i+1)*5,none⟩) (n-i) dc,.slice (some ⟨g,i*5,none⟩) (n-i) sc]).run Tryz.prog W2.drew=.ok (goInt ((n-i:Nat):Int)) W3:=fun ty dc sc=>by
  have hm:Nat.min (n-i) (n-i)=n-i:=Nat.min_self _;have:=jF (P:=Tryz.prog) W2.drew 56 56 ty 75 w.heap.size ((i+1)*5) (n-i) dc ⟨g,i*5,none⟩ (n-i) sc 5 R1 75 (evals (l.drop i)) Tryz.underlying56 Tryz.sizeEntry hb2 (by rw [hm,hdi]) (fun j v hj=>by
   rw [zM7];show W2.cell? _=_;rw [hbel2.cell (p:=⟨g,i*5+j,none⟩) hgw];refine hcs _ v ?_;rw [<- (qX l i (by omega)).2,List.getElem?_drop] at hj;exact hj) (by rw [hdi,hR1s];omega) (zG2 _)
  rw [hm,hdi,<- hR2,<- hW3] at this;exact this
 have R:=hid (show OwnN W3 B 75 (.slice (some ⟨w.heap.size,0,none⟩) (n+1) G) (l.take i++x :: l.drop i) by
  have hlen:=yD7 l x i (by omega);rw [hn] at hlen;have key:=OwnN.mk (w:=W3) (T:=75) (cap:=G) (l:=l.take i++x :: l.drop i) hB (cur:=R2) (by rw [hW3];exact setRow_heap W2.drew w.heap.size _ _ 75 _ hb2) (by omega) hG63 (by
   rw [hR2];have:=vE R1.toList ((i+1)*5) (evals (l.drop i)) (by rw [hdi,Array.length_toList,hR1s];omega);rw [hdi] at this;simpa [hR1s] using this) (by
   rw [hlen,hR2,hR1];have:=xR1 ROW l x i (by omega) (by rw [hRs,hn];omega) hRt;rw [hn] at this;exact this)
  rw [hlen] at key;exact key)
 have RB:=hid (show Below B w W3 by rw [hW3];exact below_setRow ((hbel2.mono hB).drew) hB _);clear hW3 hR2 hb2 hbel2 hW2 hR1 hR1s hb1 hbel1 hW1 hRt hRs hROW hG hold hcs hti hdi h hv hz hzc hz0 hz1 hz2 hi0;have hG63':G<=9223372036854775807:=by unfold maxLen at hG63;exact hG63
 clear hG63;have hi1:(i:Int)<(n:Int):=by omega
 have hi2:¬ (i:Int)=(n:Int):=by omega
 have hroom:(n:Int)<(n:Int)+1:=by omega
 have hb3:(i:Int)<=(n:Int):=by omega
 have hin:i<=n:=by omega
 have hni:¬ n=i:=by omega
 have hGi:¬ G=i:=by omega
 have hGi1:¬ G=i+1:=by omega
 have hw1:IntKind.i64.wrap ((i:Int)+1)=(i:Int)+1:=by rw [IntKind.wrap_i64];omega
 have hp1:(0:Int)<=(i:Int)+1:=by omega
 have htn:((i:Int)+1).toNat=i+1:=by omega
 have hi4:(i:Int)+1<=(n:Int)+1:=by omega
 have mixed:Tryz.prog.follows .mixedOrders=true:=by kernel_rfl
 go_enter Tryz.func155,Tryz.ntmps155
 go_wp2_with (first
  | (at_builtin;refine Lib.wpList_append_run _ rfl _ _ _ _ rfl _ _ rfl rfl _ _ (hrz _) ?_)
  | (at_builtin;refine wpList_copyK _ rfl _ _ 56 56 rfl _ _ rfl rfl (hcpA _ _) ?_))
 go_region_law (refine vA rfl _ _ 56 56 rfl (.slice (some ⟨w.heap.size,(i+1)*5,none⟩) (n-i) (G-(i+1))) (.slice (some ⟨g,i*5,none⟩) (n-i) (n-i)) (by simp [Act.eval,Act.put]) (by simp [Act.eval,Act.put]) (hcpB _ _ _) ?_)
 go_wp2;go_ret
 exact ⟨_,rfl,R.out,RB.out⟩
theorem xC8 (cur:List Value) (l:List En) (x:En) (i:Nat) (hi:i<l.length) (hs:(l.length+1)*5<=cur.length) (ht:cur.take (l.length*5)=evals l) (R1:List Value)
  (hR:R1=cur.take ((i+1)*5)++evals (l.drop i)++cur.drop ((i+1)*5+(l.length-i)*5)) :
  (R1.take (i*5)++encE x++R1.drop (i*5+5)).take ((l.length+1)*5)=evals (l.take i++x :: l.drop i):=by
 have h1:(cur.take ((i+1)*5)).length=(i+1)*5:=by rw [zU];omega
 have h4:(evals (l.drop i)).length=(l.length-i)*5:=by rw [xX,List.length_drop]
 have e1:R1.take (i*5)=evals (l.take i):=by
  rw [hR,yG,List.take_append_of_le_length (by omega),List.take_take,Nat.min_eq_left (by omega),<- (qX l i (by omega)).1,<- ht,List.take_take,Nat.min_eq_left (by omega)]
 have e2:R1.drop (i*5+5)=evals (l.drop i)++cur.drop ((i+1)*5+(l.length-i)*5):=by
  rw [hR,yG,List.drop_append_of_le_length (by omega),List.drop_of_length_le (by omega),List.nil_append]
 have h5:(evals (l.take i)).length=i*5:=by rw [xX,zU];omega
 rw [e1,e2,<- yG,List.take_append_of_le_length (by rw [zD,zD,h5,h4,xH];omega),yB (by rw [zD,zD,h5,h4,xH];omega),jV,jI,yG]
theorem zT4 (g n c i vb B:Nat) (l:List En) (x:En) (w:World) (hn:l.length=n) (hi:i<n) (hl:n<=1000) (hroom:n+1<=c) (_hB:B<=w.heap.size) (h:OwnN w B 75 (.slice (some ⟨g,0,none⟩) n c) l) (hv:w.heap[vb]?=some (boxE x)) (hne:vb≠g) :
  Calls Tryz.prog 155 #[.slice (some ⟨g,0,none⟩) n c,.int .i64 i,.slice (some ⟨vb,0,none⟩) 1 1] w fun e w' =>
   ∃ v',e=.returned v'/\OwnN w' B 75 v' (l.take i++x :: l.drop i)/\Below B w w':=by
 have hcs:=h.cells.vals;simp only [Nat.zero_add] at hcs;obtain ⟨g',c',cur,e,hBg,hb,_,hm,hs,ht⟩:=h.row (by omega);simp only [Value.slice.injEq,Option.some.injEq,Addr.mk.injEq,and_true] at e;obtain ⟨rfl,hnl,rfl⟩:=e;clear hnl;have hdi:(evals (l.drop i)).length=(n-i)*5:=by rw [xX,List.length_drop,hn]
 have hov:∀ lb cb,(callFunc 166 #[.slice (some ⟨vb,0,none⟩) 1 1,.slice (some ⟨g,(i+1)*5,none⟩) lb cb]).run Tryz.prog w=.ok (.value (.bool false)) w:=fun lb cb=>by
  rw [run_callFunc_extern Tryz.func166 (by kernel_rfl) (by kernel_rfl) (by kernel_rfl) (e:=Extern.SlicesOverlaps.overlaps #[56,56] #[4]) (by kernel_rfl),
   Lib.run_overlaps_apart w 56 4 75 Tryz.underlying56 5 Tryz.sizeOf75 ⟨vb,0,none⟩ ⟨g,(i+1)*5,none⟩ 1 1 lb cb hne 75 75 5 (c*5) (by simp [World.shape?,hv]) (by simp [World.shape?,hb,hs]) (by omega) (by simp [World.frozen?,hv]) (by simp [World.frozen?,hv])]
  rfl
 obtain ⟨R1,hR1⟩:∃ R1:Array Value,R1=(cur.toList.take ((i+1)*5)++evals (l.drop i)++cur.toList.drop ((i+1)*5+(n-i)*5)).toArray:=⟨_,rfl⟩;obtain ⟨W2,hW2⟩:∃ W2,W2=w.drew.setRow g R1:=⟨_,rfl⟩;have hcp1:∀ ty dc sc,(Builtin.copy_ #[56,56] ty #[.slice (some ⟨g,(i+1)*5,none⟩) (n-i) dc,.slice (some ⟨g,i*5,none⟩) (n+1-i) sc]).run Tryz.prog w.drew=.ok (goInt ((n-i:Nat):Int)) W2:=fun ty dc sc=>by
  have hmn:Nat.min (n+1-i) (n-i)=n-i:=Nat.min_eq_right (by omega);have:=jF (P:=Tryz.prog) w.drew 56 56 ty 75 g ((i+1)*5) (n-i) dc ⟨g,i*5,none⟩ (n+1-i) sc 5 cur 75 (evals (l.drop i)) Tryz.underlying56 Tryz.sizeEntry hb (by rw [hmn,hdi]) (fun j v hj=>by
   rw [zM7];refine hcs _ v ?_;rw [<- (qX l i (by omega)).2,List.getElem?_drop] at hj;exact hj) (by rw [hdi,hs];omega) (zG2 _)
  rw [hmn,hdi,<- hR1,<- hW2] at this;exact this
 have hR1s:R1.size=c*5:=by
  rw [hR1];have:=vE cur.toList ((i+1)*5) (evals (l.drop i)) (by rw [hdi,Array.length_toList,hs];omega);rw [hdi] at this;simpa [hs] using this
 have hb2:W2.heap[g]?=some (.cells R1 75 (0,0)):=by rw [hW2];exact setRow_heap w.drew g _ _ 75 _ hb
 have hv2:W2.heap[vb]?=some (boxE x):=by rw [hW2];exact (setRow_other w.drew g vb _ hne).trans hv
 have hbel2:Below B w W2:=by rw [hW2];exact below_setRow (yO.drew) hBg _
 obtain ⟨R2,hR2⟩:∃ R2:Array Value,R2=(R1.toList.take (i*5)++encE x++R1.toList.drop (i*5+5)).toArray:=⟨_,rfl⟩;obtain ⟨W3,hW3⟩:∃ W3,W3=W2.setRow g R2:=⟨_,rfl⟩;have hcp2:∀ ty dc,(Builtin.copy_ #[56,56] ty #[.slice (some ⟨g,i*5,none⟩) (n+1-i) dc,.slice (some ⟨vb,0,none⟩) 1 1]).run Tryz.prog W2=.ok (goInt 1) W3:=fun ty dc=>by
  have hmn:Nat.min 1 (n+1-i)=1:=Nat.min_eq_left (by omega);have:=jF (P:=Tryz.prog) W2 56 56 ty 75 g (i*5) (n+1-i) dc ⟨vb,0,none⟩ 1 1 5 R1 75 (encE x) Tryz.underlying56 Tryz.sizeEntry hb2 (by rw [hmn,xH]) (zM9 hv2) (by rw [xH,hR1s];omega) (zD9 x);rw [hmn,xH,<- hR2,<- hW3] at this;exact this
 have R:=hid (show OwnN W3 B 75 (.slice (some ⟨g,0,none⟩) (n+1) c) (l.take i++x :: l.drop i) by
  have hlen:=yD7 l x i (by omega);rw [hn] at hlen;have key:=OwnN.mk (w:=W3) (T:=75) (cap:=c) (l:=l.take i++x :: l.drop i) hBg (cur:=R2) (by rw [hW3];exact setRow_heap W2 g _ _ 75 _ hb2) (by omega) hm (by
   rw [hR2];have:=vE R1.toList (i*5) (encE x) (by rw [xH,Array.length_toList,hR1s];omega);rw [xH] at this;simpa [hR1s] using this) (by
   rw [hlen,hR2];have:=xC8 cur.toList l x i (by omega) (by have hcl:cur.toList.length=c*5:=Array.length_toList.trans hs;rw [hcl,hn];omega) ht R1.toList (by rw [hR1,hn]);rw [hn] at this;exact this)
  rw [hlen] at key;exact key)
 have RB:=hid (show Below B w W3 by rw [hW3];exact below_setRow hbel2 hBg _);have hc63:c<=9223372036854775807:=hm;clear hW3 hR2 hb2 hv2 hbel2 hW2 hR1 hR1s hcs hdi h hv hb hm hs ht;have hi1:(i:Int)<(n:Int):=by omega
 have hi2:¬ (i:Int)=(n:Int):=by omega
 have hrm:¬ (c:Int)<(n:Int)+1:=by omega
 have hrm':(n:Int)+1<=(c:Int):=by omega
 have hb3:(i:Int)<=(n:Int):=by omega
 have hin:i<=n:=by omega
 have hci:¬ c=i:=by omega
 have hci1:¬ c=i+1:=by omega
 have hw1:IntKind.i64.wrap ((i:Int)+1)=(i:Int)+1:=by rw [IntKind.wrap_i64];omega
 have hp1:(0:Int)<=(i:Int)+1:=by omega
 have hp2:(0:Int)<=(n:Int)+1:=by omega
 have htn:((i:Int)+1).toNat=i+1:=by omega
 have htn2:((n:Int)+1).toNat=n+1:=by omega
 have hi4:(i:Int)+1<=(n:Int)+1:=by omega
 have hi5:(i:Int)<=(n:Int)+1:=by omega
 have mixed:Tryz.prog.follows .mixedOrders=true:=by kernel_rfl
 go_enter Tryz.func155,Tryz.ntmps155
 go_wp2_with (simp only [hov])
 go_region_law (refine vA rfl _ _ 56 56 rfl (.slice (some ⟨g,(i+1)*5,none⟩) (n-i) (c-(i+1))) (.slice (some ⟨g,i*5,none⟩) (n+1-i) (c-i)) (by simp [Act.eval,Act.put]) (by simp [Act.eval,Act.put]) (hcp1 _ _ _) ?_)
 go_wp2_with (at_builtin;refine wpList_copyK _ rfl _ _ 56 56 rfl _ _ rfl rfl (hcp2 _ _) ?_)
 go_ret
 exact ⟨_,rfl,R.out,RB.out⟩
theorem yJ1 (v:Value) (i vb B:Nat) (l:List En) (x:En) (w:World) (hi:i<=l.length) (hl:l.length<=1000) (hB:B<=w.heap.size) (h:OwnN w B 75 v l) (hv:w.heap[vb]?=some (boxE x)) (hne:∀ g n c,v=.slice (some ⟨g,0,none⟩) n c->vb≠g) :
  Calls Tryz.prog 155 #[v,.int .i64 (i:Nat),.slice (some ⟨vb,0,none⟩) 1 1] w fun e w' =>
   ∃ v',e=.returned v'/\OwnN w' B 75 v' (l.take i++x :: l.drop i)/\Below B w w':=by
 by_cases he:i=l.length
 ·subst he
  have:=yJ0 v vb B l x w hl hB h hv;rw [List.take_length,List.drop_length];exact this
 ·obtain ⟨g,c,rfl,_,_,hc,_⟩:=h.at (by omega)
  by_cases hr:l.length+1<=c
  ·exact zT4 g l.length c i vb B l x w rfl (by omega) hl hr hB h hv (hne g _ _ rfl)
  ·obtain rfl:c=l.length:=by omega
   exact zY3 g l.length i vb B l x w rfl (by omega) hl hB h hv
open Go.Sort
theorem yP1 (w:World) (a b:Obj):(w.alloc a).alloc b=grow (w.drewN 0) #[a,b]:=by
 rw [alloc_eq_grow,alloc_eq_grow,grow_grow];rfl
theorem CellN.grown {w:World} {b o:Nat} {e:En} (h:CellN w b o e) (n:Nat) (os:Array Obj):CellN (grow (w.drewN n) os) b o e :=
 ⟨cell_grown h.lt h.c0 n os,cell_grown h.lt h.c1 n os,cell_grown h.lt h.c2 n os,cell_grown h.lt h.c3 n os,cell_grown h.lt h.c4 n os⟩
theorem xP {B:Nat} {w w':World} (h:Below B w w') (hB:B<=w'.heap.size) (n:Nat) (os:Array Obj):Below B w (grow (w'.drewN n) os) :=
 h.trans ⟨rfl,rfl,rfl,by show w'.heap.size<=(w'.heap++os).size;simp,fun k hk=>by
  show (w'.heap++os)[k]?=w'.heap[k]?;rw [Array.getElem?_append_left (by omega)]⟩
theorem xR2 (a b:En) (w:World) :
  Calls Tryz.prog 156 #[aggE a,aggE b] w fun e w'=>e=.returned (.bool (newer a b))/\∃ q os',w'=grow (w.drewN q) os' :=
 (xQ5 a b w).mono fun _ _ ⟨h1,h2⟩=>⟨h1,0,_,h2.trans (yP1 _ _ _)⟩
def TyE (w:World) (v:Value):Prop:=∀ b o n c,v=.slice (some ⟨b,o,none⟩) n c->0<n->∃ cs,w.heap[b]?=some (.cells cs 75 (0,0))
theorem TyE.nil (w:World) (p:Option Addr) (c:Nat):TyE w (.slice p 0 c):=fun b o n c' e h=>by
 injection e with _ e2 _;omega
theorem TyE.below {w w':World} {v:Value} (h:TyE w v) (g:Below w.heap.size w w'):TyE w' v:=fun b o n c e h0=>by
 obtain ⟨cs,hb⟩:=h b o n c e h0;exact ⟨cs,(g.block b (zJ.1 hb).1).trans hb⟩
theorem TyE.keep {w w':World} {v:Value} (h:TyE w v) (g:∀ (b:Nat) (cs:Array Value),w.heap[b]?=some (Obj.cells cs 75 (0,0))->w'.heap[b]?=w.heap[b]?):TyE w' v:=fun b o n c e h0=>by
 obtain ⟨cs,hb⟩:=h b o n c e h0;exact ⟨cs,(g b cs hb).trans hb⟩
theorem TyE.row {w:World} {v:Value} (h:TyE w v) {g T m:Nat} {f:Nat->Value} (r:w.rowIs g T m f) (hT:T≠75) (i:Nat) (x:Value):TyE (w.setCell ⟨g,i,none⟩ x) v :=
 h.keep fun b cs hb=>zE w ⟨g,i,none⟩ x b (fun e=>by
  have e':b=g:=e;subst e';obtain ⟨c,h1,_⟩:=r;rw [h1] at hb;simp at hb;exact hT hb.2)
theorem OwnN.ty {w:World} {B:Nat} {v:Value} {l:List En} (h:OwnN w B 75 v l):TyE w v:=fun b o n c e h0=>by
 have h2:w.ownsRow B 75 5 v l.length (evals l):=h;rcases h2.2 with ⟨rfl,hz⟩|⟨g,cap,cur,rfl,_,hg,_⟩
 ·injection e with e1 _ _
  cases e1
 ·injection e with e1 _ _
  have e3:=congrArg Addr.block (Option.some.inj e1);have e4:g=b:=e3;rw [<- e4];exact ⟨cur,hg⟩
def zY4 (w:World) (v:Value):Prop:=Lies w.heap.size v/\TyE w v
end Go.Proofs.YtleaknfjbbccgaaGreatDoor
