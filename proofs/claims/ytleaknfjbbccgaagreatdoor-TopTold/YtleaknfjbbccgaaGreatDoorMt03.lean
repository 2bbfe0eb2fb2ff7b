/- Laid together. -/
import Derived.OrdersHeld
import Derived.StillTail
import Derived.Deep.RegionHeld3
import Derived.WalkKit
import Derived.Test.YtleaknfjbbccgaaGreatDoorRows
import Derived.Deep.OwnRows
import Derived.Deep.LoopGhost
import Derived.Shelf.Abstract
import Derived.Deep.QuietTactic
import Derived.BigQuiet
import Derived.Laws.StructEq
import Derived.OwnWalk
import Derived.Laws.Externs
import Derived.Deep.RegionLaw
import Derived.Shelf.RegionOpenPlain
import Derived.Test.YtleaknfjbbccgaaGreatDoorMt00
import Derived.Test.YtleaknfjbbccgaaGreatDoorMt01
namespace Go.Proofs.YtleaknfjbbccgaaGreatDoor
open Plain
set_option maxHeartbeats 16000000
set_option maxRecDepth 100000
open Go
section
variable {P:Program} {ops:Array Oper} {Q:Exit->Act->World->Prop} {md:Region.Mode} {S:World->Prop} {x:Nat}
def yO (P:Program) (md:Region.Mode) (ops:Array Oper) (Q:Exit->Act->World->Prop) (S:World->Prop) (x:Nat):Nat->Array Bool->Act->World->Prop
 | 0,listed,a,w=>Region.ready md ops listed=[]/\Q .normal a w
 | n+1,listed,a,w=>(Region.ready md ops listed=[]->Q .normal a w) /\
   ∀ i,i∈Region.ready md ops listed->wpOp P ops Q i (fun b u=>(i≠x->S u)/\yO P md ops Q S x n (listed.setIfInBounds i true) b u) a w
theorem yO.any:∀ (n:Nat) (listed:Array Bool) (a:Act) (w:World),yO P md ops Q S x n listed a w->wpAny P md ops Q n listed a w
 | 0,_,_,_,h=>h
 | n+1,_,_,_,h=>⟨h.1,fun i hi=>wpOp_mono (fun b u k=>yO.any n _ b u k.2) (h.2 i hi)⟩
theorem xD7 {i j:Nat} {listed:Array Bool} (hx:Region.waitsFor md ops x i=true) (hi:i∈Region.ready md ops listed) (hj:j∈Region.ready md ops listed):j≠x:=by
 rintro rfl;obtain ⟨oj,hoj,e,he,hb,rfl⟩:=Region.waitsFor_spec hx;obtain ⟨_,o,ho,hall⟩:=mem_ready.1 hj;obtain rfl:o=oj:=Option.some.inj (ho.symm.trans hoj);have h1:=hall e he hb;have h0:=(mem_ready.1 hi).1;rw [getD_both h0] at h1;cases h1
theorem yO.first {i:Nat} {oi:Oper} {v:Value} (hi:ops[i]?=some oi) (hsel:∀ (j:Nat) (o:Oper) cs b,ops[j]?=some o->o.op≠.select cs b)
  (hQ:∀ c a w,Q (.panic c) (a.put oi.dst v) w->Q (.panic c) a w) (hx:Region.waitsFor md ops x i=true) :
  ∀ (n:Nat) (listed:Array Bool) (a:Act) (w:World),
   (∀ j oj,ops[j]?=some oj->j≠i->listed.getD j true=false->(∀ e∈oj.after,Region.binds md e=true->e.on≠i)->oi.apart ops oj=true) ->
   i∈Region.ready md ops listed->YieldsIf P ops S oi v a->S w ->
   yO P md ops Q S x n (listed.setIfInBounds i true) (a.put oi.dst v) w->yO P md ops Q S x (n+1) listed a w:=by
 intro n;induction n with
 | zero =>
  intro listed a w _ hr hy hS H;refine ⟨fun h=>(by rw [h] at hr;cases hr),fun j hj=>?_⟩;by_cases hji:j=i
  ·subst hji;exact hy.wpOp hi hS ⟨fun _=>hS,H⟩
  ·have h1:=ready_mono hj hji
   rw [H.1] at h1;cases h1
 | succ n ih =>
  intro listed a w hfree hr hy hS H;refine ⟨fun h=>(by rw [h] at hr;cases hr),fun j hj=>?_⟩;by_cases hji:j=i
  ·subst hji;exact hy.wpOp hi hS ⟨fun _=>hS,H⟩
  ·have hjx:=xD7 hx hr hj
   have h1:=H.2 j (ready_mono hj hji);obtain ⟨hjun,oj,hoj,hall⟩:=mem_ready.1 hj;have hnot:∀ e∈oj.after,Region.binds md e=true->e.on≠i:=fun e he hb heq=>by
    have k1:=hall e he hb;rw [heq,getD_both (mem_ready.1 hr).1] at k1;cases k1
   have h2:=wpOp_putIf hoj (hfree j oj hoj hji hjun hnot) (fun cs b=>hsel i oi cs b hi) (fun cs b=>hsel j oj cs b hoj) hQ hy h1;refine wpOp_mono (fun b u h3=>⟨fun _=>h3.2.1 hjx,?_⟩) h2;refine ih (listed.setIfInBounds j true) b u (fun k ok hk hki hun hno=>hfree k ok hk hki ?_ hno) (ready_mono hr (Ne.symm hji)) h3.1 (h3.2.1 hjx) ?_
   ·by_cases hjk:j=k
    ·subst hjk;exact hjun
    ·rw [getD_set_ne true hjk] at hun;exact hun
   ·rw [Array.setIfInBounds_comm _ _ hji]
    exact h3.2.2
theorem yO.take (i:Nat) (v:Value) {d:Option Tmp} {op:Op} {ty:TypeId} {pos:String} {aft:Array Edge} {g:Option (Nat × Bool)} {n:Nat} {listed:Array Bool} {a:Act} {w:World} (hi:ops[i]?=some ⟨d,op,ty,pos,aft,g⟩)
  (hs:Region.noSelect ops=true) (hf:Region.free md ops listed i=true) (hr:(Region.ready md ops listed).contains i=true) (hx:Region.waitsFor md ops x i=true)
  (hQ:∀ c a w,Q (.panic c) (a.put d v) w->Q (.panic c) a w) (hS:S w) (hw:Region.wanted ⟨d,op,ty,pos,aft,g⟩ (yielded ops a.tmps)=true) (hy:∀ w,S w->(execOp a.eval ⟨d,op,ty,pos,aft,g⟩).run P w=.ok (.value v) w)
  (h:yO P md ops Q S x n (listed.setIfInBounds i true) (a.put d v) w):yO P md ops Q S x (n+1) listed a w :=
 yO.first hi (Region.noSelect_spec hs) hQ hx n listed a w (Region.free_spec hi hf) (by simpa using hr) (.inl ⟨hw,hy⟩) hS h
theorem yO.one (i:Nat) {d:Option Tmp} {op:Op} {ty:TypeId} {pos:String} {aft:Array Edge} {g:Option (Nat × Bool)} {n:Nat} {listed:Array Bool} {a:Act} {w:World} (hr:Region.ready md ops listed=[i]) (hi:ops[i]?=some ⟨d,op,ty,pos,aft,g⟩) (hw:Region.wanted ⟨d,op,ty,pos,aft,g⟩ (yielded ops a.tmps)=true)
  (h:∀ K:Act->World->Prop,Shut (∀ b u,(i≠x->S u)->yO P md ops Q S x n (listed.setIfInBounds i true) b u->K b u)->Oper.wp P ⟨d,op,ty,pos,aft,g⟩ a w K Q):yO P md ops Q S x (n+1) listed a w:=by
 refine ⟨fun h0=>(by rw [hr] at h0;cases h0),fun j hj=>?_⟩;rw [hr] at hj;obtain rfl:j=i:=by simpa using hj
 refine wpOp_step hi fun K hK=>?_;rw [if_pos hw];exact h K fun b u h1 h2=>hK b u ⟨h1,h2⟩
theorem yO.done {n:Nat} {listed:Array Bool} {a:Act} {w:World} (hr:Region.ready md ops listed=[]) (h:Q .normal a w):yO P md ops Q S x n listed a w:=by
 cases n with
 | zero=>exact ⟨hr,h⟩
 | succ n=>exact ⟨fun _=>h,by rw [hr];simp⟩
theorem yO.begin (S:World->Prop) (x:Nat) {id:Nat} {a:Act} {w:World} (hm:P.follows .mixedOrders=true)
  (h:yO P .any ops Q S x ops.size (Array.replicate ops.size false) a w.drew):(Code.region id ops true).wp P Q a w :=
 wp_region_any hm (yO.any _ _ _ _ h)
end
theorem zC8 {P:Program} {o:Oper} {a:Act} {w:World} {K:Act->World->Prop} {Q:Exit->Act->World->Prop} (s x:Operand) (t:TypeId)
  (ho:o.op=.call { callee:=.builtin .append,args:=#[s,x],argTypes:=#[t,t] }) (ty:TypeId) (hty:o.type=ty) (v1 v2:Value) (hs:a.eval s=v1) (hx:a.eval x=v2) {v':Value} {w':World}
  (hr:(Builtin.append_ #[t,t] ty #[v1,v2]).run P w=.ok v' w') (h:K (a.put o.dst v') w'):o.wp P a w K Q:=by
 unfold Oper.wp execOp;simp only [ho,resolve,invoke,builtin,Sem.run_bind,Sem.run_pure,Result.andThen_ok,List.map_toArray,List.map_cons,List.map_nil,hs,hx,hty,hr];exact h
namespace LabP
theorem toNat_ofInt (a:Nat) (h:a<9223372036854775808):(BitVec.ofInt 64 (a:Int)).toNat=a:=by
 rw [BitVec.ofInt_natCast,BitVec.toNat_ofNat];exact Nat.mod_eq_of_lt (by omega)
theorem kK (a:Nat) (h:a<9223372036854775808):IntKind.i64.wrap (a:Int)=(a:Int):=by
 simp only [IntKind.wrap,IntKind.bits,IntKind.signed];simp;omega
theorem wrap_zero (a:Nat) (h:a<18446744073709551616):IntKind.i64.wrap (a:Int)=0 ↔ a=0:=by
 simp only [IntKind.wrap,IntKind.bits,IntKind.signed];simp;omega
theorem zK9 (a b:Nat) (ha:a<9223372036854775808) (hb:b<9223372036854775808) :
  bits .or .i64 (a:Int) (b:Int)=((a ||| b:Nat):Int):=by
 have hx:a ||| b<2^63:=Nat.or_lt_two_pow (by omega) (by omega);show IntKind.i64.wrap ((BitVec.ofInt 64 (a:Int) ||| BitVec.ofInt 64 (b:Int)).toNat:Int)=_;rw [BitVec.toNat_or,toNat_ofInt a ha,toNat_ofInt b hb,kK _ (by omega)]
theorem yP1 (x y:BitVec 64):(x &&& ~~~y).toNat=0 ↔ x.toNat &&& y.toNat=x.toNat:=by
 have hb:∀ i,(x &&& ~~~y).toNat.testBit i=(x.toNat.testBit i&&!y.toNat.testBit i):=by
  intro i;show (x &&& ~~~y).getLsbD i=(x.getLsbD i&&!y.getLsbD i);rw [BitVec.getLsbD_and,BitVec.getLsbD_not];by_cases hi:i<64
  ·simp [hi]
  ·rw [BitVec.getLsbD_of_ge x i (by omega)];simp
 constructor
 ·intro h
  apply Nat.eq_of_testBit_eq;intro i;have:=hb i;rw [h,Nat.zero_testBit] at this;rw [Nat.testBit_and]
  revert this
  cases x.toNat.testBit i<;>cases y.toNat.testBit i<;>simp
 ·intro h
  apply Nat.eq_of_testBit_eq;intro i;have e:(x.toNat &&& y.toNat).testBit i=x.toNat.testBit i:=by rw [h]
  rw [hb i,Nat.zero_testBit];rw [Nat.testBit_and] at e
  revert e
  cases x.toNat.testBit i<;>cases y.toNat.testBit i<;>simp
theorem zG7 (a b:Int):bits .andNot .i64 a b=0 ↔ (BitVec.ofInt 64 a).toNat &&& (BitVec.ofInt 64 b).toNat=(BitVec.ofInt 64 a).toNat:=by
 rw [<- yP1];show IntKind.i64.wrap ((BitVec.ofInt 64 a &&& ~~~BitVec.ofInt 64 b).toNat:Int)=0 ↔ _;exact wrap_zero _ (BitVec.isLt _)
theorem qY (a:Int) (h1:-9223372036854775808<=a) (h2:a<9223372036854775808):bits .andNot .i64 a 255=0 ↔ (0<=a/\a<=255):=by
 rw [zG7];have e:(BitVec.ofInt 64 255).toNat=2^8-1:=by decide
 rw [e,Nat.and_two_pow_sub_one_eq_mod,BitVec.toNat_ofInt];omega
theorem yP2 (a b:Nat) (ha:a<256) (hb:b<256):bits .andNot .i64 (a:Int) (b:Int)=0 ↔ a &&& b=a:=by
 rw [zG7,toNat_ofInt a (by omega),toNat_ofInt b (by omega)]
end LabP
namespace Plain
structure En where
 key:Int
 value:Int
 time:Int
 who:Int
 gone:Bool
 deriving DecidableEq,Inhabited
def newer (a b:En):Bool :=
 if a.time=b.time then (if a.who=b.who then (if a.gone=b.gone then decide (b.value<a.value) else b.gone) else decide (b.who<a.who)) else decide (b.time<a.time)
def mayB (e:En):Bool :=
 decide ((0<=e.key/\e.key<=1048576)/\(0<=e.value/\e.value<=1048576)/\(0<=e.time/\e.time<=1048576)/\(0<=e.who/\e.who<8)/\(e.gone=true->e.value=0))
def ascB:List En->Bool
 | []=>true
 | [_]=>true
 | a :: b :: l=>decide (a.key<b.key)&&ascB (b :: l)
def mayL (l:List En):Bool:=decide (l.length<=8)&&l.all mayB&&ascB l
def en (l:List En) (i:Nat):En:=l.getD i default
def Srt (l:List En):Prop:=l.Pairwise (fun a b=>a.key<b.key)
theorem zO2 {l:List En} {i:Nat} (h:i<l.length):en l i=l[i]:=by simp [en,h]
theorem qC8 {l:List En} {i:Nat} (h:i<l.length):en l i∈l:=by rw [zO2 h];exact zH h
theorem xS3 (l:List En):ascB l=true ↔ Srt l:=by
 unfold Srt;induction l with
 | nil=>simp [ascB]
 | cons a l ih =>
  cases l with
  | nil=>simp [ascB]
  | cons b l =>
   simp only [ascB,Bool.and_eq_true,decide_eq_true_eq,ih,List.pairwise_cons];constructor
   ·rintro ⟨h1,h2,h3⟩
    refine ⟨fun x hx=>?_,h2,h3⟩;rcases List.mem_cons.1 hx with rfl|hx
    ·exact h1
    ·have:=h2 x hx;omega
   ·rintro ⟨h1,h2,h3⟩
    exact ⟨h1 b (yC),h2,h3⟩
theorem xP2 (l:List En):ascB l=true ↔ ∀ i,i+1<l.length->(en l i).key<(en l (i+1)).key:=by
 induction l with
 | nil=>simp [ascB]
 | cons a l ih =>
  cases l with
  | nil=>simp [ascB]
  | cons b l =>
   simp only [ascB,Bool.and_eq_true,decide_eq_true_eq,ih];constructor
   ·rintro ⟨h1,h2⟩ i hi
    cases i with
    | zero=>exact h1
    | succ i=>exact h2 i (by simpa using hi)
   ·intro h
    exact ⟨h 0 (by simp),fun i hi=>h (i+1) (by simpa using hi)⟩
theorem qY (l:List En):mayL l=true ↔ l.length<=8/\(∀ e∈l,mayB e=true)/\Srt l:=by
 unfold mayL;rw [zQ,zQ,xS3,decide_eq_true_eq,zS];exact ⟨fun ⟨⟨a,b⟩,c⟩=>⟨a,b,c⟩,fun ⟨a,b,c⟩=>⟨⟨a,b⟩,c⟩⟩
/-! What stands under a key. -/
def look (k:Int) (l:List En):Option En:=l.find? (fun e=>e.key==k)
theorem look_nil (k:Int):look k []=none:=rfl
theorem xA (k:Int) (a:En) (l:List En):look k (a :: l)=if a.key=k then some a else look k l:=by
 unfold look;rw [List.find?_cons];by_cases h:a.key=k
 ·simp [h]
 ·have:(a.key==k)=false:=by simpa using h
  simp [h,this]
theorem yE3 (k:Int) (a b:List En):look k (a++b)=(look k a).or (look k b):=by
 unfold look;exact List.find?_append
theorem jC {k:Int} {l:List En} {e:En} (h:look k l=some e):e.key=k/\e∈l:=by
 unfold look at h;exact ⟨by simpa using List.find?_some h,List.mem_of_find?_eq_some h⟩
theorem jO {k:Int} {l:List En} (h:∀ e∈l,e.key≠k):look k l=none:=by
 unfold look;rw [List.find?_eq_none];intro e he;simpa using h e he
theorem zO3 {l:List En} (hs:Srt l) {e:En} (he:e∈l):look e.key l=some e:=by
 induction l with
 | nil=>simp at he
 | cons a l ih =>
  have hs':=List.pairwise_cons.1 hs;rw [xA];rcases List.mem_cons.1 he with rfl|h
  ·simp
  ·have:=hs'.1 e h
   rw [if_neg (by omega)];exact ih hs'.2 h
theorem zA8 {a b:List En} (ha:Srt a) (hb:Srt b) (h:∀ k,look k a=look k b):a=b:=by
 induction a generalizing b with
 | nil =>
  cases b with
  | nil=>rfl
  | cons y b =>
   have:=h y.key;rw [look_nil,xA,if_pos rfl] at this;cases this
 | cons x a ih =>
  have hx:=List.pairwise_cons.1 ha;cases b with
  | nil =>
   have:=h x.key;rw [look_nil,xA,if_pos rfl] at this;cases this
  | cons y b =>
   have hy:=List.pairwise_cons.1 hb;have h1:=h x.key;have h2:=h y.key;rw [xA,if_pos rfl] at h1;rw [xA (a:=y),if_pos rfl] at h2;have e:x=y:=by
    rw [xA] at h1 h2;by_cases c:y.key=x.key
    ·rw [if_pos c] at h1;injection h1
    ·rw [if_neg c] at h1
     rw [if_neg (fun d=>c d.symm)] at h2;have k1:=hy.1 _ (jC h1.symm).2;have k2:=hx.1 _ (jC h2).2;omega
   subst e;rw [ih hx.2 hy.2];intro k;have h3:=h k;rw [xA,xA] at h3;by_cases c:x.key=k
   ·rw [jO (fun e he=>by have:=hx.1 e he;omega),jO (fun e he=>by have:=hy.1 e he;omega)]
   ·rwa [if_neg c,if_neg c] at h3
/-! The newer one of two. -/
def top (x y:En):En:=if newer y x then y else x
def comb:Option En->Option En->Option En
 | none,y=>y
 | x,none=>x
 | some x,some y=>some (top x y)
theorem qE (x:Option En):comb x none=x:=by cases x<;>rfl
theorem kZ (x:Option En):comb none x=x:=by cases x<;>rfl
/-! The program's way: each of b is put into a. -/
def less (k:Int) (l:List En):Nat:=l.countP (fun e=>decide (e.key<k))
def put (l:List En) (e:En):List En :=
 match l with
 | []=>[e]
 | a :: l=>if e.key<a.key then e :: a :: l else if e.key=a.key then top a e :: l else a :: put l e
def yR (a b:List En):List En:=b.foldl put a
theorem zO4 {l:List En} {e x:En} (h:x∈put l e):x=e\/x∈l:=by
 induction l with
 | nil=>simp [put] at h;exact .inl h
 | cons a l ih =>
  unfold put at h;split at h
  ·rcases List.mem_cons.1 h with h|h
   ·exact .inl h
   ·exact .inr h
  ·split at h
   ·rcases List.mem_cons.1 h with h|h
    ·unfold top at h
     split at h
     ·exact .inl h
     ·exact .inr (by rw [h];exact yC)
    ·exact .inr (yB _ h)
   ·rcases List.mem_cons.1 h with h|h
    ·exact .inr (by rw [h];exact yC)
    ·rcases ih h with h|h
     ·exact .inl h
     ·exact .inr (yB _ h)
theorem yP3 {a e:En} (h:e.key=a.key):(top a e).key=a.key:=by unfold top;split<;>simp_all
theorem zC9 {l:List En} (h:Srt l) (e:En):Srt (put l e):=by
 induction l with
 | nil=>simp [put,Srt]
 | cons a l ih =>
  have ha:=List.pairwise_cons.1 h;unfold put;split
  ·rename_i c
   refine List.pairwise_cons.2 ⟨fun x hx=>?_,h⟩;rcases List.mem_cons.1 hx with rfl|hx
   ·exact c
   ·have:=ha.1 x hx;omega
  ·split
   ·rename_i c
    exact List.pairwise_cons.2 ⟨fun x hx=>by rw [yP3 c];exact ha.1 x hx,ha.2⟩
   ·refine List.pairwise_cons.2 ⟨fun x hx=>?_,ih ha.2⟩
    rcases zO4 hx with rfl|hx
    ·omega
    ·exact ha.1 x hx
theorem yE4 {l:List En} (h:Srt l) (e:En) (k:Int):look k (put l e)=comb (look k l) (if e.key=k then some e else none):=by
 induction l with
 | nil=>rw [put,xA,look_nil,kZ]
 | cons a l ih =>
  have ha:=List.pairwise_cons.1 h;have hno:e.key<=a.key->look e.key l=none:=fun hle=>jO fun x hx=>by have:=ha.1 x hx;omega
  unfold put;split
  ·rename_i c
   rw [xA];by_cases d:e.key=k
   ·subst d
    rw [if_pos rfl,if_pos rfl,xA,if_neg (by omega),hno (by omega)];rfl
   ·rw [if_neg d,if_neg d,qE]
  ·split
   ·rename_i c
    rw [xA,xA,yP3 c];by_cases d:a.key=k
    ·rw [if_pos d,if_pos d,if_pos (by omega)];rfl
    ·rw [if_neg d,if_neg d,if_neg (by omega),qE]
   ·rw [xA,xA,ih ha.2]
    by_cases d:a.key=k
    ·rw [if_pos d,if_pos d,if_neg (by omega)];rfl
    ·rw [if_neg d,if_neg d]
theorem yX {a:List En} (h:Srt a) (b:List En):Srt (yR a b):=by
 induction b generalizing a with
 | nil=>exact h
 | cons e b ih=>exact ih (zC9 h e)
theorem qJ {a b:List En} (ha:Srt a) (hb:Srt b) (k:Int):look k (yR a b)=comb (look k a) (look k b):=by
 induction b generalizing a with
 | nil=>rw [look_nil,qE];rfl
 | cons e b ih =>
  have he:=List.pairwise_cons.1 hb;have e1:yR a (e :: b)=yR (put a e) b:=rfl;rw [e1,ih (zC9 ha e) he.2,yE4 ha,xA];by_cases d:e.key=k
  ·rw [if_pos d,if_pos d,jO (l:=b) (fun x hx=>by have:=he.1 x hx;omega),qE]
  ·rw [if_neg d,if_neg d,qE]
theorem xS4 (l:List En) (e:En):l.length<=(put l e).length/\(put l e).length<=l.length+1:=by
 induction l with
 | nil=>simp [put]
 | cons a l ih =>
  unfold put;split
  ·simp
  ·split
   ·simp
   ·simp;omega
theorem yP4 (a b:List En):a.length<=(yR a b).length/\(yR a b).length<=a.length+b.length:=by
 induction b generalizing a with
 | nil=>simp [yR]
 | cons e b ih =>
  have:=ih (put a e);have h2:=xS4 a e;have e1:yR a (e :: b)=yR (put a e) b:=rfl;rw [e1];simp;omega
theorem yP5 {a b:List En} {x:En} (h:x∈yR a b):x∈a\/x∈b:=by
 induction b generalizing a with
 | nil=>exact .inl h
 | cons e b ih =>
  have e1:yR a (e :: b)=yR (put a e) b:=rfl;rw [e1] at h;rcases ih h with h|h
  ·rcases zO4 h with rfl|h
   ·exact .inr yC
   ·exact .inl h
  ·exact .inr (yB _ h)
theorem yJ6 (a b:List En) (i:Nat) (h:i<b.length):yR a (b.take (i+1))=put (yR a (b.take i)) (en b i):=by
 unfold yR;rw [zO h,List.foldl_append,zO2 h];rfl
/-! The place of a key. -/
theorem yP6 (k:Int) (l:List En):less k l<=l.length:=List.countP_le_length
theorem zT9 (k:Int) (a:En) (l:List En):less k (a :: l)=less k l+if a.key<k then 1 else 0:=by
 unfold less;rw [List.countP_cons];simp
theorem yP7 {k:Int} {l:List En} (hs:Srt l) {i:Nat} (hi:i<l.length):(en l i).key<k ↔ i<less k l:=by
 induction l generalizing i with
 | nil=>simp at hi
 | cons a l ih =>
  have ha:=List.pairwise_cons.1 hs;rw [zT9];have hz:¬ a.key<k->less k l=0:=by
   intro h;unfold less;rw [List.countP_eq_zero];intro x hx;have:=ha.1 x hx;simp;omega
  cases i with
  | zero =>
   show a.key<k ↔ _;by_cases c:a.key<k
   ·simp [c]
   ·simp [c,hz c]
  | succ i =>
   have e:en (a :: l) (i+1)=en l i:=rfl;rw [e,ih ha.2 (by simpa using hi)];by_cases c:a.key<k
   ·simp [c]
   ·simp [c,hz c]
def hasK (k:Int) (l:List En):Bool:=decide (less k l<l.length/\(en l (less k l)).key=k)
theorem qC9 {l:List En} (hs:Srt l) (e:En) :
  put l e=if hasK e.key l=true then (if newer e (en l (less e.key l))=true then l.set (less e.key l) e else l) else l.take (less e.key l)++e :: l.drop (less e.key l):=by
 induction l with
 | nil=>rfl
 | cons a l ih =>
  have ha:=List.pairwise_cons.1 hs;have hz:¬ a.key<e.key->less e.key l=0:=by
   intro h;unfold less;rw [List.countP_eq_zero];intro x hx;have:=ha.1 x hx;simp;omega
  unfold hasK;rw [zT9];unfold put;by_cases c:e.key<a.key
  ·have c1:¬ a.key<e.key:=by omega
   rw [if_pos c,hz c1,if_neg c1];have:¬ (0+0<(a :: l).length/\(en (a :: l) (0+0)).key=e.key):=by
    rintro ⟨_,h⟩;have:(en (a :: l) (0+0)).key=a.key:=rfl;omega
   simp only [this,decide_false,Bool.false_eq_true,if_false];rfl
  ·rw [if_neg c]
   by_cases d:e.key=a.key
   ·have c1:¬ a.key<e.key:=by omega
    rw [if_pos d,hz c1,if_neg c1];have:(0+0<(a :: l).length/\(en (a :: l) (0+0)).key=e.key):=⟨by simp,d.symm⟩;simp only [this,and_self,decide_true,if_true];have e1:en (a :: l) (0+0)=a:=rfl;rw [e1];unfold top;by_cases f:newer e a=true
    ·rw [if_pos f,if_pos f];rfl
    ·rw [if_neg f,if_neg f]
   ·have c1:a.key<e.key:=by omega
    rw [if_neg d,if_pos c1,ih ha.2];have e1:en (a :: l) (less e.key l+1)=en l (less e.key l):=rfl;unfold hasK;rw [e1];simp only [List.length_cons,Nat.add_lt_add_iff_right];split
    ·split
     ·rfl
     ·rfl
    ·rfl
/-! The document's way: both from the left. -/
/-! What the calls come to. -/
def jZ (a b:List En):Nat:=if mayL a=true/\mayL b=true then (if (yR a b).length<=8 then 0 else 8) else 4
def kT (a b:List En):List En:=if jZ a b=0 then yR a b else []
end Plain
namespace Plain
theorem yP8 (a:En):newer a a=false:=by unfold newer;simp
theorem zG8 {a b:En} (h:newer a b=true):newer b a=false:=by
 unfold newer at h ⊢;by_cases h1:a.time=b.time
 ·rw [if_pos h1] at h
  rw [if_pos h1.symm];by_cases h2:a.who=b.who
  ·rw [if_pos h2] at h
   rw [if_pos h2.symm];by_cases h3:a.gone=b.gone
   ·rw [if_pos h3] at h
    rw [if_pos h3.symm];simp at h ⊢;omega
   ·rw [if_neg h3] at h
    rw [if_neg (fun e=>h3 e.symm)];cases ha:a.gone<;>cases hb:b.gone<;>simp_all
  ·rw [if_neg h2] at h
   rw [if_neg (fun e=>h2 e.symm)];simp at h ⊢;omega
 ·rw [if_neg h1] at h
  rw [if_neg (fun e=>h1 e.symm)];simp at h ⊢;omega
theorem zG9 {a b:En} (hk:a.key=b.key) (h1:newer a b=false) (h2:newer b a=false):a=b:=by
 unfold newer at h1 h2;by_cases e1:a.time=b.time
 ·rw [if_pos e1] at h1
  rw [if_pos e1.symm] at h2;by_cases e2:a.who=b.who
  ·rw [if_pos e2] at h1
   rw [if_pos e2.symm] at h2;by_cases e3:a.gone=b.gone
   ·rw [if_pos e3] at h1
    rw [if_pos e3.symm] at h2;simp at h1 h2;cases a;cases b
    simp at hk e1 e2 e3 h1 h2 ⊢;exact ⟨hk,by omega,e1,e2,e3⟩
   ·rw [if_neg e3] at h1
    rw [if_neg (fun e=>e3 e.symm)] at h2;rw [h1,h2] at e3;exact absurd rfl e3
  ·rw [if_neg e2] at h1
   rw [if_neg (fun e=>e2 e.symm)] at h2;simp at h1 h2;omega
 ·rw [if_neg e1] at h1
  rw [if_neg (fun e=>e1 e.symm)] at h2;simp at h1 h2;omega
theorem zH0 {a b c:En} (h1:newer a b=true) (h2:newer b c=true):newer a c=true:=by
 unfold newer at h1 h2 ⊢;by_cases t1:a.time=b.time
 ·rw [if_pos t1] at h1
  by_cases t2:b.time=c.time
  ·rw [if_pos t2] at h2
   rw [if_pos (t1.trans t2)];by_cases w1:a.who=b.who
   ·rw [if_pos w1] at h1
    by_cases w2:b.who=c.who
    ·rw [if_pos w2] at h2
     rw [if_pos (w1.trans w2)];cases ha:a.gone<;>cases hb:b.gone<;>cases hc:c.gone<;>simp_all
     all_goals omega
    ·rw [if_neg w2] at h2
     rw [if_neg (fun e=>w2 (w1.symm.trans e))];simp at h2 ⊢;omega
   ·rw [if_neg w1] at h1
    by_cases w2:b.who=c.who
    ·rw [if_neg (fun e=>w1 (e.trans w2.symm))]
     simp at h1 ⊢;omega
    ·rw [if_neg w2] at h2
     simp at h1 h2;rw [if_neg (by omega)];simp;omega
  ·rw [if_neg t2] at h2
   rw [if_neg (fun e=>t2 (t1.symm.trans e))];simp at h2 ⊢;omega
 ·rw [if_neg t1] at h1
  by_cases t2:b.time=c.time
  ·rw [if_neg (fun e=>t1 (e.trans t2.symm))]
   simp at h1 ⊢;omega
  ·rw [if_neg t2] at h2
   simp at h1 h2;rw [if_neg (by omega)];simp;omega
theorem yP9 {a b c:En} (_hab:a.key=b.key) (hbc:b.key=c.key) (h1:newer a b=false) (h2:newer b c=false):newer a c=false:=by
 cases h:newer a c with
 | false=>rfl
 | true =>
  cases h3:newer c b with
  | true=>rw [zH0 h h3] at h1;cases h1
  | false =>
   have:=zG9 hbc h2 h3;subst this;rw [h] at h1;cases h1
theorem xD8 {a b:En} (h:a.key=b.key):top a b=top b a:=by
 unfold top;cases h1:newer b a with
 | true=>rw [zG8 h1];rfl
 | false =>
  cases h2:newer a b with
  | true=>rfl
  | false=>exact (zG9 h h2 h1)
theorem yE5 (a:En):top a a=a:=by unfold top;rw [yP8];rfl
theorem yQ0 {a b c:En} (h1:a.key=b.key) (h2:b.key=c.key):top (top a b) c=top a (top b c):=by
 unfold top;cases hba:newer b a with
 | true =>
  cases hcb:newer c b with
  | true =>
   simp only [if_true];rw [zH0 hcb hba,hcb];rfl
  | false=>simp [hba,hcb]
 | false =>
  cases hcb:newer c b with
  | true=>simp
  | false =>
   simp only [Bool.false_eq_true,if_false];rw [yP9 h2.symm h1.symm hcb hba,hba];rfl
theorem zH1 {k:Int} {l m:List En} {x y:En} (h1:look k l=some x) (h2:look k m=some y):x.key=y.key:=by
 rw [(jC h1).1,(jC h2).1]
theorem yQ1 (k:Int) (a b:List En):comb (look k a) (look k b)=comb (look k b) (look k a):=by
 cases h1:look k a with
 | none=>rw [kZ,qE]
 | some x =>
  cases h2:look k b with
  | none=>rfl
  | some y=>exact congrArg some (xD8 (zH1 h1 h2))
theorem yQ2 (x:Option En):comb x x=x:=by
 cases x with
 | none=>rfl
 | some x=>exact congrArg some (yE5 x)
theorem yJ7 (k:Int) (a b c:List En):comb (comb (look k a) (look k b)) (look k c)=comb (look k a) (comb (look k b) (look k c)):=by
 cases h1:look k a with
 | none=>rw [kZ,kZ]
 | some x =>
  cases h2:look k b with
  | none=>rw [qE,kZ]
  | some y =>
   cases h3:look k c with
   | none=>rw [qE,qE]
   | some z=>exact congrArg some (yQ0 (zH1 h1 h2) (zH1 h2 h3))
theorem zL0 {a b:List En} (ha:Srt a) (hb:Srt b):yR a b=yR b a :=
 zA8 (yX ha b) (yX hb a) fun k=>by rw [qJ ha hb,qJ hb ha,yQ1]
theorem kL {a b c:List En} (ha:Srt a) (hb:Srt b) (hc:Srt c):yR (yR a b) c=yR a (yR b c) :=
 zA8 (yX (yX ha b) c) (yX ha _) fun k=>by
  rw [qJ (yX ha b) hc,qJ ha hb,qJ ha (yX hb c),qJ hb hc,yJ7]
theorem zD0 {a:List En} (ha:Srt a):yR a a=a :=
 zA8 (yX ha a) ha fun k=>by rw [qJ ha ha,yQ2]
theorem zZ0 {a b:List En} (ha:Srt a) (hb:Srt b):yR (yR a b) b=yR a b:=by
 rw [kL ha hb hb,zD0 hb]
/-! Entries of six keys. -/
theorem zZ1 {l:List En} (hs:Srt l) (lo hi:Int) (h:∀ e∈l,lo<=e.key/\e.key<hi):l.length<=(hi-lo).toNat:=by
 induction l generalizing lo with
 | nil=>simp
 | cons a l ih =>
  have ha:=List.pairwise_cons.1 hs;have h1:=h a yC;have:=ih ha.2 (lo+1) fun e he=>by
   have:=ha.1 e he;have:=h e (yB _ he);omega
  simp only [List.length_cons];omega
/-! What a fold holds. -/
/-! The notes turned round. -/
end Plain
namespace Plain
abbrev Stt:=Nat->Nat->List En
def Stt.nil:Stt:=fun _ _=>[]
def reads (s:Int) (who:Nat):Bool:=s.toNat/2^who%2==1
def maxT (l:List En):Int:=l.foldl (fun t e=>max t e.time) 0
def xF (L:List Int) (j:Nat):Int:=L.getD j 0
def lives (k:Int) (l:List En):Bool:=match look k l with
 | some e=>!e.gone
 | none=>false
/-! ### Times -/
theorem xD9 (l:List En) (t:Int) (ht:0<=t):l.foldl (fun t e=>max t e.time) t=max t (maxT l):=by
 unfold maxT;induction l generalizing t with
 | nil=>simp only [List.foldl_nil];omega
 | cons a l ih =>
  simp only [List.foldl_cons];rw [ih (max t a.time) (by omega),ih (max 0 a.time) (by omega)];omega
theorem zH2 (a:En) (l:List En):maxT (a :: l)=max (max 0 a.time) (maxT l):=by
 show l.foldl (fun t e=>max t e.time) (max 0 a.time)=_;exact xD9 l _ (by omega)
theorem yE6 (l:List En):0<=maxT l:=by
 induction l with
 | nil=>exact Int.le_refl _
 | cons a l ih=>rw [zH2];omega
theorem xS5 {l:List En} {e:En} (h:e∈l):e.time<=maxT l:=by
 induction l with
 | nil=>simp at h
 | cons a l ih =>
  rw [zH2];rcases List.mem_cons.1 h with rfl|h
  ·omega
  ·have:=ih h;omega
theorem zZ2 {l:List En} {b:Int} (hb:0<=b) (h:∀ e∈l,e.time<=b):maxT l<=b:=by
 induction l with
 | nil=>exact hb
 | cons a l ih =>
  rw [zH2];have h1:=h a (yC ..);have h2:=ih fun e he=>h e (yB _ he);omega
theorem zU0 {l:List En} {e x:En} (he:e.time=maxT l+1) (hx:x∈l):newer e x=true:=by
 have:=xS5 hx;unfold newer;rw [if_neg (by omega)];exact decide_eq_true (by omega)
theorem yQ3 {l:List En} (hs:Srt l) {e:En} (he:e.time=maxT l+1) (k:Int):look k (put l e)=if e.key=k then some e else look k l:=by
 rw [yE4 hs e k];by_cases h:e.key=k
 ·rw [if_pos h,if_pos h]
  cases hl:look k l with
  | none=>rfl
  | some x =>
   show some (top x e)=some e;have hx:=(jC hl).2;unfold top;rw [if_pos (zU0 he hx)]
 ·rw [if_neg h,if_neg h,qE]
/-! ### What holds of what each has -/
structure Gok (n:Nat) (L:List Int) (T:Int) (s:Stt):Prop where
 srt:∀ i j,Srt (s i j)
 may:∀ i j,∀ e∈s i j,mayB e=true/\(0<=e.key/\e.key<8)/\e.time<=T/\e.value<=255
 out:∀ i j,(reads (xF L j) i=false\/L.length<=j)->s i j=[]
end Plain
open Go.RowKit
def encE (e:En):List Value:=[.int .i64 e.key,.int .i64 e.value,.int .i64 e.time,.int .i64 e.who,.bool e.gone]
def evals (l:List En):List Value:=l.flatMap encE
theorem jL (a:En) (l:List En):evals (a :: l)=encE a++evals l:=rfl
theorem kA (a b:List En):evals (a++b)=evals a++evals b:=by simp [evals]
theorem xH (e:En):(encE e).length=5:=rfl
theorem xY (l:List En):(evals l).length=l.length*5:=by
 induction l with
 | nil=>rfl
 | cons a l ih=>rw [jL,zD,xH,ih,List.length_cons];omega
theorem qZ (l:List En) (i:Nat) (h:i<=l.length):(evals l).take (i*5)=evals (l.take i)/\(evals l).drop (i*5)=evals (l.drop i):=by
 have e:evals l=evals (l.take i)++evals (l.drop i):=by rw [<- kA,List.take_append_drop]
 have hl:(evals (l.take i)).length=i*5:=by rw [xY,zT,Nat.min_eq_left h]
 rw [e];exact ⟨by rw [List.take_append_of_le_length (by omega),yA (by omega)],by rw [List.drop_append_of_le_length (by omega),List.drop_of_length_le (by omega),List.nil_append]⟩
theorem yE7 (l:List En) (j k:Nat) (hj:j<l.length) (hk:k<5):(evals l)[j*5+k]?=(encE (en l j))[k]?:=by
 induction l generalizing j with
 | nil=>simp at hj
 | cons a l ih =>
  rw [jL];cases j with
  | zero =>
   rw [zW (by rw [xH];omega),Nat.zero_mul,Nat.zero_add];rfl
  | succ j =>
   rw [zR (by rw [xH];omega),xH,show (j+1)*5+k-5=j*5+k by omega,ih j (by simpa using hj)];rfl
theorem zE8 (e:En):∀ u∈encE e,u.oneCell'=true:=by
 intro u hu;simp only [encE,List.mem_cons,List.not_mem_nil,or_false] at hu;rcases hu with rfl|rfl|rfl|rfl|rfl<;>rfl
theorem zH3 (l:List En):∀ u∈evals l,u.oneCell'=true:=by
 intro u hu;obtain ⟨e,_,h⟩:=List.mem_flatMap.1 hu;exact zE8 e u h
structure CellN (w:World) (b o:Nat) (e:En):Prop where
 c0:w.cell? ⟨b,o,none⟩=some (.int .i64 e.key)
 c1:w.cell? ⟨b,o+1,none⟩=some (.int .i64 e.value)
 c2:w.cell? ⟨b,o+2,none⟩=some (.int .i64 e.time)
 c3:w.cell? ⟨b,o+3,none⟩=some (.int .i64 e.who)
 c4:w.cell? ⟨b,o+4,none⟩=some (.bool e.gone)
theorem CellN.below {w w':World} {b o B:Nat} {e:En} (h:CellN w b o e) (hb:Below B w w') (hlt:b<B):CellN w' b o e :=
 ⟨(hb.cell (p:=⟨b,o,none⟩) hlt).trans h.c0,(hb.cell (p:=⟨b,o+1,none⟩) hlt).trans h.c1,(hb.cell (p:=⟨b,o+2,none⟩) hlt).trans h.c2,(hb.cell (p:=⟨b,o+3,none⟩) hlt).trans h.c3,(hb.cell (p:=⟨b,o+4,none⟩) hlt).trans h.c4⟩
theorem CellN.lt {w:World} {b o:Nat} {e:En} (h:CellN w b o e):b<w.heap.size:=zC (w:=w) (h:=h.c0)
def qP (w:World) (b off:Nat) (l:List En):Prop:=∀ j,j<l.length->CellN w b (off+j*5) (en l j)
def SegN (w:World) (v:Value) (l:List En):Prop :=
 (l=[]/\∃ p cap,v=.slice p 0 cap)\/∃ b off cap,v=.slice (some ⟨b,off,none⟩) l.length cap/\l.length<=cap/\qP w b off l
theorem qP.below {w w':World} {b off B:Nat} {l:List En} (h:qP w b off l) (hb:Below B w w') (hlt:b<B):qP w' b off l:=fun j hj=>(h j hj).below hb hlt
theorem SegN.below {w w':World} {v:Value} {l:List En} {B:Nat} (h:SegN w v l) (hb:Below B w w') (hv:Lies B v):SegN w' v l:=by
 rcases h with ⟨rfl,p1,c1,rfl⟩|⟨b1,o1,c1,rfl,hc1,g1⟩
 ·exact .inl ⟨rfl,p1,c1,rfl⟩
 ·by_cases h0:0<l.length
  ·exact .inr ⟨b1,o1,c1,rfl,hc1,g1.below hb (hv ⟨b1,o1,none⟩ _ _ rfl h0)⟩
  ·exact .inr ⟨b1,o1,c1,rfl,hc1,fun j hj=>by omega⟩
theorem SegN.nil (w:World):SegN w (.slice none 0 0) []:=.inl ⟨rfl,none,0,rfl⟩
theorem SegN.form {w:World} {v:Value} {l:List En} (h:SegN w v l):∃ p cap,v=.slice p l.length cap/\(0<l.length->∃ b off,p=some ⟨b,off,none⟩/\l.length<=cap/\qP w b off l):=by
 rcases h with ⟨rfl,p1,c1,rfl⟩|⟨b1,o1,c1,rfl,hc1,g1⟩
 ·exact ⟨p1,c1,rfl,fun h=>by simp at h⟩
 ·exact ⟨_,c1,rfl,fun _=>⟨b1,o1,rfl,hc1,g1⟩⟩
theorem SegN.some {w:World} {v:Value} {l:List En} (h:SegN w v l) (hl:0<l.length):∃ b off cap,v=.slice (some ⟨b,off,none⟩) l.length cap/\l.length<=cap/\qP w b off l:=by
 rcases h with ⟨rfl,_⟩|h
 ·simp at hl
 ·exact h
theorem qP.vals {w:World} {b off:Nat} {l:List En} (h:qP w b off l):∀ j u,(evals l)[j]?=some u->w.cell? ⟨b,off+j,none⟩=some u:=by
 intro j u hj;have hlt:j<l.length*5:=by
  rw [<- xY];exact (List.getElem?_eq_some_iff.1 hj).1
 have e:j=j/5*5+j%5:=by omega
 have hk:j%5<5:=Nat.mod_lt _ (by omega);have h1:j/5<l.length:=by omega
 have c:=h (j/5) h1;rw [e,yE7 l _ _ h1 hk] at hj;rw [e,<- Nat.add_assoc];generalize j%5=k at hj hk;generalize off+j/5*5=o at c
 match k,hk,hj with
 | 0,_,hj=>injection hj with hj;subst hj;exact c.c0
 | 1,_,hj=>injection hj with hj;subst hj;exact c.c1
 | 2,_,hj=>injection hj with hj;subst hj;exact c.c2
 | 3,_,hj=>injection hj with hj;subst hj;exact c.c3
 | 4,_,hj=>injection hj with hj;subst hj;exact c.c4
theorem qP.of_vals {w:World} {b off:Nat} {l:List En} (h:∀ j u,(evals l)[j]?=some u->w.cell? ⟨b,off+j,none⟩=some u):qP w b off l:=by
 intro j hj;have g:∀ k u,k<5->(encE (en l j))[k]?=some u->w.cell? ⟨b,off+(j*5+k),none⟩=some u:=fun k u hk hu=>h _ u (by rw [yE7 l j k hj hk];exact hu);refine ⟨?_,?_,?_,?_,?_⟩
 ·have:=g 0 _ (by omega) rfl;rwa [Nat.add_zero] at this
 ·have:=g 1 _ (by omega) rfl;rwa [<- Nat.add_assoc] at this
 ·have:=g 2 _ (by omega) rfl;rwa [<- Nat.add_assoc] at this
 ·have:=g 3 _ (by omega) rfl;rwa [<- Nat.add_assoc] at this
 ·have:=g 4 _ (by omega) rfl;rwa [<- Nat.add_assoc] at this
theorem zH4 (g k:Nat):(⟨g,0,none⟩:Addr).add k=⟨g,k,none⟩:=by
 by_cases h:k=0
 ·subst h;simp [Addr.add]
 ·simp [Addr.add,h]
theorem zO5 (g o k:Nat):(⟨g,o,none⟩:Addr).add k=⟨g,o+k,none⟩:=by
 by_cases h:k=0
 ·subst h;simp [Addr.add]
 ·simp [Addr.add,h]
def OwnN (w:World) (B T:Nat) (v:Value) (l:List En):Prop:=w.ownsRow B T 5 v l.length (evals l)
theorem OwnN.cells {w:World} {B T g n c:Nat} {l:List En} (h:OwnN w B T (.slice (some ⟨g,0,none⟩) n c) l):qP w g 0 l :=
 qP.of_vals fun j u hj=>by
  have h2:w.ownsRow B T 5 (.slice (some ⟨g,0,none⟩) n c) l.length (evals l):=h;rcases h2.2 with ⟨e,_⟩|⟨g',cap',cur,e,hg,hb,h1,_,h3,h4⟩
  ·cases e
  ·injection e with e1 e2 e3
   injection e1 with e1;injection e1 with e1 _ _;subst e1;rw [<- h4,List.getElem?_take] at hj;split at hj
   ·rw [Nat.zero_add]
    simp only [World.cell?,hb];rw [Array.getElem?_toList] at hj;rw [hj];rfl
   ·cases hj
theorem OwnN.seg {w:World} {B T:Nat} {v:Value} {l:List En} (h:OwnN w B T v l):SegN w v l/\Lies w.heap.size v:=by
 have h2:w.ownsRow B T 5 v l.length (evals l):=h;rcases h2.2 with ⟨rfl,h0⟩|⟨g,cap,cur,rfl,_,hg,hc,_⟩
 ·exact ⟨.inl ⟨zP.1 h0,_,_,rfl⟩,yU _ _ _⟩
 ·exact ⟨.inr ⟨g,0,cap,rfl,hc,h.cells⟩,qB (zJ.1 hg).1⟩
theorem OwnN.row {w:World} {B T:Nat} {v:Value} {l:List En} (h:OwnN w B T v l) (hl:0<l.length) :
  ∃ g cap cur,v=.slice (some ⟨g,0,none⟩) l.length cap/\B<=g/\w.heap[g]?=some (.cells cur T (0,0))/\l.length<=cap/\cap<=maxLen/\cur.size=cap*5/\cur.toList.take (l.length*5)=evals l:=by
 have h2:w.ownsRow B T 5 v l.length (evals l):=h;rcases h2.2 with ⟨rfl,h0⟩|h3
 ·omega
 ·exact h3
theorem OwnN.mk {w:World} {B T g cap:Nat} {cur:Array Value} {l:List En} (hB:B<=g) (hg:w.heap[g]?=some (.cells cur T (0,0))) (hc:l.length<=cap) (hm:cap<=maxLen) (hs:cur.size=cap*5) (ht:cur.toList.take (l.length*5)=evals l) :
  OwnN w B T (.slice (some ⟨g,0,none⟩) l.length cap) l:=⟨xY l,.inr ⟨g,cap,cur,rfl,hB,hg,hc,hm,hs,ht⟩⟩
theorem OwnN.nil (w:World) (B T:Nat):OwnN w B T (.slice none 0 0) []:=⟨rfl,.inl ⟨rfl,rfl⟩⟩
theorem OwnN.grow {w w':World} {B T:Nat} {v:Value} {l:List En} (h:OwnN w B T v l) (g:Below w.heap.size w w'):OwnN w' B T v l:=by
 refine ⟨h.1,?_⟩;rcases h.2 with h0|⟨b,cap,cur,e,hB,hb,h3⟩
 ·exact .inl h0
 ·exact .inr ⟨b,cap,cur,e,hB,(g.block b (zJ.1 hb).1).trans hb,h3⟩
theorem OwnN.base {w:World} {B C T:Nat} {v:Value} {l:List En} (h:OwnN w B T v l) (hc:C<=B):OwnN w C T v l:=by
 refine ⟨h.1,?_⟩;rcases h.2 with h0|⟨b,cap,cur,e,hB,h3⟩
 ·exact .inl h0
 ·exact .inr ⟨b,cap,cur,e,by omega,h3⟩
abbrev aggE (e:En):Value:=.agg #[.int .i64 e.key,.int .i64 e.value,.int .i64 e.time,.int .i64 e.who,.bool e.gone]
abbrev boxE (e:En):Obj:=.cells #[.int .i64 e.key,.int .i64 e.value,.int .i64 e.time,.int .i64 e.who,.bool e.gone] 75
theorem xS6 (a b:En) (w:World) :
  Calls Tryz.prog 156 #[aggE a,aggE b] w fun e w'=>e=.returned (.bool (newer a b))/\w'=(w.alloc (boxE a)).alloc (boxE b):=by
 obtain ⟨ak,av,ati,aw,ag⟩:=a;obtain ⟨bk,bv,bt,bw,bg⟩:=b;by_cases h1:ati=bt
 ·subst h1
  by_cases h2:aw=bw
  ·subst h2
   have e1:newer ⟨ak,av,ati,aw,ag⟩ ⟨bk,bv,ati,aw,bg⟩=if ag=bg then decide (bv<av) else bg:=by simp [newer]
   rw [e1];cases ag<;>cases bg
   all_goals
    go_enter Tryz.func156,Tryz.ntmps156
    go_wp2;go_ret
    exact ⟨rfl,rfl⟩
  ·have e1:newer ⟨ak,av,ati,aw,ag⟩ ⟨bk,bv,ati,bw,bg⟩=decide (bw<aw):=by simp [newer,h2]
   rw [e1];have b1:(aw != bw)=true:=bne_iff_ne.2 h2;go_enter Tryz.func156,Tryz.ntmps156
   go_wp2;go_ret
   exact ⟨rfl,rfl⟩
 ·have e1:newer ⟨ak,av,ati,aw,ag⟩ ⟨bk,bv,bt,bw,bg⟩=decide (bt<ati):=by simp [newer,h1]
  rw [e1];have b1:(ati != bt)=true:=bne_iff_ne.2 h1;go_enter Tryz.func156,Tryz.ntmps156
  go_wp2;go_ret
  exact ⟨rfl,rfl⟩
theorem xS7 (e:En) (w:World) :
  Calls Tryz.prog 145 #[aggE e] w fun r w'=>r=.returned (.bool (mayB e))/\w'=w.alloc (boxE e):=by
 obtain ⟨k,v,t,o,g⟩:=e;by_cases hk:k<0\/1048576<k
 ·have e1:mayB ⟨k,v,t,o,g⟩=false:=by unfold mayB;simp only [decide_eq_false_iff_not];omega
  rw [e1];rcases hk with hk|hk
  all_goals
   go_enter Tryz.func145,Tryz.ntmps145
   go_wp2;go_ret
   exact ⟨rfl,rfl⟩
 have hk1:0<=k:=by omega
 have hk2:k<=1048576:=by omega
 by_cases hv:v<0\/1048576<v
 ·have e1:mayB ⟨k,v,t,o,g⟩=false:=by unfold mayB;simp only [decide_eq_false_iff_not];omega
  rw [e1];clear hk;rcases hv with hv|hv
  all_goals
   go_enter Tryz.func145,Tryz.ntmps145
   go_wp2;go_ret
   exact ⟨rfl,rfl⟩
 have hv1:0<=v:=by omega
 have hv2:v<=1048576:=by omega
 by_cases ht:t<0\/1048576<t
 ·have e1:mayB ⟨k,v,t,o,g⟩=false:=by unfold mayB;simp only [decide_eq_false_iff_not];omega
  rw [e1];clear hk hv;rcases ht with ht|ht
  all_goals
   go_enter Tryz.func145,Tryz.ntmps145
   go_wp2;go_ret
   exact ⟨rfl,rfl⟩
 have ht1:0<=t:=by omega
 have ht2:t<=1048576:=by omega
 by_cases ho:o<0\/8<=o
 ·have e1:mayB ⟨k,v,t,o,g⟩=false:=by unfold mayB;simp only [decide_eq_false_iff_not];omega
  rw [e1];clear hk hv ht;rcases ho with ho|ho
  all_goals
   go_enter Tryz.func145,Tryz.ntmps145
   go_wp2;go_ret
   exact ⟨rfl,rfl⟩
 have ho1:0<=o:=by omega
 have ho2:o<8:=by omega
 clear hk hv ht ho;cases g with
 | false =>
  have e1:mayB ⟨k,v,t,o,false⟩=true:=by unfold mayB;simp;omega
  rw [e1];go_enter Tryz.func145,Tryz.ntmps145
  go_wp2;go_ret
  exact ⟨rfl,rfl⟩
 | true =>
  by_cases h0:v=0
  ·subst h0
   have e1:mayB ⟨k,0,t,o,true⟩=true:=by unfold mayB;simp;omega
   rw [e1];go_enter Tryz.func145,Tryz.ntmps145
   go_wp2;go_ret
   exact ⟨rfl,rfl⟩
  ·have e1:mayB ⟨k,v,t,o,true⟩=false:=by unfold mayB;simp only [decide_eq_false_iff_not];intro h;exact h0 (h.2.2.2.2 (by simp))
   rw [e1];have b0:(v==0)=false:=beq_eq_false_iff_ne.2 h0;go_enter Tryz.func145,Tryz.ntmps145
   go_wp2;go_ret
   exact ⟨rfl,rfl⟩
theorem qD0 (e:En) (w:World) :
  Calls Tryz.prog 144 #[aggE e] w fun r w'=>r=.returned (.bool (!mayB e))/\w'=(w.alloc (boxE e)).alloc (boxE e):=by
 have K:=fun W=>xS7 e W;generalize mayB e=r at K ⊢;go_enter Tryz.func144,Tryz.ntmps144
 go_wp2_with (go_at_call 145;refine (K _).mono ?_;rintro r w' ⟨rfl,rfl⟩)
 go_ret
 exact ⟨rfl,rfl⟩
open Go.Shelf
namespace Plain
def idx (p:En->Bool) (l:List En):Int:=if l.findIdx p<l.length then (l.findIdx p:Nat) else -1
theorem yQ4 {p:En->Bool} {l:List En} {k:Nat} (hk:k<l.length) (h:p (en l k)=true) (ha:∀ j,j<k->p (en l j)=false):idx p l=k:=by
 have e:l.findIdx p=k:=by
  rw [List.findIdx_eq hk];rw [zO2 hk] at h;refine ⟨h,fun j hj=>?_⟩;have:=ha j hj;rw [zO2 (by omega)] at this;exact this
 unfold idx;rw [e,if_pos hk]
theorem yE8 {p:En->Bool} {l:List En} (ha:∀ j,j<l.length->p (en l j)=false):idx p l=-1:=by
 have e:l.findIdx p=l.length:=List.findIdx_eq_length.2 fun x hx=>by
  obtain ⟨j,hj,rfl⟩:=List.getElem_of_mem hx;have:=ha j hj;rw [zO2 hj] at this;exact this
 unfold idx;rw [e,if_neg (by omega)]
theorem yQ5 (p:En->Bool) (l:List En):decide (0<=idx p l)=l.any p:=by
 unfold idx;by_cases h:l.findIdx p<l.length
 ·rw [if_pos h,List.any_eq_true.2 ⟨l[l.findIdx p],zH h,List.findIdx_getElem⟩]
  simp
 ·rw [if_neg h]
  have:l.any p=false:=by
   rw [List.any_eq_false];intro x hx hp;exact h (List.findIdx_lt_length_of_exists ⟨x,hx,hp⟩)
  rw [this];rfl
end Plain
def xE0 (g:Nat) (p:En->Bool) (w:World):Prop :=
 ∀ (W:World) (x:En),Below w.heap.size w W->Calls Tryz.prog g #[aggE x] W fun e w'=>e=.returned (.bool (p x))/\Below w.heap.size w w'
theorem xS8 (p:En->Bool) (g:Nat) (eg:∀ args w,(callFunc g args).run Tryz.prog w=.ok (.enter g args) w) (b off n c:Nat) (l:List En) (w:World)
  (hp:xE0 g p w) (hn:l.length=n) (hbig:n<=9223372036854775807) (hb:0<n->b<w.heap.size) (hc:qP w b off l) :
  Calls Tryz.prog 107 #[.slice (some ⟨b,off,none⟩) n c,.func (.func g) #[] #[]] w fun e w'=>e=.returned (.int .i64 (Plain.idx p l))/\Below w.heap.size w w':=by
 have HC:=hid hc;have HP:=hid hp;clear hc hp;go_enter Tryz.func107,Tryz.ntmps107
 go_wp2
 go_loopg [5,8] n (fun gg _ s8 wr=>∃ kk:Nat,kk<=n/\n-kk<=gg/\s8=.int .i64 kk/\Aside (Below w.heap.size w wr)/\Aside (∀ j,j<kk->p (en l j)=false))
 case atStart=>exact ⟨0,zG _,by omega,rfl,Below.refl _ w,fun j hj=>absurd hj (yD _)⟩
 case round =>
  obtain ⟨kk,hkk,hg,rfl,BW,A⟩:=hrel;by_cases hlt:kk<n
  ·have hltz:(kk:Int)<(n:Int):=by omega
   obtain ⟨c0,c1,c2,c3,c4⟩:=(HC.out kk (by omega)).below BW.out (hb (by omega));have hcall:=HP.out wr (en l kk) BW.out;have B:Aside (∀ x,en l kk=x->x=en l kk):=fun x h=>h.symm;generalize hy:en l kk=y at c0 c1 c2 c3 c4 hcall;have HY:Aside (en l kk=y):=hy;clear hy B;cases hq:p y with
   | true =>
    rw [hq] at hcall
    go_wp2_with (go_at_fn g;refine hcall.mono ?_;rintro e w' ⟨rfl,hb'⟩)
    go_ret
    refine ⟨?_,hb'⟩;rw [yQ4 (by omega) (by rw [HY.out];exact hq) A.out];rfl
   | false =>
    rw [hq] at hcall
    go_wp2_with (go_at_fn g;refine hcall.mono ?_;rintro e w' ⟨rfl,hb'⟩)
    go_roundg (n-(kk+1))
    case measure=>omega
    case rel =>
     refine ⟨kk+1,by omega,by omega,by go_num,hb',(show Aside _ from fun j hj=>?_)⟩;by_cases e:j=kk
     ·subst e
      rw [HY.out];exact hq
     ·exact A.out j (by omega)
  ·have hltz:¬ (kk:Int)<(n:Int):=by omega
   have:kk=n:=by omega
   subst this;go_wp2;go_ret
   refine ⟨?_,BW.out⟩;rw [yE8 (fun j hj=>A.out j (by omega))];rfl
theorem zU1 (p:Option Addr) (c:Nat) (f:Value) (w:World) :
  Calls Tryz.prog 107 #[.slice p 0 c,f] w fun e w'=>e=.returned (.int .i64 (-1))/\w'=w:=by
 go_enter Tryz.func107,Tryz.ntmps107
 go_wp2;refine wp_loop_rounds 1 ?_;rw [rounds_succ];go_wp2;go_ret
 exact ⟨rfl,rfl⟩
theorem yQ6 (p:En->Bool) (g:Nat) (eg:∀ args w,(callFunc g args).run Tryz.prog w=.ok (.enter g args) w) (v:Value) (l:List En) (w:World)
  (hp:xE0 g p w) (hbig:l.length<=9223372036854775807) (hs:SegN w v l) (hl:Lies w.heap.size v) :
  Calls Tryz.prog 107 #[v,.func (.func g) #[] #[]] w fun e w'=>e=.returned (.int .i64 (Plain.idx p l))/\Below w.heap.size w w':=by
 rcases hs with ⟨rfl,q,c,rfl⟩|⟨b,off,c,rfl,_,hc⟩
 ·exact (zU1 q c _ w).mono fun e w' ⟨h1,h2⟩=>⟨by rw [h1];rfl,by rw [h2];exact yN⟩
 ·exact xS8 p g eg b off l.length c l w hp rfl hbig (fun h=>hl ⟨b,off,none⟩ _ _ rfl h) hc
theorem zU2 (p:En->Bool) (g:Nat) (eg:∀ args w,(callFunc g args).run Tryz.prog w=.ok (.enter g args) w) (v:Value) (l:List En) (w:World)
  (hp:xE0 g p w) (hbig:l.length<=9223372036854775807) (hs:SegN w v l) (hl:Lies w.heap.size v) :
  Calls Tryz.prog 143 #[v,.func (.func g) #[] #[]] w fun e w'=>e=.returned (.bool (l.any p))/\Below w.heap.size w w':=by
 rw [<- yQ5];have K:=yQ6 p g eg v l w hp hbig hs hl;generalize Plain.idx p l=r at K ⊢;go_enter Tryz.func143,Tryz.ntmps143
 go_wp2_with (go_at_call 107;refine K.mono ?_;rintro e w' ⟨rfl,hb⟩)
 go_ret
 exact ⟨rfl,hb⟩
theorem below_drewN {B:Nat} {w w':World} (h:Below B w w') (q:Nat):Below B w (w'.drewN q):=h.trans ⟨rfl,rfl,rfl,yM,fun _ _=>rfl⟩
theorem zL1 (w:World) (a b:Nat):(w.drewN a).drewN b=w.drewN (a+b):=World.drewN_drewN w a b
namespace Plain
theorem qD1 {l:List En} {k:Nat} (hk:k+1<l.length) (h:¬ (en l k).key<(en l (k+1)).key):ascB l=false:=by
 cases e:ascB l with
 | false=>rfl
 | true=>exact absurd ((xP2 l).1 e k hk) h
end Plain
theorem xE1 (l:List En) (b off c:Nat) (hl:l.length<=9223372036854775807) (h0:0<l.length) (w:World) (hc:qP w b off l) :
  Calls Tryz.prog 146 #[.slice (some ⟨b,off,none⟩) l.length c] w fun e w'=>e=.returned (.bool (ascB l))/\∃ q,w'=w.drewN q:=by
 have HC:=hid hc;clear hc;go_enter Tryz.func146,Tryz.ntmps146
 go_wp2
 go_loopw [3] (fun i wx=>∃ k q:Nat,k<l.length/\i=.int .i64 (k+1:Nat)/\wx=w.drewN q/\∀ j,j<k->(en l j).key<(en l (j+1)).key) (fun i _=>l.length+1-(intOf i).toNat)
 case atStart=>exact ⟨0,0,h0,rfl,rfl,fun j hj=>by omega⟩
 case round =>
  obtain ⟨k,q,hk,rfl,hw,ha⟩:=hrel;have HW:=hid hw;have HA:=hid ha;clear hw ha;by_cases hlt:k+1<l.length
  ·have c1:wr.cell? ⟨b,off+k*5,none⟩=some (.int .i64 (en l k).key):=by rw [HW.out];simpa using (HC.out k (by omega)).c0
   have c2:wr.cell? ⟨b,off+(k+1)*5,none⟩=some (.int .i64 (en l (k+1)).key):=by rw [HW.out];simpa using (HC.out (k+1) hlt).c0
   have hlt':((k:Int)+1)<(l.length:Int):=by omega
   have hk':(k:Int)<(l.length:Int):=by omega
   have hn:=qD1 hlt;generalize hx:(en l k).key=x at c1 hn;generalize hy:(en l (k+1)).key=y at c2 hn;have HX:=hid hx;have HY:=hid hy;clear hx hy;have e1:(((k+1:Nat):Int))=(k:Int)+1:=by omega
   rw [e1];clear e1;by_cases hxy:x<y
   ·clear hn
    have HXY:=hid hxy;go_wp2
    go_quiet (fail)
    go_wp2
    go_roundw
    case rel =>
     refine ⟨k+1,_,hlt,by go_num,by rw [HW.out,zL1],fun j hj=>?_⟩;by_cases e:j=k
     ·subst e;rw [HX.out,HY.out];exact HXY.out
     ·exact HA.out j (by omega)
    case measure=>simp [intOf];omega
   ·have hn':=hid (hn hxy)
    clear hn;have hyx:y<=x:=by omega
    go_wp2
    go_quiet (fail)
    go_wp2;go_ret
    exact ⟨by rw [hn'.out];rfl,_,by rw [HW.out,zL1]⟩
  ·have ek:k+1=l.length:=by omega
   have HE:=hid ((xP2 l).2 fun j hj=>HA.out j (by omega));have hge:¬ (((k+1:Nat):Int))<(l.length:Int):=by omega
   go_wp2;go_ret
   exact ⟨by rw [HE.out];rfl,_,HW.out⟩
theorem yQ7 (p:Option Addr) (c:Nat) (w:World) :
  Calls Tryz.prog 146 #[.slice p 0 c] w fun e w'=>e=.returned (.bool true)/\w'=w:=by
 go_enter Tryz.func146,Tryz.ntmps146
 go_wp2;refine wp_loop_rounds 1 ?_;rw [rounds_succ];go_wp2;go_ret
 exact ⟨rfl,rfl⟩
theorem xS9 (v:Value) (l:List En) (hl:l.length<=9223372036854775807) (w:World) (hs:SegN w v l) :
  Calls Tryz.prog 146 #[v] w fun e w'=>e=.returned (.bool (ascB l))/\Below w.heap.size w w':=by
 rcases hs with ⟨rfl,q,c,rfl⟩|⟨b,off,c,rfl,_,hc⟩
 ·exact (yQ7 q c w).mono fun e w' ⟨h1,h2⟩=>⟨by rw [h1];rfl,by rw [h2];exact yN⟩
 ·by_cases h0:0<l.length
  ·exact (xE1 l b off c hl h0 w hc).mono fun e w' ⟨h1,q,h2⟩=>⟨h1,by rw [h2];exact below_drewN yN q⟩
  ·obtain rfl:l=[]:=zP.1 (by omega)
   exact (yQ7 _ c w).mono fun e w' ⟨h1,h2⟩=>⟨by rw [h1];rfl,by rw [h2];exact yN⟩
theorem xE2 (w:World):xE0 144 (fun e=>!mayB e) w:=fun W x hb =>
 (qD0 x W).mono fun e w' ⟨h1,h2⟩=>⟨h1,by rw [h2];exact (hb.alloc hb.size _).alloc (by simpa using Nat.le_succ_of_le hb.size) _⟩
namespace Plain
theorem xE3 {l:List En} (h:8<l.length):mayL l=false:=by unfold mayL;rw [decide_eq_false (by omega)];rfl
theorem xT0 {l:List En} (h:l.any (fun e=>!mayB e)=true):mayL l=false:=by
 unfold mayL;have:l.all mayB=false:=by
  rw [List.all_eq_false];obtain ⟨x,hx,hp⟩:=List.any_eq_true.1 h;exact ⟨x,hx,by simpa using hp⟩
 rw [this];simp
theorem xT1 {l:List En} (h8:l.length<=8) (h:l.any (fun e=>!mayB e)=false):mayL l=ascB l:=by
 unfold mayL;have:l.all mayB=true:=by
  rw [zS];intro x hx;have:=(List.any_eq_false.1 h) x hx;simpa using this
 rw [this,decide_eq_true h8];simp
end Plain
theorem vA (v:Value) (l:List En) (hl:l.length<=9223372036854775807) (w:World) (hs:SegN w v l) (hy:Lies w.heap.size v) :
  Calls Tryz.prog 123 #[v] w fun e w'=>e=.returned (.bool (mayL l))/\Below w.heap.size w w':=by
 obtain ⟨p,c,rfl,_⟩:=hs.form;by_cases h8:l.length<=8
 ·have h8':(l.length:Int)<=8:=by omega
  have eg:∀ args w,(callFunc 144 args).run Tryz.prog w=.ok (.enter 144 args) w:=enters_of Tryz.func144 (by kernel_rfl) rfl;have K:=zU2 (fun e=>!mayB e) 144 eg _ l w (xE2 w) hl hs hy;have HS:=hid hs;have HY:=hid hy;clear hs hy;cases hq:l.any (fun e=>!mayB e) with
  | true =>
   rw [hq] at K;rw [xT0 hq];clear hq;go_enter Tryz.func123,Tryz.ntmps123
   go_wp2_with (go_at_call 143;refine K.mono ?_;rintro e w1 ⟨rfl,b1⟩)
   go_ret
   exact ⟨rfl,b1⟩
  | false =>
   rw [hq] at K;rw [xT1 h8 hq];clear hq;have K2:=fun w1 b1=>xS9 _ l hl w1 (HS.out.below (B:=w.heap.size) (w':=w1) b1 HY.out);generalize ascB l=r at K2 ⊢;go_enter Tryz.func123,Tryz.ntmps123
   go_wp2_with (first
    | (go_at_call 143;refine K.mono ?_;rintro e w1 ⟨rfl,b1⟩)
    | (go_at_call 146;refine (K2 _ (by assumption)).mono ?_;rintro e w2 ⟨rfl,b2⟩))
   go_ret
   exact ⟨rfl,b1.trans (b2.mono b1.size)⟩
 ·have h8':¬ (l.length:Int)<=8:=by omega
  rw [xE3 (by omega)];clear hs;go_enter Tryz.func123,Tryz.ntmps123
  go_wp2;go_ret
  exact ⟨rfl,yN⟩
theorem Tryz.infoEntry:(Tryz.prog.info? 75).map (fun i=>(i.zero,i.size,i.bytes))=some (some (.agg #[.int .i64 0,.int .i64 0,.int .i64 0,.int .i64 0,.bool false]),5,40):=by kernel_rfl
theorem Tryz.sizeEntry:(Tryz.prog.info? 75).map (·.size)=some 5:=by kernel_rfl
def setE (w:World) (g o:Nat) (y:En):World :=
 ((((w.setCell ⟨g,o,none⟩ (.int .i64 y.key)).setCell ⟨g,o+1,none⟩ (.int .i64 y.value)).setCell ⟨g,o+2,none⟩ (.int .i64 y.time)).setCell ⟨g,o+3,none⟩ (.int .i64 y.who)).setCell ⟨g,o+4,none⟩ (.bool y.gone)
theorem jP {w:World} {g i:Nat} {cur:Array Value} {t:TypeId} {v:Value} (hg:w.heap[g]?=some (.cells cur t (0,0))):(w.setCell ⟨g,i,none⟩ v).heap[g]?=some (.cells (cur.setIfInBounds i v) t (0,0)):=by
 simp [World.setCell,Array.getElem?_modify,hg]
theorem yJ8 (pre post:List Value) (x0 x1 x2 x3 x4 a b c d e:Value) :
  (((((pre++x0 :: x1 :: x2 :: x3 :: x4 :: post).set pre.length a).set (pre.length+1) b).set (pre.length+2) c).set (pre.length+3) d).set (pre.length+4) e=pre++[a,b,c,d,e]++post:=by
 rw [List.set_append_right _ _ (by omega),List.set_append_right _ _ (by omega),List.set_append_right _ _ (by omega),List.set_append_right _ _ (by omega),List.set_append_right _ _ (by omega)];simp
theorem yQ8 (l:List Value) (o:Nat) (a b c d e:Value) (h:o+5<=l.length) :
  ((((l.set o a).set (o+1) b).set (o+2) c).set (o+3) d).set (o+4) e=l.take o++[a,b,c,d,e]++l.drop (o+5):=by
 have hl:(l.take o).length=o:=by rw [zT];omega
 have hd:(l.drop o).length=l.length-o:=List.length_drop;have e1:l=l.take o++l.drop o:=(List.take_append_drop o l).symm;have e2:l.drop (o+5)=(l.drop o).drop 5:=by rw [List.drop_drop]
 rw [e2];generalize l.drop o=r at hd e1
 match r,hd with
 | [],hd=>simp at hd;omega
 | [_],hd=>simp at hd;omega
 | [_,_],hd=>simp at hd;omega
 | [_,_,_],hd=>simp at hd;omega
 | [_,_,_,_],hd=>simp at hd;omega
 | x0 :: x1 :: x2 :: x3 :: x4 :: post,_ =>
  have:=yJ8 (l.take o) post x0 x1 x2 x3 x4 a b c d e;rw [hl,<- e1] at this;exact this
theorem zZ3 (cur:List Value) (o n:Nat) (cs:List Value) (h:o+cs.length<=n) (hn:n<=cur.length) :
  (cur.take o++cs++cur.drop (o+cs.length)).take n=(cur.take n).take o++cs++(cur.take n).drop (o+cs.length):=by
 have h1:(cur.take o).length=o:=by rw [zT];omega
 rw [List.take_take,Nat.min_eq_left (by omega),List.drop_take,List.take_append,List.take_append,zD,h1];rw [yA (l:=cur.take o) (by omega),yA (l:=cs) (by omega)]
theorem yQ9 (l:List En) (i:Nat) (h:i<l.length) (y:En):(evals l).take (i*5)++encE y++(evals l).drop (i*5+5)=evals (l.set i y):=by
 have e:l.set i y=l.take i++y :: l.drop (i+1):=by rw [List.set_eq_take_append_cons_drop,if_pos h]
 rw [(qZ l i (by omega)).1,show i*5+5=(i+1)*5 by omega,(qZ l (i+1) (by omega)).2,e,kA,jL,yF]
def zZ4 (cur:Array Value) (o:Nat) (y:En):Array Value :=
 ((((cur.setIfInBounds o (.int .i64 y.key)).setIfInBounds (o+1) (.int .i64 y.value)).setIfInBounds (o+2) (.int .i64 y.time)).setIfInBounds (o+3) (.int .i64 y.who)).setIfInBounds (o+4) (.bool y.gone)
theorem yE9 {w:World} {g o:Nat} {cur:Array Value} {t:TypeId} (hg:w.heap[g]?=some (.cells cur t (0,0))) (y:En):(setE w g o y).heap[g]?=some (.cells (zZ4 cur o y) t (0,0)) :=
 jP (jP (jP (jP (jP hg))))
theorem yJ9 (cur:Array Value) (o:Nat) (y:En):(zZ4 cur o y).size=cur.size:=by simp [zZ4]
theorem zL2 (cur:Array Value) (o:Nat) (y:En) (h:o+5<=cur.size):(zZ4 cur o y).toList=cur.toList.take o++encE y++cur.toList.drop (o+5):=by
 unfold zZ4;simp only [Array.toList_setIfInBounds];exact yQ8 _ _ _ _ _ _ _ (by simpa using h)
theorem yK0 (cur:Array Value) (l:List En) (i:Nat) (y:En) (hi:i<l.length) (hs:l.length*5<=cur.size) (ht:cur.toList.take (l.length*5)=evals l):(zZ4 cur (i*5) y).toList.take (l.length*5)=evals (l.set i y):=by
 rw [zL2 cur (i*5) y (by omega)];have e:=zZ3 cur.toList (i*5) (l.length*5) (encE y) (by rw [xH];omega) (by rw [Array.length_toList];exact hs);rw [ht,xH,yQ9 l i hi] at e;exact e
theorem OwnN.set {w:World} {B T g n c:Nat} {l:List En} (h:OwnN w B T (.slice (some ⟨g,0,none⟩) n c) l) (i:Nat) (hi:i<l.length) (y:En):OwnN (setE w g (i*5) y) B T (.slice (some ⟨g,0,none⟩) n c) (l.set i y):=by
 obtain ⟨g',cap,cur,e,hB,hb,hc,hm,hs,ht⟩:=h.row (by omega);simp only [Value.slice.injEq,Option.some.injEq,Addr.mk.injEq,and_true] at e;obtain ⟨rfl,rfl,rfl⟩:=e;have hlen:(l.set i y).length=l.length:=List.length_set;have key:=OwnN.mk (w:=setE w g (i*5) y) (l:=l.set i y) (T:=T) (cap:=c) hB (yE9 hb y) (by rw [hlen];exact hc) hm (by rw [yJ9];exact hs) (by rw [hlen];exact yK0 cur l i y hi (by omega) ht);rw [hlen] at key;exact key
theorem zL3 {B g o:Nat} {w0 w:World} (h:Below B w0 w) (hg:B<=g) (y:En):Below B w0 (setE w g o y) :=
 ((((h.setCell (p:=⟨g,o,none⟩) hg _).setCell (p:=⟨g,o+1,none⟩) hg _).setCell (p:=⟨g,o+2,none⟩) hg _).setCell (p:=⟨g,o+3,none⟩) hg _).setCell (p:=⟨g,o+4,none⟩) hg _
theorem OwnN.frozen {w:World} {B T g n c:Nat} {l:List En} (h:OwnN w B T (.slice (some ⟨g,0,none⟩) n c) l) (hl:0<l.length) (o:Nat):w.frozen? ⟨g,o,none⟩=false:=by
 obtain ⟨g',cap,cur,e,hB,hb,_⟩:=h.row hl;injection e with e1 e2 e3;injection e1 with e1;injection e1 with e1 _ _;subst e1;simp [World.frozen?,hb]
theorem OwnN.at {w:World} {B T:Nat} {v:Value} {l:List En} (h:OwnN w B T v l) (hl:0<l.length):∃ g c,v=.slice (some ⟨g,0,none⟩) l.length c/\B<=g/\g<w.heap.size/\l.length<=c/\c<=9223372036854775807:=by
 obtain ⟨g,c,cur,e,hB,hb,hc,hm,_⟩:=h.row hl;exact ⟨g,c,e,hB,(zJ.1 hb).1,hc,hm⟩
theorem OwnN.form {w:World} {B T:Nat} {v:Value} {l:List En} (h:OwnN w B T v l):∃ p c,v=.slice p l.length c:=by
 rcases h.2 with ⟨rfl,h0⟩|⟨g,cap,_,rfl,_⟩
 ·exact ⟨_,_,by rw [h0]⟩
 ·exact ⟨_,_,rfl⟩
theorem zL4 (a:Addr) (n c:Nat) (l:List En) (hn:l.length=n) (h8:n<=1000) (w:World) (hlt:0<n->a.block<w.heap.size) (hc:∀ j u,(evals l)[j]?=some u->w.cell? (a.add j)=some u) :
  Calls Tryz.prog 42 #[.slice (some a) n c] w fun e w'=>∃ v',e=.returned v'/\OwnN w' w.heap.size 75 v' l/\Below w.heap.size w w':=by
 obtain ⟨i0,hi,hz0,hz1,hz2⟩:=info_parts Tryz.infoEntry;have HC:=hid hc;have HN:=hid hn;have HL:=hid hlt;clear hc hn hlt;have he:∀ w:World,(binOp .eql 56 (.slice (some a) n c) (.slice none 0 0)).run Tryz.prog w=.ok (.bool false) w:=fun _=>rfl;have hown:(w.alloc (.cells #[] 75)).ownsRow w.heap.size 75 5 (.slice (some ⟨w.heap.size,0,none⟩) 0 0) 0 [] :=
  ⟨rfl,.inr ⟨w.heap.size,0,#[],rfl,yM,yE _ _,yM,by unfold maxLen;omega,rfl,rfl⟩⟩
 go_enter Tryz.func42,Tryz.ntmps42
 go_wp2_with (first
  | (at_builtin;refine wpList_append_own _ rfl _ _ 56 rfl w.heap.size 75 i0 _ 5 40 Tryz.underlying56 hi hz0 hz1 hz2 rfl (by decide) _ _ _ rfl hown a n c (evals l) rfl ?c0 ?c1 ?c2 ?c3 ?c4 ?c5 ?_)
  | go_in)
 case c0=>rw [xY,HN.out]
 case c1 =>
  intro j u hj;have h1:=HC.out j u hj;have hjl:=(List.getElem?_eq_some_iff.1 hj).1;rw [xY,HN.out] at hjl;have h2:(a.add j).block<w.heap.size:=by
   have:=HL.out (by omega);by_cases h:j=0
   ·subst h;simpa [Addr.add] using this
   ·simpa [Addr.add,h] using this
  exact (((Below.refl w.heap.size w).alloc yM (.cells #[] 75)).cell h2).trans h1
 case c2=>exact zH3 l
 case c3=>unfold maxLen;omega
 case c4=>omega
 case c5=>simp
 intro v' w1 hown' hgrow _;have R:=hid (show OwnN w1 w.heap.size 75 v' l by
  have e:=HN.out;unfold OwnN;rw [e];simpa using hown')
 have RB:=hid (show Below w.heap.size w w1 from ((Below.refl w.heap.size w).alloc yM (.cells #[] 75)).grown hgrow (by simp) (fun j hj=>by simp [Value.ownBlock] at hj;omega));clear hown' hgrow he hown;go_wp2;go_ret
 exact ⟨v',rfl,R.out,RB.out⟩
theorem yK1 (n c:Nat) (w:World):Calls Tryz.prog 42 #[.slice none n c] w fun e w'=>e=.returned (.slice none 0 0)/\w'=w:=by
 have he:∀ w:World,(binOp .eql 56 (.slice none n c) (.slice none 0 0)).run Tryz.prog w=.ok (.bool true) w:=fun _=>rfl;go_enter Tryz.func42,Tryz.ntmps42
 go_wp2;go_ret
 exact ⟨rfl,rfl⟩
theorem zH5 (v:Value) (l:List En) (h8:l.length<=1000) (w:World) (hs:SegN w v l) (hy:Lies w.heap.size v) :
  Calls Tryz.prog 42 #[v] w fun e w'=>∃ v',e=.returned v'/\OwnN w' w.heap.size 75 v' l/\Below w.heap.size w w':=by
 rcases hs with ⟨rfl,q,c,rfl⟩|⟨b,off,c,rfl,_,hc⟩
 ·cases q with
  | none=>exact (yK1 0 c w).mono fun e w' ⟨h1,h2⟩=>⟨_,h1,OwnN.nil _ _ _,by rw [h2];exact yN⟩
  | some a=>exact zL4 a 0 c [] rfl (by omega) w (fun h=>by omega) (fun j u hj=>by simp [evals] at hj)
 ·exact zL4 ⟨b,off,none⟩ l.length c l rfl h8 w (fun h=>hy ⟨b,off,none⟩ _ _ rfl h) (fun j u hj=>by rw [zO5];exact hc.vals j u hj)
namespace Plain
def cmpI (a b:Int):Int:=if a<b then -1 else if b<a then 1 else 0
end Plain
theorem xP3 (x:En) (k:Int) (w:World) :
  Calls Tryz.prog 153 #[aggE x,.int .i64 k] w fun e w'=>e=.returned (.int .i64 (cmpI x.key k))/\w'=w.alloc (boxE x):=by
 obtain ⟨xk,xv,xt,xo,xg⟩:=x;unfold cmpI;dsimp only;by_cases h1:xk<k
 ·rw [if_pos h1]
  go_enter Tryz.func153,Tryz.ntmps153
  go_wp2;go_ret
  exact ⟨rfl,rfl⟩
 ·rw [if_neg h1]
  by_cases h2:k<xk
  ·rw [if_pos h2]
   go_enter Tryz.func153,Tryz.ntmps153
   go_wp2;go_ret
   exact ⟨rfl,rfl⟩
  ·rw [if_neg h2]
   go_enter Tryz.func153,Tryz.ntmps153
   go_wp2;go_ret
   exact ⟨rfl,rfl⟩
theorem zZ5 (b off n c:Nat) (k:Int) (l:List En) (hs:Srt l) (hn:l.length=n) (hbig:n<=1000) (w:World) (hb:0<n->b<w.heap.size) (hc:qP w b off l) :
  Calls Tryz.prog 152 #[.slice (some ⟨b,off,none⟩) n c,.int .i64 k,.func (.func 153) #[] #[]] w fun e w' =>
   e=.returned (.tuple #[.int .i64 (Plain.less k l:Nat),.bool (hasK k l)])/\Below w.heap.size w w':=by
 have HC:=hid hc;have HN:=hid hn;have HS:=hid hs;have HL:=hid (yP6 k l);clear hc hn hs;go_enter Tryz.func152,Tryz.ntmps152
 go_wp2
 go_loopw [9,10] (fun s9 s10 wx=>∃ i j:Nat,s9=.int .i64 i/\s10=.int .i64 j/\i<=Plain.less k l/\Plain.less k l<=j/\j<=n/\Below w.heap.size w wx) (fun s9 s10 _=>(intOf s10).toNat-(intOf s9).toNat)
 case atStart=>exact ⟨0,n,rfl,rfl,zG _,by rw [<- HN.out];exact HL.out,yM,yN⟩
 case round =>
  obtain ⟨i,j,rfl,rfl,h1,h2,h3,hbel⟩:=hrel;have HB:=hid hbel;have H1:=hid h1;have H2:=hid h2;clear hbel h1 h2;by_cases hij:i<j
  ·have hij':(i:Int)<(j:Int):=by omega
   obtain ⟨h,hh⟩:∃ h,h=(i+j)/2:=⟨_,rfl⟩;have hh1:i<=h:=by omega
   have hh2:h<j:=by omega
   have hh2':(h:Int)<(n:Int):=by omega
   have hdiv:((i:Int)+(j:Int))/2=(h:Int):=by omega
   have HH:=hid hh;clear hh;obtain ⟨c0,c1,c2,c3,c4⟩:=(HC.out h (by rw [HN.out];omega)).below HB.out (hb (by omega));have KC:=fun W=>xP3 (en l h) k W;have HA:=hid (yP7 (k:=k) HS.out (i:=h) (by rw [HN.out];omega));generalize en l h=y at c0 c1 c2 c3 c4 KC HA;by_cases hy:y.key<k
   ·have e1:cmpI y.key k=-1:=by unfold cmpI;rw [if_pos hy]
    rw [e1] at KC;have hlo:=HA.out.1 hy;clear e1
    go_wp2_with (go_at_call 153;refine (KC _).mono ?_;rintro e w' ⟨rfl,rfl⟩)
    go_roundw
    case rel=>exact ⟨h+1,j,by go_num,rfl,hlo,H2.out,h3,HB.out.alloc HB.out.size _⟩
    case measure=>simp [intOf];omega
   ·have hz:¬ cmpI y.key k<0:=by
     unfold cmpI;rw [if_neg hy];split<;>omega
    have hhi:Plain.less k l<=h:=by
     have:=mt HA.out.2 hy;omega
    generalize cmpI y.key k=z at KC hz;have hz0:0<=z:=by omega
    go_wp2_with (go_at_call 153;refine (KC _).mono ?_;rintro e w' ⟨rfl,rfl⟩)
    go_roundw
    case rel=>exact ⟨i,h,rfl,rfl,H1.out,hhi,by omega,HB.out.alloc HB.out.size _⟩
    case measure=>simp [intOf];omega
  ·have hij':¬ (i:Int)<(j:Int):=by omega
   have ei:i=Plain.less k l:=by have:=H1.out;have:=H2.out;omega
   by_cases hin:i<n
   ·have hin':(i:Int)<(n:Int):=by omega
    obtain ⟨c0,c1,c2,c3,c4⟩:=(HC.out i (by rw [HN.out];exact hin)).below HB.out (hb (by omega));have KC:=fun W=>xP3 (en l i) k W;have HA:=hid (mt (yP7 (k:=k) HS.out (i:=i) (by rw [HN.out];exact hin)).1 (by omega));have HK:=hid (show hasK k l=decide ((en l i).key=k) by
     unfold hasK;rw [<- ei,HN.out];simp [hin])
    have HE:=hid ei;clear ei;generalize en l i=y at c0 c1 c2 c3 c4 KC HA HK;have hcm:cmpI y.key k=if y.key=k then 0 else 1:=by
     have:=HA.out;unfold cmpI;rw [if_neg this];by_cases e:y.key=k
     ·rw [if_pos e,if_neg (by omega)]
     ·rw [if_neg e,if_pos (by omega)]
    rw [hcm] at KC;clear hcm;by_cases e:y.key=k
    ·rw [if_pos e] at KC
     have HR:=hid (show hasK k l=true by rw [HK.out];exact decide_eq_true e);clear e
     go_wp2_with (go_at_call 153;refine (KC _).mono ?_;rintro e w' ⟨rfl,rfl⟩)
     go_ret2
     exact ⟨by rw [HR.out,<- HE.out];rfl,HB.out.alloc HB.out.size _⟩
    ·rw [if_neg e] at KC
     have HR:=hid (show hasK k l=false by rw [HK.out];exact decide_eq_false e);clear e
     go_wp2_with (go_at_call 153;refine (KC _).mono ?_;rintro e w' ⟨rfl,rfl⟩)
     go_ret2
     exact ⟨by rw [HR.out,<- HE.out];rfl,HB.out.alloc HB.out.size _⟩
   ·have hin':¬ (i:Int)<(n:Int):=by omega
    have HR:=hid (show hasK k l=false by
     unfold hasK;rw [<- ei,HN.out];simp [hin])
    have HE:=hid ei;clear ei;go_wp2;go_ret2
    exact ⟨by rw [HR.out,<- HE.out];rfl,HB.out⟩
theorem yK2 (p:Option Addr) (c:Nat) (k:Int) (f:Value) (w:World) :
  Calls Tryz.prog 152 #[.slice p 0 c,.int .i64 k,f] w fun e w'=>e=.returned (.tuple #[.int .i64 0,.bool false])/\w'=w:=by
 go_enter Tryz.func152,Tryz.ntmps152
 go_wp2;refine wp_loop_rounds 1 ?_;rw [rounds_succ];go_wp2;go_ret2
 exact ⟨rfl,rfl⟩
theorem yK3 (v:Value) (k:Int) (l:List En) (hs:Srt l) (hbig:l.length<=1000) (w:World) (h:SegN w v l) (hy:Lies w.heap.size v) :
  Calls Tryz.prog 152 #[v,.int .i64 k,.func (.func 153) #[] #[]] w fun e w' =>
   e=.returned (.tuple #[.int .i64 (Plain.less k l:Nat),.bool (hasK k l)])/\Below w.heap.size w w':=by
 rcases h with ⟨rfl,q,c,rfl⟩|⟨b,off,c,rfl,_,hc⟩
 ·exact (yK2 q c k _ w).mono fun e w' ⟨h1,h2⟩=>⟨by rw [h1];rfl,by rw [h2];exact yN⟩
 ·exact zZ5 b off l.length c k l hs rfl hbig w (fun h0=>hy ⟨b,off,none⟩ _ _ rfl h0) hc
theorem zO6 {P:Program} {w w':World} {o:Oper} {a:Act} {K:Act->World->Prop} {Q:Exit->Act->World->Prop} {v:Value} (hr:(execOp a.eval o).run P w=.ok (.value v) w') (h:K (a.put o.dst v) w'):o.wp P a w K Q:=by
 unfold Oper.wp;rw [hr];exact h
theorem zH6 {P:Program} {w w':World} {o:Oper} {e:Operand->Value} {d s:Operand} {t t':TypeId} {x y v:Value} (ho:o.op=.call { callee:=.builtin .copy,args:=#[d,s],argTypes:=#[t,t'] }) (hd:e d=x) (hs:e s=y)
  (hr:(Builtin.copy_ #[t,t'] o.type #[x,y]).run P w=.ok v w'):(execOp e o).run P w=.ok (.value v) w':=by
 simp [execOp,ho,resolve,invoke,builtin,hd,hs,hr]
theorem vL {P:Program} {ops:Array Oper} {o:Oper} {a:Act} {w:World} {K:Act->World->Prop} {Q:Exit->Act->World->Prop} {E:Prop} (hgd:o.guard=none) (d s:Operand) (t t':TypeId)
  (ho:o.op=.call { callee:=.builtin .copy,args:=#[d,s],argTypes:=#[t,t'] }) (x y:Value) (hd:a.eval d=x) (hs:a.eval s=y) {v:Value} {w':World}
  (hr:(Builtin.copy_ #[t,t'] o.type #[x,y]).run P w=.ok v w') (h:K (a.put o.dst v) w'):if Region.wanted o (yielded ops a.tmps)=true then o.wp P a w K Q else E:=by
 rw [if_pos (by simp [Region.wanted,hgd])];exact zO6 (zH6 ho hd hs hr) h
theorem zO7 {w:World} {vb:Nat} {x:En} (h:w.heap[vb]?=some (boxE x)):∀ j u,(encE x)[j]?=some u->w.cell? ((⟨vb,0,none⟩:Addr).add j)=some u:=by
 intro j u hj;rw [zH4];simp only [World.cell?,h]
 match j,hj with
 | 0,hj=>injection hj with hj;subst hj;rfl
 | 1,hj=>injection hj with hj;subst hj;rfl
 | 2,hj=>injection hj with hj;subst hj;rfl
 | 3,hj=>injection hj with hj;subst hj;rfl
 | 4,hj=>injection hj with hj;subst hj;rfl
theorem yK4 (v:Value) (vb B:Nat) (l:List En) (x:En) (w:World) (hl:l.length<=1000) (hB:B<=w.heap.size) (h:OwnN w B 75 v l) (hv:w.heap[vb]?=some (boxE x)) :
  Calls Tryz.prog 155 #[v,.int .i64 (l.length:Nat),.slice (some ⟨vb,0,none⟩) 1 1] w fun e w' =>
   ∃ v',e=.returned v'/\OwnN w' B 75 v' (l++[x])/\Below B w w':=by
 obtain ⟨p,c,rfl⟩:=h.form;obtain ⟨i0,hi,hz0,hz1,hz2⟩:=info_parts Tryz.infoEntry;have H:=hid (show w.ownsRow B 75 5 (.slice p l.length c) l.length (evals l) from h);have HV:=hid (zO7 hv);have HG:=hid (show ∀ j,(Value.slice p l.length c).ownBlock=some j->B<=j by
  intro j hj;rcases h.2 with ⟨e,_⟩|⟨g,cap,cur,e,hg,_⟩
  ·rw [e] at hj;simp [Value.ownBlock] at hj
  ·rw [e] at hj;simp [Value.ownBlock] at hj;omega)
 clear h hv;generalize hn:l.length=n at hl H HG ⊢;have HN:=hid hn;clear hn;have hcn:n=c\/¬ c=n:=by omega
 rcases hcn with rfl|hcn
 all_goals
  go_enter Tryz.func155,Tryz.ntmps155
  go_wp2_with (first
   | (at_builtin;refine wpList_append_own _ rfl _ _ 56 rfl B 75 i0 _ 5 40 Tryz.underlying56 hi hz0 hz1 hz2 rfl (by decide) _ n (evals l) rfl ?c0 ⟨vb,0,none⟩ 1 1 (encE x) rfl rfl ?c1 ?c2 ?c3 ?c4 ?c5 ?_)
   | fail)
  case c0=>exact H.out
  case c1=>exact HV.out
  case c2=>exact zE8 _
  case c3=>unfold maxLen;omega
  case c4=>omega
  case c5=>exact hB
  intro v' w2 hown' hgrow _;have R:=hid (show OwnN w2 B 75 v' (l++[x]) by
   unfold OwnN;rw [kA,zD,HN.out];have e:evals [x]=encE x:=by rw [jL];simp [evals]
   rw [e];exact hown')
  have RB:=hid (show Below B w w2 from yN.grown hgrow hB HG.out);clear hown' hgrow;go_wp2;go_ret
  exact ⟨v',rfl,R.out,RB.out⟩
theorem xT2 (cur:Array Value) (l:List En) (x:En) (i:Nat) (hi:i<l.length) (hs:(l.length+1)*5<=cur.size) (ht:cur.toList.take (i*5)=evals (l.take i)) :
  (((cur.toList.take (i*5)++encE x++cur.toList.drop (i*5+5)).take ((i+1)*5)++evals (l.drop i)++(cur.toList.take (i*5)++encE x++cur.toList.drop (i*5+5)).drop ((i+1)*5+(l.length-i)*5)).take ((l.length+1)*5))=evals (l.take i++x :: l.drop i):=by
 have h1:(cur.toList.take (i*5)).length=i*5:=by rw [zT,Array.length_toList];omega
 have h2:(cur.toList.take (i*5)++encE x).length=(i+1)*5:=by rw [zD,h1,xH];omega
 have h3:(cur.toList.take (i*5)++encE x++cur.toList.drop (i*5+5)).take ((i+1)*5)=cur.toList.take (i*5)++encE x:=by
  rw [List.take_append_of_le_length (by omega),yA (by omega)]
 have h4:(evals (l.drop i)).length=(l.length-i)*5:=by rw [xY,List.length_drop]
 rw [h3,List.take_append_of_le_length (by rw [zD,h2,h4];omega),yA (by rw [zD,h2,h4];omega),ht,kA,jL,yF]
theorem vM (cur:List Value) (o:Nat) (cs:List Value) (h:o+cs.length<=cur.length):(cur.take o++cs++cur.drop (o+cs.length)).length=cur.length:=by
 simp only [List.length_append,List.length_take,List.length_drop];omega
theorem yF0 (l:List En) (x:En) (i:Nat) (hi:i<=l.length):(l.take i++x :: l.drop i).length=l.length+1:=by
 simp only [List.length_append,List.length_cons,List.length_take,List.length_drop];omega
theorem zZ6 (g n i vb B:Nat) (l:List En) (x:En) (w:World) (hn:l.length=n) (hi:i<n) (hl:n<=1000) (hB:B<=w.heap.size) (h:OwnN w B 75 (.slice (some ⟨g,0,none⟩) n n) l) (hv:w.heap[vb]?=some (boxE x)) :
  Calls Tryz.prog 155 #[.slice (some ⟨g,0,none⟩) n n,.int .i64 i,.slice (some ⟨vb,0,none⟩) 1 1] w fun e w' =>
   ∃ v',e=.returned v'/\OwnN w' B 75 v' (l.take i++x :: l.drop i)/\Below B w w':=by
 obtain ⟨i0,hi0,hz0,hz1,hz2⟩:=info_parts Tryz.infoEntry;have hcs:=h.cells.vals;simp only [Nat.zero_add] at hcs;have hgw:g<w.heap.size:=h.seg.2 ⟨g,0,none⟩ _ _ rfl (by omega);have hvw:vb<w.heap.size:=(zJ.1 hv).1;have hti:(evals (l.take i)).length=i*5:=by rw [xY,zT];omega
 have hdi:(evals (l.drop i)).length=(n-i)*5:=by rw [xY,List.length_drop,hn]
 have hold:(Builtin.firstCells i0.size i (.slice (some ⟨g,0,none⟩) i n)).run Tryz.prog w.drew=.ok (evals (l.take i)).toArray w.drew:=by
  rw [hz1];exact run_firstCells_some w.drew 5 i ⟨g,0,none⟩ i n (evals (l.take i)) hti (fun j v hj=>by
   rw [zH4];refine hcs j v ?_;rw [<- (qZ l i (by omega)).1,List.getElem?_take] at hj;split at hj
   ·exact hj
   ·cases hj)
 obtain ⟨G,hG⟩:∃ G,G=grownCap w (n+1) n 75:=⟨_,rfl⟩;have hGn:n+1<=G:=by rw [hG];exact grownCap_ge w _ _ _
 have hG63:G<=maxLen:=by rw [hG];exact grownCap_le_maxLen w (n+1) n 75 (by unfold maxLen;omega)
 obtain ⟨z,hz⟩:∃ z:Value,z=.agg #[.int .i64 0,.int .i64 0,.int .i64 0,.int .i64 0,.bool false]:=⟨_,rfl⟩;have hzc:z.cells.size=5:=by rw [hz];rfl
 rw [<- hz] at hz0;obtain ⟨ROW,hROW⟩:∃ ROW:Array Value,ROW=(evals (l.take i)).toArray++Builtin.zeroCells z.cells (n+1-i)++Builtin.zeroCells z.cells (G-(n+1)):=⟨_,rfl⟩;have hRs:ROW.size=G*5:=by
  rw [hROW];simp [Builtin.zeroCells,hzc,hti];omega
 have hRt:ROW.toList.take (i*5)=evals (l.take i):=by
  rw [hROW];simp only [Array.toList_append,List.append_assoc];rw [List.take_append_of_le_length (by omega),yA (by omega)]
 obtain ⟨W1,hW1⟩:∃ W1,W1=w.drew.alloc (.cells ROW 75):=⟨_,rfl⟩;have hrz:∀ ty,(Builtin.append_ #[56,3] ty #[.slice (some ⟨g,0,none⟩) i n,.int .i64 ((n:Int)+1-(i:Int))]).run Tryz.prog w=.ok (.slice (some ⟨w.heap.size,0,none⟩) (n+1) G) W1:=fun ty=>by
  have hk:=Lib.run_append_grow_zeros w 56 3 ty 75 i0 z .i64 .i64 Tryz.underlying56 Tryz.underlying3 hi0 hz0 (some ⟨g,0,none⟩) i n (evals (l.take i)) hold (n+1-i) (by omega) (by omega) (by omega) (by omega) (by rw [hz2];omega) (by rw [hz2,show i+(n+1-i)=n+1 by omega];exact growslice_fits (by omega) (by omega));rw [show i+(n+1-i)=n+1 by omega,<- hG,<- hROW,<- hW1] at hk;rw [show (n:Int)+1-(i:Int)=((n+1-i:Nat):Int) by omega];exact hk
 have hb1:W1.heap[w.heap.size]?=some (.cells ROW 75 (0,0)):=by rw [hW1];exact yE w.drew _
 have hbel1:Below w.heap.size w W1:=by rw [hW1];exact (yN.drew).alloc yM _
 obtain ⟨R1,hR1⟩:∃ R1:Array Value,R1=(ROW.toList.take (i*5)++encE x++ROW.toList.drop (i*5+5)).toArray:=⟨_,rfl⟩;obtain ⟨W2,hW2⟩:∃ W2,W2=W1.setRow w.heap.size R1:=⟨_,rfl⟩;have hcpA:∀ ty dc,(Builtin.copy_ #[56,56] ty #[.slice (some ⟨w.heap.size,i*5,none⟩) (n+1-i) dc,.slice (some ⟨vb,0,none⟩) 1 1]).run Tryz.prog W1=.ok (goInt 1) W2:=fun ty dc=>by
  have hm:Nat.min 1 (n+1-i)=1:=Nat.min_eq_left (by omega);have:=jI (P:=Tryz.prog) W1 56 56 ty 75 w.heap.size (i*5) (n+1-i) dc ⟨vb,0,none⟩ 1 1 5 ROW 75 (encE x) Tryz.underlying56 Tryz.sizeEntry hb1 (by rw [hm,xH]) (zO7 ((hbel1.block vb hvw).trans hv)) (by rw [xH,hRs];omega) (zE8 x);rw [hm,xH,<- hR1,<- hW2] at this;exact this
 have hR1s:R1.size=G*5:=by
  rw [hR1];have:=vM ROW.toList (i*5) (encE x) (by rw [xH,Array.length_toList,hRs];omega);rw [xH] at this;simpa [hRs] using this
 have hb2:W2.heap[w.heap.size]?=some (.cells R1 75 (0,0)):=by rw [hW2];exact setRow_heap W1 w.heap.size _ _ 75 _ hb1
 have hbel2:Below w.heap.size w W2:=by rw [hW2];exact below_setRow hbel1 yM _
 obtain ⟨R2,hR2⟩:∃ R2:Array Value,R2=(R1.toList.take ((i+1)*5)++evals (l.drop i)++R1.toList.drop ((i+1)*5+(n-i)*5)).toArray:=⟨_,rfl⟩;obtain ⟨W3,hW3⟩:∃ W3,W3=W2.drew.setRow w.heap.size R2:=⟨_,rfl⟩;have hcpB:∀ ty dc sc,(Builtin.copy_ #[56,56] ty #[.slice (some ⟨w.heap.size,(i+1)*5,none⟩) (n-i) dc,.slice (some ⟨g,i*5,none⟩) (n-i) sc]).run Tryz.prog W2.drew=.ok (goInt ((n-i:Nat):Int)) W3:=fun ty dc sc=>by
  have hm:Nat.min (n-i) (n-i)=n-i:=Nat.min_self _;have:=jI (P:=Tryz.prog) W2.drew 56 56 ty 75 w.heap.size ((i+1)*5) (n-i) dc ⟨g,i*5,none⟩ (n-i) sc 5 R1 75 (evals (l.drop i)) Tryz.underlying56 Tryz.sizeEntry hb2 (by rw [hm,hdi]) (fun j v hj=>by
   rw [zO5];show W2.cell? _=_;rw [hbel2.cell (p:=⟨g,i*5+j,none⟩) hgw];refine hcs _ v ?_;rw [<- (qZ l i (by omega)).2,List.getElem?_drop] at hj;exact hj) (by rw [hdi,hR1s];omega) (zH3 _)
  rw [hm,hdi,<- hR2,<- hW3] at this;exact this
 have R:=hid (show OwnN W3 B 75 (.slice (some ⟨w.heap.size,0,none⟩) (n+1) G) (l.take i++x :: l.drop i) by
  have hlen:=yF0 l x i (by omega);rw [hn] at hlen;have key:=OwnN.mk (w:=W3) (T:=75) (cap:=G) (l:=l.take i++x :: l.drop i) hB (cur:=R2) (by rw [hW3];exact setRow_heap W2.drew w.heap.size _ _ 75 _ hb2) (by omega) hG63 (by
   rw [hR2];have:=vM R1.toList ((i+1)*5) (evals (l.drop i)) (by rw [hdi,Array.length_toList,hR1s];omega);rw [hdi] at this;simpa [hR1s] using this) (by
   rw [hlen,hR2,hR1];have:=xT2 ROW l x i (by omega) (by rw [hRs,hn];omega) hRt;rw [hn] at this;exact this)
  rw [hlen] at key;exact key)
 have RB:=hid (show Below B w W3 by rw [hW3];exact below_setRow ((hbel2.mono hB).drew) hB _);clear hW3 hR2 hb2 hbel2 hW2 hR1 hR1s hb1 hbel1 hW1 hRt hRs hROW hG hold hcs hti hdi h hv hz hzc hz0 hz1 hz2 hi0;have hG63':G<=9223372036854775807:=by unfold maxLen at hG63;exact hG63
 clear hG63;have hi1:(i:Int)<(n:Int):=by omega
 have hi2:¬ (i:Int)=(n:Int):=by omega
 have hroom:(n:Int)<(n:Int)+1:=by omega
 have hb3:(i:Int)<=(n:Int):=by omega
 have hin:i<=n:=by omega
 have hni:¬ n=i:=by omega
 have hGi:¬ G=i:=by omega
 have hGi1:¬ G=i+1:=by omega
 have hw1:IntKind.i64.wrap ((i:Int)+1)=(i:Int)+1:=by rw [IntKind.wrap_i64];omega
 have hp1:(0:Int)<=(i:Int)+1:=by omega
 have htn:((i:Int)+1).toNat=i+1:=by omega
 have hi4:(i:Int)+1<=(n:Int)+1:=by omega
 have mixed:Tryz.prog.follows .mixedOrders=true:=by kernel_rfl
 go_enter Tryz.func155,Tryz.ntmps155
 go_wp2_with (first
  | (at_builtin;refine Lib.wpList_append_run _ rfl _ _ _ _ rfl _ _ rfl rfl _ _ (hrz _) ?_)
  | (at_builtin;refine wpList_copyK _ rfl _ _ 56 56 rfl _ _ rfl rfl (hcpA _ _) ?_))
 go_region_law (refine vL rfl _ _ 56 56 rfl (.slice (some ⟨w.heap.size,(i+1)*5,none⟩) (n-i) (G-(i+1))) (.slice (some ⟨g,i*5,none⟩) (n-i) (n-i)) (by simp [Act.eval,Act.put]) (by simp [Act.eval,Act.put]) (hcpB _ _ _) ?_)
 go_wp2;go_ret
 exact ⟨_,rfl,R.out,RB.out⟩
end Go.Proofs.YtleaknfjbbccgaaGreatDoor
