/- Laid together. -/
import Derived.Deep.QuietTactic
import Derived.BigQuiet
import Derived.Deep.RegionLaw
import Derived.Shelf.RegionOpenPlain
import Derived.Deep.RegionHeld3
import Derived.Deep.LoopGhost
import Derived.Deep.Cut
import Derived.Test.YtleaknfjbbccgaaGreatDoorMs03
import Derived.Test.YtleaknfjbbccgaaGreatDoorMs09
namespace Go.Proofs.YtleaknfjbbccgaaGreatDoor
open Plain
set_option maxHeartbeats 16000000
set_option maxRecDepth 100000
open Go.RowKit Go.Shelf
namespace Plain
theorem zO5 (q k M:Nat) (hq:q<9223372036854775808) (hk:k<=62) (hM:M=2^k-1):bits .and .i64 (q:Int) (M:Int)=((q%2^k:Nat):Int):=by
 have h1:2^k<=2^62:=Nat.pow_le_pow_right (by decide) hk;subst hM;rw [yS1 q _ hq (by omega),Nat.and_two_pow_sub_one_eq_mod]
def entD (k s:Nat):En:=⟨k,((s/16777216%256:Nat):Int),((s/8%2097152:Nat):Int),((s%8:Nat):Int),s/4294967296%2 != 0⟩
end Plain
theorem qE9 (s:Nat) (hs:s<17179869184) (w:World) :
  Calls Tryz.prog 151 #[.int .i64 s,.int .i64 24,.int .i64 8] w fun e w'=>e=.returned (.int .i64 ((s/16777216%256:Nat):Int))/\Below w.heap.size w w':=by
 have HE:=hid (show bits .and .i64 ((s:Int)/16777216) 255=((s/16777216%256:Nat):Int) by
  have:=zO5 (s/16777216) 8 255 (by omega) (by omega) (by decide);simpa using this)
 go_enter Tryz.func151,Tryz.ntmps151
 go_wp2
 go_quiet (fail)
 go_wp2;go_ret
 refine ⟨?_,below_drewN yO _⟩;show Ending.returned (.int .i64 (bits .and .i64 ((s:Int)/16777216) 255))=_;rw [HE.out]
theorem qF0 (s:Nat) (hs:s<17179869184) (w:World) :
  Calls Tryz.prog 151 #[.int .i64 s,.int .i64 3,.int .i64 21] w fun e w'=>e=.returned (.int .i64 ((s/8%2097152:Nat):Int))/\Below w.heap.size w w':=by
 have HE:=hid (show bits .and .i64 ((s:Int)/8) 2097151=((s/8%2097152:Nat):Int) by
  have:=zO5 (s/8) 21 2097151 (by omega) (by omega) (by decide);simpa using this)
 go_enter Tryz.func151,Tryz.ntmps151
 go_wp2
 go_quiet (fail)
 go_wp2;go_ret
 refine ⟨?_,below_drewN yO _⟩;show Ending.returned (.int .i64 (bits .and .i64 ((s:Int)/8) 2097151))=_;rw [HE.out]
theorem qF1 (s:Nat) (hs:s<17179869184) (w:World) :
  Calls Tryz.prog 151 #[.int .i64 s,.int .i64 0,.int .i64 3] w fun e w'=>e=.returned (.int .i64 ((s%8:Nat):Int))/\Below w.heap.size w w':=by
 have HE:=hid (show bits .and .i64 (s:Int) 7=((s%8:Nat):Int) by
  have:=zO5 (s) 3 7 (by omega) (by omega) (by decide);simpa using this)
 go_enter Tryz.func151,Tryz.ntmps151
 go_wp2
 go_quiet (fail)
 go_wp2;go_ret
 refine ⟨?_,below_drewN yO _⟩;show Ending.returned (.int .i64 (bits .and .i64 (s:Int) 7))=_;rw [HE.out]
theorem qF2 (s:Nat) (hs:s<17179869184) (w:World) :
  Calls Tryz.prog 151 #[.int .i64 s,.int .i64 32,.int .i64 1] w fun e w'=>e=.returned (.int .i64 ((s/4294967296%2:Nat):Int))/\Below w.heap.size w w':=by
 have HE:=hid (show bits .and .i64 ((s:Int)/4294967296) 1=((s/4294967296%2:Nat):Int) by
  have:=zO5 (s/4294967296) 1 1 (by omega) (by omega) (by decide);simpa using this)
 go_enter Tryz.func151,Tryz.ntmps151
 go_wp2
 go_quiet (fail)
 go_wp2;go_ret
 refine ⟨?_,below_drewN yO _⟩;show Ending.returned (.int .i64 (bits .and .i64 ((s:Int)/4294967296) 1))=_;rw [HE.out]
theorem yL0 {fn:Func} {p:Tmp} {Q:Ending->World->Prop} {a:Act} {w:World} (h:fn.results=#[.cell p 75]) (G:Nat) (x:En) (hp:a.tmps.getD p undef=.pointer (some ⟨G,0,none⟩))
  (hg:w.heap[G]?=some (.cells (encE x).toArray 75 (0,0))) (hd:a.defers=[]) (hR:Q (.returned (aggE x)) w):bodyPost Tryz.prog fn Q .ret a w :=
 bodyPost_ret (results_cell_row (P:=Tryz.prog) h _ _ G 75 _ (0,0) _ hp hg Tryz.underlying75 rfl (by kernel_rfl)) hd hR
theorem yA6 (k s:Nat) (hs:s<17179869184) (w:World) :
  Calls Tryz.prog 127 #[.int .i64 k,.int .i64 s] w fun e w'=>e=.returned (aggE (entD k s))/\Below w.heap.size w w':=by
 have K1:=hid (qE9 s hs);have K2:=hid (qF0 s hs);have K3:=hid (qF1 s hs);have K4:=hid (qF2 s hs);have HB:=hid (show (((s/4294967296%2:Nat):Int) != 0)=(s/4294967296%2 != 0) by
  rw [yM,bne_iff_ne,bne_iff_ne];omega)
 have HD:=hid (show entD k s=⟨k,((s/16777216%256:Nat):Int),((s/8%2097152:Nat):Int),((s%8:Nat):Int),s/4294967296%2 != 0⟩ from rfl);generalize (s/4294967296%2 != 0)=gb at HB HD;generalize s/16777216%256=n1 at K1 HD;generalize s/8%2097152=n2 at K2 HD;generalize s%8=n3 at K3 HD;generalize s/4294967296%2=n4 at K4 HB;obtain ⟨G,hG⟩:∃ G,G=w.heap.size:=⟨_,rfl⟩;have B0:=hid (show Below w.heap.size w (w.alloc (boxE ⟨0,0,0,0,false⟩)) from yO.alloc yN _);have C0:=hid (show (w.alloc (boxE ⟨0,0,0,0,false⟩)).heap[w.heap.size]?=some (.cells (encE ⟨0,0,0,0,false⟩).toArray 75 (0,0)) from yF _ _);go_enter Tryz.func127,Tryz.ntmps127
 go_wp2_with fail
 refine (K1.out _).mono ?_;rintro e w1 ⟨rfl,b1⟩;have B1:=hid (B0.out.trans (b1.mono B0.out.size));have C1:=hid ((b1.block w.heap.size (by simp)).trans C0.out);clear K1 b1 B0 C0
 go_wp2_with fail
 refine (K2.out _).mono ?_;rintro e w2 ⟨rfl,b2⟩;have B2:=hid (B1.out.trans (b2.mono B1.out.size));have C2:=hid ((b2.block w.heap.size (zJ.1 C1.out).1).trans C1.out);clear K2 b2 B1 C1
 go_wp2_with fail
 refine (K3.out _).mono ?_;rintro e w3 ⟨rfl,b3⟩;have B3:=hid (B2.out.trans (b3.mono B2.out.size));have C3:=hid ((b3.block w.heap.size (zJ.1 C2.out).1).trans C2.out);clear K3 b3 B2 C2
 go_wp2_with fail
 refine (K4.out _).mono ?_;rintro e w4 ⟨rfl,b4⟩;have B4:=hid (B3.out.trans (b4.mono B3.out.size));have C4:=hid ((b4.block w.heap.size (zJ.1 C3.out).1).trans C3.out);clear K4 b4 B3 C3;have hcl:∀ j u,(encE ⟨0,0,0,0,false⟩)[j]?=some u->w4.cell? ⟨w.heap.size,j,none⟩=some u:=fun j u hj=>by
  rw [cell_of_row w4 w.heap.size j _ 75 (0,0) C4.out];simpa using hj
 have k0:=hcl 0 _ rfl;have k1:=hcl 1 _ rfl;have k2:=hcl 2 _ rfl;have k3:=hcl 3 _ rfl;have k4:=hcl 4 _ rfl;have f0:=frozen_of_row w4 w.heap.size 0 _ 75 C4.out;have f1:=frozen_of_row w4 w.heap.size 1 _ 75 C4.out;have f2:=frozen_of_row w4 w.heap.size 2 _ 75 C4.out;have f3:=frozen_of_row w4 w.heap.size 3 _ 75 C4.out;have f4:=frozen_of_row w4 w.heap.size 4 _ 75 C4.out;have hlt:=(zJ.1 C4.out).1;clear hcl;rw [<- hG] at k0 k1 k2 k3 k4 f0 f1 f2 f3 f4 hlt C4 ⊢;have HGE:=hid (show w.heap.size<=G by omega);clear hG;go_wp2
 (try simp only [Exit.inBlock,Exit.then])
 rw [HB.out];have HX:=hid (show (setE w4 G 0 (entD k s)).heap[G]?=some (.cells (encE (entD k s)).toArray 75 (0,0)) by
  rw [yD6 C4.out];have e:zY1 (encE ⟨0,0,0,0,false⟩).toArray 0 (entD k s)=(encE (entD k s)).toArray:=by
   apply Array.ext';rw [zJ4 _ _ _ (by decide)];simp [encE]
  rw [e])
 have HBL:=hid (zJ5 B4.out HGE.out (o:=0) (entD k s));rw [HD.out] at HX HBL;rw [HD.out];change bodyPost Tryz.prog _ _ Exit.ret _ (setE w4 G 0 ⟨k,n1,n2,n3,gb⟩);exact yL0 rfl G ⟨k,n1,n2,n3,gb⟩ rfl HX.out rfl ⟨rfl,HBL.out⟩
namespace Plain
def jD (F:Nat->Nat) (k:Nat):List En:=(List.range k).flatMap fun j=>if F j/8589934592=0 then [] else [entD j (F j)]
def slOK (s:Nat):Bool:=s/8589934592 != 0 || s==0
def okS (F:Nat->Nat) (k:Nat):Bool:=(List.range k).all fun j=>slOK (F j)
def entE (F:Nat->Nat):Nat:=if okS F 8=true then (if mayL (jD F 8)=true then 0 else 4) else 4
def entV (F:Nat->Nat):List En:=if entE F=0 then jD F 8 else []
theorem vK (F:Nat->Nat) (k:Nat):jD F (k+1)=jD F k++(if F k/8589934592=0 then [] else [entD k (F k)]):=by simp [jD,List.range_succ]
theorem zH7 (F:Nat->Nat) (k:Nat):(jD F k).length<=k:=by
 induction k with
 | zero=>simp [jD]
 | succ k ih =>
  rw [vK,zD];split<;>simp<;>omega
theorem xH9 (F:Nat->Nat) (k:Nat):okS F (k+1)=(okS F k&&slOK (F k)):=by simp [okS,List.range_succ,List.all_append]
theorem qF3 {F:Nat->Nat} {k n:Nat} (hk:k<n) (h:slOK (F k)=false):okS F n=false:=by
 unfold okS;rw [List.all_eq_false];exact ⟨k,zY.2 hk,by rw [h];decide⟩
theorem qF4 {F:Nat->Nat} (h:okS F 8=false):entE F=4/\entV F=[]:=by
 have e:entE F=4:=by unfold entE;rw [if_neg (by rw [h];decide)]
 exact ⟨e,by unfold entV;rw [e];rfl⟩
theorem xV5 {F:Nat->Nat} (h:okS F 8=true) (h1:mayL (jD F 8)=false):entE F=4/\entV F=[]:=by
 have e:entE F=4:=by unfold entE;rw [if_pos h,if_neg (by rw [h1];decide)]
 exact ⟨e,by unfold entV;rw [e];rfl⟩
theorem yU8 {F:Nat->Nat} (h:okS F 8=true) (h1:mayL (jD F 8)=true):entE F=0/\entV F=jD F 8:=by
 have e:entE F=0:=by unfold entE;rw [if_pos h,if_pos h1]
 exact ⟨e,by unfold entV;rw [e];rfl⟩
end Plain
theorem Tryz.infoEntQ:(Tryz.prog.info? 75).map (fun i=>(i.zero,i.size,i.bytes))=some (some (.agg #[.int .i64 0,.int .i64 0,.int .i64 0,.int .i64 0,.bool false]),5,40):=by kernel_rfl
theorem yU9 (x:En) (w:World):∀ j u,(encE x)[j]?=some u->(w.alloc (.cells (encE x).toArray 75)).cell? ⟨w.heap.size,j,none⟩=some u:=by
 intro j u hu;rw [zM _ _ _ _ rfl];simpa using hu
theorem yV0 {w wr:World} {B:Nat} {v:Value} {l:List En} (x:En) (o:OwnN wr B 75 v l) (hk:l.length<=10000) (hB:B=w.heap.size) (b:Below w.heap.size w wr) :
  ∃ q d U,(Builtin.append_ #[56,56] 56 #[v,.slice (some ⟨wr.heap.size,0,none⟩) 1 1]).run Tryz.prog (wr.alloc (.cells (encE x).toArray 75))=.ok (.slice q (l.length+1) d) U /\
   OwnN U B 75 (.slice q (l.length+1) d) (l++[x])/\Below w.heap.size w U/\(wr.alloc (.cells (encE x).toArray 75)).grownBy U v.ownBlock:=by
 have bA:Below wr.heap.size wr (wr.alloc (.cells (encE x).toArray 75)):=yO.alloc yN _;have hBs:B<=wr.heap.size:=by rw [hB];exact b.size
 have o':wr.ownsRow B 75 5 v l.length (evals l):=o;obtain ⟨q,d,U,r1,r2,r3⟩:=zO2 Tryz.underlying56 Tryz.infoEntQ rfl (by decide) (by decide) (xZ o' bA) (show l.length+1<=100000 by omega) (zI hBs bA.size) (Nat.le_refl 1) (k:=1) (ys:=encE x) rfl (by intro u hu;simp [encE] at hu;rcases hu with rfl|rfl|rfl|rfl|rfl<;>rfl) (yU9 x wr) 1;refine ⟨q,d,U,r1,?_,(b.trans (bA.mono b.size)).grown r3 (by have:=bA.size;have:=b.size;omega) (fun j hj=>by have:=((xZ o' bA).lt j hj).1;rw [hB] at this;exact this),r3⟩;show U.ownsRow B 75 5 _ (l++[x]).length (evals (l++[x]));rw [zD,jV];have e:evals [x]=encE x:=by simp [evals]
 rw [e];exact r2
def Above (B:Nat) (v:Value):Prop:=∀ p n c,v=.slice (some p) n c->0<n->B<=p.block
theorem yV1 (B:Nat) (p:Option Addr) (c:Nat):Above B (.slice p 0 c):=fun q n c' e hn=>by injection e with _ e2 _;omega
theorem yL1 {w:World} {B e s n:Nat} {v:Value} {xs:List Value} (o:w.ownsRow B e s v n xs):Above B v:=by
 intro p m c hv hm;rcases o.2 with ⟨rfl,_⟩|⟨g,cap,cur,rfl,hB,_⟩
 ·cases hv
 ·injection hv with e1 _ _
  injection e1 with e1;subst e1;exact hB
def EntP (F:Nat->Nat) (w:World) (e:Ending) (w':World):Prop :=
 ∃ u,e=.returned (.tuple #[u,.int .i64 (entE F:Nat)])/\SegN w' u (entV F)/\Lies w'.heap.size u/\Above w.heap.size u/\Below w.heap.size w w'
theorem yV2 {F:Nat->Nat} {w w':World} (h:entE F=4/\entV F=[]) (g:Below w.heap.size w w'):EntP F w (.returned (.tuple #[.slice none 0 0,.int .i64 ((4:Nat):Int)])) w' :=
 ⟨_,by rw [h.1],by rw [h.2];exact .inl ⟨rfl,_,_,rfl⟩,yT _ _ _,yV1 _ _ _,g⟩
theorem ar8_at (F:Nat->Int) {k:Nat} (h:k<8):(ar8 F)[k]?=some (.int .i64 (F k)):=by
 have:k=0\/k=1\/k=2\/k=3\/k=4\/k=5\/k=6\/k=7:=by omega
 rcases this with rfl|rfl|rfl|rfl|rfl|rfl|rfl|rfl<;>rfl
theorem qF5 (F:Nat->Int) {k:Nat} (h:k<8):∀ w:World,(Instr.index 187 (.agg (ar8 F)) (.int .i64 (k:Int))).run Tryz.prog w=.ok (.int .i64 (F k)) w:=by
 intro w;have:k=0\/k=1\/k=2\/k=3\/k=4\/k=5\/k=6\/k=7:=by omega
 rcases this with rfl|rfl|rfl|rfl|rfl|rfl|rfl|rfl<;>rfl
theorem yA7 (F:Nat->Nat) (hF:∀ j,j<8->F j<17179869184) (w:World) :
  Calls Tryz.prog 101 #[.agg (ar8 fun j=>((F j:Nat):Int))] w (EntP F w):=by
 have HF:=hid hF;have HAT:=hid (fun k (h:k<8)=>qF5 (fun j=>((F j:Nat):Int)) h);have B0:=hid (show Below w.heap.size w (w.alloc (.cells (ar8 fun j=>((F j:Nat):Int)) 187)) from yO.alloc yN _);clear hF;obtain ⟨cs,hcs⟩:∃ cs:Array Value,cs=ar8 fun j=>((F j:Nat):Int):=⟨_,rfl⟩;rw [<- hcs] at HAT B0;have hcs0:=hcs;dsimp only [ar8] at hcs;go_enter Tryz.func101,Tryz.ntmps101
 go_wp2;rw [<- hcs]
 try rw [<- hcs0]
 clear hcs hcs0;obtain ⟨B,hB⟩:∃ B,B=w.heap.size:=⟨_,rfl⟩;have HB:=hid hB;clear hB
 go_loopg [4,8] 8 (fun gg s4 s8 wr=>∃ k:Nat,k<=8/\8-k<=gg/\s8=.int .i64 k/\Aside (OwnN wr B 75 s4 (jD F k)/\Below w.heap.size w wr)/\Aside (okS F k=true))
 case atStart=>exact ⟨0,zG _,by omega,rfl,(show Aside _ from ⟨OwnN.nil _ _ _,B0.out⟩),rfl⟩
 case round =>
  obtain ⟨k,hk,hg,rfl,A,AK⟩:=hrel;by_cases hlt:k<8
  ·have hltz:(k:Int)<8:=by omega
   have h11:=HAT.out k hlt;have hFk:=HF.out k hlt;have HES:=hid (vK F k);have HOS:=hid (xH9 F k);have HON:=hid (fun h=>qF4 (qF3 (F:=F) hlt h));have hl10:=zH7 F k;have KE:=yA6 k (F k) hFk wr;obtain ⟨f,hf⟩:∃ f,f=F k:=⟨_,rfl⟩;rw [<- hf] at h11 hFk HES HOS HON KE;clear hf;obtain ⟨D,hD⟩:∃ D,D=jD F k:=⟨_,rfl⟩;rw [<- hD] at A HES hl10;clear hD;by_cases hq:f/8589934592=0
   ·have hq1:((f:Int)/8589934592 != 0)=false:=by
     have e:((f:Int)/8589934592)=((f/8589934592:Nat):Int):=by simp
     rw [e,hq];rfl
    have HE2:=hid (HES.out.trans (by rw [if_pos hq,List.append_nil]));have HQ:=hid hq;clear KE hq;by_cases hz:f=0
    ·have hq2:((f:Int) != 0)=false:=by rw [hz];rfl
     have HO2:=hid (show okS F (k+1)=true by rw [HOS.out,AK.out,hz];rfl);clear hz;go_wp2
     go_roundg (8-(k+1))
     case measure=>omega
     case rel=>exact ⟨k+1,by omega,by omega,by go_num,(show Aside _ from by rw [HE2.out];exact A.out),(show Aside _ from HO2.out)⟩
    ·have hq2:((f:Int) != 0)=true:=by rw [bne_iff_ne];omega
     have HN:=hid (HON.out (by
      unfold slOK;have h1:(f/8589934592 != 0)=false:=by rw [bne_eq_false_iff_eq];exact HQ.out
      have h2:(f==0)=false:=by rw [beq_eq_false_iff_ne];exact hz
      rw [h1,h2];rfl))
     clear hz;go_wp2;go_ret2
     exact yV2 HN.out A.out.2
   ·have hq1:((f:Int)/8589934592 != 0)=true:=by
     have e:((f:Int)/8589934592)=((f/8589934592:Nat):Int):=by simp
     rw [e,bne_iff_ne];omega
    have HE2:=hid (HES.out.trans (by rw [if_neg hq]));have HO2:=hid (show okS F (k+1)=true by rw [HOS.out,AK.out];unfold slOK;rw [show (f/8589934592 != 0)=true by rw [bne_iff_ne];exact hq];rfl);clear hq
    go_wp2_with fail
    refine KE.mono ?_;rintro e w2 ⟨rfl,b2⟩;have A2:OwnN w2 B 75 _ D:=xZ A.out.1 b2;have B2:=hid (A.out.2.trans (b2.mono A.out.2.size));obtain ⟨q,d,U,r1,r2,r3,_⟩:=yV0 (entD k f) A2 (by omega) HB.out B2.out;have R1:=hid r1;have R2:=hid r2;have R3:=hid r3;generalize entD k f=X at R1 R2 HE2;obtain ⟨xk,xv,xt,xo,xg⟩:=X;clear KE b2 A2 A r1 r2 r3 B2
    go_wp2_with (first|(at_builtin;refine xE _ _ 56 R1.out (by rfl) (by rfl) (by rfl) (by rfl) (by rfl) ?_)|fail)
    go_roundg (8-(k+1))
    case measure=>omega
    case rel=>exact ⟨k+1,by omega,by omega,by go_num,(show Aside _ from by rw [HE2.out];exact ⟨R2.out,R3.out⟩),(show Aside _ from HO2.out)⟩
  ·have hltz:¬ (k:Int)<8:=by omega
   have ek:k=8:=by omega
   subst ek;have hl10:=zH7 F 8;have hsg:SegN wr u4 (jD F 8):=A.out.1.seg.1;have hli:Lies wr.heap.size u4:=A.out.1.seg.2;have KM:=kO u4 (jD F 8) (by omega) wr hsg hli;cases hm:mayL (jD F 8) with
   | false =>
    rw [hm] at KM;have HN:=hid (xV5 AK.out hm)
    go_wp2_with fail
    refine KM.mono ?_;rintro e w2 ⟨rfl,b2⟩;have B2:=hid (A.out.2.trans (b2.mono A.out.2.size));clear KM b2;go_wp2;go_ret2
    exact yV2 HN.out B2.out
   | true =>
    rw [hm] at KM;have HN:=hid (yU8 AK.out hm)
    go_wp2_with fail
    refine KM.mono ?_;rintro e w2 ⟨rfl,b2⟩;have R:=hid (show EntP F w (.returned (.tuple #[u4,.int .i64 ((0:Nat):Int)])) w2 from ⟨u4,by rw [HN.out.1],by rw [HN.out.2];exact hsg.below b2 hli,hli.mono b2.size,by rw [<- HB.out];exact yL1 A.out.1,A.out.2.trans (b2.mono A.out.2.size)⟩);clear KM b2 hsg hli;go_wp2;go_ret2
    exact R.out
open Go.ChangeShapes Go.WideShapes Go.ChangeAt
def CapL (v:Value):Prop:=∀ p n c,v=.slice p n c->n<=c
theorem CapL.mk (p:Option Addr) (n c:Nat) (h:n<=c):CapL (.slice p n c):=fun q m d e=>by
 injection e with _ e2 e3;omega
theorem zV7 (b off cap bb ob cb:Nat) (ws:List Int) (bl:List Nat) (hbl:∀ x∈bl,x<256) (w:World)
  (h:∀ j,j<ws.length->w.cell? ⟨b,off+j,none⟩=some (.int .i64 (ws.getD j 0))) (hb:0<ws.length->b<w.heap.size)
  (h2:∀ j,j<bl.length->w.cell? ⟨bb,ob+j,none⟩=some (.int .u8 (bl.getD j 0:Nat))) (hb2:0<bl.length->bb<w.heap.size)
  (hz:szE ws=0) (hl:bl.length=szN ws) :
  Calls Tryz.prog 126 #[.slice (some ⟨b,off,none⟩) ws.length cap,.slice (some ⟨bb,ob,none⟩) bl.length cb] w fun e w'=>∃ r,e=.returned (.tuple #[r,.int .i64 (yS ws bl:Nat)]) /\
   Seg w' r (yW ws bl)/\Lies w'.heap.size r/\CapL r/\Below w.heap.size w w':=by
 have H:=hid h;have H2:=hid h2;have HBL:=hid hbl;have HB2:=hid hb2;have hsz:=jN _ hz;have hlen:ws.length<=40:=hsz.1;have HA:=hid hsz.2.1;have HN:=hid hsz.2.2.1;have HT:=hid hsz.2.2.2;have HZ:=hid hz;have HL:=hid hl;have hn300:=yM5 ws;have hbl300:bl.length<=300:=by omega
 have hmk:=run_make_row' (P:=Tryz.prog) 22 3 (.int .i64 0) 8 Tryz.underlying22 Tryz.infoInt rfl .i64 .i64 ws.length (by omega) (by omega);have HMK:=hid hmk;clear h hz hsz h2 hl hbl hb2 hmk;go_enter Tryz.func126,Tryz.ntmps126
 go_wp2_with fail
 refine (vI _ ws (by omega) _ (.inr ⟨b,off,cap,rfl,H.out⟩)).mono ?_;rintro e wx ⟨rfl,hx⟩;have hy:=hx.symm;clear hx;subst hy;rw [HZ.out,<- HL.out];have hmk:=HMK.out;clear HMK;go_wp2;clear hmk
 go_loopw [9,29] (fun a i wr=>∃ k:Nat,k<=ws.length/\i=.int .i64 k/\a=.int .i64 (yU (ws.take k):Nat) /\
   wr.rowIs w.heap.size 3 ws.length (fun j=>if j<k then .int .i64 (zI4 ws bl j:Nat) else .int .i64 0)/\Below w.heap.size w wr)
  (fun _ i _=>ws.length-(intOf i).toNat)
 case atStart=>exact ⟨0,zG _,rfl,rfl,World.rowIs_made w (.int .i64 0) ws.length 3,yO.alloc yN _⟩
 case round =>
  obtain ⟨k,hk,rfl,rfl,hrow,hbel⟩:=hrel;have HC2:=hid (fun j (hj:j<bl.length)=>(hbel.cell (p:=⟨bb,ob+j,none⟩) (HB2.out (by omega))).trans (H2.out j hj));by_cases hlt:k<ws.length
  ·have g:=(hbel.cell (p:=⟨b,off+k,none⟩) (hb (by omega))).trans (H.out k hlt)
   have hok:=xN9 ws k hlt HA.out;have hbit:=yS8 ws k hlt;have hbs:=jG ws k hlt;have hva:zI4 ws bl k=Plain.num (xM bl) (yU (ws.take k)) (ws.getD k 0).toNat:=rfl;have hlt':(k:Int)<(ws.length:Int):=by omega
   have hfro:=hrow.frozen k;have hcel:=hrow.cell hlt;have HR:=hid hrow;have HBE:=hid hbel;clear hrow hbel;generalize ws.getD k 0=x at g hok hbit hbs hva;obtain ⟨xn,rfl⟩:=zW (show 0<=x by omega);rw [zK] at hbit hbs hva;have HBS:=hid hbs;clear hbs;have hfit:yU (ws.take k)+xn<=8*bl.length:=by have:=HN.out;have:=HL.out;omega
   clear hbit;generalize ha:yU (ws.take k)=a at hfit hva;have HAA:=hid ha;have HVA:=hid hva;clear ha hva;have hxn:xn<=60:=by omega
   clear hok
   go_wp2_with fail
   refine (zE3 bb ob cb a xn bl HBL.out hfit (by omega) hxn _ HC2.out).mono ?_;rintro e w2 ⟨rfl,q,rfl⟩;generalize hX:Plain.num (xM bl) a xn=X at *;have R:=hid (yS9 (q:=q) HVA.out HR.out HBE.out);go_wp2
   go_roundw
   case rel=>exact ⟨k+1,by omega,by go_num,by rw [HBS.out,HAA.out];go_num,R.out.1,R.out.2⟩
   case measure=>simp [intOf];omega
  ·have ek:k=ws.length:=by omega
   subst ek;rw [List.take_length];have hT:=HT.out;have hTn:yU ws<=8*bl.length/\8*bl.length-yU ws<=60:=by have:=HN.out;have:=HL.out;omega
   have HX0:=hid (yS7 ws bl HZ.out HL.out);have HX1:=hid (xU4 ws bl HZ.out HL.out);rw [<- HL.out] at HX0 HX1;generalize yU ws=T at *;obtain ⟨m,hm⟩:∃ m,m=8*bl.length-T:=⟨_,rfl⟩;rw [<- hm] at HX0 HX1;have hmm:8*(bl.length:Int)-(T:Int)=(m:Int):=by omega
   have hm60:m<=60:=by omega
   have hfit:T+m<=8*bl.length:=by omega
   have HM:=hid hm;have HMM:=hid hmm;have HR:=hid hrow;have HBE:=hid hbel;clear hrow hbel hm hmm
   go_wp2_with fail
   rw [HMM.out];refine (zE3 bb ob cb T m bl HBL.out hfit (by omega) hm60 _ HC2.out).mono ?_;rintro e w2 ⟨rfl,q,rfl⟩;by_cases hX:Plain.num (xM bl) T m=0
   ·rw [hX]
    have HF:=hid (HX1.out hX);clear hX;go_wp2;go_ret2
    refine ⟨_,by rw [HF.out.1];rfl,?_,qF HR.out.lt,CapL.mk _ _ _ yN,below_drewN HBE.out q⟩;rw [HF.out.2];refine .inr ⟨w.heap.size,0,ws.length,by rw [zL,vals_len,zL],fun j hj=>?_⟩;rw [zL,vals_len,zL] at hj;have e:=zH0 ws bl j hj;have hc:=HR.out.cell hj;rw [if_pos hj] at hc;rw [Nat.zero_add,World.cell?_drewN,hc,<- e];have hl2:j<(vals (xM bl) 0 (ws.map Int.toNat)).length:=by rw [vals_len,zL];exact hj
    simp [List.getD_eq_getElem?_getD,List.getElem?_eq_getElem hl2]
   ·have HF:=hid (HX0.out hX)
    have hne:=kT _ hX;clear hX;generalize Plain.num (xM bl) T m=X at *;go_wp2;go_ret2
    exact ⟨_,by rw [HF.out.1];rfl,by rw [HF.out.2];exact Seg.nil _,yT _ _ _,CapL.mk _ _ _ (zG _),below_drewN HBE.out q⟩
theorem yA8 (v u:Value) (ws:List Int) (bl:List Nat) (hbl:∀ x∈bl,x<256) (hm:ws.length<=9223372036854775807) (hb:bl.length<=9223372036854775807) (w:World)
  (h:Seg w v ws) (hv:Lies w.heap.size v) (h2:SegB w u bl) (hu:Lies w.heap.size u) :
  Calls Tryz.prog 126 #[v,u] w fun e w'=>∃ r,e=.returned (.tuple #[r,.int .i64 (yS ws bl:Nat)])/\Seg w' r (yW ws bl)/\Lies w'.heap.size r/\CapL r/\Below w.heap.size w w':=by
 by_cases hz:szE ws=0
 ·by_cases hl:bl.length=szN ws
  ·rcases h with ⟨rfl,p,c,rfl⟩|⟨b,o,c,rfl,g⟩
   ·obtain ⟨p2,c2,rfl⟩:=zA7 h2
    have hl0:bl=[]:=zP.1 hl;subst hl0;refine (vJ p p2 c c2 w).mono ?_;rintro e w' ⟨rfl,hb⟩;exact ⟨_,rfl,.inl ⟨rfl,_,_,rfl⟩,yT _ _ _,CapL.mk _ _ _ (zG _),hb⟩
   ·rcases h2 with ⟨rfl,p2,c2,rfl⟩|⟨b2,o2,c2,rfl,g2⟩
    ·have hw0:ws=[]:=by
      have h3:=jN ws hz;cases ws with
      | nil=>rfl
      | cons x xs =>
       have h4:=(vO x).1 (by have:=h3.2.1;simp only [List.all_cons,Bool.and_eq_true] at this;exact this.1);have h5:yU (x :: xs)=x.toNat+yU xs:=by simp [yU]
       have h6:([]:List Nat).length=0:=rfl;omega
     subst hw0;refine (vJ _ p2 c c2 w).mono ?_;rintro e w' ⟨rfl,hb⟩;exact ⟨_,rfl,.inl ⟨rfl,_,_,rfl⟩,yT _ _ _,CapL.mk _ _ _ (zG _),hb⟩
    ·exact zV7 b o c b2 o2 c2 ws bl hbl w g (fun hp=>hv _ _ _ rfl hp) g2 (fun hp=>hu _ _ _ rfl hp) hz hl
  ·obtain ⟨p2,c2,rfl⟩:=zA7 h2
   refine (zL2 v p2 c2 ws bl hm hb w h hz hl).mono ?_;rintro e w' ⟨rfl,rfl⟩;exact ⟨_,rfl,by rw [(yS6 ws bl hz hl).2];exact Seg.nil _,yT _ _ _,CapL.mk _ _ _ (zG _),yO⟩
 ·refine (zL1 v u ws bl hm w h hz).mono ?_
  rintro e w' ⟨rfl,rfl⟩;exact ⟨_,rfl,by rw [(yF5 ws bl hz).2];exact Seg.nil _,yT _ _ _,CapL.mk _ _ _ (zG _),yO⟩
theorem xI0 (wd:Int) (n:Nat) (hn:Cnt n) (u:Value) (bl:List Nat) (hbl:∀ x∈bl,x<256) (hb:bl.length<=9223372036854775807) (w:World) (hs:SegB w u bl) (hl:Lies w.heap.size u) :
  Calls Tryz.prog 100 #[.int .i64 wd,.int .i64 n,u] w fun e w'=>∃ r,e=.returned (.tuple #[r,.int .i64 (yS (List.replicate n wd) bl:Nat)])/\Seg w' r (yW (List.replicate n wd) bl)/\Lies w'.heap.size r/\CapL r/\Below w.heap.size w w':=by
 obtain ⟨W,hW⟩:∃ W,W=w.alloc (.cells #[.int .i64 wd] 3):=⟨_,rfl⟩;have bA:Below w.heap.size w W:=by rw [hW];exact yO.alloc yN _
 have c0:W.cell? ⟨w.heap.size,0,none⟩=some (.int .i64 wd):=by rw [hW,zM _ _ _ _ rfl];rfl
 have K:=zL0 w.heap.size n wd hn W c0;have HU:=hid (fun (v:Value) (X:World) (b:Below w.heap.size w X) (h:Seg X v (List.replicate n wd)) (hv:Lies X.heap.size v)=>yA8 v u (List.replicate n wd) bl hbl (by rw [yA];have:=hn.le;omega) hb X h hv (hs.below b hl) (hl.mono b.size));have HB:=hid bA;clear bA c0 hs hl hbl hb;rw [hW] at K;have HW:=hid hW;clear hW;go_enter Tryz.func100,Tryz.ntmps100
 go_wp2_with fail
 refine K.mono ?_;rintro e w1 ⟨v,rfl,h1,h2,h3⟩;rw [<- HW.out] at h3;have B1:=hid (HB.out.trans (h3.mono HB.out.size));have K2:=HU.out v w1 B1.out h1 h2;clear K HU h1 h2 h3
 go_wp2_with fail
 refine K2.mono ?_;rintro e w2 ⟨r,rfl,h1,h2,hc,h3⟩;have R:=hid (And.intro h1 (And.intro h2 (And.intro hc (B1.out.trans (h3.mono B1.out.size)))));clear h1 h2 h3 hc K2;go_wp2;go_ret2
 exact ⟨r,rfl,R.out⟩
namespace Plain
def slF (bl:List Nat) (i j:Nat):Nat:=num (xM bl) (34*(i*8+j)) 34
theorem xO2 (bl:List Nat) (i j:Nat):slF bl i j<17179869184:=xM8 (xM bl) (zM0 bl) _ 34
def yV3 (ls:List Int) (a b:Int) (bl:List Nat) (j:Nat):List En:=if both (ls.getD j 0) a b=true then entV (slF bl (comL ls a b j).length) else []
def yL2 (ls:List Int) (a b:Int) (bl:List Nat):List (List En):=(List.range ls.length).map (yV3 ls a b bl)
def comN (c:Cf) (a b:Int):Nat:=(comL c.ls a b c.ls.length).length
def zC4 (bl:List Nat) (m:Nat):Bool:=(List.range m).all fun i=>entE (slF bl i)==0
def heaE (c:Cf) (a b:Int) (bl:List Nat):Nat :=
 if refE c a b=0 then (if yS (List.replicate (comN c a b*8) 34) bl=0 then (if zC4 bl (comN c a b)=true then 0 else 4) else 4) else refE c a b
def heaV (c:Cf) (a b:Int) (bl:List Nat):List (List En):=if heaE c a b bl=0 then yL2 c.ls a b bl else []
theorem xV6 {c:Cf} {a b:Int} {bl:List Nat} (h:refE c a b≠0):heaE c a b bl=refE c a b/\heaV c a b bl=[]:=by
 have e:heaE c a b bl=refE c a b:=by unfold heaE;rw [if_neg h]
 exact ⟨e,by unfold heaV;rw [e,if_neg h]⟩
theorem qF6 {c:Cf} {a b:Int} {bl:List Nat} (h:refE c a b=0) (h1:yS (List.replicate (comN c a b*8) 34) bl≠0):heaE c a b bl=4/\heaV c a b bl=[]:=by
 have e:heaE c a b bl=4:=by unfold heaE;rw [if_pos h,if_neg h1]
 exact ⟨e,by unfold heaV;rw [e];rfl⟩
theorem qF7 {c:Cf} {a b:Int} {bl:List Nat} (h:refE c a b=0) (h1:yS (List.replicate (comN c a b*8) 34) bl=0) (h2:zC4 bl (comN c a b)=false):heaE c a b bl=4/\heaV c a b bl=[]:=by
 have e:heaE c a b bl=4:=by unfold heaE;rw [if_pos h,if_pos h1,if_neg (by rw [h2];decide)]
 exact ⟨e,by unfold heaV;rw [e];rfl⟩
theorem xO3 {c:Cf} {a b:Int} {bl:List Nat} (h:refE c a b=0) (h1:yS (List.replicate (comN c a b*8) 34) bl=0) (h2:zC4 bl (comN c a b)=true):heaE c a b bl=0/\heaV c a b bl=yL2 c.ls a b bl:=by
 have e:heaE c a b bl=0:=by unfold heaE;rw [if_pos h,if_pos h1,if_pos h2]
 exact ⟨e,by unfold heaV;rw [e];rfl⟩
theorem yV4 (ls:List Int) (a b:Int) (n k:Nat) (hk:k<(comL ls a b n).length):(comL ls a b ((comL ls a b n).getD k 0)).length=k/\both (ls.getD ((comL ls a b n).getD k 0) 0) a b=true:=by
 induction n with
 | zero=>simp [comL] at hk
 | succ n ih =>
  rw [zA8] at hk ⊢;by_cases hb:both (ls.getD n 0) a b=true
  ·rw [if_pos hb] at hk ⊢
   by_cases h:k<(comL ls a b n).length
   ·rw [zA,zX h,<- zA]
    exact ih h
   ·rw [zD] at hk
    have e:k=(comL ls a b n).length:=by simp at hk;omega
    rw [zA,zR (by omega),e,Nat.sub_self];exact ⟨rfl,hb⟩
  ·rw [if_neg hb] at hk ⊢
   exact ih hk
theorem yV5 {ls:List Int} {a b:Int} {n j:Nat} (hj:j<n):j∈comL ls a b n ↔ both (ls.getD j 0) a b=true:=by
 unfold comL;rw [List.mem_filter,zY];exact ⟨fun h=>h.2,fun h=>⟨hj,h⟩⟩
theorem xO4 (n j:Nat) (h:j<=n):yU ((List.replicate n (34:Int)).take j)=34*j:=by
 rw [List.take_replicate,show min j n=j by omega];unfold yU;rw [List.map_replicate,List.sum_replicate_nat];show j*34=_;omega
theorem un34 {n:Nat} {bl:List Nat} (h:yS (List.replicate n (34:Int)) bl=0):(yW (List.replicate n (34:Int)) bl).length=n/\∀ j,j<n->(yW (List.replicate n (34:Int)) bl).getD j 0=((num (xM bl) (34*j) 34:Nat):Int):=by
 have hl:(vals (xM bl) 0 ((List.replicate n (34:Int)).map Int.toNat)).length=n:=by rw [vals_len,zL,yA]
 have e:yW (List.replicate n (34:Int)) bl=(vals (xM bl) 0 ((List.replicate n (34:Int)).map Int.toNat)).map (fun x:Nat=>(x:Int)):=by
  unfold yW kM;rw [if_pos h]
 rw [e];refine ⟨by rw [zL,hl],fun j hj=>?_⟩;have e2:=zH0 (List.replicate n (34:Int)) bl j (by rw [yA];exact hj);unfold zI4 at e2;rw [xO4 n j (by omega),yF3 n 34 hj] at e2;rw [zA,zV,zB (by rw [hl];exact hj)];rw [zA,zB (by rw [hl];exact hj)] at e2;simp only [Option.getD_some] at e2;simp only [Option.map_some,Option.getD_some];rw [e2];rfl
theorem xV7 {bl:List Nat} {m i:Nat} (hi:i<m) (h:entE (slF bl i)≠0):zC4 bl m=false:=by
 unfold zC4;rw [List.all_eq_false];exact ⟨i,zY.2 hi,by rw [beq_iff_eq];exact h⟩
theorem yV6 {bl:List Nat} {k:Nat} (h:zC4 bl k=true) (h1:entE (slF bl k)=0):zC4 bl (k+1)=true:=by
 unfold zC4 at h ⊢;rw [List.range_succ,List.all_append,h];simp [h1]
theorem xV8 (F:Nat->Nat):entE F=0\/entE F=4:=by
 unfold entE;split
 ·split
  ·exact .inl rfl
  ·exact .inr rfl
 ·exact .inr rfl
end Plain
def yV7 (T:Nat) (v:Value):Prop:=∀ p n c,v=.slice (some p) n c->0<n->p.block≠T
theorem yV8 (T:Nat) (p:Option Addr) (c:Nat):yV7 T (.slice p 0 c):=fun q n c' e hn=>by injection e with _ e2 _;omega
theorem ElL.set {w:World} {u:Value} {l:List En} {T i:Nat} (h:ElL w u l) (hn:yV7 T u) (x:Value):ElL (w.setCell ⟨T,i,none⟩ x) u l:=by
 refine ⟨?_,fun p n c e hp=>by have:=h.li p n c e hp;simpa [World.setCell] using this,h.le⟩;rcases h.sg with ⟨rfl,p1,c1,rfl⟩|⟨b1,o1,c1,rfl,hc1,g1⟩
 ·exact .inl ⟨rfl,p1,c1,rfl⟩
 ·refine .inr ⟨b1,o1,c1,rfl,hc1,fun j hj=>?_⟩
  have hb:b1≠T:=hn ⟨b1,o1,none⟩ _ _ rfl (by omega);have key:∀ o,(w.setCell ⟨T,i,none⟩ x).cell? ⟨b1,o,none⟩=w.cell? ⟨b1,o,none⟩:=fun o=>World.cell?_of_block (w:=w) (a:=⟨b1,o,none⟩) (RowKit.Below.heap_setCell w ⟨T,i,none⟩ x b1 hb);obtain ⟨c0,c1,c2,c3,c4⟩:=g1 j hj;exact ⟨(key _).trans c0,(key _).trans c1,(key _).trans c2,(key _).trans c3,(key _).trans c4⟩
structure ToI (w:World) (T n:Nat) (U:Nat->Value) (G:Nat->List En):Prop where
 row:w.rowIs T 56 n U
 el:∀ j,j<n->ElL w (U j) (G j)/\yV7 T (U j)
theorem ToI.grow {w w':World} {T n:Nat} {U:Nat->Value} {G:Nat->List En} (h:ToI w T n U G) (b:Below w.heap.size w w'):ToI w' T n U G :=
 ⟨h.row.of_block (b.block _ h.row.lt),fun j hj=>⟨(h.el j hj).1.grow b,(h.el j hj).2⟩⟩
theorem ToI.set {w:World} {T n:Nat} {U:Nat->Value} {G:Nat->List En} (h:ToI w T n U G) (i:Nat) {u:Value} {l:List En} (hu:ElL w u l) (hn:yV7 T u) :
  ToI (w.setCell ⟨T,i,none⟩ u) T n (fun j=>if j=i then u else U j) (fun j=>if j=i then l else G j):=by
 refine ⟨(h.row.set i u).congr fun j _=>rfl,fun j hj=>?_⟩;by_cases e:j=i
 ·simp only [if_pos e]
  exact ⟨hu.set hn u,hn⟩
 ·simp only [if_neg e]
  exact ⟨(h.el j hj).1.set (h.el j hj).2 u,(h.el j hj).2⟩
theorem ToI.congr {w:World} {T n:Nat} {U:Nat->Value} {G H:Nat->List En} (h:ToI w T n U G) (e:∀ j,j<n->G j=H j):ToI w T n U H :=
 ⟨h.row,fun j hj=>by rw [<- e j hj];exact h.el j hj⟩
theorem ToI.segs {w:World} {T n c:Nat} {U:Nat->Value} {G:Nat->List En} (h:ToI w T n U G) (hn:n<=1000):zA9 w (.slice (some ⟨T,0,none⟩) n c) ((List.range n).map G):=by
 refine ⟨by simp;omega,some ⟨T,0,none⟩,c,by simp,fun _=>⟨T,0,rfl,h.row.lt,fun j hj=>?_⟩⟩;rw [zL,List.length_range] at hj;refine ⟨U j,by rw [Nat.zero_add];exact h.row.cell hj,?_⟩;rw [zA,zV,yH hj];exact (h.el j hj).1
theorem Tryz.infoRowE:(Tryz.prog.info? 56).map (fun i=>(i.zero,i.size,i.bytes))=some (some (.slice none 0 0),1,24):=by kernel_rfl
theorem ToI.made (w:World) (n:Nat):ToI (w.alloc (.cells (madeCells #[.slice none 0 0] n) 56)) w.heap.size n (fun _=>.slice none 0 0) (fun _=>[]) :=
 ⟨World.rowIs_made w (.slice none 0 0) n 56,fun _ _=>⟨⟨.inl ⟨rfl,_,_,rfl⟩,yT _ _ _,by decide⟩,yV8 _ _ _⟩⟩
theorem copy8 {V:World} {S vb vo n c:Nat} {F:Nat->Int} {f:Nat->Value} (h:V.rowIs S 187 8 f) (hn:8<=n) (hs:∀ j,j<8->V.cell? ⟨vb,vo+j,none⟩=some (.int .i64 (F j))) :
  ∃ V',(∀ ty,(Builtin.copy_ #[22,22] ty #[.slice (some ⟨S,0,none⟩) 8 8,.slice (some ⟨vb,vo,none⟩) n c]).run Tryz.prog V=.ok (goInt ((8:Nat):Int)) V')/\V'.rowIs S 187 8 (fun j=>.int .i64 (F j))/\(∀ B,B<=S->Below B V V'):=by
 obtain ⟨cur,hb,hsz,_⟩:=h;have hlen:((List.range 8).map fun j=>Value.int .i64 (F j)).length=8:=by simp
 refine ⟨V.setRow S (cur.toList.take 0++((List.range 8).map fun j=>Value.int .i64 (F j))++cur.toList.drop (0+8)).toArray,fun ty=>?_,⟨_,setRow_heap V S cur _ 187 _ hb,?_,fun i hi=>?_⟩,fun B hB=>below_setRow yO hB _⟩
 ·have:=run_copy_row (P:=Tryz.prog) V 22 22 ty 3 S 0 8 8 ⟨vb,vo,none⟩ n c cur 187 ((List.range 8).map fun j=>Value.int .i64 (F j)) Tryz.underlying22 (by kernel_rfl) hb
   (by rw [hlen];exact (Nat.min_eq_right hn).symm) (fun j v hj=>by
    have hj8:j<8:=by
     rcases Nat.lt_or_ge j 8 with y|y
     ·exact y
     ·rw [zN (by rw [hlen];exact y)] at hj;cases hj
    rw [zV,yH hj8] at hj;rw [zS1,hs j hj8];exact hj) (by rw [hlen,hsz];omega) (fun v hv=>by obtain ⟨x,_,rfl⟩:=zZ.1 hv;rfl)
  rw [hlen] at this;exact this
 ·simp only [List.size_toArray,List.length_append,List.length_take,List.length_drop,hlen,Array.length_toList,hsz];omega
 ·simp only [List.take_zero,List.nil_append,List.getElem?_toArray]
  rw [zX (by rw [hlen];exact hi),zV,yH hi];rfl
theorem yV9 (w:World):zA9 w (.slice none 0 0) []:=⟨by decide,_,_,rfl,fun h=>by simp at h⟩
namespace Plain
def outD (ls:List Int) (a b:Int) (bl:List Nat) (j:Nat):List En:=if both (ls.getD j 0) a b=true then jD (slF bl (comL ls a b j).length) 8 else []
def outL (ls:List Int) (a b:Int) (bl:List Nat):List (List En):=(List.range ls.length).map (outD ls a b bl)
theorem zV8 (F:Nat->Nat) (n k:Nat):look k (jD F n)=if k<n/\F k/8589934592≠0 then some (entD k (F k)) else none:=by
 induction n with
 | zero=>rw [if_neg (by omega)];rfl
 | succ n ih =>
  rw [vK,yD2,ih];by_cases e:k=n
  ·subst e
   rw [if_neg (by omega)];by_cases h:F k/8589934592=0
   ·rw [if_pos h,if_neg (by omega)];rfl
   ·rw [if_neg h,if_pos ⟨by omega,h⟩,xT,if_pos (show (entD k (F k)).key=(k:Int) from rfl)];rfl
  ·have hn:look (k:Int) (if F n/8589934592=0 then [] else [entD n (F n)])=none:=by
    split
    ·rfl
    ·rw [xT,if_neg (by show ¬ ((n:Int)=(k:Int));omega)];rfl
   rw [hn,Option.or_none];by_cases h:k<n/\F k/8589934592≠0
   ·rw [if_pos h,if_pos ⟨by omega,h.2⟩]
   ·rw [if_neg h,if_neg (fun h2=>h ⟨by omega,h2.2⟩)]
theorem yW0 (k s:Nat) (h1:s/8589934592≠0) (h2:s<17179869184):zC2 (entD k s)=s:=by
 unfold zC2 entD;simp only [Int.toNat_natCast];have:s/4294967296%2=0\/s/4294967296%2=1:=by omega
 rcases this with h|h
 ·rw [h,if_neg (by decide)];omega
 ·rw [h,if_pos (by decide)];omega
theorem yA9 (F:Nat->Nat) {k:Nat} (hk:k<8) (h2:F k<17179869184):xU (jD F 8) k=if F k/8589934592=0 then 0 else F k:=by
 unfold xU;rw [zV8];by_cases h:F k/8589934592=0
 ·rw [if_neg (by omega),if_pos h]
 ·rw [if_pos ⟨hk,h⟩,if_neg h]
  exact yW0 k (F k) h h2
theorem xI1 (ls:List Int) (a b:Int) {k n:Nat} (h:k<=n):(comL ls a b k).length<=(comL ls a b n).length:=by
 induction n with
 | zero =>
  have:k=0:=by omega
  subst this;exact yN
 | succ n ih =>
  by_cases e:k=n+1
  ·subst e;exact yN
  ·have:=ih (by omega)
   rw [zA8];split
   ·rw [zD];omega
   ·exact this
theorem yF9 {ls:List Int} {a b:Int} {j n:Nat} (hj:j<n) (h:both (ls.getD j 0) a b=true):(comL ls a b j).length<(comL ls a b n).length:=by
 have h1:=xI1 ls a b (k:=j+1) (n:=n) (by omega);rw [zA8,if_pos h,zD] at h1;have:[j].length=1:=rfl;omega
theorem sz34 (m:Nat) (hm:m<=4):szE (List.replicate (m*8) (34:Int))=0/\szN (List.replicate (m*8) (34:Int))=34*m/\yU (List.replicate (m*8) (34:Int))=34*(m*8):=by
 have ha:(List.replicate (m*8) (34:Int)).all okW=true:=by
  rw [zT];intro x hx;rw [List.eq_of_mem_replicate hx];rfl
 have hb:yU (List.replicate (m*8) (34:Int))=34*(m*8):=by
  have:=xO4 (m*8) (m*8) yN;rwa [yB (by rw [yA];exact yN)] at this
 have hz:=zS0 (List.replicate (m*8) (34:Int)) (by rw [yA];omega) ha;exact ⟨hz.1,by rw [hz.2,hb];omega,hb⟩
theorem xI2 (m:Nat) (hm:m<=4) (bl:List Nat):yS (List.replicate (m*8) (34:Int)) bl=0 ↔ bl.length=34*m:=by
 obtain ⟨h1,h2,h3⟩:=sz34 m hm;unfold yS;rw [if_pos h1,h2,h3,show 8*(34*m)-34*(m*8)=0 by omega];constructor
 ·intro h
  by_cases e:bl.length=34*m
  ·exact e
  ·rw [if_neg e] at h;omega
 ·intro h
  rw [if_pos h];rfl
theorem xI3 {bl:List Nat} {m:Nat} (h:zC4 bl m=true) {k:Nat} (hk:k<m):okS (slF bl k) 8=true/\mayL (jD (slF bl k) 8)=true:=by
 have:=zT.1 h k (zY.2 hk);rw [beq_iff_eq] at this;unfold entE at this;by_cases h1:okS (slF bl k) 8=true
 ·rw [if_pos h1] at this
  by_cases h2:mayL (jD (slF bl k) 8)=true
  ·exact ⟨h1,h2⟩
  ·rw [if_neg h2] at this;omega
 ·rw [if_neg h1] at this;omega
theorem xI4 {F:Nat->Nat} (hF:∀ j,F j<17179869184) (h:∀ j,j<8->xU (jD F 8) j=F j):okS F 8=true:=by
 unfold okS;rw [zT];intro j hj;have hj8:=zY.1 hj;have:=h j hj8;rw [yA9 F hj8 (hF j)] at this;unfold slOK;by_cases h0:F j/8589934592=0
 ·rw [if_pos h0] at this
  rw [<- this];rfl
 ·have h1:(F j/8589934592 != 0)=true:=by rw [bne_iff_ne];exact h0
  rw [h1];rfl
theorem xI5 {c:Cf} {a b:Int} {bl:List Nat} (h:zC4 bl (comN c a b)=true):yL2 c.ls a b bl=outL c.ls a b bl:=by
 unfold yL2 outL;refine List.map_congr_left fun j hj=>?_;unfold yV3 outD;split
 ·rename_i hb
  have hg:=xI3 h (yF9 (zY.1 hj) hb);exact (yU8 hg.1 hg.2).2
 ·rfl
theorem zV9 (us:List Int):(rbits ((fldL 34 us).map nat2)).length=34*us.length:=by
 rw [zR5];unfold fldL;rw [List.map_map,List.map_map];induction us with
 | nil=>rfl
 | cons v vs ih =>
  rw [List.map_cons,List.sum_cons,ih,List.length_cons];show 34+_=_;omega
theorem yG0 {vs:List Int} (hl:vs.length<=32) (h:∀ v∈vs,0<=v/\v<17179869184) {i:Nat} (hi:i<vs.length):((num (xM (qR (fldL 34 vs))) (34*i) 34:Nat):Int)=vs.getD i 0:=by
 have h2:=(yT9 hl h).2;rw [h2];have hlen:=zV9 vs;have hg:∀ p,at0 (rbits ((fldL 34 vs).map nat2)) p<2:=zR4 _ (vY _);have e1:num (xM (bytesOf (rbits ((fldL 34 vs).map nat2)) ((34*vs.length+7)/8))) (34*i) 34=num (at0 (rbits ((fldL 34 vs).map nat2))) (34*i) 34 :=
  zR3 _ _ _ _ fun j hj=>vX _ hg _ _ (by omega)
 rw [e1];have hsplit:vs=vs.take i++(vs.getD i 0 :: vs.drop (i+1)):=by
  rw [zA,zB hi];simp
 have e2:rbits ((fldL 34 vs).map nat2)=rbits ((fldL 34 (vs.take i)).map nat2)++fbits 34 (vs.getD i 0).toNat++rbits ((fldL 34 (vs.drop (i+1))).map nat2):=by
  conv=>lhs;rw [hsplit]
  unfold fldL;rw [List.map_append,List.map_append,zD0,yG];rfl
 have hpl:(rbits ((fldL 34 (vs.take i)).map nat2)).length=34*i:=by rw [zV9,zU];omega
 have hv:=h (vs.getD i 0) (by rw [zA,zB hi];exact zH hi);have e3:=zR6 34 (vs.getD i 0).toNat (by omega) (rbits ((fldL 34 (vs.take i)).map nat2)) (rbits ((fldL 34 (vs.drop (i+1))).map nat2));rw [hpl] at e3;rw [e2,e3];omega
end Plain
namespace Plain
theorem yG1 (F:Nat->Nat) (n:Nat):Srt (jD F n)/\∀ e∈jD F n,0<=e.key/\e.key<n:=by
 induction n with
 | zero=>exact ⟨List.Pairwise.nil,fun e he=>by simp [jD] at he⟩
 | succ n ih =>
  rw [vK];by_cases h:F n/8589934592=0
  ·rw [if_pos h,List.append_nil]
   exact ⟨ih.1,fun e he=>by have:=ih.2 e he;omega⟩
  ·rw [if_neg h]
   refine ⟨List.pairwise_append.2 ⟨ih.1,List.pairwise_singleton _ _,fun a ha b hb=>?_⟩,fun e he=>?_⟩
   ·simp at hb
    subst hb;exact (ih.2 a ha).2
   ·rcases yL.1 he with h1|h1
    ·have:=ih.2 e h1;omega
    ·simp at h1
     subst h1;show 0<=(n:Int)/\(n:Int)<((n+1:Nat):Int);omega
theorem yW1 {e:En} (hm:mayB e=true) (hf:fitE e=true) {k:Nat} (hk:e.key=k):zC2 e/8589934592≠0/\entD k (zC2 e)=e:=by
 have h1:=yT6 hm;have h2:=yT7 hf;obtain ⟨key,v,t,o,g⟩:=e;dsimp only at h1 h2 hk;obtain ⟨v,rfl⟩:=zW h1.2.1.1;obtain ⟨t,rfl⟩:=zW h1.2.2.1.1;obtain ⟨o,rfl⟩:=zW h1.2.2.2.1.1;subst hk;unfold zC2 entD;simp only [Int.toNat_natCast];cases g with
 | false =>
  have hs:8589934592+(if false=true then 4294967296 else 0)+v*16777216+t*8+o=8589934592+v*16777216+t*8+o:=by simp
  rw [hs];refine ⟨by omega,?_⟩;have a2:(8589934592+v*16777216+t*8+o)/16777216%256=v:=by omega
  have a3:(8589934592+v*16777216+t*8+o)/8%2097152=t:=by omega
  have a4:(8589934592+v*16777216+t*8+o)%8=o:=by omega
  have a5:(8589934592+v*16777216+t*8+o)/4294967296%2=0:=by omega
  rw [a2,a3,a4,a5];rfl
 | true =>
  have hs:8589934592+(if true=true then 4294967296 else 0)+v*16777216+t*8+o=12884901888+v*16777216+t*8+o:=by simp
  rw [hs];refine ⟨by omega,?_⟩;have a2:(12884901888+v*16777216+t*8+o)/16777216%256=v:=by omega
  have a3:(12884901888+v*16777216+t*8+o)/8%2097152=t:=by omega
  have a4:(12884901888+v*16777216+t*8+o)%8=o:=by omega
  have a5:(12884901888+v*16777216+t*8+o)/4294967296%2=1:=by omega
  rw [a2,a3,a4,a5];rfl
theorem yL3 {l:List En} (hm:mayL l=true) (hf:l.all fitE=true) {F:Nat->Nat} (hF:∀ j,j<8->F j=xU l j):jD F 8=l:=by
 have h1:=(qW l).1 hm;have h2:=zT.1 hf;refine xC2 (yG1 F 8).1 h1.2.2 fun k=>?_;by_cases hk:0<=k/\k<8
 ·obtain ⟨k,rfl⟩:=zW hk.1
  have hk8:k<8:=by omega
  rw [zV8,hF k hk8];unfold xU;cases hl:look (k:Int) l with
  | none=>rw [if_neg (by simp)]
  | some e =>
   have he:=kZ hl;have hs:=yW1 (h1.2.1 e he.2) (h2 e he.2) he.1;dsimp only;rw [if_pos ⟨hk8,hs.1⟩,hs.2]
 ·rw [kN fun e he=>by have:=(yG1 F 8).2 e he;omega,kN fun e he=>by
   have a:=yT6 (h1.2.1 e he);have b:=yT7 (h2 e he);omega]
theorem xV9 (c:Cf) (a b:Int) (st:List (List En)):∀ x∈rumB c a b st,x<256:=by
 intro x hx;unfold rumB at hx;split at hx
 ·unfold qR at hx
  split at hx
  ·simp only [bytesOf,List.mem_map] at hx
   obtain ⟨j,_,rfl⟩:=hx;exact zE9 _ (zR4 _ (vY _)) j
  ·simp at hx
 ·simp at hx
theorem zL4 {c:Cf} {a b:Int} {st:List (List En)} (hr:refE c a b=0) (h1:st.length=c.ls.length) (h2:st.all mayL=true) (h3:∀ l∈st,l.all fitE=true) :
  rumE c a b st=0/\heaE c a b (rumB c a b st)=0/\heaV c a b (rumB c a b st)=(List.range c.ls.length).map (fun j=>if both (c.ls.getD j 0) a b=true then st.getD j [] else [])/\(rumB c a b st).length=34*comN c a b:=by
 have hm4:comN c a b<=4:=by
  have h1:=zH4 c.ls a b c.ls.length;have h2:=(xJ (yA5 hr).1).2.1;unfold comN;omega
 have hat:∀ j,j<st.length->mayL (st.getD j [])=true/\(st.getD j []).all fitE=true:=fun j hj=>by
  have e:st.getD j []=st[j]:=by rw [zA,zB hj];rfl
  rw [e];exact ⟨zT.1 h2 _ (zH hj),h3 _ (zH hj)⟩
 have hroom:zI5 st (comL c.ls a b c.ls.length)=true:=by
  unfold zI5;rw [zT];intro j hj;exact (hat j (by rw [h1];exact yF6 hj)).2
 have hok:=xO1 hr h1 h2 hroom;have hj:∀ j∈comL c.ls a b c.ls.length,j<st.length:=fun j hj=>by rw [h1];exact yF6 hj
 have hvl:=yU4 h2 hj hroom;have hlen:=zH2 st (comL c.ls a b c.ls.length);have hcn:(comL c.ls a b c.ls.length).length=comN c a b:=rfl;rw [hcn] at hlen;have hbl:(rumB c a b st).length=34*comN c a b:=by
  rw [hok.2,(yT9 (by omega) hvl).2,qT];omega
 have hflat:∀ k j,k<comN c a b->j<8->(jT st (comL c.ls a b c.ls.length)).getD (k*8+j) 0=((xU (st.getD ((comL c.ls a b c.ls.length).getD k 0) []) j:Nat):Int):=by
  have key:∀ (js:List Nat) (k j:Nat),k<js.length->j<8->(jT st js).getD (k*8+j) 0=((xU (st.getD (js.getD k 0) []) j:Nat):Int):=by
   intro js;induction js with
   | nil=>intro k j hk;simp at hk
   | cons x js ih =>
    intro k j hk hj8;have e:jT st (x :: js)=kV (st.getD x [])++jT st js:=rfl;have hl8:=zL3 (st.getD x []);rw [e,zA];cases k with
    | zero =>
     rw [zX (by omega),<- zA,Nat.zero_mul,Nat.zero_add];exact yT5 _ hj8
    | succ k =>
     rw [zR (by omega),hl8,show (k+1)*8+j-8=k*8+j by omega,<- zA];exact ih k j (by simpa using hk) hj8
  exact fun k j hk hj8=>key _ k j hk hj8
 have hsl:∀ k,k<comN c a b->jD (slF (rumB c a b st) k) 8=st.getD ((comL c.ls a b c.ls.length).getD k 0) []:=fun k hk=>by
  have hin:(comL c.ls a b c.ls.length).getD k 0∈comL c.ls a b c.ls.length:=by rw [zA,zB hk];exact zH hk
  have hm:=hat _ (hj _ hin);refine yL3 hm.1 hm.2 fun j hj8=>?_;have e:=yG0 (by omega) hvl (i:=k*8+j) (by omega);rw [hflat k j hk hj8] at e;unfold slF;rw [hok.2];omega
 have hgood:zC4 (rumB c a b st) (comN c a b)=true:=by
  unfold zC4;rw [zT];intro k hk;have hk':=zY.1 hk;have hin:(comL c.ls a b c.ls.length).getD k 0∈comL c.ls a b c.ls.length:=by rw [zA,zB hk'];exact zH hk'
  have hm:=hat _ (hj _ hin);have h4:okS (slF (rumB c a b st) k) 8=true:=xI4 (xO2 _ k) (fun j hj8=>by
   rw [hsl k hk'];have e:=yG0 (by omega) hvl (i:=k*8+j) (by omega);rw [hflat k j hk' hj8] at e;unfold slF;rw [hok.2];omega)
  rw [(yU8 h4 (by rw [hsl k hk'];exact hm.1)).1];rfl
 have hh:=xO3 hr ((xI2 _ hm4 _).2 hbl) hgood;refine ⟨hok.1,hh.1,?_,hbl⟩;rw [hh.2,xI5 hgood];unfold outL;refine List.map_congr_left fun j hj'=>?_;unfold outD;split
 ·rename_i hb
  have hjl:=zY.1 hj';have hrk:=yF9 hjl hb;rw [hsl _ hrk];have hmem:=(yV5 (ls:=c.ls) (a:=a) (b:=b) hjl).2 hb;obtain ⟨k,hk,e⟩:=List.getElem_of_mem hmem;have hp:=yV4 c.ls a b c.ls.length k hk;rw [zA,zB hk] at hp;simp only [Option.getD_some] at hp;rw [e] at hp;rw [hp.1,zA (l:=comL c.ls a b c.ls.length),zB hk];simp only [Option.getD_some];rw [e]
 ·rfl
end Plain
namespace Plain
theorem xW0 (l:List (Int × Int)) (h:l.all fitB=true):∀ f∈l.map nat2,f.2<2^f.1:=by
 intro f hf;obtain ⟨g,hg,rfl⟩:=zZ.1 hf;have:=zT.1 h g hg;unfold fitB at this;simp only [Bool.and_eq_true,decide_eq_true_eq] at this;obtain ⟨h1,h2⟩:=this;have e:((2:Int)^g.1.toNat)=((2^g.1.toNat:Nat):Int):=by simp
 rw [e] at h2;unfold nat2;simp only;omega
theorem qF8 (l:List (Int × Int)) (h:l.all fitB=true):∀ f∈l,0<=f.2:=by
 intro f hf;have:=zT.1 h f hf;unfold fitB at this;simp only [Bool.and_eq_true,decide_eq_true_eq] at this;exact this.1
theorem back (l:List (Int × Int)) (hz:szE (l.map Prod.fst)=0) (ha:l.all fitB=true):yS (l.map Prod.fst) (qR l)=0/\yW (l.map Prod.fst) (qR l)=l.map Prod.snd:=by
 have hp:=zE2 l hz ha;have hs:=jN _ hz;have hl:(qR l).length=szN (l.map Prod.fst):=by rw [hp.2,qT]
 have hlt:=zR4 _ (vY (l.map nat2));have hbit:∀ p,p<8*szN (l.map Prod.fst)->xM (qR l) p=at0 (rbits (l.map nat2)) p:=by
  intro p h;rw [hp.2];exact vX _ hlt _ p h
 have hx:num (xM (qR l)) (yU (l.map Prod.fst)) (8*szN (l.map Prod.fst)-yU (l.map Prod.fst))=0:=by
  rw [xB1];intro i hi;rw [hbit _ (by omega),zX2];rw [xN8];omega
 have h:=xU4 (l.map Prod.fst) (qR l) hz hl hx;refine ⟨h.1,?_⟩;rw [h.2];have e1:vals (xM (qR l)) 0 ((l.map Prod.fst).map Int.toNat)=vals (at0 (rbits (l.map nat2))) 0 ((l.map Prod.fst).map Int.toNat):=by
  apply yH5;intro p hp';apply hbit;have:((l.map Prod.fst).map Int.toNat).sum=yU (l.map Prod.fst):=rfl;omega
 have e2:=yH4 (l.map nat2) (xW0 l ha) [] [];have e3:(l.map nat2).map Prod.fst=(l.map Prod.fst).map Int.toNat:=by simp [nat2,Function.comp_def]
 rw [List.nil_append,List.append_nil,e3,List.length_nil] at e2;rw [e1,e2,List.map_map,List.map_map];apply List.map_congr_left;intro f hf;have:=qF8 l ha f hf;simp only [Function.comp,nat2];omega
theorem yW2 (l:List Int):(fldL 21 l).map Prod.fst=List.replicate l.length 21/\(fldL 21 l).map Prod.snd=l:=by
 unfold fldL;rw [List.map_map,List.map_map];induction l with
 | nil=>exact ⟨rfl,rfl⟩
 | cons v l ih =>
  refine ⟨?_,?_⟩
  ·rw [List.map_cons,ih.1,List.length_cons,List.replicate_succ];rfl
  ·rw [List.map_cons,ih.2];rfl
theorem yW3 {c:Cf} {l:List Int} (h:mayC c=true) (h1:l.length=c.ms.length) (h2:l.all cntB=true) :
  zH1 c l=0/\askE c (xV c l)=0/\askV c (xV c l)=l/\(xV c l).length=(21*l.length+7)/8:=by
 have h3:=(xJ h).2.2.2.2.1;have hall:(List.replicate l.length (21:Int)).all okW=true:=by
  rw [zT];intro x hx;rw [List.eq_of_mem_replicate hx];rfl
 have hb:yU (List.replicate l.length (21:Int))=21*l.length:=by
  unfold yU;rw [List.map_replicate,List.sum_replicate_nat];show l.length*21=_;omega
 have hz:=zS0 (List.replicate l.length (21:Int)) (by rw [yA];omega) hall;have hf:(fldL 21 l).all fitB=true:=by
  rw [zT];intro f hf;obtain ⟨v,hv,rfl⟩:=zZ.1 hf;have:=(kS v 0 1048576).1 (zT.1 h2 v hv);unfold fitB;simp only [Bool.and_eq_true,decide_eq_true_eq];refine ⟨this.1,?_⟩;have e:(2:Int)^(21:Int).toNat=2097152:=by decide
  rw [e];omega
 have hp:=zE2 (fldL 21 l) (by rw [(yW2 l).1];exact hz.1) hf;have hbk:=back (fldL 21 l) (by rw [(yW2 l).1];exact hz.1) hf;rw [(yW2 l).1,(yW2 l).2] at hbk;have ho:=yT4 h h1 h2;have hk:=xO0 (b:=qR (fldL 21 l)) h (by rw [<- h1];exact hbk.1) (by rw [<- h1,hbk.2];exact h2);rw [ho.2];refine ⟨by rw [ho.1];exact hp.1,hk.1,by rw [hk.2,<- h1];exact hbk.2,?_⟩;rw [hp.2,qT,(yW2 l).1,hz.2,hb]
theorem xI6 (l:List (Int × Int)):∀ x∈qR l,x<256:=by
 intro x hx;unfold qR at hx;split at hx
 ·simp only [bytesOf,List.mem_map] at hx
  obtain ⟨j,_,rfl⟩:=hx;exact zE9 _ (zR4 _ (vY _)) j
 ·simp at hx
theorem yG2 (c:Cf) (l:List Int):∀ x∈xV c l,x<256:=by
 intro x hx;unfold xV at hx;split at hx
 ·split at hx
  ·split at hx
   ·exact xI6 _ x hx
   ·simp at hx
  ·simp at hx
 ·simp at hx
end Plain
end Go.Proofs.YtleaknfjbbccgaaGreatDoor
