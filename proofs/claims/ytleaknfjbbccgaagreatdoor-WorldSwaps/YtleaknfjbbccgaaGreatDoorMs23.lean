/- Laid together. -/
import Derived.WalkKit
import Derived.ProofKit
import Derived.LaidMore
import Derived.OpenShut
import Derived.Stop.Joined
import Derived.WalkSmall
import Derived.ShutString
import Derived.ChangeOld
import Derived.Below
import Derived.SizedLaws
import Derived.SevenTiedAt
import Derived.ChangeMaps5
import Derived.Test.YtleaknfjbbccgaaGreatDoorRows
import Derived.Test.YtleaknfjbbccgaaGreatDoorCards
import Derived.Test.YtleaknfjbbccgaaGreatDoorTie
import Derived.Test.YtleaknfjbbccgaaGreatDoorMs19
import Derived.Test.YtleaknfjbbccgaaGreatDoorMs22
namespace Go.Proofs.YtleaknfjbbccgaaGreatDoor
open Plain
set_option maxHeartbeats 16000000
set_option maxRecDepth 100000
namespace worldSwaps
open Go Go.ChangeShapes Go.WideShapes Go.ChangeAt Go.RowKit Go.Sort Go.Shelf
open Plain
set_option linter.unusedVariables false
theorem zR0 {H:Type} {enc:TypeId × Value->H} {W:World} {d:DataW H} {p:List MemPlace} {a:Option Addr} {len cap:Nat} (h:DataW.Trod enc Tryz.prog W 0 (fun _=>true) true 22 (.slice a len cap) d p) :
  ∃ l:List Int,l.length=len/\len<=cap/\cap<=9223372036854775807/\(∀ n∈l,(Lit.int .i64 n).wf=true)/\Lies W.heap.size (.slice a len cap)/\Seg W (.slice a len cap) l:=by
 obtain ⟨fuel,hf⟩:=h;rcases open_ints Tryz.underlying22 Tryz.underlying3 (by kernel_rfl) hf with ⟨hcs,_⟩|⟨x,l,c,zs,hcs,_,hl,hm,hz,_,hcell,hwz⟩
 ·simp [Value.cells] at hcs
  obtain ⟨rfl,rfl,rfl⟩:=hcs;exact zM1 (zs:=[]) (.inl ⟨rfl,rfl,rfl,rfl⟩)
 ·simp [Value.cells] at hcs
  obtain ⟨rfl,rfl,rfl⟩:=hcs;exact zM1 (.inr ⟨_,rfl,hl,hm,by simpa using hz,hcell,hwz⟩)
theorem own:ownKnob Tryz.prog.godebug=none:=by kernel_rfl
theorem laidOut:laidOutB Tryz.prog=true:=by kernel_rfl
theorem zR1 (os:Os) (args:Array Value):laidMetH Tryz.prog Rows.worldSwapsRow.laid ((World.doorLaid Tryz.prog 4000 os).forCall (fun _ _=>0) ⟨#[],args,[]⟩).memory :=
 laidMetH_of_parts3 (fuel:=8) (laidMet_of_run' 8 (by kernel_rfl) (by kernel_rfl)) (by kernel_rfl) (by kernel_rfl)
theorem walk (w:World) (hE:OrdT w) (q0:Option Addr) (n0 c0:Nat) (l0:List Int) (hm0:n0<=9223372036854775807) (hl0:l0.length=n0) (hr0:∀ x,x∈l0->In64 x) (s0:yC0 w q0 l0) (a1:Int) (w1:In64 a1) (a2:Int) (w2:In64 a2) (a3:Int) (w3:In64 a3) (q4:Option Addr) (n4 c4:Nat) (l4:List Plain.Sp) (hl4:l4.length=n4) (hm4:n4<=9223372036854775807) (hr4:∀ x,x∈l4->InX x) (s4:qA.Holds w q4 l4) (a5:Int) (w5:In64 a5) (a6:Int) (w6:In64 a6) (q7:Option Addr) (n7 c7:Nat) (l7:List Plain.Sp) (hl7:l7.length=n7) (hm7:n7<=9223372036854775807) (hr7:∀ x,x∈l7->InX x) (s7:qA.Holds w q7 l7) :
  Calls Tryz.prog 4 #[.slice q0 n0 c0,.int .i64 a1,.int .i64 a2,.int .i64 a3,.slice q4 n4 c4,.int .i64 a5,.int .i64 a6,.slice q7 n7 c7] w fun e w'=>e=.returned (.bool true)/\Below w.heap.size w w':=by
 exact zD6 q0 n0 c0 l0 hm0 hl0 hr0 a1 a2 a3 w1 w2 w3 q4 n4 c4 l4 hl4 hm4 hr4 a5 a6 w5 w6 q7 n7 c7 l7 hl7 hm7 hr7 w hE s0 s4 s7
theorem lifted (os:Os) (started:os.Started) (H:Type) (enc:TypeId × Value->H) :
  ReturnsInHanded {} Tryz.checked os 4 .any (fun w args=>(Rows.worldSwapsSpec.pre enc Tryz.prog Tryz.f4 [] false w args/\laidMetH Tryz.prog Rows.worldSwapsRow.laid w)/\sizedMet enc Tryz.prog Tryz.f4 (OpenSpec.ofChange Rows.worldSwapsSpec) false w args)
   (Rows.worldSwapsSpec.post enc Tryz.prog Tryz.f4 false true false false):=by
 refine returnsInHanded_of_change_and (C:=Tryz.checked) (X:=fun w _=>laidMetH Tryz.prog Rows.worldSwapsRow.laid w) (fun _ _ _ hh h=>h.of_heap hh) own started (by kernel_rfl) Tryz.func4
  (ChangeSpec.witness_shaped (enc:=enc) (C:=Tryz.checked) (os:=os) (X:=fun w _=>laidMetH Tryz.prog Rows.worldSwapsRow.laid w) false (World.doorLaid Tryz.prog 4000 os) #[.slice none 0 0,.int .i64 0,.int .i64 0,.int .i64 0,.slice none 0 0,.int .i64 0,.int .i64 0,.slice none 0 0] 8 rfl (World.shaped_of_RefB (by kernel_rfl) (by kernel_rfl)) (by kernel_rfl) (by kernel_rfl) (by kernel_rfl) (zR1 os _)) ?_
 intro W base args ds gs before hval0 hW _ hwt hL _;have hval:∀ (j:Nat) t v,Tryz.f4.params[j]?=some t->args[j]?=some v->Value.okWide Tryz.prog W .any base t v:=hval0;have hW':=hW;obtain ⟨p,q,hA0,hV,rfl,hfz,hnd⟩:=hW;have hA:DataW.TrodAll enc Tryz.prog W 0 (fun _=>true) true Tryz.f4.params.toList args.toList ds p:=hA0;rw [Tryz.params4] at hA hval;obtain ⟨v0,vs0,d0,ds0,p0,q0,hargs,rfl,rfl,h0,r0⟩:=trodAll_cons hA;obtain ⟨v1,vs1,d1,ds1,p1,q1,rfl,rfl,rfl,h1,r1⟩:=trodAll_cons r0;obtain ⟨v2,vs2,d2,ds2,p2,q2,rfl,rfl,rfl,h2,r2⟩:=trodAll_cons r1;obtain ⟨v3,vs3,d3,ds3,p3,q3,rfl,rfl,rfl,h3,r3⟩:=trodAll_cons r2;obtain ⟨v4,vs4,d4,ds4,p4,q4,rfl,rfl,rfl,h4,r4⟩:=trodAll_cons r3;obtain ⟨v5,vs5,d5,ds5,p5,q5,rfl,rfl,rfl,h5,r5⟩:=trodAll_cons r4;obtain ⟨v6,vs6,d6,ds6,p6,q6,rfl,rfl,rfl,h6,r6⟩:=trodAll_cons r5;obtain ⟨v7,vs7,d7,ds7,p7,q7,rfl,rfl,rfl,h7,r7⟩:=trodAll_cons r6;obtain ⟨rfl,rfl,rfl⟩:=trodAll_nil r7;obtain rfl:args=#[v0,v1,v2,v3,v4,v5,v6,v7]:=by cases args;simp_all
 obtain ⟨rfl,rfl⟩:=trodVars_none hV;obtain ⟨a0,len0,cap0,rfl⟩:=okWide_slice Tryz.underlying22 (hval 0 22 v0 rfl rfl);have k0:=h0;have lt0:∀ x∈p0,x.block<W.heap.size:=by obtain ⟨m,hm⟩:=k0;exact DataW.trod_lt m _ _ _ hm
 obtain ⟨l0,hl0,hc0,hm0,hr0,y0,s0⟩:=zR0 h0;have k1:=h1;have lt1:∀ x∈p1,x.block<W.heap.size:=by obtain ⟨m,hm⟩:=k1;exact DataW.trod_lt m _ _ _ hm
 obtain ⟨a1,rfl,_,_,w1⟩:=open_int Tryz.underlying3 (hval 1 3 v1 rfl rfl) h1;have k2:=h2;have lt2:∀ x∈p2,x.block<W.heap.size:=by obtain ⟨m,hm⟩:=k2;exact DataW.trod_lt m _ _ _ hm
 obtain ⟨a2,rfl,_,_,w2⟩:=open_int Tryz.underlying3 (hval 2 3 v2 rfl rfl) h2;have k3:=h3;have lt3:∀ x∈p3,x.block<W.heap.size:=by obtain ⟨m,hm⟩:=k3;exact DataW.trod_lt m _ _ _ hm
 obtain ⟨a3,rfl,_,_,w3⟩:=open_int Tryz.underlying3 (hval 3 3 v3 rfl rfl) h3;obtain ⟨a4,len4,cap4,rfl⟩:=okWide_slice Tryz.underlying23 (hval 4 23 v4 rfl rfl);have k4:=h4;have lt4:∀ x∈p4,x.block<W.heap.size:=by obtain ⟨m,hm⟩:=k4;exact DataW.trod_lt m _ _ _ hm
 obtain ⟨l4,hl4,hm4,s4,hr4⟩:=zE7 Tryz.underlying23 Tryz.underlying70 (by kernel_rfl) ⟨rfl,by intro j f hj;rcases j with _|_|_|_|_|_|_|_|j<;>simp at hj<;>subst hj<;>exact ⟨rfl,by kernel_rfl,Tryz.underlying3⟩⟩ h4;have k5:=h5;have lt5:∀ x∈p5,x.block<W.heap.size:=by obtain ⟨m,hm⟩:=k5;exact DataW.trod_lt m _ _ _ hm
 obtain ⟨a5,rfl,_,_,w5⟩:=open_int Tryz.underlying3 (hval 5 3 v5 rfl rfl) h5;have k6:=h6;have lt6:∀ x∈p6,x.block<W.heap.size:=by obtain ⟨m,hm⟩:=k6;exact DataW.trod_lt m _ _ _ hm
 obtain ⟨a6,rfl,_,_,w6⟩:=open_int Tryz.underlying3 (hval 6 3 v6 rfl rfl) h6;obtain ⟨a7,len7,cap7,rfl⟩:=okWide_slice Tryz.underlying23 (hval 7 23 v7 rfl rfl);have k7:=h7;have lt7:∀ x∈p7,x.block<W.heap.size:=by obtain ⟨m,hm⟩:=k7;exact DataW.trod_lt m _ _ _ hm
 obtain ⟨l7,hl7,hm7,s7,hr7⟩:=zE7 Tryz.underlying23 Tryz.underlying70 (by kernel_rfl) ⟨rfl,by intro j f hj;rcases j with _|_|_|_|_|_|_|_|j<;>simp at hj<;>subst hj<;>exact ⟨rfl,by kernel_rfl,Tryz.underlying3⟩⟩ h7;clear hA0 hval0;refine (walk W (envO rfl hL) a0 len0 cap0 l0 (by omega) hl0 (fun x hx=>bounds_i64 (hr0 x hx)) (by rw [<- hl0] at s0 y0;exact zE6 s0 y0) a1 (bounds_i64 w1) a2 (bounds_i64 w2) a3 (bounds_i64 w3) a4 len4 cap4 l4 hl4 hm4 hr4 s4 a5 (bounds_i64 w5) a6 (bounds_i64 w6) a7 len7 cap7 l7 hl7 hm7 hr7 s7).mono fun e W' ⟨he,bel⟩=>?_;subst he;exact ⟨_,rfl,_,_,_,[],_,[],hW',trodAll_mk1 (shut_bool Tryz.underlying4 _),(trodAll_cons_mk (Below.trod laidOut (by kernel_rfl) (of_decide_eq_true (by kernel_rfl)) k0 bel lt0) (trodAll_cons_mk (Below.trod laidOut (by kernel_rfl) (of_decide_eq_true (by kernel_rfl)) k1 bel lt1) (trodAll_cons_mk (Below.trod laidOut (by kernel_rfl) (of_decide_eq_true (by kernel_rfl)) k2 bel lt2) (trodAll_cons_mk (Below.trod laidOut (by kernel_rfl) (of_decide_eq_true (by kernel_rfl)) k3 bel lt3) (trodAll_cons_mk (Below.trod laidOut (by kernel_rfl) (of_decide_eq_true (by kernel_rfl)) k4 bel lt4) (trodAll_cons_mk (Below.trod laidOut (by kernel_rfl) (of_decide_eq_true (by kernel_rfl)) k5 bel lt5) (trodAll_cons_mk (Below.trod laidOut (by kernel_rfl) (of_decide_eq_true (by kernel_rfl)) k6 bel lt6) (trodAll_cons_mk (Below.trod laidOut (by kernel_rfl) (of_decide_eq_true (by kernel_rfl)) k7 bel lt7) trodAll_mk0)))))))),rfl,bel.frame _,fun h=>by cases h⟩
theorem over:Rows.worldSwapsRow.holds Tryz.pinned (OpenSpec.ofChange Rows.worldSwapsSpec) :=
 OpenClaim.holds_of_wide 4 Tryz.f4 rfl rfl rfl rfl rfl rfl rfl ⟨rfl,rfl,rfl,rfl,rfl⟩ rfl rfl rfl rfl rfl (by kernel_rfl) Tryz.func4 (by kernel_rfl)
  (of_decide_eq_true (by kernel_rfl)) (by unfold Func.isWrapper;first|(rw [if_pos (by decide +kernel)];kernel_rfl)|(rw [if_neg (by decide +kernel)];exact ⟨rfl,rfl⟩))
  (fun os started H enc _=>lifted os started H enc)
theorem card:Claim7.holds Tryz.pinned (.plain (OpenSpec.ofChange Rows.worldSwapsSpec)) Rows.worldSwapsCard :=
 Claim7.holds_tied_plain_at .later [] [.data] true (true,"53175604dcb2dd8201abc7c89e57154a23892650d3f8d020240b0497d76fcc22") false over (fun _ h=>by cases h) (by kernel_rfl) (fun _ h=>by cases h) worldSwaps_row_tie rfl ⟨rfl,rfl⟩ (by kernel_rfl) rfl
  (fun f fn hf hfn=>by
   obtain rfl:f=4:=Option.some.inj ((show Tryz.prog.funcNamed Rows.worldSwapsRow.func=some 4 by kernel_rfl).symm.trans hf) |>.symm;obtain rfl:fn=Tryz.f4:=(Option.some.inj (Tryz.func4.symm.trans hfn)).symm;exact ⟨by kernel_rfl,fun j t ht=>by
    rw [Tryz.params4] at ht;have hm:t∈[22,3,3,3,23,3,3,23]:=by simpa using Array.mem_of_getElem? ht
    have hall:([22,3,3,3,23,3,3,23].all fun u=>!Tryz.prog.wantsStandIn u)=true:=by kernel_rfl
    exact (show Tryz.prog.wantsStandIn t=false by simpa using zT.1 hall t hm)⟩)
  (by kernel_rfl)
end worldSwaps
theorem worldSwaps_holds:Rows.WorldSwapsCardSaid:=worldSwaps.card
#print axioms worldSwaps_holds
end Go.Proofs.YtleaknfjbbccgaaGreatDoor
