/-
 Laid together: what the law asks of these.
-/
import Derived.Test.YtgjmhojmbgfkhaaGreatDoorM19
namespace Go.Proofs.YtgjmhojmbgfkhaaGreatDoor
set_option maxHeartbeats 16000000
set_option maxRecDepth 100000
open Go.RowKit Go.Shelf Go.Sort
theorem Plain.off_to {o:Se.Plain.Off} (h:Se.Plain.Good o) {i:Nat} (hi:i<o.posted.length):0<=(o.at i).to/\(o.at i).to<=8:=by
 refine h.to _ ?_
 unfold Se.Plain.Off.at
 rw [List.getD_eq_getElem?_getD,List.getElem?_eq_getElem hi]
 exact List.getElem_mem hi
theorem Plain.stT_who {c:Plain.Cf} {n m K:Nat} {W:Plain.Wo} (h:Plain.Wok c n m K W) (s:Plain.Sp):0<=(Plain.stT c W s).who:=by
 unfold Plain.stT
 split
 ·exact Int.le_refl _
 split
 ·unfold Plain.delT
  split
  ·show 0<=(Se.Plain.seenV W.off s.id).tow
   unfold Se.Plain.seenV
   split
   ·exact Int.le_refl _
   ·exact (Plain.off_to h.gd (by omega)).1
  next hf =>
   have hs:¬ (s.id<0\/(W.off.posted.length:Int)<=s.id):=fun x=>hf (by
    have e:Se.Plain.seenE W.off s.id≠0:=by unfold Se.Plain.seenE;rw [if_pos x];decide
    unfold Plain.findE;rw [if_pos e];decide)
   exact (Plain.off_to h.gd (by omega)).1
 split
 ·exact Int.le_refl _
 split
 ·exact Int.le_refl _
 split
 ·exact Int.le_refl _
 ·show 0<=s.who
  omega
theorem Plain.tls_who {c:Plain.Cf} {n m:Nat} (hc:Plain.mayC c=true) (hn:c.n=n) (hm:c.ms.length=m) (l:List Plain.Sp):∀ (K:Nat) (W:Plain.Wo),Plain.Wok c n m K W->K+l.length<=300->∀ t,t∈Plain.tlsF c W l->0<=t.who:=by
 induction l with
 | nil=>intro K W _ _ t ht;cases ht
 | cons s l ih =>
  intro K W h hK t ht
  rw [List.length_cons] at hK
  rcases List.mem_cons.1 ht with rfl|ht
  ·exact Plain.stT_who h s
  ·exact ih (K+1) _ (h.step hc hn hm (by omega) s) (by omega) t ht
theorem or_all:∀ x:Fin 16,∀ y:Fin 16,(0<=bits .or .i64 ((x.val:Nat):Int) ((y.val:Nat):Int)/\bits .or .i64 ((x.val:Nat):Int) ((y.val:Nat):Int)<16)/\∀ k:Fin 8,((bits .or .i64 ((x.val:Nat):Int) ((y.val:Nat):Int)).toNat/2^k.val%2==1)=((x.val/2^k.val%2==1) || (y.val/2^k.val%2==1)):=by decide +kernel
theorem or_rd {x y:Int} (hx:0<=x/\x<16) (hy:0<=y/\y<16):(0<=bits .or .i64 x y/\bits .or .i64 x y<16)/\∀ k,Plain.rdB (bits .or .i64 x y) k=(Plain.rdB x k || Plain.rdB y k):=by
 obtain ⟨a,rfl⟩:=Int.eq_ofNat_of_zero_le hx.1
 obtain ⟨b,rfl⟩:=Int.eq_ofNat_of_zero_le hy.1
 have h:=or_all ⟨a,by omega⟩ ⟨b,by omega⟩
 refine ⟨h.1,fun k=>?_⟩
 have e:(bits .or .i64 (a:Int) (b:Int))=((bits .or .i64 (a:Int) (b:Int)).toNat:Int):=(Int.toNat_of_nonneg h.1.1).symm
 rw [e,rdB_nat,rdB_nat,rdB_nat]
 by_cases h0:0<=k
 ·by_cases h8:k<8
  ·have:=h.2 ⟨k.toNat,by omega⟩
   rw [decide_eq_true h0,decide_eq_true h8,Bool.true_and,Bool.true_and,Bool.true_and,Bool.true_and,Bool.true_and,Bool.true_and]
   exact this
  ·rw [decide_eq_false h8];simp
 ·rw [decide_eq_false h0];simp
theorem bit_rd {x:Int} (hx:0<=x/\x<16) (k:Nat) (hk:k<4):bits .and .i64 (x/2^k) 1=if Plain.rdB x (k:Int)=true then 1 else 0:=by
 obtain ⟨a,rfl⟩:=Int.eq_ofNat_of_zero_le hx.1
 have ha:a<16:=by omega
 have h:∀ a:Fin 16,∀ k:Fin 4,bits .and .i64 (((a.val:Nat):Int)/2^k.val) 1=if (a.val/2^k.val%2==1)=true then 1 else 0:=by decide +kernel
 have:=h ⟨a,ha⟩ ⟨k,hk⟩
 rw [rdB_nat,decide_eq_true (by omega),decide_eq_true (by omega),Bool.true_and,Bool.true_and,Int.toNat_natCast]
 exact this
theorem view_at {D R:List Vi.RT} {s:Int} (h:D.map (·.x)=Vi.viewL s (R.map (·.x))) {k:Nat} (hk:k<R.length):(D.getD k default).x=Vi.seeT (Plain.rdB s (R.getD k default).x.who) (R.getD k default).x:=by
 have hl:D.length=R.length:=by
  have:=congrArg List.length h
  rw [List.length_map,viewL_len,List.length_map] at this
  exact this
 have:=congrArg (fun l:List Vi.Td=>l[k]?) h
 unfold Vi.viewL at this
 simp only [List.getElem?_map] at this
 rw [List.getElem?_eq_getElem hk,List.getElem?_eq_getElem (by omega)] at this
 rw [List.getD_eq_getElem?_getD,List.getElem?_eq_getElem (by omega),List.getD_eq_getElem?_getD,List.getElem?_eq_getElem hk]
 exact Option.some.inj this
end Go.Proofs.YtgjmhojmbgfkhaaGreatDoor
