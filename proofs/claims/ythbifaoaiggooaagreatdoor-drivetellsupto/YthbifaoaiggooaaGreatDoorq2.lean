import Derived.Test.YthbifaoaiggooaaGreatDoorq1
import Derived.Laws.Concat
import Derived.Laws.IdiomStrings
import Derived.Lib.ItoaLen
import Derived.Lib.AtoiAllCases
import Derived.Deep.CutRange
set_option maxHeartbeats 3200000
set_option maxRecDepth 100000
namespace Go.Proofs.YthbifaoaiggooaaGreatDoor
open Go.RowKit
def vE:Nat->List UInt8->Nat->Nat->Nat->List Ru->(Nat×Nat×List Ru)×Nat×Bool
 |0,_,k,T,N,R=>((T,N,R),k,true)
 |f+1,s,k,T,N,R=>if s.isEmpty=true then ((T,N,R),k,true) else match Aj s with
  |none=>((T,N,R),k,false)
  |some (a,r)=>if k=0 then (if JU a=true then vE f r 1 (oz a) (hdN a) R else ((oz a,hdN a,R),0,false))
   else if BS a=true then vE f r (k+1) T N (pK a R) else ((T,N,R),k,false)
def bU(s:List UInt8):(Nat×Nat×List Ru)×Nat×Bool:=vE (s.length+1) s 0 0 0 []
def DL:Value->Nat
 | .string b=>b.size
 |_=>0
section
variable{w w':World}{gb:Nat}{T N:Int}{rv:Value}{RL:List (Value×Ru)}
theorem GR.self(h:GR w gb T N rv RL):GR (((w.setCell ⟨gb,0,none⟩ (.int .i64 T)).setCell ⟨gb,1,none⟩ (.int .i64 N)).setCell ⟨gb,2,none⟩ rv) gb T N rv RL:=
 h.head (((But.set _ _ _).trans (But.set _ _ _)).trans (But.set _ _ _)) (Lib.heap_setCell_same (i:=2) (Lib.heap_setCell_same (i:=1) (Lib.heap_setCell_same (i:=0) h.at_ _) _) _)
theorem GR.J6(h:GR w gb T N rv RL):Below gb w (((w.setCell ⟨gb,0,none⟩ (.int .i64 T)).setCell ⟨gb,1,none⟩ (.int .i64 N)).setCell ⟨gb,2,none⟩ rv):=
 (((But.set _ _ _).trans (But.set _ _ _)).trans (But.set _ _ _)).below (ah _) (iQ h.lt)
theorem abl(l:List UInt8)(R:List Ru)(h:R.length<=41):(pK l R).length<=41:=by
 unfold pK;split
 ·rename_i hc;simp;omega
 ·exact h
theorem NK{s0:List UInt8}(hs:s0.length<=9223372036854775807):Calls Tryz.prog 17 #[.string ⟨s0.toArray⟩] w λe w'=> ∃rv RL,e= .returned (.tuple #[.agg #[.int .i64 ((bU s0).1.1:Nat),.int .i64 ((bU s0).1.2.1:Nat),rv],.int .i64 ((bU s0).2.1:Nat),.bool (bU s0).2.2])/\GR w' w.heap.size ((bU s0).1.1:Nat) ((bU s0).1.2.1:Nat) rv RL/\RL.map (λx=>x.2)=(bU s0).1.2.2/\Below w.heap.size w w':=by
 obtain⟨gb,hgb⟩:=af w.heap.size;obtain⟨W1,hW1⟩:=af (w.alloc (.cells #[.int .i64 0,.int .i64 0,.slice none 0 0] 27));have hx:=heap_alloc_new w (.cells #[.int .i64 0,.int .i64 0,.slice none 0 0] 27);rw[hW1,hgb]at hx;have H1:Hid (GR W1 gb ((0:Nat):Int) ((0:Nat):Int) (.slice none 0 0) []/\Below gb w W1):=⟨⟨hx,ji ..,λx hx=>by cases hx⟩,by rw[<-hW1,<-hgb];exact(ai _ _).alloc (ah _) _⟩;have HA:Hid (vE (s0.length+1) s0 0 0 0 []=bU s0):=rfl;have HS:Hid (s0.length<=9223372036854775807):=hs;clear hx hs;rw[hgb]
 go_enter Tryz.func17,Tryz.ntmps17
 go_wp2_with fail
 go_loopw [0,3] (λv0 v3 wr=> ∃(s:List UInt8) (k T N f:Nat) (rv:Value) (RL:List (Value×Ru)),v0= .string ⟨s.toArray⟩/\v3= .int .i64 k/\k+s.length<=s0.length/\s.length<f/\RL.length<=41/\GR wr gb T N rv RL/\Below gb w wr/\vE f s k T N (RL.map λx=>x.2)=bU s0) (λv _ _=>DL v)
 case atStart=>exact⟨s0,0,0,0,s0.length+1,_,[],rfl,rfl,by omega,by omega,by simp,H1.out.1,H1.out.2,HA.out⟩
 case round=>
  obtain⟨s,k,T,N,f,rv,RL,rfl,rfl,hk,hf,hRl,hG,hB,hE⟩:=hrel;obtain⟨f',hf'⟩:∃f',f=f'+1:=⟨f-1,by omega⟩;subst hf';rw[vE]at hE;obtain⟨ra,rc,aI⟩:=uH hG.own;subst aI;have iJ:Hid (GR wr gb T N (.slice ra RL.length rc) RL/\Below gb w wr):=⟨hG,hB⟩;cases e0:s.isEmpty with
  |true=>
   rw[e0,au rfl]at hE;have HE:Hid (bU s0=((T,N,RL.map λx=>x.2),k,true)):=hE.symm;have c0:=ay (i:=0) (iJ.out.1.at_) rfl;have c1:=ay (i:=1) (iJ.out.1.at_) rfl;have c2:=ay (i:=2) (iJ.out.1.at_) rfl;have f0:=bO (i:=0) (iJ.out.1.at_);have f1:=bO (i:=1) (iJ.out.1.at_);have f2:=bO (i:=2) (iJ.out.1.at_);clear hE hG hB hf hk
   go_wp2_with fail
   have hz:=iJ.out.1.self;have x0:=ay (i:=0) hz.at_ rfl;have x1:=ay (i:=1) hz.at_ rfl;have x2:=ay (i:=2) hz.at_ rfl;refine aH (v:= .tuple #[.agg #[.int .i64 (T:Nat),.int .i64 (N:Nat),.slice ra RL.length rc],.int .i64 (k:Nat),.bool true]) (by simp[results,Tryz.results17,go_sem,x0,x1,x2]) rfl ⟨.slice ra RL.length rc,RL,by rw[HE.out],by rw[HE.out];exact hz,by rw[HE.out],iJ.out.2.trans iJ.out.1.J6⟩
  |false=>
   rw[e0,aj (by simp)]at hE;cases hc:Aj s with
   |none=>
    rw[hc]at hE;have HE:Hid (bU s0=((T,N,RL.map λx=>x.2),k,false)):=hE.symm;have ct:=abj hc wr;have c0:=ay (i:=0) (iJ.out.1.at_) rfl;have c1:=ay (i:=1) (iJ.out.1.at_) rfl;have c2:=ay (i:=2) (iJ.out.1.at_) rfl;have f0:=bO (i:=0) (iJ.out.1.at_);have f1:=bO (i:=1) (iJ.out.1.at_);have f2:=bO (i:=2) (iJ.out.1.at_);clear hE hG hB hf hk hc
    go_wp2_with
     (go_at_call 12;refine ct.mono ?_;rintro e w2 ⟨rfl,h2⟩;obtain rfl:wr=w2:=h2.symm;clear ct)
    have hz:=iJ.out.1.self;have x0:=ay (i:=0) hz.at_ rfl;have x1:=ay (i:=1) hz.at_ rfl;have x2:=ay (i:=2) hz.at_ rfl;refine aH (v:= .tuple #[.agg #[.int .i64 (T:Nat),.int .i64 (N:Nat),.slice ra RL.length rc],.int .i64 (k:Nat),.bool false]) (by simp[results,Tryz.results17,go_sem,x0,x1,x2]) rfl ⟨.slice ra RL.length rc,RL,by rw[HE.out],by rw[HE.out];exact hz,by rw[HE.out],iJ.out.2.trans iJ.out.1.J6⟩
   |some ar=>
    obtain⟨a,r⟩:=ar;rw[hc]at hE;simp only at hE;have hlen:=(SS hc).2;have hll:s.length=a.length+1+r.length:=by rw[hlen];simp;omega
    have ct:=abk hc (by have:=HS.out;omega) wr;have DN:Hid (r.length<f'/\k+1+r.length<=s0.length/\r.length<s.length):=⟨by omega,by omega,by omega⟩;have HK:Hid (k<9223372036854775807):=by have:=HS.out;show k<_;omega
    clear hG hB hf hk hlen hll hc;by_cases hk0:k=0
    ·subst hk0
     rw[au rfl]at hE;cases hok:JU a with
     |true=>
      rw[hok,au rfl]at hE;have HE:Hid (vE f' r 1 (oz a) (hdN a) (RL.map λx=>x.2)=bU s0):=hE;clear hE
      go_wp2_with
      (first
       |(go_at_call 12;refine ct.mono ?_;rintro e w2 ⟨rfl,h2⟩
         have HG2:Hid (GR w2 gb T N (.slice ra RL.length rc) RL/\Below gb w w2):=⟨iJ.out.1.later h2,iJ.out.2.trans (h2.mono (iQ iJ.out.1.lt))⟩;have rl:=SI HG2.out.1 a;rw[hok]at rl
         clear ct h2)
       |(go_at_call 41;refine rl.mono ?_;rintro e w3 ⟨rfl,h2,h3⟩
         have iK:Hid (GR w3 gb (oz a) (hdN a) (.slice ra RL.length rc) RL/\Below gb w w3):=⟨h2,HG2.out.2.trans h3⟩
         clear rl h2 h3))
      go_roundw
      case rel=>exact⟨r,1,oz a,hdN a,f',_,RL,rfl,by go_num,by have:=DN.out.2.1;omega,DN.out.1,hRl,iK.out.1,iK.out.2,HE.out⟩
      case measure=>simpa [DL,ByteArray.size] using DN.out.2.2
     |false=>
      rw[hok,aj (by simp)]at hE;have HE:Hid (bU s0=((oz a,hdN a,RL.map λx=>x.2),0,false)):=hE.symm;clear hE
      go_wp2_with
      (first
       |(go_at_call 12;refine ct.mono ?_;rintro e w2 ⟨rfl,h2⟩
         have HG2:Hid (GR w2 gb T N (.slice ra RL.length rc) RL/\Below gb w w2):=⟨iJ.out.1.later h2,iJ.out.2.trans (h2.mono (iQ iJ.out.1.lt))⟩;have rl:=SI HG2.out.1 a;rw[hok]at rl
         clear ct h2)
       |(go_at_call 41;refine rl.mono ?_;rintro e w3 ⟨rfl,h2,h3⟩
         have iK:Hid (GR w3 gb (oz a) (hdN a) (.slice ra RL.length rc) RL/\Below gb w w3):=⟨h2,HG2.out.2.trans h3⟩;have c0:=ay (i:=0) (iK.out.1.at_) rfl;have c1:=ay (i:=1) (iK.out.1.at_) rfl;have c2:=ay (i:=2) (iK.out.1.at_) rfl;have f0:=bO (i:=0) (iK.out.1.at_);have f1:=bO (i:=1) (iK.out.1.at_);have f2:=bO (i:=2) (iK.out.1.at_)
         clear rl h2 h3))
      have hz:=iK.out.1.self;have x0:=ay (i:=0) hz.at_ rfl;have x1:=ay (i:=1) hz.at_ rfl;have x2:=ay (i:=2) hz.at_ rfl;refine aH (v:= .tuple #[.agg #[.int .i64 (oz a:Nat),.int .i64 (hdN a:Nat),.slice ra RL.length rc],.int .i64 (0:Nat),.bool false]) (by simp[results,Tryz.results17,go_sem,x0,x1,x2]) rfl ⟨.slice ra RL.length rc,RL,by rw[HE.out],by rw[HE.out];exact hz,by rw[HE.out],iK.out.2.trans iK.out.1.J6⟩
    ·rw[aj hk0]at hE
     cases hok:BS a with
     |true=>
      rw[hok,au rfl]at hE;have HE:Hid (vE f' r (k+1) T N (pK a (RL.map λx=>x.2))=bU s0):=hE;have JZ:=HK.out;clear hE
      go_wp2_with
      (first
       |(go_at_call 12;refine ct.mono ?_;rintro e w2 ⟨rfl,h2⟩
         have HG2:Hid (GR w2 gb T N (.slice ra RL.length rc) RL/\Below gb w w2):=⟨iJ.out.1.later h2,iJ.out.2.trans (h2.mono (iQ iJ.out.1.lt))⟩;have rl:=SK HG2.out.1 hRl hk0 a;rw[hok]at rl
         clear ct h2)
       |(go_at_call 41;refine rl.mono ?_;rintro e w3 ⟨rfl,⟨NM,xB,h2,h4⟩,h3⟩
         have iK:Hid ((GR w3 gb T N NM xB/\Below gb w w3)/\xB.map (λx=>x.2)=pK a (RL.map λx=>x.2)):=⟨⟨h2,HG2.out.2.trans h3⟩,h4⟩
         clear rl h2 h3 h4))
      go_roundw
      case rel=>
       refine⟨r,k+1,T,N,f',NM,xB,rfl,by go_num,by have:=DN.out.2.1;omega,DN.out.1,?_,iK.out.1.1,iK.out.1.2,?_⟩
       ·have h1:=congrArg List.length iK.out.2
        rw[cK]at h1;rw[h1];exact abl _ _ (by simpa using hRl)
       ·rw[iK.out.2]
        exact HE.out
      case measure=>simpa [DL,ByteArray.size] using DN.out.2.2
     |false=>
      rw[hok,aj (by simp)]at hE;have HE:Hid (bU s0=((T,N,RL.map λx=>x.2),k,false)):=hE.symm;have HLr:Hid (pK a (RL.map λx=>x.2)=RL.map λx=>x.2):=by show _=_;simp[pK,hok]
      clear hE
      go_wp2_with
      (first
       |(go_at_call 12;refine ct.mono ?_;rintro e w2 ⟨rfl,h2⟩
         have HG2:Hid (GR w2 gb T N (.slice ra RL.length rc) RL/\Below gb w w2):=⟨iJ.out.1.later h2,iJ.out.2.trans (h2.mono (iQ iJ.out.1.lt))⟩;have rl:=SK HG2.out.1 hRl hk0 a;rw[hok]at rl
         clear ct h2)
       |(go_at_call 41;refine rl.mono ?_;rintro e w3 ⟨rfl,⟨NM,xB,h2,h4⟩,h3⟩
         obtain⟨a3,d3,abm⟩:=uH h2.own;subst abm;have iK:Hid (GR w3 gb T N (.slice a3 xB.length d3) xB/\Below gb w w3):=⟨h2,HG2.out.2.trans h3⟩;have pO:Hid (xB.map (λx=>x.2)=pK a (RL.map λx=>x.2)):=h4;have c0:=ay (i:=0) (iK.out.1.at_) rfl;have c1:=ay (i:=1) (iK.out.1.at_) rfl;have c2:=ay (i:=2) (iK.out.1.at_) rfl;have f0:=bO (i:=0) (iK.out.1.at_);have f1:=bO (i:=1) (iK.out.1.at_);have f2:=bO (i:=2) (iK.out.1.at_)
         clear rl h2 h3 h4))
      have hz:=iK.out.1.self;have x0:=ay (i:=0) hz.at_ rfl;have x1:=ay (i:=1) hz.at_ rfl;have x2:=ay (i:=2) hz.at_ rfl;refine aH (v:= .tuple #[.agg #[.int .i64 (T:Nat),.int .i64 (N:Nat),.slice a3 xB.length d3],.int .i64 (k:Nat),.bool false]) (by simp[results,Tryz.results17,go_sem,x0,x1,x2]) rfl ⟨.slice a3 xB.length d3,xB,by rw[HE.out],by rw[HE.out];exact hz,by rw[pO.out,HLr.out,HE.out],iK.out.2.trans iK.out.1.J6⟩
end
def iB(D:List Int):List UInt8:=Lib.join (D.map Lib.itoa) [32]
def bY(u:List UInt8)(D:List Int):List UInt8:=(u++[32])++iB D
def eY(x:Int):Prop:= -9223372036854775807<=x/\x<=9223372036854775807
theorem Ak{D:List Int}(hb:∀x∈D,eY x):(iB D).length<=22*D.length:=by
 unfold iB;cases D with
 |nil=>simp[Lib.join_nil]
 |cons x r=>
  rw[jB,Lib.join_length]
  have key:∀l:List Int,(∀x∈l,eY x)->Lib.lens (l.map Lib.itoa)<=21*l.length:=by
   intro l
   induction l with
   |nil=>intro _;simp[Lib.lens]
   |cons y r ih=>
    intro h;have h1:=Lib.itoa_length_le y (by have:=(h y (by simp)).1;omega) (h y (by simp)).2;have h2:=ih λz hz=>h z (by simp[hz]);simp only[Lib.lens,jB,List.sum_cons,List.length_cons]at h2⊢;omega
  have:=key (x::r) hb;rw[jB]at this;simp only[List.length_cons,List.length_nil,cK]at this⊢;omega
theorem qY{P:Program}(a b:List UInt8)(h:a.length+b.length<=9223372036854775807)(w:World):(Op.stringOp .add ⟨a.toArray⟩ ⟨b.toArray⟩).run P w= .ok (.string ⟨(a++b).toArray⟩) w:=by
 refine(run_string_add_sum (P:=P) (w:=w) _ _ ?_).trans ?_
 ·simp[ByteArray.size];omega
 ·rw[ByteArray.mk_append_mk]
theorem Tryz.infoStrD:(Tryz.prog.info? 9).map (λi=>(i.zero,i.size,i.bytes))=some (some (.string ⟨#[]⟩),1,16):=by kernel_rfl
theorem abn(n:Nat)(hn:n<=1000000)(u:World):(Instr.makeSlice 22 (.int .i64 n) (.int .i64 n)).run Tryz.prog u= .ok (.slice (some ⟨u.heap.size,0,none⟩) n n) (u.alloc (.cells (madeCells #[.string ⟨#[]⟩] n) 9)):=by
 obtain⟨i0,hi,hz0,hz1,hz2⟩:=fK Tryz.infoStrD;have h:=run_make (P:=Tryz.prog) u 22 9 i0 (.string ⟨#[]⟩) Tryz.underlying22 hi hz0 .i64 .i64 n n (by omega) (su _) (by rw[hz2];omega) (by omega);simpa [hz1,Value.cells] using h
theorem SY{dv:Value}{w w':World}{B k:Nat}{D:List Int}(h:aY w B dv D)(hb:Below B w w')(hk:k<D.length):∃b o dc,dv= .slice (some ⟨b,o,none⟩) D.length dc/\w'.cell? ⟨b,o+k,none⟩=some (.int .i64 (D.getD k 0)):=by
 obtain⟨b,o,dc,h1,h2,h3⟩:=h.2 k hk;exact⟨b,o,dc,h1,(hb.cell h2).trans h3⟩
section
variable{w:World}{G:Nat}{D:List Int}
theorem F3{dv:Value}(hE:dR G w)(hG:G<=w.heap.size)(hd:aY w w.heap.size dv D)(hl:D.length<=1000)(hb:∀x∈D,eY x):Calls Tryz.prog 68 #[dv] w λe w'=>e= .returned (.string ⟨(iB D).toArray⟩)/\Below w.heap.size w w':=by
 obtain⟨g,hg⟩:=af w.heap.size;obtain⟨da,dc,hdv⟩:=hd.1;subst hdv;obtain⟨n,hn⟩:=af D.length;have HD:Hid (aY w w.heap.size (.slice da D.length dc) D/\D.length=n/\(∀x∈D,eY x)/\dR G w/\G<=g/\w.heap.size=g):=⟨hd,hn,hb,hE,by omega,hg⟩;rw[hn]at hl⊢;rw[hg];clear hd hb hE hG hg hn
 go_enter Tryz.func68,Tryz.ntmps68
 have mk:=abn n (by omega) w;rw[HD.out.2.2.2.2.2]at mk;obtain⟨W1,hW1⟩:=af (w.alloc (.cells (madeCells #[.string ⟨#[]⟩] n) 9));have hx1:=heap_alloc_new w (.cells (madeCells #[.string ⟨#[]⟩] n) 9);rw[hW1]at mk hx1;rw[HD.out.2.2.2.2.2]at hx1;have hB1:Below g w W1:=by rw[<-hW1,<-HD.out.2.2.2.2.2];exact(ai _ _).alloc (ah _) _
 have H1:Hid (W1.heap[g]?=some (.cells (madeCells #[.string ⟨#[]⟩] n) 9 (0,0))/\Below g w W1):=⟨hx1,hB1⟩;clear hW1 hx1 hB1
 go_wp2_with fail
 go_loopw [11] (λv11 wr=> ∃(i:Nat) (cs:Array Value),v11= .int .i64 i/\i<=n/\wr.heap[g]?=some (.cells cs 9 (0,0))/\cs.size=n/\(∀j,j<i->cs[j]?=some (.string ⟨(Lib.itoa (D.getD j 0)).toArray⟩))/\Below g w wr) (λv _=>n-(intOf v).toNat)
 case atStart=>exact⟨0,_,rfl,aP _,H1.out.1,size_madeCells _ _,λj hj=>by omega,H1.out.2⟩
 case round=>
  obtain⟨i,cs,rfl,hi,hx,hz,hcs,hB⟩:=hrel;by_cases hlt:i<n
  ·have d1:decide ((i:Int)<(n:Int))=true:=aT (by omega)
   obtain⟨hL,hn,hb,hE,hG,hg⟩:=HD.out;obtain⟨b,o,c,h1,h2⟩:=SY hL (by rw[hg];exact hB) (show i<D.length by omega);obtain⟨rfl,-⟩:da=some ⟨b,o,none⟩/\True:=⟨by injection h1,trivial⟩;obtain⟨x,hx2⟩:=af (D.getD i 0);rw[hx2]at h2;have hbx:eY x:=hb x (by rw[<-hx2];simp[List.getD,show i<D.length by omega]);have it:=R4 x (by have:=hbx.1;omega) hbx.2 wr (hE.below hB (by omega)).at.tab;have HX:Hid (D.getD i 0=x/\wr.heap[g]?=some (.cells cs 9 (0,0))/\cs.size=n/\(∀j,j<i->cs[j]?=some (.string ⟨(Lib.itoa (D.getD j 0)).toArray⟩))/\Below g w wr):=⟨hx2,hx,hz,hcs,hB⟩;clear hL hn hb hE hG hg h1 hx2 hbx hx hz hcs hB
   go_wp2_with
    (go_at_call 55;refine it.mono ?_;rintro e w3 ⟨rfl,h3⟩
     have hl3:=(dx.1 HX.out.2.1).1;have hx3:=(h3.block g hl3).trans HX.out.2.1;have c3:=ay (i:=i) hx3 (u:=cs[i]'(by have:=HX.out.2.2.1;omega)) (by simp);have f3:=bO (i:=i) hx3;have H3:Hid (w3.heap[g]?=some (.cells cs 9 (0,0))/\Below wr.heap.size wr w3):=⟨hx3,h3⟩
     clear it h3 hl3 hx3)
   go_roundw
   case rel=>
    refine⟨i+1,cs.setIfInBounds i (.string ⟨(Lib.itoa x).toArray⟩),by go_num,by omega,Lib.heap_setCell_same H3.out.1 _,by rw[Array.size_setIfInBounds];exact HX.out.2.2.1,λj hj=> ?_,?_⟩
    ·by_cases hji:j=i
     ·subst hji
      rw[Array.getElem?_setIfInBounds,au rfl,au (by have:=HX.out.2.2.1;omega),HX.out.1]
     ·rw[Array.getElem?_setIfInBounds,aj (by omega)]
      exact HX.out.2.2.2.1 j (by omega)
    ·have hl3:=(dx.1 HX.out.2.1).1
     exact(HX.out.2.2.2.2.trans (H3.out.2.mono (by omega))).setCell (ah _) _
   case measure=>simp[intOf];omega
  ·have d1:decide ((i:Int)<(n:Int))=false:=aU (by omega)
   obtain⟨hL,hn,hb,hE,hG,hg⟩:=HD.out;have NN:=(dx.1 hx).1
   have jn:=aaR g n (D.map Lib.itoa) wr (λj y hy=>by
    rw[List.getElem?_map,yK]at hy;obtain⟨z,hz2,rfl⟩:=hy;have hj:j<D.length:=(qw.1 hz2).1;refine ay hx ?_;rw[hcs j (by omega)]
    simp[List.getD,hz2]) NN (by simp;omega) (by simp;omega) (by have:=Ak hb;unfold iB at this;omega)
   rw[cK,hn]at jn;have HB:Hid (Below g w wr/\g<wr.heap.size):=⟨hB,NN⟩;clear hL hn hb hE hG hg NN hx hz hcs hB
   go_wp2_with
    (go_at_call 110;refine jn.mono ?_;rintro e w3 ⟨rfl,h3⟩
     have H3:Hid (Below wr.heap.size wr w3):=h3
     clear jn h3)
   go_ret;exact⟨rfl,HB.out.1.trans (H3.out.mono (by have:=HB.out.2;omega))⟩
theorem Ta{dv:Value}{u:List UInt8}(hu:u.length<=1000)(hE:dR G w)(hG:G<=w.heap.size)(hd:aY w w.heap.size dv D)(hl:D.length<=1000)(hb:∀x∈D,eY x):Calls Tryz.prog 65 #[.string ⟨u.toArray⟩,dv] w λe w'=>e= .returned (.string ⟨(bY u D).toArray⟩)/\Below w.heap.size w w':=by
 have dg:=F3 hE hG hd hl hb;have hlen:=Ak hb;have HT:Hid (bY u D=(u++[32])++iB D):=rfl;obtain⟨z,hz⟩:=af (iB D);rw[hz]at dg hlen HT;obtain⟨da,dc,hdv⟩:=hd.1;subst hdv;have add1:=qY (P:=Tryz.prog) u [32] (by simp;omega);obtain⟨y,hy⟩:=af (u++[32]);rw[hy]at add1 HT;have hyl:y.length<=1001:=by rw[<-hy];simp;omega
 have add2:=qY (P:=Tryz.prog) y z (by omega);clear hE hG hd hb hz hlen hy hyl
 go_enter Tryz.func65,Tryz.ntmps65
 go_wp2_with
  (go_at_call 68;refine dg.mono ?_;rintro e w2 ⟨rfl,h2⟩
   have H2:Hid (Below w.heap.size w w2):=h2
   clear dg h2)
 go_ret;exact⟨by rw[HT.out];rfl,H2.out⟩
end
def kH(s:List UInt8):Int:=match Lib.atoiAll s with
 | .ok v=>v
 |_=>0
def iC(s:List UInt8):Bool:=match Lib.atoiAll s with
 | .ok v=>decide (0<=v)&&decide (v<=999999)&&Lib.itoa v==s
 |_=>false
def qA(A:List Int)(x:Int):List Int:=if A.length<=30 then A++[x] else A
def vF:Nat->List UInt8->List Int->Option (List Int)
 |0,_,_=>none
 |f+1,s,A=>match jF 32 s with
  |none=>if iC s=true then some (qA A (kH s)) else none
  |some (a,r)=>if iC a=true then vF f r (qA A (kH a)) else none
def lZ(l:List UInt8):Option (List UInt8×List Int):=match jF 32 l with
 |none=>some (l,[])
 |some (u,r)=>(vF (r.length+1) r []).map λA=>(u,A)
section
variable{w:World}{G:Nat}{s:List UInt8}
theorem abo(hs:s.length<=281474976710656)(hE:dR G w)(hG:G<=w.heap.size):Calls Tryz.prog 111 #[.string ⟨s.toArray⟩] w λe w'=> ∃n,e= .returned (.tuple #[.int .i64 n,.bool (iC s)])/\(iC s=true->n=kH s)/\Below w.heap.size w w':=by
 by_cases hok:∃v,Lib.atoiAll s= .ok v
 ·obtain⟨v,hv⟩:=hok
  have nL:=aaP s hs v hv w;obtain⟨b0,b1⟩:=Lib.atoiAll_bounds hv
  have hR:iC s=(decide (0<=v)&&decide (v<=999999)&&Lib.itoa v==s)/\kH s=v:=by
   unfold iC kH;rw[hv];exact⟨rfl,rfl⟩
  clear hv hs;by_cases h0:0<=v
  ·by_cases h9:v<=999999
   ·have d0:decide (0<=v)=true:=aT h0
    have d9:decide (v<=999999)=true:=aT h9;rw[d0,d9]at hR;have HE:Hid (dR G w/\G<=w.heap.size):=⟨hE,hG⟩;obtain⟨z,hz⟩:=af (Lib.itoa v)
    have HI:Hid (∀wq,Below w.heap.size w wq->Calls Tryz.prog 55 #[.int .i64 v] wq λe w'=>e= .returned (.string ⟨z.toArray⟩)/\Below wq.heap.size wq w'):=λwq hq=>by
     have:=R4 v b0 b1 wq (HE.out.1.below hq HE.out.2).at.tab;rw[hz]at this;exact this
    rw[hz]at hR;have HR:Hid (iC s=(z==s)/\kH s=v):=⟨by rw[hR.1];rfl,hR.2⟩;clear hE hG hz hR;have h0':(0:Int)<=v:=h0;cases hc:z==s with
    |true=>
     rw[hc]at HR
     go_enter Tryz.func111,Tryz.ntmps111
     go_wp2_with
      (first
       |(go_at_call 143;refine nL.mono ?_;rintro e w2 ⟨rfl,h2⟩
         have it:=HI.out w2 h2;have H2:Hid (Below w.heap.size w w2):=h2
         clear nL h2)
       |(go_at_call 55;refine it.mono ?_;rintro e w3 ⟨rfl,h3⟩
         have H3:Hid (Below w.heap.size w w3):=H2.out.trans (h3.mono H2.out.size)
         clear it h3))
     refine aH (v:= .tuple #[.int .i64 v,.bool true]) (by simp[results,Tryz.results111,go_sem]) rfl ⟨v,by rw[HR.out.1],λ_=>HR.out.2.symm,H3.out⟩
    |false=>
     rw[hc]at HR
     go_enter Tryz.func111,Tryz.ntmps111
     go_wp2_with
      (first
       |(go_at_call 143;refine nL.mono ?_;rintro e w2 ⟨rfl,h2⟩
         have it:=HI.out w2 h2;have H2:Hid (Below w.heap.size w w2):=h2
         clear nL h2)
       |(go_at_call 55;refine it.mono ?_;rintro e w3 ⟨rfl,h3⟩
         have H3:Hid (Below w.heap.size w w3):=H2.out.trans (h3.mono H2.out.size)
         clear it h3))
     refine aH (v:= .tuple #[.int .i64 v,.bool false]) (by simp[results,Tryz.results111,go_sem]) rfl ⟨v,by rw[HR.out.1],λh=>(by rw[HR.out.1]at h;cases h),H3.out⟩
   ·have d9:decide (v<=999999)=false:=aU h9
    have d0:decide (0<=v)=true:=aT h0;rw[d9]at hR;have HR:Hid (iC s=false):=by show _=_;rw[hR.1];simp
    clear hE hG hR
    go_enter Tryz.func111,Tryz.ntmps111
    go_wp2_with
     (go_at_call 143;refine nL.mono ?_;rintro e w2 ⟨rfl,h2⟩
      have H2:Hid (Below w.heap.size w w2):=h2
      clear nL h2)
    refine aH (v:= .tuple #[.int .i64 v,.bool false]) (by simp[results,Tryz.results111,go_sem]) rfl ⟨v,by rw[HR.out],λh=>(by rw[HR.out]at h;cases h),H2.out⟩
  ·have d0:decide (0<=v)=false:=aU h0
   rw[d0]at hR;have HR:Hid (iC s=false):=by show _=_;rw[hR.1];simp
   clear hE hG hR
   go_enter Tryz.func111,Tryz.ntmps111
   go_wp2_with
    (go_at_call 143;refine nL.mono ?_;rintro e w2 ⟨rfl,h2⟩
     have H2:Hid (Below w.heap.size w w2):=h2
     clear nL h2)
   refine aH (v:= .tuple #[.int .i64 v,.bool false]) (by simp[results,Tryz.results111,go_sem]) rfl ⟨v,by rw[HR.out],λh=>(by rw[HR.out]at h;cases h),H2.out⟩
 ·have nL:=aaQ s hs (λv h=>hok ⟨v,h⟩) w hE.at
  have HR:Hid (iC s=false):=by
   show _=_;unfold iC;split
   ·rename_i v hv
    exact absurd ⟨v,hv⟩ hok
   ·rfl
  clear hok hE hG hs
  go_enter Tryz.func111,Tryz.ntmps111
  go_wp2_with
   (go_at_call 143;refine nL.mono ?_;rintro e w2 ⟨n,t,a,rfl,h2⟩
    have H2:Hid (Below w.heap.size w w2):=h2
    clear nL h2)
  refine aH (v:= .tuple #[.int .i64 n,.bool false]) (by simp[results,Tryz.results111,go_sem]) rfl ⟨n,by rw[HR.out],λh=>(by rw[HR.out]at h;cases h),H2.out⟩
theorem Tryz.infoIntD:(Tryz.prog.info? 3).map (λi=>(i.zero,i.size,i.bytes))=some (some (.int .i64 0),1,8):=by kernel_rfl
theorem NP{base n:Nat}{v:Value}{X:List Int}(h:w.ownsRow base 3 1 v n (X.map (Value.int .i64))):aY w w.heap.size v X:=by
 have hl:X.length=n:=by simpa using h.1
 obtain⟨a,c,hv⟩:=cO h;refine⟨⟨a,c,by rw[hv,hl]⟩,λi hi=> ?_⟩;obtain⟨g,cap,rfl,_,_⟩:=h.form (by omega);refine⟨g,0,cap,by rw[hl],(h.lt g rfl).2,?_⟩;rw[eO,h.cellAt i (by omega)];simp[List.getD,hi]
theorem NQ{c:UInt8}{a r:List UInt8}(h:jF c s=some (a,r)):a.length+r.length+1=s.length:=by
 have:=congrArg List.length (J4 h).2;simp at this;omega
def l5(c:UInt8)(s:List UInt8):List UInt8×List UInt8×Bool:=match jF c s with
 |none=>(s,[],false)
 |some (a,r)=>(a,r,true)
theorem NR{c:UInt8}(hs:s.length<=9223372036854775807)(w:World):Calls Tryz.prog 12 #[.string ⟨s.toArray⟩,.string ⟨#[c]⟩] w λe w'=>e= .returned (.tuple #[.string ⟨(l5 c s).1.toArray⟩,.string ⟨(l5 c s).2.1.toArray⟩,.bool (l5 c s).2.2])/\Below w.heap.size w w':=by
 unfold l5;cases h:jF c s with
 |none=>exact(SV h w).mono λe w' ⟨h1,h2⟩=>⟨h1,by rw[h2];exact ai _ _⟩
 |some p=>obtain⟨a,r⟩:=p;exact SX h hs w
theorem abp(hs:s.length<=281474976710656)(hE:dR G w)(hG:G<=w.heap.size):Calls Tryz.prog 69 #[.string ⟨s.toArray⟩] w λe w'=>
 (∃u A lv,lZ s=some (u,A)/\e= .returned (.tuple #[.string ⟨u.toArray⟩,lv,.bool true])/\w'.ownsRow w.heap.size 3 1 lv A.length (A.map (Value.int .i64))/\Below w.heap.size w w')\/
 (lZ s=none/\e= .returned (.tuple #[.string ⟨#[]⟩,.slice none 0 0,.bool false])/\Below w.heap.size w w'):=by
 have ct:=NR (c:=32) (s:=s) (by omega) w;obtain⟨⟨u,r0,m0⟩,hcut⟩:=af (l5 32 s);rw[hcut]at ct;simp only at ct;have HE:Hid (dR G w/\G<=w.heap.size):=⟨hE,hG⟩
 have HR:Hid ((m0=true/\r0.length<=281474976710656/\(vF (r0.length+1) r0 []).map (λA=>(u,A))=lZ s)\/(m0=false/\some (u,[])=lZ s)):=by
  show _\/_;unfold l5 at hcut;unfold lZ;cases h:jF 32 s with
  |none=>
   rw[h]at hcut;simp only[qx]at hcut;obtain⟨rfl,_,rfl⟩:=hcut;exact .inr ⟨rfl,rfl⟩
  |some p=>
   obtain⟨a,r⟩:=p;rw[h]at hcut;simp only[qx]at hcut;obtain⟨rfl,rfl,rfl⟩:=hcut;have:=NQ h;exact .inl ⟨rfl,by omega,rfl⟩
 clear hcut hE hG hs
 go_enter Tryz.func69,Tryz.ntmps69
 go_wp2_with
  (go_at_call 12;refine ct.mono ?_;rintro e w2 ⟨rfl,h2⟩
   have H2:Hid (Below w.heap.size w w2):=h2
   clear ct h2)
 go_loopw [2,3,5,6] (λv2 v3 v5 v6 wr=>v2= .string ⟨u.toArray⟩/\∃(lv:Value) (r:List UInt8) (m:Bool) (A:List Int),lv=v3/\v5= .string ⟨r.toArray⟩/\v6= .bool m/\A.length<=31/\wr.ownsRow w.heap.size 3 1 lv A.length (A.map (Value.int .i64))/\Below w.heap.size w wr/\
  ((m=true/\r.length<=281474976710656/\∃f,r.length<f/\(vF f r A).map (λA=>(u,A))=lZ s)\/(m=false/\some (u,A)=lZ s))) (λ_ _ v5 v6 _=>match v6 with
  | .bool true=>DL v5+1
  |_=>0)
 case atStart=>
  refine⟨rfl,_,r0,m0,[],rfl,rfl,rfl,by simp,ji ..,H2.out,?_⟩;rcases HR.out with⟨h1,h3,h4⟩|⟨h1,h3⟩
  ·exact .inl ⟨h1,h3,_,Nat.lt_succ_self _,h4⟩
  ·exact .inr ⟨h1,h3⟩
 case round=>
  obtain⟨rfl,lv,r,m,A,rfl,rfl,rfl,hA,hO,hB,hm⟩:=hrel;rcases hm with⟨rfl,hr,f,hf,hE⟩|⟨rfl,hE⟩
  ·have ct:=NR (c:=32) (s:=r) (by omega) wr
   obtain⟨⟨a,r2,m2⟩,hcut⟩:=af (l5 32 r);rw[hcut]at ct;simp only at ct;obtain⟨f',rfl⟩:∃f',f=f'+1:=⟨f-1,by omega⟩
   have hal:a.length<=r.length/\(m2=true->r2.length<r.length)/\((vF (f'+1) r A).map (λA=>(u,A))=if iC a=true then (if m2=true then (vF f' r2 (qA A (kH a))).map (λA=>(u,A)) else some (u,qA A (kH a))) else none):=by
    unfold l5 at hcut;rw[vF];cases h:jF 32 r with
    |none=>
     rw[h]at hcut;simp only[qx]at hcut;obtain⟨rfl,_,rfl⟩:=hcut;refine⟨ah _,(by simp),?_⟩;simp only;cases iC r<;>simp
    |some p=>
     obtain⟨x,y⟩:=p;rw[h]at hcut;simp only[qx]at hcut;obtain⟨rfl,rfl,rfl⟩:=hcut;have:=NQ h;refine⟨by omega,λ_=>by omega,?_⟩;simp only;cases iC x<;>simp
   rw[hal.2.2]at hE
   have HN:Hid (∀wq,Below w.heap.size w wq->Calls Tryz.prog 111 #[.string ⟨a.toArray⟩] wq λe w'=> ∃n,e= .returned (.tuple #[.int .i64 n,.bool (iC a)])/\(iC a=true->n=kH a)/\Below wq.heap.size wq w'):=λwq hq=>
    abo (by omega) (HE.out.1.below hq HE.out.2) (aZ HE.out.2 hq.size)
   obtain⟨la,lc,hlv⟩:=cO hO;subst hlv;have HO:Hid (wr.ownsRow w.heap.size 3 1 (.slice la A.length lc) A.length (A.map (Value.int .i64))/\Below w.heap.size w wr):=⟨hO,hB⟩;have HL:Hid (r.length<=281474976710656/\r.length<f'+1/\(m2=true->r2.length<r.length)):=⟨hr,hf,hal.2.1⟩;clear hcut hal hO hB hr hf;cases hok:iC a with
   |false=>
    rw[hok]at hE HN;simp only[dO,bN]at hE;have HZ:Hid (lZ s=none):=hE.symm;clear hE hok
    go_wp2_with
     (first
      |(go_at_call 12;refine ct.mono ?_;rintro e w3 ⟨rfl,h3⟩
        have rn:=HN.out w3 (HO.out.2.trans (h3.mono HO.out.2.size));have H3:Hid (Below w.heap.size w w3):=HO.out.2.trans (h3.mono HO.out.2.size)
        clear ct h3)
      |(go_at_call 111;refine rn.mono ?_;rintro e w4 ⟨n,rfl,-,h4⟩
        have H4:Hid (Below w.heap.size w w4):=H3.out.trans (h4.mono H3.out.size)
        clear rn h4))
    refine aH (v:= .tuple #[.string ⟨#[]⟩,.slice none 0 0,.bool false]) (by simp[results,Tryz.results69,go_sem]) rfl (.inr ⟨HZ.out,rfl,H4.out⟩)
   |true=>
    rw[hok]at hE HN;simp only[bQ]at hE;by_cases Tc:A.length<=30
    ·have d1:decide ((A.length:Int)<=30)=true:=aT (by omega)
     have HP:Hid (qA A (kH a)=A++[kH a]):=by show _=_;unfold qA;rw[au Tc]
     obtain⟨i5,hi5,kW,kX,lY⟩:=fK Tryz.infoIntD;have m1:A.length+1<=maxLen:=by unfold maxLen;omega
     have Td:(A.length+1)*8<=140737488355328:=by omega
     have HZ:Hid ((if m2=true then (vF f' r2 (qA A (kH a))).map (λA=>(u,A)) else some (u,qA A (kH a)))=lZ s):=hE;clear hE hok
     go_wp2_with
      (first
       |(go_at_call 12;refine ct.mono ?_;rintro e w3 ⟨rfl,h3⟩
         have rn:=HN.out w3 (HO.out.2.trans (h3.mono HO.out.2.size));have H3:Hid (Below wr.heap.size wr w3/\Below w.heap.size w w3):=⟨h3,HO.out.2.trans (h3.mono HO.out.2.size)⟩
         clear ct h3)
       |(go_at_call 111;refine rn.mono ?_;rintro e w4 ⟨n,rfl,hn,h4⟩
         have hb4:Below w.heap.size w (w4.alloc (.cells #[.int .i64 n] 3)):=(H3.out.2.trans (h4.mono H3.out.2.size)).alloc (aZ H3.out.2.size h4.size) _;have bV:=(lu HO.out.1 λg hg=>((h4.block g (jg (HO.out.1.lt g hg).2 H3.out.1.size)).trans (H3.out.1.block g (HO.out.1.lt g hg).2))).alloc (.cells #[.int .i64 n] 3);have hb5:=hb4.size;have hnw:=jh (cs:= #[.int .i64 n]) (t:=3) (fr:=(0,0)) (heap_alloc_new w4 (.cells #[.int .i64 n] 3));have Te:Hid (n=kH a/\Below w.heap.size w (w4.alloc (.cells #[.int .i64 n] 3))):=⟨by simpa using hn,hb4⟩
         clear rn h4 hn hb4)
       |(at_builtin
         refine ow _ rfl _ _ _ rfl w.heap.size 3 i5 _ 1 8 Tryz.underlying39 hi5 kW kX lY rfl (by omega) (.slice la A.length lc) A.length (A.map (Value.int .i64)) rfl bV
          ⟨w4.heap.size,0,none⟩ 1 1 [.int .i64 n] rfl rfl hnw (by simp[Value.oneCell']) (by omega) m1 Td hb5 (w4.heap.size+1) (by simp) ?_
         intro g9 pJ w9 kG iX qX sQ;have H9:Hid (w9.ownsRow w.heap.size 3 1 (.slice (some ⟨g9,0,none⟩) (A.length+1) pJ) (A.length+1) (A.map (Value.int .i64)++[.int .i64 n])/\Below w.heap.size w w9):=⟨kG,Te.out.2.grown iX hb5 λk hk=>(bV.lt k hk).1⟩
         clear kG iX qX sQ bV hb5 hnw hi5 kW kX lY m1 Td))
     go_roundw
     case rel=>
      refine⟨rfl,_,r2,m2,A++[kH a],rfl,rfl,rfl,by simp;omega,?_,H9.out.2,?_⟩
      ·have:=H9.out.1
       rw[Te.out.1]at this;simpa using this
      ·have hz:=HZ.out
       rw[HP.out]at hz;cases m2 with
       |true=>
        have h5:=HL.out.2.2 rfl;exact .inl ⟨rfl,by have:=HL.out.1;omega,f',by have:=HL.out.2.1;omega,hz⟩
       |false=>exact .inr ⟨rfl,hz⟩
     case measure=>
      cases m2 with
      |true=>
       have h5:=HL.out.2.2 rfl;simpa [DL,ByteArray.size] using h5
      |false=>simp
    ·have d1:decide ((A.length:Int)<=30)=false:=aU (by omega)
     have HP:Hid (qA A (kH a)=A):=by show _=_;unfold qA;rw[aj Tc]
     have HZ:Hid ((if m2=true then (vF f' r2 (qA A (kH a))).map (λA=>(u,A)) else some (u,qA A (kH a)))=lZ s):=hE;clear hE hok
     go_wp2_with
      (first
       |(go_at_call 12;refine ct.mono ?_;rintro e w3 ⟨rfl,h3⟩
         have rn:=HN.out w3 (HO.out.2.trans (h3.mono HO.out.2.size));have H3:Hid (Below wr.heap.size wr w3/\Below w.heap.size w w3):=⟨h3,HO.out.2.trans (h3.mono HO.out.2.size)⟩
         clear ct h3)
       |(go_at_call 111;refine rn.mono ?_;rintro e w4 ⟨n,rfl,hn,h4⟩
         have H4:Hid (w4.ownsRow w.heap.size 3 1 (.slice la A.length lc) A.length (A.map (Value.int .i64))/\Below w.heap.size w w4):=⟨lu HO.out.1 λg hg=>((h4.block g (jg (HO.out.1.lt g hg).2 H3.out.1.size)).trans (H3.out.1.block g (HO.out.1.lt g hg).2)),H3.out.2.trans (h4.mono H3.out.2.size)⟩
         clear rn h4 hn))
     go_roundw
     case rel=>
      refine⟨rfl,_,r2,m2,A,rfl,rfl,rfl,hA,H4.out.1,H4.out.2,?_⟩;have hz:=HZ.out;rw[HP.out]at hz;cases m2 with
      |true=>
       have h5:=HL.out.2.2 rfl;exact .inl ⟨rfl,by have:=HL.out.1;omega,f',by have:=HL.out.2.1;omega,hz⟩
      |false=>exact .inr ⟨rfl,hz⟩
     case measure=>
      cases m2 with
      |true=>
       have h5:=HL.out.2.2 rfl;simpa [DL,ByteArray.size] using h5
      |false=>simp
  ·have HZ:Hid (lZ s=some (u,A)):=hE.symm
   have HO:Hid (wr.ownsRow w.heap.size 3 1 lv A.length (A.map (Value.int .i64))/\Below w.heap.size w wr):=⟨hO,hB⟩;clear hE hO hB
   go_wp2_with fail
   refine aH (v:= .tuple #[.string ⟨u.toArray⟩,lv,.bool true]) (by simp[results,Tryz.results69,go_sem]) rfl (.inl ⟨u,A,lv,HZ.out,rfl,HO.out.1,HO.out.2⟩)
end
def oC(T N:Int)(s:Sy):Bool:=decide (0<=s.2/\s.2<if s.1 then T else N)
def lC(T N:Int)(r:Ru):Bool:=decide (0<=r.1/\r.1<N/\r.2.length<=8)&&r.2.all (oC T N)
def DR(T N:Int)(n:Nat):Bool:=decide (0<=T/\T<=8/\1<=N/\N<=12/\n<=40)
def aJ(T N:Int)(R:List Ru):Bool:=DR T N R.length&&R.all (lC T N)
theorem Tf{α:Type}(f:α->Bool)(l:List α)(d:α)(j:Nat)(h:j<l.length):(l.take (j+1)).all f=((l.take j).all f&&f (l.getD j d)):=by
 rw[fT h,zZ];simp[List.getD,h]
theorem Tg{α:Type}(f:α->Bool)(l:List α)(j:Nat)(h:l.length<=j):(l.take j).all f=l.all f:=by
 rw[pG h]
theorem Ti{α:Type}(f:α->Bool)(l:List α)(d:α)(j:Nat)(h:j<l.length)(hf:f (l.getD j d)=false):l.all f=false:=by
 rw[FH];refine⟨l[j],jO h,?_⟩;simpa [List.getD,h] using hf
theorem abq{T N:Int}{R:List Ru}{j:Nat}(hj:j<R.length)(h:lC T N (R.getD j (0,[]))=false):R.all (lC T N)=false:=Ti _ R (0,[]) j hj h
def Al(n e:Int):Bool:=decide (0<=n/\n<e)
theorem J7{w:World}{n e:Int}:
 Calls Tryz.prog 80 #[.int .i64 n,.int .i64 e] w λr w'=>r= .returned (.bool (Al n e))/\w'=w:=by
 by_cases h1:0<=n
 ·by_cases h2:n<e
  ·have HD:Hid (Al n e=true):=aT ⟨h1,h2⟩
   go_enter Tryz.func80,Tryz.ntmps80
   go_wp2_with fail
   go_ret;exact⟨by rw[HD.out];rfl,rfl⟩
  ·have HD:Hid (Al n e=false):=aU (by omega)
   go_enter Tryz.func80,Tryz.ntmps80
   go_wp2_with fail
   go_ret;exact⟨by rw[HD.out];rfl,rfl⟩
 ·have HD:Hid (Al n e=false):=aU (by omega)
  go_enter Tryz.func80,Tryz.ntmps80
  go_wp2_with fail
  go_ret;exact⟨by rw[HD.out];rfl,rfl⟩
theorem abr{w:World}{T N v:Int}{rv:Value}{t:Bool}{ra:Option Addr}{rl rc:Nat}(aI:rv= .slice ra rl rc):
 Calls Tryz.prog 81 #[.agg #[.int .i64 T,.int .i64 N,rv],.agg #[.bool t,.int .i64 v]] w λr w'=>r= .returned (.bool (oC T N (t,v)))/\Below w.heap.size w w':=by
 subst aI;cases t with
 |true=>
  have HD:Hid (oC T N (true,v)=Al v T):=rfl
  go_enter Tryz.func81,Tryz.ntmps81
  go_wp2_with (go_at_call 80;refine J7.mono ?_;rintro e w2 ⟨rfl,rfl⟩)
  go_ret;exact⟨by rw[HD.out];rfl,((ai _ _).alloc (ah _) _).alloc (by simp) _⟩
 |false=>
  have HD:Hid (oC T N (false,v)=Al v N):=rfl
  go_enter Tryz.func81,Tryz.ntmps81
  go_wp2_with (go_at_call 80;refine J7.mono ?_;rintro e w2 ⟨rfl,rfl⟩)
  go_ret;exact⟨by rw[HD.out];rfl,((ai _ _).alloc (ah _) _).alloc (by simp) _⟩
theorem abt{w:World}{T N L:Int}{rv:Value}{qa ra:Option Addr}{qc rl rc:Nat}{Rt:List Sy}(aI:rv= .slice ra rl rc)(hR:iy w w.heap.size qa Rt):
 Calls Tryz.prog 42 #[.agg #[.int .i64 T,.int .i64 N,rv],.agg #[.int .i64 L,.slice qa Rt.length qc]] w λr w'=>r= .returned (.bool (lC T N (L,Rt)))/\Below w.heap.size w w':=by
 subst aI;by_cases hh:0<=L/\L<N
 ·have e1:Al L N=true:=aT hh
  have call:=J7 (w:=(w.alloc (.cells #[.int .i64 T,.int .i64 N,.slice ra rl rc] 27)).alloc (.cells #[.int .i64 L,.slice qa Rt.length qc] 96)) (n:=L) (e:=N);rw[e1]at call;by_cases h8:Rt.length<=8
  ·have HD:Hid (lC T N (L,Rt)=Rt.all (oC T N)):=by show lC T N (L,Rt)=_;simp[lC,hh.1,hh.2,h8]
   have HR:Hid (iy w w.heap.size qa Rt):=hR;clear hR e1 hh
   go_enter Tryz.func42,Tryz.ntmps42
   go_wp2_with (go_at_call 80;refine call.mono ?_;rintro e w2 ⟨rfl,rfl⟩)
   go_loopw [22] (λk wr=> ∃i:Nat,k= .int .i64 i/\i<=Rt.length/\(Rt.take i).all (oC T N)=true/\Below (w.heap.size+2) ((w.alloc (.cells #[.int .i64 T,.int .i64 N,.slice ra rl rc] 27)).alloc (.cells #[.int .i64 L,.slice qa Rt.length qc] 96)) wr) (λk _=>Rt.length-(intOf k).toNat)
   case atStart=>exact⟨0,rfl,aP _,rfl,ai _ _⟩
   case round=>
    obtain⟨i,rfl,hi,hall,hB⟩:=hrel;have HI:Hid ((Rt.take i).all (oC T N)=true):=hall;have HB2:Hid (Below (w.heap.size+2) ((w.alloc (.cells #[.int .i64 T,.int .i64 N,.slice ra rl rc] 27)).alloc (.cells #[.int .i64 L,.slice qa Rt.length qc] 96)) wr):=hB;have HB:Hid (Below w.heap.size w wr):=(((ai _ _).alloc (ah _) _).alloc (by simp) _).trans (hB.mono (by omega));have hsz:w.heap.size+2<=wr.heap.size:=by have:=hB.size;simp at this;omega
    have b0:wr.cell? ⟨w.heap.size,0,none⟩=some (.int .i64 T):=(hB.cell (by simp)).trans (by simp[go_sem]);have b1:wr.cell? ⟨w.heap.size,1,none⟩=some (.int .i64 N):=(hB.cell (by simp)).trans (by simp[go_sem]);have b2:wr.cell? ⟨w.heap.size,2,none⟩=some (.slice ra rl rc):=(hB.cell (by simp)).trans (by simp[go_sem]);clear hall hB call;by_cases hi':i<Rt.length
    ·obtain⟨b',o',sS,hb',k3,k4⟩:=HR.out i hi'
     subst sS;obtain⟨⟨t,v⟩,hsy⟩:=af (Rt.getD i (false,0));rw[hsy]at k3 k4;have F4:wr.cell? ⟨b',o'+i*2,none⟩=some (.bool t):=(HB.out.cell (p:=⟨b',o'+i*2,none⟩) hb').trans k3;have DT:wr.cell? ⟨b',o'+i*2+1,none⟩=some (.int .i64 v):=by rw[kF];exact(HB.out.cell (p:=⟨b',o'+(i*2+1),none⟩) hb').trans k4
     have HT:Hid ((Rt.take (i+1)).all (oC T N)=oC T N (t,v)):=by
      show (Rt.take (i+1)).all (oC T N)=_;rw[Tf _ Rt (false,0) i hi',HI.out,hsy,wN]
     have HF:Hid (oC T N (t,v)=false->Rt.all (oC T N)=false):=λh=>Ti _ Rt (false,0) i hi' (by rw[hsy];exact h);have n0:(wr.alloc (.cells #[.bool t,.int .i64 v] 121)).cell? ⟨w.heap.size,0,none⟩=some (.int .i64 T):=by rw[dB _ _ _ (by omega)];exact b0
     have n1:(wr.alloc (.cells #[.bool t,.int .i64 v] 121)).cell? ⟨w.heap.size,1,none⟩=some (.int .i64 N):=by rw[dB _ _ _ (by omega)];exact b1
     have n2:(wr.alloc (.cells #[.bool t,.int .i64 v] 121)).cell? ⟨w.heap.size,2,none⟩=some (.slice ra rl rc):=by rw[dB _ _ _ (by omega)];exact b2
     have sym:=abr (w:=wr.alloc (.cells #[.bool t,.int .i64 v] 121)) (T:=T) (N:=N) (t:=t) (v:=v) (ra:=ra) (rl:=rl) (rc:=rc) rfl;clear k3 k4 hsy b0 b1 b2;cases hs:oC T N (t,v) with
     |true=>
      rw[hs]at sym HT;clear hs HF
      go_wp2_with (go_at_call 81;refine sym.mono ?_;rintro e w2 ⟨rfl,hB2⟩)
      go_roundw
      case rel=>exact⟨i+1,by go_num,by omega,HT.out,(HB2.out.alloc (by omega) _).trans (hB2.mono (by simp;omega))⟩
      case measure=>simp[intOf];omega
     |false=>
      rw[hs]at sym;have HF':Hid (Rt.all (oC T N)=false):=HF.out hs;clear hs HF HT
      go_wp2_with (go_at_call 81;refine sym.mono ?_;rintro e w2 ⟨rfl,hB2⟩)
      go_ret;exact⟨by rw[HD.out,HF'.out];rfl,(HB.out.alloc (by omega) _).trans (hB2.mono (by simp;omega))⟩
    ·have HZ:Hid (Rt.all (oC T N)=true):=by
      show Rt.all (oC T N)=true;rw[<-Tg _ Rt i (by omega)];exact HI.out
     go_wp2_with fail
     go_ret;exact⟨by rw[HD.out,HZ.out];rfl,HB.out⟩
  ·have HD:Hid (lC T N (L,Rt)=false):=by show lC T N (L,Rt)=_;simp[lC,h8]
   clear hR e1 hh
   go_enter Tryz.func42,Tryz.ntmps42
   go_wp2_with (go_at_call 80;refine call.mono ?_;rintro e w2 ⟨rfl,rfl⟩)
   go_ret;exact⟨by rw[HD.out];rfl,((ai _ _).alloc (ah _) _).alloc (by simp) _⟩
 ·have e1:Al L N=false:=aU hh
  have HD:Hid (lC T N (L,Rt)=false):=by show lC T N (L,Rt)=_;simp[lC];omega
  have call:=J7 (w:=(w.alloc (.cells #[.int .i64 T,.int .i64 N,.slice ra rl rc] 27)).alloc (.cells #[.int .i64 L,.slice qa Rt.length qc] 96)) (n:=L) (e:=N);rw[e1]at call;clear hR e1 hh
  go_enter Tryz.func42,Tryz.ntmps42
  go_wp2_with (go_at_call 80;refine call.mono ?_;rintro e w2 ⟨rfl,rfl⟩)
  go_ret;exact⟨by rw[HD.out];rfl,((ai _ _).alloc (ah _) _).alloc (by simp) _⟩
theorem oD{w:World}{T N:Int}{rv:Value}{R:List Ru}(hr:aG w w.heap.size rv R):
 Calls Tryz.prog 18 #[.agg #[.int .i64 T,.int .i64 N,rv]] w λe w'=>e= .returned (.bool (aJ T N R))/\Below w.heap.size w w':=by
 obtain⟨ra,rc,aI⟩:=hr.1;by_cases hh:DR T N R.length=true
 ·have hh':=hh
  simp only[DR,bX]at hh';obtain⟨h1,h2,h3,h4,h5⟩:=hh';have HR:Hid (aG w w.heap.size rv R):=hr;have HM:Hid (aJ T N R=R.all (lC T N)):=by show aJ T N R=_;simp[aJ,hh]
  clear hr hh;subst aI
  go_enter Tryz.func18,Tryz.ntmps18
  go_wp2_with fail
  go_loopw [28] (λi wr=> ∃j:Nat,i= .int .i64 j/\j<=R.length/\(R.take j).all (lC T N)=true/\Below (w.heap.size+1) (w.alloc (.cells #[.int .i64 T,.int .i64 N,.slice ra R.length rc] 27)) wr)
   (λi _=>R.length-(intOf i).toNat)
  case atStart=>exact⟨0,rfl,aP _,rfl,ai _ _⟩
  case round=>
   obtain⟨j,rfl,hj,hall,hB⟩:=hrel;have HA:Hid ((R.take j).all (lC T N)=true):=hall;have b0:wr.cell? ⟨w.heap.size,0,none⟩=some (.int .i64 T):=(hB.cell (by simp)).trans (by simp[go_sem]);have b1:wr.cell? ⟨w.heap.size,1,none⟩=some (.int .i64 N):=(hB.cell (by simp)).trans (by simp[go_sem]);have b2:wr.cell? ⟨w.heap.size,2,none⟩=some (.slice ra R.length rc):=(hB.cell (by simp)).trans (by simp[go_sem]);have HB:Hid (Below w.heap.size w wr):=((ai _ _).alloc (ah _) _).trans (hB.mono (by omega));have HB1:Hid (Below (w.heap.size+1) (w.alloc (.cells #[.int .i64 T,.int .i64 N,.slice ra R.length rc] 27)) wr):=hB;have hsz:=hB.size;simp only[lU]at hsz;clear hall hB;by_cases hlt:j<R.length
   ·obtain⟨b,o,rc',qa,qc,hv,hb,k1,k2,_,k3⟩:=HR.out.2 j hlt
    cases hv;obtain⟨⟨L,Rt⟩,yO⟩:=af (R.getD j (0,[]));rw[yO]at k1 k2 k3;have k1':=(HB.out.cell (p:=⟨b,o+j*2,none⟩) hb).trans k1;have k2':wr.cell? ⟨b,o+j*2+1,none⟩=some (.slice qa Rt.length qc):=by rw[kF];exact(HB.out.cell (p:=⟨b,o+(j*2+1),none⟩) hb).trans k2
    have HU:Hid (R.getD j (0,[])=(L,Rt)):=yO;have oF:iy w w.heap.size qa Rt:=k3;have n0:(wr.alloc (.cells #[.int .i64 L,.slice qa Rt.length qc] 96)).cell? ⟨w.heap.size,0,none⟩=some (.int .i64 T):=by rw[dB _ _ _ (by omega)];exact b0
    have n1:(wr.alloc (.cells #[.int .i64 L,.slice qa Rt.length qc] 96)).cell? ⟨w.heap.size,1,none⟩=some (.int .i64 N):=by rw[dB _ _ _ (by omega)];exact b1
    have n2:(wr.alloc (.cells #[.int .i64 L,.slice qa Rt.length qc] 96)).cell? ⟨w.heap.size,2,none⟩=some (.slice (some ⟨b,o,none⟩) R.length rc):=by rw[dB _ _ _ (by omega)];exact b2
    have J8:=abt (w:=wr.alloc (.cells #[.int .i64 L,.slice qa Rt.length qc] 96)) (T:=T) (N:=N) (L:=L) (rv:= .slice (some ⟨b,o,none⟩) R.length rc) (qa:=qa) (qc:=qc) (Rt:=Rt) rfl
     ((oF.below (HB.out.alloc (by omega) _)).mono (by simp;omega))
    clear k1 k2 k3 yO b0 b1 b2 oF;cases hs:lC T N (L,Rt) with
    |true=>
     rw[hs]at J8
     have HJ:Hid ((R.take (j+1)).all (lC T N)=true):=by
      show (R.take (j+1)).all (lC T N)=true;rw[Tf _ R (0,[]) j hlt,HA.out,HU.out,hs];rfl
     clear hs
     go_wp2_with (go_at_call 42;refine J8.mono ?_;rintro e w2 ⟨rfl,hB2⟩)
     go_roundw
     case rel=>exact⟨j+1,by go_num,by omega,HJ.out,(HB1.out.alloc (by omega) _).trans (hB2.mono (by simp;omega))⟩
     case measure=>simp[intOf];omega
    |false=>
     rw[hs]at J8;have HJ:Hid (R.all (lC T N)=false):=abq hlt (by rw[HU.out];exact hs);clear hs
     go_wp2_with (go_at_call 42;refine J8.mono ?_;rintro e w2 ⟨rfl,hB2⟩)
     go_ret;exact⟨by rw[HM.out,HJ.out];rfl,(HB.out.alloc (by omega) _).trans (hB2.mono (by simp;omega))⟩
   ·have HZ:Hid (aJ T N R=true):=by
     show aJ T N R=true;rw[HM.out,<-Tg _ R j (by omega)];exact HA.out
    go_wp2_with fail
    go_ret;exact⟨by rw[HZ.out];rfl,HB.out⟩
 ·have hm:aJ T N R=false:=by simp[aJ,hh]
  simp only[DR,bX]at hh;subst aI;clear hr;rw[hm];clear hm;by_cases h1:T<0
  ·go_enter Tryz.func18,Tryz.ntmps18
   go_wp2_with fail
   go_ret;exact⟨rfl,(ai _ _).alloc (ah _) _⟩
  by_cases h2:8<T
  ·go_enter Tryz.func18,Tryz.ntmps18
   go_wp2_with fail
   go_ret;exact⟨rfl,(ai _ _).alloc (ah _) _⟩
  by_cases h3:N<1
  ·go_enter Tryz.func18,Tryz.ntmps18
   go_wp2_with fail
   go_ret;exact⟨rfl,(ai _ _).alloc (ah _) _⟩
  by_cases h4:12<N
  ·go_enter Tryz.func18,Tryz.ntmps18
   go_wp2_with fail
   go_ret;exact⟨rfl,(ai _ _).alloc (ah _) _⟩
  have h5:40<R.length:=by omega
  go_enter Tryz.func18,Tryz.ntmps18
  go_wp2_with fail
  go_ret;exact⟨rfl,(ai _ _).alloc (ah _) _⟩
def uI(s:List UInt8):Bool:=(bU s).2.2&&aJ ((bU s).1.1:Nat) ((bU s).1.2.1:Nat) (bU s).1.2.2
theorem abu{l:List (Value×Ru)}{i:Nat}(hi:i<l.length):(vD l)[i*2]?=some (.int .i64 (l[i]).2.1)/\(vD l)[i*2+1]?=some (l[i]).1:=by
 unfold vD
 induction l generalizing i with
 |nil=>simp at hi
 |cons a L ih=>
  rw[gV];cases i with
  |zero=>simp
  |succ i=>
   have:=ih (i:=i) (by simpa using hi);rw[o9 (by simp;omega),o9 (by simp;omega)];simp only[List.length_cons,List.length_nil];rw[show (i+1)*2-(0+1+1)=i*2 by omega,show (i+1)*2+1-(0+1+1)=i*2+1 by omega];simpa using this
def lD(w:World)(B:Nat)(rv:Value)(R:List Ru):Prop:=∀w':World,w.heap.size<=w'.heap.size->(∀k,B<=k->k<w.heap.size->w'.heap[k]?=w.heap[k]?)->aG w' w'.heap.size rv R
section
variable{w w':World}{gb:Nat}{T N:Int}{rv:Value}{RL:List (Value×Ru)}
theorem lD.at{B:Nat}{R:List Ru}(h:lD w B rv R):aG w w.heap.size rv R:=h w (ah _) λ_ _ _=>rfl
theorem lD.on{B B':Nat}{R:List Ru}(h:lD w B rv R)(hB:B'<=B)(hs:w.heap.size<=w'.heap.size)(hk:∀k,B<=k->k<w.heap.size->w'.heap[k]?=w.heap[k]?):lD w' B' rv R:=
 λw2 h1 h2=>h w2 (aZ hs h1) λk h3 h4=>(h2 k (by omega) (by omega)).trans (hk k h3 h4)
theorem Tj{B:Nat}(hown:w.ownsRow B 96 2 rv RL.length (vD RL))(hright:∀x∈RL,w.ownsRow B 121 2 x.1 x.2.2.length (jQ x.2.2)):aG w w.heap.size rv (RL.map λx=>x.2):=by
 obtain⟨a,c,aI⟩:=uH hown;refine⟨⟨a,c,by rw[aI,cK]⟩,λq hq=> ?_⟩;rw[cK]at hq;have hq':(RL.map λx=>x.2).getD q (0,[])=(RL[q]).2:=by simp[List.getD,hq]
 rw[hq'];rcases hown.2 with⟨_,h2⟩|⟨g,cap,cur,h1,_⟩
 ·omega
 ·have h3:=hright (RL[q]) (jO hq)
  obtain⟨h5,h6⟩:=abu hq;subst h1;obtain⟨va,vc,hv⟩:=uH h3
  have hle:(RL[q]).2.2.length<=vc:=by
   rcases h3.2 with⟨h7,h8⟩|⟨g',cap',cur',h7,_,_,h8,_⟩
   ·omega
   ·rw[hv]at h7;injection h7 with _ _ h7;omega
  refine⟨g,0,cap,va,vc,by rw[cK],(hown.lt g rfl).2,?_,?_,hle,λj hj=> ?_⟩
  ·rw[eO,hown.cellAt (q*2) (by omega)];exact h5
  ·rw[eO,hown.cellAt (q*2+1) (by omega),h6,hv]
  ·rcases h3.2 with⟨_,h8⟩|⟨g',cap',cur',h7,_⟩
   ·omega
   ·rw[hv]at h7
    injection h7 with h7 _ h9;subst h7;rw[hv]at h3;refine⟨g',0,rfl,(h3.lt g' rfl).2,?_,?_⟩
    ·rw[eO,h3.cellAt (j*2) (by omega)];exact Sg (j:=0) hj (by omega)
    ·rw[eO,h3.cellAt (j*2+1) (by omega)];exact Sg (j:=1) hj (by omega)
theorem GR.rules(h:GR w gb T N rv RL):aG w w.heap.size rv (RL.map λx=>x.2):=Tj h.own λx hx=>(h.right x hx).1
theorem GR.J9(h:GR w gb T N rv RL):lD w (gb+1) rv (RL.map λx=>x.2):=λw2 h1 h2=>by
 have ho:w2.ownsRow (gb+1) 96 2 rv RL.length (vD RL):=lu h.own λg hg=>h2 g (h.own.lt g hg).1 (h.own.lt g hg).2;have hr:∀x∈RL,w2.ownsRow (gb+1) 121 2 x.1 x.2.2.length (jQ x.2.2)/\∀g,x.1.ownBlock=some g->rv.ownBlock≠some g:=λx hx=>⟨lu (h.right x hx).1 λg hg=>h2 g ((h.right x hx).1.lt g hg).1 ((h.right x hx).1.lt g hg).2,(h.right x hx).2⟩;exact Tj ho λx hx=>(hr x hx).1
theorem GR.but(h:GR w gb T N rv RL){b:Nat}(hb:But b w w')(hlt:b<gb):GR w' gb T N rv RL:=
 ⟨(hb.block _ h.lt (by omega)).trans h.at_,lu h.own λg hg=>hb.block g (h.own.lt g hg).2 (by have:=(h.own.lt g hg).1;omega),λx hx=>⟨lu (h.right x hx).1 λg hg=>hb.block g ((h.right x hx).1.lt g hg).2 (by have:=((h.right x hx).1.lt g hg).1;omega),(h.right x hx).2⟩⟩
theorem NS{p:Nat}{a0 a1 a2 b0 b1 A0 A1 A2 B0 B1:Value}(y0:w.heap[p]?=some (.cells #[a0,a1,a2] 27 (0,0)))(y1:w.heap[p+1]?=some (.cells #[b0,b1] 35 (0,0))):
 ∃u W,((((w.setCell ⟨p,0,none⟩ A0).setCell ⟨p,1,none⟩ A1).setCell ⟨p,2,none⟩ A2).setCell ⟨p+1,0,none⟩ B0).setCell ⟨p+1,1,none⟩ B1=W/\W.heap[p]?=some (.cells #[A0,A1,A2] 27 (0,0))/\W.heap[p+1]?=some (.cells #[B0,B1] 35 (0,0))/\But p w u/\But (p+1) u W/\Below p w W:=by
 have h1:But p w (((w.setCell ⟨p,0,none⟩ A0).setCell ⟨p,1,none⟩ A1).setCell ⟨p,2,none⟩ A2):=((But.set _ _ _).trans (But.set _ _ _)).trans (But.set _ _ _);have h2:=Lib.heap_setCell_same (i:=2) (Lib.heap_setCell_same (i:=1) (Lib.heap_setCell_same (i:=0) y0 A0) A1) A2;have hl1:=(dx.1 y1).1;have h3:=(h1.block (p+1) hl1 (by omega)).trans y1;have h4:But (p+1) (((w.setCell ⟨p,0,none⟩ A0).setCell ⟨p,1,none⟩ A1).setCell ⟨p,2,none⟩ A2) _:=(But.set (p+1) 0 B0).trans (But.set (p+1) 1 B1);refine⟨_,_,rfl,(h4.block p (dx.1 h2).1 (by omega)).trans h2,Lib.heap_setCell_same (i:=1) (Lib.heap_setCell_same (i:=0) h3 B0) B1,h1,h4,?_⟩;exact(h1.below (ah _) (by omega)).trans (h4.below (by omega) (by have:=h1.size;omega))
theorem Tk{s:List UInt8}(hs:s.length<=9223372036854775807)(hok:uI s=true):Calls Tryz.prog 8 #[.string ⟨s.toArray⟩] w λe w'=> ∃rv,e= .returned (.tuple #[.agg #[.int .i64 ((bU s).1.1:Nat),.int .i64 ((bU s).1.2.1:Nat),rv],.agg #[.int .i64 0,.int .i64 0]])/\lD w' w.heap.size rv (bU s).1.2.2/\Below w.heap.size w w':=by
 obtain⟨p,hp⟩:=af w.heap.size;obtain⟨W1,hW1⟩:=af ((w.alloc (.cells #[.int .i64 0,.int .i64 0,.slice none 0 0] 27)).alloc (.cells #[.int .i64 0,.int .i64 0] 35))
 have hx0:W1.heap[p]?=some (.cells #[.int .i64 0,.int .i64 0,.slice none 0 0] 27 (0,0)):=by
  rw[<-hW1,<-hp];exact(sJ _ _ _ (by simp)).trans (heap_alloc_new w _)
 have hx1:W1.heap[p+1]?=some (.cells #[.int .i64 0,.int .i64 0] 35 (0,0)):=by
  have:=heap_alloc_new (w.alloc (.cells #[.int .i64 0,.int .i64 0,.slice none 0 0] 27)) (.cells #[.int .i64 0,.int .i64 0] 35);rw[hW1]at this;simpa [hp] using this
 have hz1:W1.heap.size=p+2:=by rw[<-hW1];simp[hp]
 have hB1:Below p w W1:=by rw[<-hW1,<-hp];exact((ai _ _).alloc (ah _) _).alloc (by simp) _
 have H1:Hid (W1.heap[p]?=some (.cells #[.int .i64 0,.int .i64 0,.slice none 0 0] 27 (0,0))/\W1.heap[p+1]?=some (.cells #[.int .i64 0,.int .i64 0] 35 (0,0))/\W1.heap.size=p+2/\Below p w W1):=⟨hx0,hx1,hz1,hB1⟩;have HW:Hid ((w.alloc (.cells #[.int .i64 0,.int .i64 0,.slice none 0 0] 27)).alloc (.cells #[.int .i64 0,.int .i64 0] 35)=W1/\w.heap.size=p):=⟨hW1,hp⟩;have rls:=NK (w:=W1) hs;rw[hz1]at rls;obtain⟨⟨⟨T,N,R⟩,k,ok⟩,hall⟩:=af (bU s);unfold uI at hok;rw[hall]at hok rls⊢;simp only[bG]at hok;obtain⟨hok1,hok2⟩:=hok;simp only at rls hok1 hok2⊢;subst hok1;have HM:Hid (aJ (T:Int) (N:Int) R=true):=hok2;clear hx0 hx1 hz1 hB1 hW1 hp hall hok2 hs;rw[HW.out.2]
 go_enter Tryz.func8,Tryz.ntmps8
 go_upto_region 1 with fail
 rw[HW.out.1];rw[HW.out.2];clear HW
 go_wp2_with
  (first
   |(go_at_call 17;refine rls.mono ?_;rintro e w2 ⟨rv,RL,rfl,h2,h3,h4⟩
     obtain⟨ra,rc,aI⟩:=uH h2.own;subst aI;have hR2:=h2.rules;rw[h3]at hR2;have F5:=hR2.boxed (.cells #[.int .i64 (T:Int),.int .i64 (N:Int),.slice ra RL.length rc] 27);have may:=oD (T:=(T:Int)) (N:=(N:Int)) F5;have H2:Hid (GR w2 (p+2) T N (.slice ra RL.length rc) RL/\RL.map (λx=>x.2)=R/\Below (p+2) W1 w2):=⟨h2,h3,h4⟩;rw[HM.out]at may
     clear rls h2 h3 h4 hR2 F5)
   |(go_at_call 18;refine may.mono ?_;rintro e w4 ⟨rfl,h4⟩
     obtain⟨W3,hW3⟩:=af (w2.alloc (.cells #[.int .i64 (T:Int),.int .i64 (N:Int),.slice ra RL.length rc] 27));have hx3:=heap_alloc_new w2 (.cells #[.int .i64 (T:Int),.int .i64 (N:Int),.slice ra RL.length rc] 27);rw[hW3]at hx3 h4;have hB3:Below w2.heap.size w2 W3:=by rw[<-hW3];exact(ai _ _).alloc (ah _) _
     have hy:=(h4.block _ (dx.1 hx3).1).trans hx3;have hB4:Below w2.heap.size w2 w4:=hB3.trans (h4.mono hB3.size);have hsz2:p+2<=w2.heap.size:=by have:=H2.out.2.2.size;have:=H1.out.2.2.1;omega
     have y0:=(hB4.block p (by omega)).trans ((H2.out.2.2.block p (by omega)).trans H1.out.1);have y1:=(hB4.block (p+1) (by omega)).trans ((H2.out.2.2.block (p+1) (by omega)).trans H1.out.2.1)
     have H4:Hid (GR w4 (p+2) T N (.slice ra RL.length rc) RL/\w4.heap[p]?=some (.cells #[.int .i64 0,.int .i64 0,.slice none 0 0] 27 (0,0))/\w4.heap[p+1]?=some (.cells #[.int .i64 0,.int .i64 0] 35 (0,0))/\Below p w w4):=
      ⟨H2.out.1.later hB4,y0,y1,H1.out.2.2.2.trans ((H2.out.2.2.mono (by omega)).trans (hB4.mono (by omega)))⟩
     have u0:=ay (i:=0) hy rfl;have u1:=ay (i:=1) hy rfl;have u2:=ay (i:=2) hy rfl;have c0:=ay (i:=0) y0 rfl;have c1:=ay (i:=1) y0 rfl;have c2:=ay (i:=2) y0 rfl;have f0:=bO (i:=0) y0;have f1:=bO (i:=1) y0;have f2:=bO (i:=2) y0;have d0:=ay (i:=0) y1 rfl;have d1:=ay (i:=1) y1 rfl;have g0:=bO (i:=0) y1;have g1:=bO (i:=1) y1
     clear may h4 hx3 hB3 hy hB4 hsz2 y0 y1 hW3))
 obtain⟨u,W5,jX,q0,q1,hu1,hu2,aD⟩:=NS (A0:= .int .i64 (T:Int)) (A1:= .int .i64 (N:Int)) (A2:= .slice ra RL.length rc) (B0:= .int .i64 0) (B1:= .int .i64 0) H4.out.2.1 H4.out.2.2.1;rw[jX];have x0:=ay (i:=0) q0 rfl;have x1:=ay (i:=1) q0 rfl;have x2:=ay (i:=2) q0 rfl;have x3:=ay (i:=0) q1 rfl;have x4:=ay (i:=1) q1 rfl;refine aH (v:= .tuple #[.agg #[.int .i64 (T:Int),.int .i64 (N:Int),.slice ra RL.length rc],.agg #[.int .i64 0,.int .i64 0]]) (by simp[results,Tryz.results8,go_sem,x0,x1,x2,x3,x4]) rfl ⟨.slice ra RL.length rc,rfl,?_,H4.out.2.2.2.trans aD⟩;have:=((H4.out.1.but hu1 (by omega)).but hu2 (by omega)).J9;rw[H2.out.2.1]at this;exact this.on (by omega) (ah _) λ_ _ _=>rfl
theorem Tm{s:List UInt8}(hs:s.length<=9223372036854775807)(hok1:(bU s).2.2=true)(hok2:aJ ((bU s).1.1:Nat) ((bU s).1.2.1:Nat) (bU s).1.2.2=false):Calls Tryz.prog 8 #[.string ⟨s.toArray⟩] w λe w'=>e= .returned (.tuple #[.agg #[.int .i64 0,.int .i64 0,.slice none 0 0],.agg #[.int .i64 2,.int .i64 ((bU s).2.1:Nat)]])/\Below w.heap.size w w':=by
 obtain⟨p,hp⟩:=af w.heap.size;obtain⟨W1,hW1⟩:=af ((w.alloc (.cells #[.int .i64 0,.int .i64 0,.slice none 0 0] 27)).alloc (.cells #[.int .i64 0,.int .i64 0] 35))
 have hx0:W1.heap[p]?=some (.cells #[.int .i64 0,.int .i64 0,.slice none 0 0] 27 (0,0)):=by
  rw[<-hW1,<-hp];exact(sJ _ _ _ (by simp)).trans (heap_alloc_new w _)
 have hx1:W1.heap[p+1]?=some (.cells #[.int .i64 0,.int .i64 0] 35 (0,0)):=by
  have:=heap_alloc_new (w.alloc (.cells #[.int .i64 0,.int .i64 0,.slice none 0 0] 27)) (.cells #[.int .i64 0,.int .i64 0] 35);rw[hW1]at this;simpa [hp] using this
 have hz1:W1.heap.size=p+2:=by rw[<-hW1];simp[hp]
 have hB1:Below p w W1:=by rw[<-hW1,<-hp];exact((ai _ _).alloc (ah _) _).alloc (by simp) _
 have H1:Hid (W1.heap[p]?=some (.cells #[.int .i64 0,.int .i64 0,.slice none 0 0] 27 (0,0))/\W1.heap[p+1]?=some (.cells #[.int .i64 0,.int .i64 0] 35 (0,0))/\W1.heap.size=p+2/\Below p w W1):=⟨hx0,hx1,hz1,hB1⟩;have HW:Hid ((w.alloc (.cells #[.int .i64 0,.int .i64 0,.slice none 0 0] 27)).alloc (.cells #[.int .i64 0,.int .i64 0] 35)=W1/\w.heap.size=p):=⟨hW1,hp⟩;have rls:=NK (w:=W1) hs;rw[hz1]at rls;obtain⟨⟨⟨T,N,R⟩,k,ok⟩,hall⟩:=af (bU s);rw[hall]at hok1 hok2 rls⊢;simp only at rls hok1 hok2⊢;subst hok1;have HM:Hid (aJ (T:Int) (N:Int) R=false):=hok2;clear hx0 hx1 hz1 hB1 hW1 hp hall hok2 hs;rw[HW.out.2]
 go_enter Tryz.func8,Tryz.ntmps8
 go_upto_region 1 with fail
 rw[HW.out.1];rw[HW.out.2];clear HW
 go_wp2_with
  (first
   |(go_at_call 17;refine rls.mono ?_;rintro e w2 ⟨rv,RL,rfl,h2,h3,h4⟩
     obtain⟨ra,rc,aI⟩:=uH h2.own;subst aI;have hR2:=h2.rules;rw[h3]at hR2;have F5:=hR2.boxed (.cells #[.int .i64 (T:Int),.int .i64 (N:Int),.slice ra RL.length rc] 27);have may:=oD (T:=(T:Int)) (N:=(N:Int)) F5;have H2:Hid (GR w2 (p+2) T N (.slice ra RL.length rc) RL/\RL.map (λx=>x.2)=R/\Below (p+2) W1 w2):=⟨h2,h3,h4⟩;rw[HM.out]at may
     clear rls h2 h3 h4 hR2 F5)
   |(go_at_call 18;refine may.mono ?_;rintro e w4 ⟨rfl,h4⟩
     obtain⟨W3,hW3⟩:=af (w2.alloc (.cells #[.int .i64 (T:Int),.int .i64 (N:Int),.slice ra RL.length rc] 27));have hx3:=heap_alloc_new w2 (.cells #[.int .i64 (T:Int),.int .i64 (N:Int),.slice ra RL.length rc] 27);rw[hW3]at hx3 h4;have hB3:Below w2.heap.size w2 W3:=by rw[<-hW3];exact(ai _ _).alloc (ah _) _
     have hy:=(h4.block _ (dx.1 hx3).1).trans hx3;have hB4:Below w2.heap.size w2 w4:=hB3.trans (h4.mono hB3.size);have hsz2:p+2<=w2.heap.size:=by have:=H2.out.2.2.size;have:=H1.out.2.2.1;omega
     have y0:=(hB4.block p (by omega)).trans ((H2.out.2.2.block p (by omega)).trans H1.out.1);have y1:=(hB4.block (p+1) (by omega)).trans ((H2.out.2.2.block (p+1) (by omega)).trans H1.out.2.1)
     have H4:Hid (GR w4 (p+2) T N (.slice ra RL.length rc) RL/\w4.heap[p]?=some (.cells #[.int .i64 0,.int .i64 0,.slice none 0 0] 27 (0,0))/\w4.heap[p+1]?=some (.cells #[.int .i64 0,.int .i64 0] 35 (0,0))/\Below p w w4):=
      ⟨H2.out.1.later hB4,y0,y1,H1.out.2.2.2.trans ((H2.out.2.2.mono (by omega)).trans (hB4.mono (by omega)))⟩
     have u0:=ay (i:=0) hy rfl;have u1:=ay (i:=1) hy rfl;have u2:=ay (i:=2) hy rfl;have c0:=ay (i:=0) y0 rfl;have c1:=ay (i:=1) y0 rfl;have c2:=ay (i:=2) y0 rfl;have f0:=bO (i:=0) y0;have f1:=bO (i:=1) y0;have f2:=bO (i:=2) y0;have d0:=ay (i:=0) y1 rfl;have d1:=ay (i:=1) y1 rfl;have g0:=bO (i:=0) y1;have g1:=bO (i:=1) y1
     clear may h4 hx3 hB3 hy hB4 hsz2 y0 y1 hW3))
 obtain⟨u,W5,jX,q0,q1,hu1,hu2,aD⟩:=NS (A0:= .int .i64 0) (A1:= .int .i64 0) (A2:= .slice none 0 0) (B0:= .int .i64 2) (B1:= .int .i64 (k:Int)) H4.out.2.1 H4.out.2.2.1;rw[jX];have x0:=ay (i:=0) q0 rfl;have x1:=ay (i:=1) q0 rfl;have x2:=ay (i:=2) q0 rfl;have x3:=ay (i:=0) q1 rfl;have x4:=ay (i:=1) q1 rfl;exact aH (v:= .tuple #[.agg #[.int .i64 0,.int .i64 0,.slice none 0 0],.agg #[.int .i64 2,.int .i64 (k:Int)]]) (by simp[results,Tryz.results8,go_sem,x0,x1,x2,x3,x4]) rfl ⟨rfl,H4.out.2.2.2.trans aD⟩
theorem Tn{s:List UInt8}(hs:s.length<=9223372036854775807)(hok1:(bU s).2.2=false):Calls Tryz.prog 8 #[.string ⟨s.toArray⟩] w λe w'=>e= .returned (.tuple #[.agg #[.int .i64 0,.int .i64 0,.slice none 0 0],.agg #[.int .i64 2,.int .i64 ((bU s).2.1:Nat)]])/\Below w.heap.size w w':=by
 obtain⟨p,hp⟩:=af w.heap.size;obtain⟨W1,hW1⟩:=af ((w.alloc (.cells #[.int .i64 0,.int .i64 0,.slice none 0 0] 27)).alloc (.cells #[.int .i64 0,.int .i64 0] 35))
 have hx0:W1.heap[p]?=some (.cells #[.int .i64 0,.int .i64 0,.slice none 0 0] 27 (0,0)):=by
  rw[<-hW1,<-hp];exact(sJ _ _ _ (by simp)).trans (heap_alloc_new w _)
 have hx1:W1.heap[p+1]?=some (.cells #[.int .i64 0,.int .i64 0] 35 (0,0)):=by
  have:=heap_alloc_new (w.alloc (.cells #[.int .i64 0,.int .i64 0,.slice none 0 0] 27)) (.cells #[.int .i64 0,.int .i64 0] 35);rw[hW1]at this;simpa [hp] using this
 have hz1:W1.heap.size=p+2:=by rw[<-hW1];simp[hp]
 have hB1:Below p w W1:=by rw[<-hW1,<-hp];exact((ai _ _).alloc (ah _) _).alloc (by simp) _
 have H1:Hid (W1.heap[p]?=some (.cells #[.int .i64 0,.int .i64 0,.slice none 0 0] 27 (0,0))/\W1.heap[p+1]?=some (.cells #[.int .i64 0,.int .i64 0] 35 (0,0))/\W1.heap.size=p+2/\Below p w W1):=⟨hx0,hx1,hz1,hB1⟩;have HW:Hid ((w.alloc (.cells #[.int .i64 0,.int .i64 0,.slice none 0 0] 27)).alloc (.cells #[.int .i64 0,.int .i64 0] 35)=W1/\w.heap.size=p):=⟨hW1,hp⟩;have rls:=NK (w:=W1) hs;rw[hz1]at rls;obtain⟨⟨⟨T,N,R⟩,k,ok⟩,hall⟩:=af (bU s);rw[hall]at hok1 rls⊢;simp only at rls hok1⊢;subst hok1;clear hx0 hx1 hz1 hB1 hW1 hp hall hs;rw[HW.out.2]
 go_enter Tryz.func8,Tryz.ntmps8
 go_upto_region 1 with fail
 rw[HW.out.1];rw[HW.out.2];clear HW
 go_upto_region 3 with
  (go_at_call 17;refine rls.mono ?_;rintro e w2 ⟨rv,RL,rfl,h2,h3,h4⟩
   obtain⟨ra,rc,aI⟩:=uH h2.own;subst aI;have hsz2:p+2<=w2.heap.size:=by have:=h4.size;have:=H1.out.2.2.1;omega
   have y0:=(sJ w2 (.cells #[.int .i64 (T:Int),.int .i64 (N:Int),.slice ra RL.length rc] 27) p (by omega)).trans ((h4.block p (by omega)).trans H1.out.1);have y1:=(sJ w2 (.cells #[.int .i64 (T:Int),.int .i64 (N:Int),.slice ra RL.length rc] 27) (p+1) (by omega)).trans ((h4.block (p+1) (by omega)).trans H1.out.2.1);have hB4:Below p w (w2.alloc (.cells #[.int .i64 (T:Int),.int .i64 (N:Int),.slice ra RL.length rc] 27)):=(H1.out.2.2.2.trans (h4.mono (by omega))).alloc (by omega) _;obtain⟨W3,hW3⟩:=af (w2.alloc (.cells #[.int .i64 (T:Int),.int .i64 (N:Int),.slice ra RL.length rc] 27));have HW3:Hid (w2.alloc (.cells #[.int .i64 (T:Int),.int .i64 (N:Int),.slice ra RL.length rc] 27)=W3):=hW3;rw[hW3]at y0 y1 hB4;have H4:Hid (W3.heap[p]?=some (.cells #[.int .i64 0,.int .i64 0,.slice none 0 0] 27 (0,0))/\W3.heap[p+1]?=some (.cells #[.int .i64 0,.int .i64 0] 35 (0,0))/\Below p w W3):=⟨y0,y1,hB4⟩
   clear rls h2 h3 h4 hsz2 y0 y1 hB4 hW3)
 rw[HW3.out];have c0:=ay (i:=0) H4.out.1 rfl;have c1:=ay (i:=1) H4.out.1 rfl;have c2:=ay (i:=2) H4.out.1 rfl;have f0:=bO (i:=0) H4.out.1;have f1:=bO (i:=1) H4.out.1;have f2:=bO (i:=2) H4.out.1;have d0:=ay (i:=0) H4.out.2.1 rfl;have d1:=ay (i:=1) H4.out.2.1 rfl;have g0:=bO (i:=0) H4.out.2.1;have g1:=bO (i:=1) H4.out.2.1
 go_wp2_with fail
 obtain⟨u,W5,jX,q0,q1,hu1,hu2,aD⟩:=NS (A0:= .int .i64 0) (A1:= .int .i64 0) (A2:= .slice none 0 0) (B0:= .int .i64 2) (B1:= .int .i64 (k:Int)) H4.out.1 H4.out.2.1;rw[jX];have x0:=ay (i:=0) q0 rfl;have x1:=ay (i:=1) q0 rfl;have x2:=ay (i:=2) q0 rfl;have x3:=ay (i:=0) q1 rfl;have x4:=ay (i:=1) q1 rfl;exact aH (v:= .tuple #[.agg #[.int .i64 0,.int .i64 0,.slice none 0 0],.agg #[.int .i64 2,.int .i64 (k:Int)]]) (by simp[results,Tryz.results8,go_sem,x0,x1,x2,x3,x4]) rfl ⟨rfl,H4.out.2.2.trans aD⟩
end
end Go.Proofs.YthbifaoaiggooaaGreatDoor
