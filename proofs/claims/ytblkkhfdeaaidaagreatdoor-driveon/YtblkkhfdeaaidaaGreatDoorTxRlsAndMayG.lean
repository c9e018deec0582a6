import Derived.Test.YtblkkhfdeaaidaaGreatDoorHeldAnyAndTxLn
import Derived.Test.YtblkkhfdeaaidaaGreatDoorMathAndTxSc
import Derived.Laws.Concat
import Derived.Laws.IdiomStrings
import Derived.Lib.ItoaLen
import Derived.Lib.AtoiAllCases
import Derived.Test.YtblkkhfdeaaidaaGreatDoorRows
import Derived.WalkKit
import Derived.WalkSpells
import Derived.Deep.Cut
import Derived.Deep.CutRange
set_option maxHeartbeats 3200000
set_option maxRecDepth 100000
namespace Go.Proofs.YtblkkhfdeaaidaaGreatDoor
open Go.RowKit
def qV:Nat->List UInt8->Nat->Nat->Nat->List Ru->(Nat×Nat×List Ru)×Nat×Bool
 |0,_,k,T,N,R=>((T,N,R),k,true)
 |f+1,s,k,T,N,R=>if s.isEmpty=true then ((T,N,R),k,true) else match wE s with
  |none=>((T,N,R),k,false)
  |some (a,r)=>if k=0 then (if Fq a=true then qV f r 1 (kW a) (hdN a) R else ((kW a,hdN a,R),0,false))
   else if yB a=true then qV f r (k+1) T N (lZ a R) else ((T,N,R),k,false)
def bJ(s:List UInt8):(Nat×Nat×List Ru)×Nat×Bool:=qV (s.length+1) s 0 0 0 []
def zU:Value->Nat
 | .string b=>b.size
 |_=>0
section
variable{w w':World}{gb:Nat}{T N:Int}{rv:Value}{RL:List (Value×Ru)}
theorem GR.self(h:GR w gb T N rv RL):GR (((w.setCell ⟨gb,0,none⟩ (.int .i64 T)).setCell ⟨gb,1,none⟩ (.int .i64 N)).setCell ⟨gb,2,none⟩ rv) gb T N rv RL:=
 h.head (((But.set _ _ _).trans (But.set _ _ _)).trans (But.set _ _ _)) (Lib.heap_setCell_same (i:=2) (Lib.heap_setCell_same (i:=1) (Lib.heap_setCell_same (i:=0) h.at_ _) _) _)
theorem GR.FC(h:GR w gb T N rv RL):Below gb w (((w.setCell ⟨gb,0,none⟩ (.int .i64 T)).setCell ⟨gb,1,none⟩ (.int .i64 N)).setCell ⟨gb,2,none⟩ rv):=
 (((But.set _ _ _).trans (But.set _ _ _)).trans (But.set _ _ _)).below (Nat.le_refl _) (Nat.le_of_lt h.lt)
theorem Xx(l:List UInt8)(R:List Ru)(h:R.length<=41):(lZ l R).length<=41:=by
 unfold lZ;split
 ·rename_i hc;simp;omega
 ·exact h
theorem JI{s0:List UInt8}(hs:s0.length<=9223372036854775807):Calls Tryz.prog 48 #[.string ⟨s0.toArray⟩] w fun e w'=> ∃rv RL,e= .returned (.tuple #[.agg #[.int .i64 ((bJ s0).1.1:Nat),.int .i64 ((bJ s0).1.2.1:Nat),rv],.int .i64 ((bJ s0).2.1:Nat),.bool (bJ s0).2.2])/\GR w' w.heap.size ((bJ s0).1.1:Nat) ((bJ s0).1.2.1:Nat) rv RL/\RL.map (fun x=>x.2)=(bJ s0).1.2.2/\Below w.heap.size w w':=by
 obtain⟨gb,hgb⟩:∃x,w.heap.size=x:=⟨_,rfl⟩;obtain⟨W1,hW1⟩:∃V,w.alloc (.cells #[.int .i64 0,.int .i64 0,.slice none 0 0] 26)=V:=⟨_,rfl⟩;have hx:=heap_alloc_new w (.cells #[.int .i64 0,.int .i64 0,.slice none 0 0] 26);rw[hW1,hgb]at hx;have H1:Hid (GR W1 gb ((0:Nat):Int) ((0:Nat):Int) (.slice none 0 0) []/\Below gb w W1):=⟨⟨hx,World.ownsRow_nil ..,fun x hx=>by cases hx⟩,by rw[<-hW1,<-hgb];exact(Below.refl _ _).alloc (Nat.le_refl _) _⟩;have HA:Hid (qV (s0.length+1) s0 0 0 0 []=bJ s0):=rfl;have HS:Hid (s0.length<=9223372036854775807):=hs;clear hx hs;rw[hgb]
 go_enter Tryz.func48,Tryz.ntmps48
 go_wp2_with fail
 go_loopw [0,3] (fun v0 v3 wr=> ∃(s:List UInt8) (k T N f:Nat) (rv:Value) (RL:List (Value×Ru)),v0= .string ⟨s.toArray⟩/\v3= .int .i64 k/\k+s.length<=s0.length/\s.length<f/\RL.length<=41/\GR wr gb T N rv RL/\Below gb w wr/\qV f s k T N (RL.map fun x=>x.2)=bJ s0) (fun v _ _=>zU v)
 case atStart=>exact⟨s0,0,0,0,s0.length+1,_,[],rfl,rfl,by omega,by omega,by simp,H1.out.1,H1.out.2,HA.out⟩
 case round=>
  obtain⟨s,k,T,N,f,rv,RL,rfl,rfl,hk,hf,hRl,hG,hB,hE⟩:=hrel;obtain⟨f',hf'⟩:∃f',f=f'+1:=⟨f-1,by omega⟩;subst hf';rw[qV]at hE;obtain⟨ra,rc,aG⟩:=qm hG.own;subst aG;have fG:Hid (GR wr gb T N (.slice ra RL.length rc) RL/\Below gb w wr):=⟨hG,hB⟩;cases e0:s.isEmpty with
  |true=>
   rw[e0,if_pos rfl]at hE;have HE:Hid (bJ s0=((T,N,RL.map fun x=>x.2),k,true)):=hE.symm;have c0:=ai (i:=0) (fG.out.1.at_) rfl;have c1:=ai (i:=1) (fG.out.1.at_) rfl;have c2:=ai (i:=2) (fG.out.1.at_) rfl;have f0:=bD (i:=0) (fG.out.1.at_);have f1:=bD (i:=1) (fG.out.1.at_);have f2:=bD (i:=2) (fG.out.1.at_);clear hE hG hB hf hk
   go_wp2_with fail
   have hz:=fG.out.1.self;have x0:=ai (i:=0) hz.at_ rfl;have x1:=ai (i:=1) hz.at_ rfl;have x2:=ai (i:=2) hz.at_ rfl;refine bodyPost_ret (v:= .tuple #[.agg #[.int .i64 (T:Nat),.int .i64 (N:Nat),.slice ra RL.length rc],.int .i64 (k:Nat),.bool true]) (by simp[results,Tryz.results48,go_sem,x0,x1,x2]) rfl ⟨.slice ra RL.length rc,RL,by rw[HE.out],by rw[HE.out];exact hz,by rw[HE.out],fG.out.2.trans fG.out.1.FC⟩
  |false=>
   rw[e0,if_neg (by simp)]at hE;cases hc:wE s with
   |none=>
    rw[hc]at hE;have HE:Hid (bJ s0=((T,N,RL.map fun x=>x.2),k,false)):=hE.symm;have ct:=Xv hc wr;have c0:=ai (i:=0) (fG.out.1.at_) rfl;have c1:=ai (i:=1) (fG.out.1.at_) rfl;have c2:=ai (i:=2) (fG.out.1.at_) rfl;have f0:=bD (i:=0) (fG.out.1.at_);have f1:=bD (i:=1) (fG.out.1.at_);have f2:=bD (i:=2) (fG.out.1.at_);clear hE hG hB hf hk hc
    go_wp2_with
     (go_at_call 5;refine ct.mono ?_;rintro e w2 ⟨rfl,h2⟩;obtain rfl:wr=w2:=h2.symm;clear ct)
    have hz:=fG.out.1.self;have x0:=ai (i:=0) hz.at_ rfl;have x1:=ai (i:=1) hz.at_ rfl;have x2:=ai (i:=2) hz.at_ rfl;refine bodyPost_ret (v:= .tuple #[.agg #[.int .i64 (T:Nat),.int .i64 (N:Nat),.slice ra RL.length rc],.int .i64 (k:Nat),.bool false]) (by simp[results,Tryz.results48,go_sem,x0,x1,x2]) rfl ⟨.slice ra RL.length rc,RL,by rw[HE.out],by rw[HE.out];exact hz,by rw[HE.out],fG.out.2.trans fG.out.1.FC⟩
   |some ar=>
    obtain⟨a,r⟩:=ar;rw[hc]at hE;simp only at hE;have hlen:=(Oz hc).2;have hll:s.length=a.length+1+r.length:=by rw[hlen];simp;omega
    have ct:=Xw hc (by have:=HS.out;omega) wr;have zV:Hid (r.length<f'/\k+1+r.length<=s0.length/\r.length<s.length):=⟨by omega,by omega,by omega⟩;have HK:Hid (k<9223372036854775807):=by have:=HS.out;show k<_;omega
    clear hG hB hf hk hlen hll hc;by_cases hk0:k=0
    ·subst hk0
     rw[if_pos rfl]at hE;cases hok:Fq a with
     |true=>
      rw[hok,if_pos rfl]at hE;have HE:Hid (qV f' r 1 (kW a) (hdN a) (RL.map fun x=>x.2)=bJ s0):=hE;clear hE
      go_wp2_with
      (first
       |(go_at_call 5;refine ct.mono ?_;rintro e w2 ⟨rfl,h2⟩
         have HG2:Hid (GR w2 gb T N (.slice ra RL.length rc) RL/\Below gb w w2):=⟨fG.out.1.later h2,fG.out.2.trans (h2.mono (Nat.le_of_lt fG.out.1.lt))⟩;have rl:=Ou HG2.out.1 a;rw[hok]at rl
         clear ct h2)
       |(go_at_call 71;refine rl.mono ?_;rintro e w3 ⟨rfl,h2,h3⟩
         have fH:Hid (GR w3 gb (kW a) (hdN a) (.slice ra RL.length rc) RL/\Below gb w w3):=⟨h2,HG2.out.2.trans h3⟩
         clear rl h2 h3))
      go_roundw
      case rel=>exact⟨r,1,kW a,hdN a,f',_,RL,rfl,by go_num,by have:=zV.out.2.1;omega,zV.out.1,hRl,fH.out.1,fH.out.2,HE.out⟩
      case measure=>simpa [zU,ByteArray.size] using zV.out.2.2
     |false=>
      rw[hok,if_neg (by simp)]at hE;have HE:Hid (bJ s0=((kW a,hdN a,RL.map fun x=>x.2),0,false)):=hE.symm;clear hE
      go_wp2_with
      (first
       |(go_at_call 5;refine ct.mono ?_;rintro e w2 ⟨rfl,h2⟩
         have HG2:Hid (GR w2 gb T N (.slice ra RL.length rc) RL/\Below gb w w2):=⟨fG.out.1.later h2,fG.out.2.trans (h2.mono (Nat.le_of_lt fG.out.1.lt))⟩;have rl:=Ou HG2.out.1 a;rw[hok]at rl
         clear ct h2)
       |(go_at_call 71;refine rl.mono ?_;rintro e w3 ⟨rfl,h2,h3⟩
         have fH:Hid (GR w3 gb (kW a) (hdN a) (.slice ra RL.length rc) RL/\Below gb w w3):=⟨h2,HG2.out.2.trans h3⟩;have c0:=ai (i:=0) (fH.out.1.at_) rfl;have c1:=ai (i:=1) (fH.out.1.at_) rfl;have c2:=ai (i:=2) (fH.out.1.at_) rfl;have f0:=bD (i:=0) (fH.out.1.at_);have f1:=bD (i:=1) (fH.out.1.at_);have f2:=bD (i:=2) (fH.out.1.at_)
         clear rl h2 h3))
      have hz:=fH.out.1.self;have x0:=ai (i:=0) hz.at_ rfl;have x1:=ai (i:=1) hz.at_ rfl;have x2:=ai (i:=2) hz.at_ rfl;refine bodyPost_ret (v:= .tuple #[.agg #[.int .i64 (kW a:Nat),.int .i64 (hdN a:Nat),.slice ra RL.length rc],.int .i64 (0:Nat),.bool false]) (by simp[results,Tryz.results48,go_sem,x0,x1,x2]) rfl ⟨.slice ra RL.length rc,RL,by rw[HE.out],by rw[HE.out];exact hz,by rw[HE.out],fH.out.2.trans fH.out.1.FC⟩
    ·rw[if_neg hk0]at hE
     cases hok:yB a with
     |true=>
      rw[hok,if_pos rfl]at hE;have HE:Hid (qV f' r (k+1) T N (lZ a (RL.map fun x=>x.2))=bJ s0):=hE;have Fx:=HK.out;clear hE
      go_wp2_with
      (first
       |(go_at_call 5;refine ct.mono ?_;rintro e w2 ⟨rfl,h2⟩
         have HG2:Hid (GR w2 gb T N (.slice ra RL.length rc) RL/\Below gb w w2):=⟨fG.out.1.later h2,fG.out.2.trans (h2.mono (Nat.le_of_lt fG.out.1.lt))⟩;have rl:=Ov HG2.out.1 hRl hk0 a;rw[hok]at rl
         clear ct h2)
       |(go_at_call 71;refine rl.mono ?_;rintro e w3 ⟨rfl,⟨JJ,sV,h2,h4⟩,h3⟩
         have fH:Hid ((GR w3 gb T N JJ sV/\Below gb w w3)/\sV.map (fun x=>x.2)=lZ a (RL.map fun x=>x.2)):=⟨⟨h2,HG2.out.2.trans h3⟩,h4⟩
         clear rl h2 h3 h4))
      go_roundw
      case rel=>
       refine⟨r,k+1,T,N,f',JJ,sV,rfl,by go_num,by have:=zV.out.2.1;omega,zV.out.1,?_,fH.out.1.1,fH.out.1.2,?_⟩
       ·have h1:=congrArg List.length fH.out.2
        rw[List.length_map]at h1;rw[h1];exact Xx _ _ (by simpa using hRl)
       ·rw[fH.out.2]
        exact HE.out
      case measure=>simpa [zU,ByteArray.size] using zV.out.2.2
     |false=>
      rw[hok,if_neg (by simp)]at hE;have HE:Hid (bJ s0=((T,N,RL.map fun x=>x.2),k,false)):=hE.symm;have Xy:Hid (lZ a (RL.map fun x=>x.2)=RL.map fun x=>x.2):=by show _=_;simp[lZ,hok]
      clear hE
      go_wp2_with
      (first
       |(go_at_call 5;refine ct.mono ?_;rintro e w2 ⟨rfl,h2⟩
         have HG2:Hid (GR w2 gb T N (.slice ra RL.length rc) RL/\Below gb w w2):=⟨fG.out.1.later h2,fG.out.2.trans (h2.mono (Nat.le_of_lt fG.out.1.lt))⟩;have rl:=Ov HG2.out.1 hRl hk0 a;rw[hok]at rl
         clear ct h2)
       |(go_at_call 71;refine rl.mono ?_;rintro e w3 ⟨rfl,⟨JJ,sV,h2,h4⟩,h3⟩
         obtain⟨a3,d3,Xz⟩:=qm h2.own;subst Xz;have fH:Hid (GR w3 gb T N (.slice a3 sV.length d3) sV/\Below gb w w3):=⟨h2,HG2.out.2.trans h3⟩;have l5:Hid (sV.map (fun x=>x.2)=lZ a (RL.map fun x=>x.2)):=h4;have c0:=ai (i:=0) (fH.out.1.at_) rfl;have c1:=ai (i:=1) (fH.out.1.at_) rfl;have c2:=ai (i:=2) (fH.out.1.at_) rfl;have f0:=bD (i:=0) (fH.out.1.at_);have f1:=bD (i:=1) (fH.out.1.at_);have f2:=bD (i:=2) (fH.out.1.at_)
         clear rl h2 h3 h4))
      have hz:=fH.out.1.self;have x0:=ai (i:=0) hz.at_ rfl;have x1:=ai (i:=1) hz.at_ rfl;have x2:=ai (i:=2) hz.at_ rfl;refine bodyPost_ret (v:= .tuple #[.agg #[.int .i64 (T:Nat),.int .i64 (N:Nat),.slice a3 sV.length d3],.int .i64 (k:Nat),.bool false]) (by simp[results,Tryz.results48,go_sem,x0,x1,x2]) rfl ⟨.slice a3 sV.length d3,sV,by rw[HE.out],by rw[HE.out];exact hz,by rw[l5.out,Xy.out,HE.out],fH.out.2.trans fH.out.1.FC⟩
end
def jh(D:List Int):List UInt8:=Lib.join (D.map Lib.itoa) [32]
def dI(u:List UInt8)(D:List Int):List UInt8:=(u++[32])++jh D
def fQ(x:Int):Prop:= -9223372036854775807<=x/\x<=9223372036854775807
theorem wF{D:List Int}(hb:∀x∈D,fQ x):(jh D).length<=22*D.length:=by
 unfold jh;cases D with
 |nil=>simp[Lib.join_nil]
 |cons x r=>
  rw[List.map_cons,Lib.join_length]
  have key:∀l:List Int,(∀x∈l,fQ x)->Lib.lens (l.map Lib.itoa)<=21*l.length:=by
   intro l
   induction l with
   |nil=>intro _;simp[Lib.lens]
   |cons y r ih=>
    intro h;have h1:=Lib.itoa_length_le y (by have:=(h y (by simp)).1;omega) (h y (by simp)).2;have h2:=ih fun z hz=>h z (by simp[hz]);simp only[Lib.lens,List.map_cons,List.sum_cons,List.length_cons]at h2⊢;omega
  have:=key (x::r) hb;rw[List.map_cons]at this;simp only[List.length_cons,List.length_nil,List.length_map]at this⊢;omega
theorem yF{P:Program}(a b:List UInt8)(h:a.length+b.length<=9223372036854775807)(w:World):(Op.stringOp .add ⟨a.toArray⟩ ⟨b.toArray⟩).run P w= .ok (.string ⟨(a++b).toArray⟩) w:=by
 refine(run_string_add_sum (P:=P) (w:=w) _ _ ?_).trans ?_
 ·simp[ByteArray.size];omega
 ·rw[ByteArray.mk_append_mk]
theorem Tryz.infoStrD:(Tryz.prog.info? 9).map (fun i=>(i.zero,i.size,i.bytes))=some (some (.string ⟨#[]⟩),1,16):=by kernel_rfl
theorem XA(n:Nat)(hn:n<=1000000)(u:World):(Instr.makeSlice 96 (.int .i64 n) (.int .i64 n)).run Tryz.prog u= .ok (.slice (some ⟨u.heap.size,0,none⟩) n n) (u.alloc (.cells (madeCells #[.string ⟨#[]⟩] n) 9)):=by
 obtain⟨i0,hi,hz0,hz1,hz2⟩:=info_parts Tryz.infoStrD;have h:=run_make (P:=Tryz.prog) u 96 9 i0 (.string ⟨#[]⟩) Tryz.underlying96 hi hz0 .i64 .i64 n n (by omega) (Int.le_refl _) (by rw[hz2];omega) (by omega);simpa [hz1,Value.cells] using h
theorem XB{dv:Value}{w w':World}{B k:Nat}{D:List Int}(h:aP w B dv D)(hb:Below B w w')(hk:k<D.length):∃b o dc,dv= .slice (some ⟨b,o,none⟩) D.length dc/\w'.cell? ⟨b,o+k,none⟩=some (.int .i64 (D.getD k 0)):=by
 obtain⟨b,o,dc,h1,h2,h3⟩:=h.2 k hk;exact⟨b,o,dc,h1,(hb.cell h2).trans h3⟩
section
variable{w:World}{G:Nat}{D:List Int}
theorem Cm{dv:Value}(hE:cB G w)(hG:G<=w.heap.size)(hd:aP w w.heap.size dv D)(hl:D.length<=1000)(hb:∀x∈D,fQ x):Calls Tryz.prog 29 #[dv] w fun e w'=>e= .returned (.string ⟨(jh D).toArray⟩)/\Below w.heap.size w w':=by
 obtain⟨g,hg⟩:∃x,w.heap.size=x:=⟨_,rfl⟩;obtain⟨da,dc,hdv⟩:=hd.1;subst hdv;obtain⟨n,hn⟩:∃n,D.length=n:=⟨_,rfl⟩;have HD:Hid (aP w w.heap.size (.slice da D.length dc) D/\D.length=n/\(∀x∈D,fQ x)/\cB G w/\G<=g/\w.heap.size=g):=⟨hd,hn,hb,hE,by omega,hg⟩;rw[hn]at hl⊢;rw[hg];clear hd hb hE hG hg hn
 go_enter Tryz.func29,Tryz.ntmps29
 have mk:=XA n (by omega) w;rw[HD.out.2.2.2.2.2]at mk;obtain⟨W1,hW1⟩:∃V,w.alloc (.cells (madeCells #[.string ⟨#[]⟩] n) 9)=V:=⟨_,rfl⟩;have hx1:=heap_alloc_new w (.cells (madeCells #[.string ⟨#[]⟩] n) 9);rw[hW1]at mk hx1;rw[HD.out.2.2.2.2.2]at hx1;have hB1:Below g w W1:=by rw[<-hW1,<-HD.out.2.2.2.2.2];exact(Below.refl _ _).alloc (Nat.le_refl _) _
 have H1:Hid (W1.heap[g]?=some (.cells (madeCells #[.string ⟨#[]⟩] n) 9 (0,0))/\Below g w W1):=⟨hx1,hB1⟩;clear hW1 hx1 hB1
 go_wp2_with fail
 go_loopw [11] (fun v11 wr=> ∃(i:Nat) (cs:Array Value),v11= .int .i64 i/\i<=n/\wr.heap[g]?=some (.cells cs 9 (0,0))/\cs.size=n/\(∀j,j<i->cs[j]?=some (.string ⟨(Lib.itoa (D.getD j 0)).toArray⟩))/\Below g w wr) (fun v _=>n-(intOf v).toNat)
 case atStart=>exact⟨0,_,rfl,Nat.zero_le _,H1.out.1,size_madeCells _ _,fun j hj=>by omega,H1.out.2⟩
 case round=>
  obtain⟨i,cs,rfl,hi,hx,hz,hcs,hB⟩:=hrel;by_cases hlt:i<n
  ·have d1:decide ((i:Int)<(n:Int))=true:=decide_eq_true (by omega)
   obtain⟨hL,hn,hb,hE,hG,hg⟩:=HD.out;obtain⟨b,o,c,h1,h2⟩:=XB hL (by rw[hg];exact hB) (show i<D.length by omega);obtain⟨rfl,-⟩:da=some ⟨b,o,none⟩/\True:=⟨by injection h1,trivial⟩;obtain⟨x,hx2⟩:∃x,D.getD i 0=x:=⟨_,rfl⟩;rw[hx2]at h2;have hbx:fQ x:=hb x (by rw[<-hx2];simp[List.getD,show i<D.length by omega]);have it:=NN x (by have:=hbx.1;omega) hbx.2 wr (hE.below hB (by omega)).at.tab;have HX:Hid (D.getD i 0=x/\wr.heap[g]?=some (.cells cs 9 (0,0))/\cs.size=n/\(∀j,j<i->cs[j]?=some (.string ⟨(Lib.itoa (D.getD j 0)).toArray⟩))/\Below g w wr):=⟨hx2,hx,hz,hcs,hB⟩;clear hL hn hb hE hG hg h1 hx2 hbx hx hz hcs hB
   go_wp2_with
    (go_at_call 55;refine it.mono ?_;rintro e w3 ⟨rfl,h3⟩
     have hl3:=(Array.getElem?_eq_some_iff.1 HX.out.2.1).1;have hx3:=(h3.block g hl3).trans HX.out.2.1;have c3:=ai (i:=i) hx3 (u:=cs[i]'(by have:=HX.out.2.2.1;omega)) (by simp);have f3:=bD (i:=i) hx3;have H3:Hid (w3.heap[g]?=some (.cells cs 9 (0,0))/\Below wr.heap.size wr w3):=⟨hx3,h3⟩
     clear it h3 hl3 hx3)
   go_roundw
   case rel=>
    refine⟨i+1,cs.setIfInBounds i (.string ⟨(Lib.itoa x).toArray⟩),by go_num,by omega,Lib.heap_setCell_same H3.out.1 _,by rw[Array.size_setIfInBounds];exact HX.out.2.2.1,fun j hj=> ?_,?_⟩
    ·by_cases hji:j=i
     ·subst hji
      rw[Array.getElem?_setIfInBounds,if_pos rfl,if_pos (by have:=HX.out.2.2.1;omega),HX.out.1]
     ·rw[Array.getElem?_setIfInBounds,if_neg (by omega)]
      exact HX.out.2.2.2.1 j (by omega)
    ·have hl3:=(Array.getElem?_eq_some_iff.1 HX.out.2.1).1
     exact(HX.out.2.2.2.2.trans (H3.out.2.mono (by omega))).setCell (Nat.le_refl _) _
   case measure=>simp[intOf];omega
  ·have d1:decide ((i:Int)<(n:Int))=false:=decide_eq_false (by omega)
   obtain⟨hL,hn,hb,hE,hG,hg⟩:=HD.out;have JK:=(Array.getElem?_eq_some_iff.1 hx).1
   have jn:=WU g n (D.map Lib.itoa) wr (fun j y hy=>by
    rw[List.getElem?_map,Option.map_eq_some_iff]at hy;obtain⟨z,hz2,rfl⟩:=hy;have hj:j<D.length:=(List.getElem?_eq_some_iff.1 hz2).1;refine ai hx ?_;rw[hcs j (by omega)]
    simp[List.getD,hz2]) JK (by simp;omega) (by simp;omega) (by have:=wF hb;unfold jh at this;omega)
   rw[List.length_map,hn]at jn;have HB:Hid (Below g w wr/\g<wr.heap.size):=⟨hB,JK⟩;clear hL hn hb hE hG hg JK hx hz hcs hB
   go_wp2_with
    (go_at_call 56;refine jn.mono ?_;rintro e w3 ⟨rfl,h3⟩
     have H3:Hid (Below wr.heap.size wr w3):=h3
     clear jn h3)
   go_ret;exact⟨rfl,HB.out.1.trans (H3.out.mono (by have:=HB.out.2;omega))⟩
theorem OC{dv:Value}{u:List UInt8}(hu:u.length<=1000)(hE:cB G w)(hG:G<=w.heap.size)(hd:aP w w.heap.size dv D)(hl:D.length<=1000)(hb:∀x∈D,fQ x):Calls Tryz.prog 24 #[.string ⟨u.toArray⟩,dv] w fun e w'=>e= .returned (.string ⟨(dI u D).toArray⟩)/\Below w.heap.size w w':=by
 have dg:=Cm hE hG hd hl hb;have hlen:=wF hb;have HT:Hid (dI u D=(u++[32])++jh D):=rfl;obtain⟨z,hz⟩:∃z,jh D=z:=⟨_,rfl⟩;rw[hz]at dg hlen HT;obtain⟨da,dc,hdv⟩:=hd.1;subst hdv;have add1:=yF (P:=Tryz.prog) u [32] (by simp;omega);obtain⟨y,hy⟩:∃y,u++[32]=y:=⟨_,rfl⟩;rw[hy]at add1 HT;have hyl:y.length<=1001:=by rw[<-hy];simp;omega
 have add2:=yF (P:=Tryz.prog) y z (by omega);clear hE hG hd hb hz hlen hy hyl
 go_enter Tryz.func24,Tryz.ntmps24
 go_wp2_with
  (go_at_call 29;refine dg.mono ?_;rintro e w2 ⟨rfl,h2⟩
   have H2:Hid (Below w.heap.size w w2):=h2
   clear dg h2)
 go_ret;exact⟨by rw[HT.out];rfl,H2.out⟩
end
def kH(s:List UInt8):Int:=match Lib.atoiAll s with
 | .ok v=>v
 |_=>0
def kX(s:List UInt8):Bool:=match Lib.atoiAll s with
 | .ok v=>decide (0<=v)&&decide (v<=999999)&&Lib.itoa v==s
 |_=>false
def qo(A:List Int)(x:Int):List Int:=if A.length<=30 then A++[x] else A
def uJ:Nat->List UInt8->List Int->Option (List Int)
 |0,_,_=>none
 |f+1,s,A=>match gG 32 s with
  |none=>if kX s=true then some (qo A (kH s)) else none
  |some (a,r)=>if kX a=true then uJ f r (qo A (kH a)) else none
def kY(l:List UInt8):Option (List UInt8×List Int):=match gG 32 l with
 |none=>some (l,[])
 |some (u,r)=>(uJ (r.length+1) r []).map fun A=>(u,A)
section
variable{w:World}{G:Nat}{s:List UInt8}
theorem XC(hs:s.length<=281474976710656)(hE:cB G w)(hG:G<=w.heap.size):Calls Tryz.prog 65 #[.string ⟨s.toArray⟩] w fun e w'=> ∃n,e= .returned (.tuple #[.int .i64 n,.bool (kX s)])/\(kX s=true->n=kH s)/\Below w.heap.size w w':=by
 by_cases hok:∃v,Lib.atoiAll s= .ok v
 ·obtain⟨v,hv⟩:=hok
  have kI:=WR s hs v hv w;obtain⟨b0,b1⟩:=Lib.atoiAll_bounds hv
  have hR:kX s=(decide (0<=v)&&decide (v<=999999)&&Lib.itoa v==s)/\kH s=v:=by
   unfold kX kH;rw[hv];exact⟨rfl,rfl⟩
  clear hv hs;by_cases h0:0<=v
  ·by_cases h9:v<=999999
   ·have d0:decide (0<=v)=true:=decide_eq_true h0
    have d9:decide (v<=999999)=true:=decide_eq_true h9;rw[d0,d9]at hR;have HE:Hid (cB G w/\G<=w.heap.size):=⟨hE,hG⟩;obtain⟨z,hz⟩:∃z,Lib.itoa v=z:=⟨_,rfl⟩
    have HI:Hid (∀wq,Below w.heap.size w wq->Calls Tryz.prog 55 #[.int .i64 v] wq fun e w'=>e= .returned (.string ⟨z.toArray⟩)/\Below wq.heap.size wq w'):=fun wq hq=>by
     have:=NN v b0 b1 wq (HE.out.1.below hq HE.out.2).at.tab;rw[hz]at this;exact this
    rw[hz]at hR;have HR:Hid (kX s=(z==s)/\kH s=v):=⟨by rw[hR.1];rfl,hR.2⟩;clear hE hG hz hR;have h0':(0:Int)<=v:=h0;cases hc:z==s with
    |true=>
     rw[hc]at HR
     go_enter Tryz.func65,Tryz.ntmps65
     go_wp2_with
      (first
       |(go_at_call 87;refine kI.mono ?_;rintro e w2 ⟨rfl,h2⟩
         have it:=HI.out w2 h2;have H2:Hid (Below w.heap.size w w2):=h2
         clear kI h2)
       |(go_at_call 55;refine it.mono ?_;rintro e w3 ⟨rfl,h3⟩
         have H3:Hid (Below w.heap.size w w3):=H2.out.trans (h3.mono H2.out.size)
         clear it h3))
     refine bodyPost_ret (v:= .tuple #[.int .i64 v,.bool true]) (by simp[results,Tryz.results65,go_sem]) rfl ⟨v,by rw[HR.out.1],fun _=>HR.out.2.symm,H3.out⟩
    |false=>
     rw[hc]at HR
     go_enter Tryz.func65,Tryz.ntmps65
     go_wp2_with
      (first
       |(go_at_call 87;refine kI.mono ?_;rintro e w2 ⟨rfl,h2⟩
         have it:=HI.out w2 h2;have H2:Hid (Below w.heap.size w w2):=h2
         clear kI h2)
       |(go_at_call 55;refine it.mono ?_;rintro e w3 ⟨rfl,h3⟩
         have H3:Hid (Below w.heap.size w w3):=H2.out.trans (h3.mono H2.out.size)
         clear it h3))
     refine bodyPost_ret (v:= .tuple #[.int .i64 v,.bool false]) (by simp[results,Tryz.results65,go_sem]) rfl ⟨v,by rw[HR.out.1],fun h=>(by rw[HR.out.1]at h;cases h),H3.out⟩
   ·have d9:decide (v<=999999)=false:=decide_eq_false h9
    have d0:decide (0<=v)=true:=decide_eq_true h0;rw[d9]at hR;have HR:Hid (kX s=false):=by show _=_;rw[hR.1];simp
    clear hE hG hR
    go_enter Tryz.func65,Tryz.ntmps65
    go_wp2_with
     (go_at_call 87;refine kI.mono ?_;rintro e w2 ⟨rfl,h2⟩
      have H2:Hid (Below w.heap.size w w2):=h2
      clear kI h2)
    refine bodyPost_ret (v:= .tuple #[.int .i64 v,.bool false]) (by simp[results,Tryz.results65,go_sem]) rfl ⟨v,by rw[HR.out],fun h=>(by rw[HR.out]at h;cases h),H2.out⟩
  ·have d0:decide (0<=v)=false:=decide_eq_false h0
   rw[d0]at hR;have HR:Hid (kX s=false):=by show _=_;rw[hR.1];simp
   clear hE hG hR
   go_enter Tryz.func65,Tryz.ntmps65
   go_wp2_with
    (go_at_call 87;refine kI.mono ?_;rintro e w2 ⟨rfl,h2⟩
     have H2:Hid (Below w.heap.size w w2):=h2
     clear kI h2)
   refine bodyPost_ret (v:= .tuple #[.int .i64 v,.bool false]) (by simp[results,Tryz.results65,go_sem]) rfl ⟨v,by rw[HR.out],fun h=>(by rw[HR.out]at h;cases h),H2.out⟩
 ·have kI:=WS s hs (fun v h=>hok ⟨v,h⟩) w hE.at
  have HR:Hid (kX s=false):=by
   show _=_;unfold kX;split
   ·rename_i v hv
    exact absurd ⟨v,hv⟩ hok
   ·rfl
  clear hok hE hG hs
  go_enter Tryz.func65,Tryz.ntmps65
  go_wp2_with
   (go_at_call 87;refine kI.mono ?_;rintro e w2 ⟨n,t,a,rfl,h2⟩
    have H2:Hid (Below w.heap.size w w2):=h2
    clear kI h2)
  refine bodyPost_ret (v:= .tuple #[.int .i64 n,.bool false]) (by simp[results,Tryz.results65,go_sem]) rfl ⟨n,by rw[HR.out],fun h=>(by rw[HR.out]at h;cases h),H2.out⟩
theorem Tryz.infoIntD:(Tryz.prog.info? 3).map (fun i=>(i.zero,i.size,i.bytes))=some (some (.int .i64 0),1,8):=by kernel_rfl
theorem OD{base n:Nat}{v:Value}{X:List Int}(h:w.ownsRow base 3 1 v n (X.map (Value.int .i64))):aP w w.heap.size v X:=by
 have hl:X.length=n:=by simpa using h.1
 obtain⟨a,c,hv⟩:=bK h;refine⟨⟨a,c,by rw[hv,hl]⟩,fun i hi=> ?_⟩;obtain⟨g,cap,rfl,_,_⟩:=h.form (by omega);refine⟨g,0,cap,by rw[hl],(h.lt g rfl).2,?_⟩;rw[Nat.zero_add,h.cellAt i (by omega)];simp[List.getD,hi]
theorem JL{c:UInt8}{a r:List UInt8}(h:gG c s=some (a,r)):a.length+r.length+1=s.length:=by
 have:=congrArg List.length (JH h).2;simp at this;omega
def kZ(c:UInt8)(s:List UInt8):List UInt8×List UInt8×Bool:=match gG c s with
 |none=>(s,[],false)
 |some (a,r)=>(a,r,true)
theorem JM{c:UInt8}(hs:s.length<=9223372036854775807)(w:World):Calls Tryz.prog 5 #[.string ⟨s.toArray⟩,.string ⟨#[c]⟩] w fun e w'=>e= .returned (.tuple #[.string ⟨(kZ c s).1.toArray⟩,.string ⟨(kZ c s).2.1.toArray⟩,.bool (kZ c s).2.2])/\Below w.heap.size w w':=by
 unfold kZ;cases h:gG c s with
 |none=>exact(OA h w).mono fun e w' ⟨h1,h2⟩=>⟨h1,by rw[h2];exact Below.refl _ _⟩
 |some p=>obtain⟨a,r⟩:=p;exact OB h hs w
theorem XD(hs:s.length<=281474976710656)(hE:cB G w)(hG:G<=w.heap.size):Calls Tryz.prog 34 #[.string ⟨s.toArray⟩] w fun e w'=>
 (∃u A lv,kY s=some (u,A)/\e= .returned (.tuple #[.string ⟨u.toArray⟩,lv,.bool true])/\w'.ownsRow w.heap.size 3 1 lv A.length (A.map (Value.int .i64))/\Below w.heap.size w w')\/
 (kY s=none/\e= .returned (.tuple #[.string ⟨#[]⟩,.slice none 0 0,.bool false])/\Below w.heap.size w w'):=by
 have ct:=JM (c:=32) (s:=s) (by omega) w;obtain⟨⟨u,r0,m0⟩,hcut⟩:∃x,kZ 32 s=x:=⟨_,rfl⟩;rw[hcut]at ct;simp only at ct;have HE:Hid (cB G w/\G<=w.heap.size):=⟨hE,hG⟩
 have HR:Hid ((m0=true/\r0.length<=281474976710656/\(uJ (r0.length+1) r0 []).map (fun A=>(u,A))=kY s)\/(m0=false/\some (u,[])=kY s)):=by
  show _\/_;unfold kZ at hcut;unfold kY;cases h:gG 32 s with
  |none=>
   rw[h]at hcut;simp only[Prod.mk.injEq]at hcut;obtain⟨rfl,_,rfl⟩:=hcut;exact .inr ⟨rfl,rfl⟩
  |some p=>
   obtain⟨a,r⟩:=p;rw[h]at hcut;simp only[Prod.mk.injEq]at hcut;obtain⟨rfl,rfl,rfl⟩:=hcut;have:=JL h;exact .inl ⟨rfl,by omega,rfl⟩
 clear hcut hE hG hs
 go_enter Tryz.func34,Tryz.ntmps34
 go_wp2_with
  (go_at_call 5;refine ct.mono ?_;rintro e w2 ⟨rfl,h2⟩
   have H2:Hid (Below w.heap.size w w2):=h2
   clear ct h2)
 go_loopw [2,3,5,6] (fun v2 v3 v5 v6 wr=>v2= .string ⟨u.toArray⟩/\∃(lv:Value) (r:List UInt8) (m:Bool) (A:List Int),lv=v3/\v5= .string ⟨r.toArray⟩/\v6= .bool m/\A.length<=31/\wr.ownsRow w.heap.size 3 1 lv A.length (A.map (Value.int .i64))/\Below w.heap.size w wr/\
  ((m=true/\r.length<=281474976710656/\∃f,r.length<f/\(uJ f r A).map (fun A=>(u,A))=kY s)\/(m=false/\some (u,A)=kY s))) (fun _ _ v5 v6 _=>match v6 with
  | .bool true=>zU v5+1
  |_=>0)
 case atStart=>
  refine⟨rfl,_,r0,m0,[],rfl,rfl,rfl,by simp,World.ownsRow_nil ..,H2.out,?_⟩;rcases HR.out with⟨h1,h3,h4⟩|⟨h1,h3⟩
  ·exact .inl ⟨h1,h3,_,Nat.lt_succ_self _,h4⟩
  ·exact .inr ⟨h1,h3⟩
 case round=>
  obtain⟨rfl,lv,r,m,A,rfl,rfl,rfl,hA,hO,hB,hm⟩:=hrel;rcases hm with⟨rfl,hr,f,hf,hE⟩|⟨rfl,hE⟩
  ·have ct:=JM (c:=32) (s:=r) (by omega) wr
   obtain⟨⟨a,r2,m2⟩,hcut⟩:∃x,kZ 32 r=x:=⟨_,rfl⟩;rw[hcut]at ct;simp only at ct;obtain⟨f',rfl⟩:∃f',f=f'+1:=⟨f-1,by omega⟩
   have hal:a.length<=r.length/\(m2=true->r2.length<r.length)/\((uJ (f'+1) r A).map (fun A=>(u,A))=if kX a=true then (if m2=true then (uJ f' r2 (qo A (kH a))).map (fun A=>(u,A)) else some (u,qo A (kH a))) else none):=by
    unfold kZ at hcut;rw[uJ];cases h:gG 32 r with
    |none=>
     rw[h]at hcut;simp only[Prod.mk.injEq]at hcut;obtain⟨rfl,_,rfl⟩:=hcut;refine⟨Nat.le_refl _,(by simp),?_⟩;simp only;cases kX r<;>simp
    |some p=>
     obtain⟨x,y⟩:=p;rw[h]at hcut;simp only[Prod.mk.injEq]at hcut;obtain⟨rfl,rfl,rfl⟩:=hcut;have:=JL h;refine⟨by omega,fun _=>by omega,?_⟩;simp only;cases kX x<;>simp
   rw[hal.2.2]at hE
   have HN:Hid (∀wq,Below w.heap.size w wq->Calls Tryz.prog 65 #[.string ⟨a.toArray⟩] wq fun e w'=> ∃n,e= .returned (.tuple #[.int .i64 n,.bool (kX a)])/\(kX a=true->n=kH a)/\Below wq.heap.size wq w'):=fun wq hq=>
    XC (by omega) (HE.out.1.below hq HE.out.2) (Nat.le_trans HE.out.2 hq.size)
   obtain⟨la,lc,hlv⟩:=bK hO;subst hlv;have HO:Hid (wr.ownsRow w.heap.size 3 1 (.slice la A.length lc) A.length (A.map (Value.int .i64))/\Below w.heap.size w wr):=⟨hO,hB⟩;have HL:Hid (r.length<=281474976710656/\r.length<f'+1/\(m2=true->r2.length<r.length)):=⟨hr,hf,hal.2.1⟩;clear hcut hal hO hB hr hf;cases hok:kX a with
   |false=>
    rw[hok]at hE HN;simp only[Bool.false_eq_true,if_false]at hE;have HZ:Hid (kY s=none):=hE.symm;clear hE hok
    go_wp2_with
     (first
      |(go_at_call 5;refine ct.mono ?_;rintro e w3 ⟨rfl,h3⟩
        have rn:=HN.out w3 (HO.out.2.trans (h3.mono HO.out.2.size));have H3:Hid (Below w.heap.size w w3):=HO.out.2.trans (h3.mono HO.out.2.size)
        clear ct h3)
      |(go_at_call 65;refine rn.mono ?_;rintro e w4 ⟨n,rfl,-,h4⟩
        have H4:Hid (Below w.heap.size w w4):=H3.out.trans (h4.mono H3.out.size)
        clear rn h4))
    refine bodyPost_ret (v:= .tuple #[.string ⟨#[]⟩,.slice none 0 0,.bool false]) (by simp[results,Tryz.results34,go_sem]) rfl (.inr ⟨HZ.out,rfl,H4.out⟩)
   |true=>
    rw[hok]at hE HN;simp only[if_true]at hE;by_cases OE:A.length<=30
    ·have d1:decide ((A.length:Int)<=30)=true:=decide_eq_true (by omega)
     have HP:Hid (qo A (kH a)=A++[kH a]):=by show _=_;unfold qo;rw[if_pos OE]
     obtain⟨i5,hi5,oL,oM,qQ⟩:=info_parts Tryz.infoIntD;have m1:A.length+1<=maxLen:=by unfold maxLen;omega
     have OG:(A.length+1)*8<=140737488355328:=by omega
     have HZ:Hid ((if m2=true then (uJ f' r2 (qo A (kH a))).map (fun A=>(u,A)) else some (u,qo A (kH a)))=kY s):=hE;clear hE hok
     go_wp2_with
      (first
       |(go_at_call 5;refine ct.mono ?_;rintro e w3 ⟨rfl,h3⟩
         have rn:=HN.out w3 (HO.out.2.trans (h3.mono HO.out.2.size));have H3:Hid (Below wr.heap.size wr w3/\Below w.heap.size w w3):=⟨h3,HO.out.2.trans (h3.mono HO.out.2.size)⟩
         clear ct h3)
       |(go_at_call 65;refine rn.mono ?_;rintro e w4 ⟨n,rfl,hn,h4⟩
         have hb4:Below w.heap.size w (w4.alloc (.cells #[.int .i64 n] 3)):=(H3.out.2.trans (h4.mono H3.out.2.size)).alloc (Nat.le_trans H3.out.2.size h4.size) _;have dh:=(jg HO.out.1 fun g hg=>((h4.block g (Nat.lt_of_lt_of_le (HO.out.1.lt g hg).2 H3.out.1.size)).trans (H3.out.1.block g (HO.out.1.lt g hg).2))).alloc (.cells #[.int .i64 n] 3);have hb5:=hb4.size;have hnw:=World.news_of_block (cs:= #[.int .i64 n]) (t:=3) (fr:=(0,0)) (heap_alloc_new w4 (.cells #[.int .i64 n] 3));have OH:Hid (n=kH a/\Below w.heap.size w (w4.alloc (.cells #[.int .i64 n] 3))):=⟨by simpa using hn,hb4⟩
         clear rn h4 hn hb4)
       |(at_builtin
         refine wpList_append_lies _ rfl _ _ _ rfl w.heap.size 3 i5 _ 1 8 Tryz.underlying59 hi5 oL oM qQ rfl (by omega) (.slice la A.length lc) A.length (A.map (Value.int .i64)) rfl dh
          ⟨w4.heap.size,0,none⟩ 1 1 [.int .i64 n] rfl rfl hnw (by simp[Value.oneCell']) (by omega) m1 OG hb5 (w4.heap.size+1) (by simp) ?_
         intro g9 sS w9 nJ jR wD yE;have H9:Hid (w9.ownsRow w.heap.size 3 1 (.slice (some ⟨g9,0,none⟩) (A.length+1) sS) (A.length+1) (A.map (Value.int .i64)++[.int .i64 n])/\Below w.heap.size w w9):=⟨nJ,OH.out.2.grown jR hb5 fun k hk=>(dh.lt k hk).1⟩
         clear nJ jR wD yE dh hb5 hnw hi5 oL oM qQ m1 OG))
     go_roundw
     case rel=>
      refine⟨rfl,_,r2,m2,A++[kH a],rfl,rfl,rfl,by simp;omega,?_,H9.out.2,?_⟩
      ·have:=H9.out.1
       rw[OH.out.1]at this;simpa using this
      ·have hz:=HZ.out
       rw[HP.out]at hz;cases m2 with
       |true=>
        have h5:=HL.out.2.2 rfl;exact .inl ⟨rfl,by have:=HL.out.1;omega,f',by have:=HL.out.2.1;omega,hz⟩
       |false=>exact .inr ⟨rfl,hz⟩
     case measure=>
      cases m2 with
      |true=>
       have h5:=HL.out.2.2 rfl;simpa [zU,ByteArray.size] using h5
      |false=>simp
    ·have d1:decide ((A.length:Int)<=30)=false:=decide_eq_false (by omega)
     have HP:Hid (qo A (kH a)=A):=by show _=_;unfold qo;rw[if_neg OE]
     have HZ:Hid ((if m2=true then (uJ f' r2 (qo A (kH a))).map (fun A=>(u,A)) else some (u,qo A (kH a)))=kY s):=hE;clear hE hok
     go_wp2_with
      (first
       |(go_at_call 5;refine ct.mono ?_;rintro e w3 ⟨rfl,h3⟩
         have rn:=HN.out w3 (HO.out.2.trans (h3.mono HO.out.2.size));have H3:Hid (Below wr.heap.size wr w3/\Below w.heap.size w w3):=⟨h3,HO.out.2.trans (h3.mono HO.out.2.size)⟩
         clear ct h3)
       |(go_at_call 65;refine rn.mono ?_;rintro e w4 ⟨n,rfl,hn,h4⟩
         have H4:Hid (w4.ownsRow w.heap.size 3 1 (.slice la A.length lc) A.length (A.map (Value.int .i64))/\Below w.heap.size w w4):=⟨jg HO.out.1 fun g hg=>((h4.block g (Nat.lt_of_lt_of_le (HO.out.1.lt g hg).2 H3.out.1.size)).trans (H3.out.1.block g (HO.out.1.lt g hg).2)),H3.out.2.trans (h4.mono H3.out.2.size)⟩
         clear rn h4 hn))
     go_roundw
     case rel=>
      refine⟨rfl,_,r2,m2,A,rfl,rfl,rfl,hA,H4.out.1,H4.out.2,?_⟩;have hz:=HZ.out;rw[HP.out]at hz;cases m2 with
      |true=>
       have h5:=HL.out.2.2 rfl;exact .inl ⟨rfl,by have:=HL.out.1;omega,f',by have:=HL.out.2.1;omega,hz⟩
      |false=>exact .inr ⟨rfl,hz⟩
     case measure=>
      cases m2 with
      |true=>
       have h5:=HL.out.2.2 rfl;simpa [zU,ByteArray.size] using h5
      |false=>simp
  ·have HZ:Hid (kY s=some (u,A)):=hE.symm
   have HO:Hid (wr.ownsRow w.heap.size 3 1 lv A.length (A.map (Value.int .i64))/\Below w.heap.size w wr):=⟨hO,hB⟩;clear hE hO hB
   go_wp2_with fail
   refine bodyPost_ret (v:= .tuple #[.string ⟨u.toArray⟩,lv,.bool true]) (by simp[results,Tryz.results34,go_sem]) rfl (.inl ⟨u,A,lv,HZ.out,rfl,HO.out.1,HO.out.2⟩)
end
def lg(T N:Int)(s:Sy):Bool:=decide (0<=s.2/\s.2<if s.1 then T else N)
def ji(T N:Int)(r:Ru):Bool:=decide (0<=r.1/\r.1<N/\r.2.length<=8)&&r.2.all (lg T N)
def zW(T N:Int)(n:Nat):Bool:=decide (0<=T/\T<=8/\1<=N/\N<=12/\n<=40)
def aD(T N:Int)(R:List Ru):Bool:=zW T N R.length&&R.all (ji T N)
theorem OI{α:Type}(f:α->Bool)(l:List α)(d:α)(j:Nat)(h:j<l.length):(l.take (j+1)).all f=((l.take j).all f&&f (l.getD j d)):=by
 rw[List.take_succ_eq_append_getElem h,List.all_append];simp[List.getD,h]
theorem OJ{α:Type}(f:α->Bool)(l:List α)(j:Nat)(h:l.length<=j):(l.take j).all f=l.all f:=by
 rw[List.take_of_length_le h]
theorem OM{α:Type}(f:α->Bool)(l:List α)(d:α)(j:Nat)(h:j<l.length)(hf:f (l.getD j d)=false):l.all f=false:=by
 rw[List.all_eq_false];refine⟨l[j],List.getElem_mem h,?_⟩;simpa [List.getD,h] using hf
theorem XE{T N:Int}{R:List Ru}{j:Nat}(hj:j<R.length)(h:ji T N (R.getD j (0,[]))=false):R.all (ji T N)=false:=OM _ R (0,[]) j hj h
def wG(n e:Int):Bool:=decide (0<=n/\n<e)
theorem FD{w:World}{n e:Int}:
 Calls Tryz.prog 96 #[.int .i64 n,.int .i64 e] w fun r w'=>r= .returned (.bool (wG n e))/\w'=w:=by
 by_cases h1:0<=n
 ·by_cases h2:n<e
  ·have HD:Hid (wG n e=true):=decide_eq_true ⟨h1,h2⟩
   go_enter Tryz.func96,Tryz.ntmps96
   go_wp2_with fail
   go_ret;exact⟨by rw[HD.out];rfl,rfl⟩
  ·have HD:Hid (wG n e=false):=decide_eq_false (by omega)
   go_enter Tryz.func96,Tryz.ntmps96
   go_wp2_with fail
   go_ret;exact⟨by rw[HD.out];rfl,rfl⟩
 ·have HD:Hid (wG n e=false):=decide_eq_false (by omega)
  go_enter Tryz.func96,Tryz.ntmps96
  go_wp2_with fail
  go_ret;exact⟨by rw[HD.out];rfl,rfl⟩
theorem XF{w:World}{T N v:Int}{rv:Value}{t:Bool}{ra:Option Addr}{rl rc:Nat}(aG:rv= .slice ra rl rc):
 Calls Tryz.prog 97 #[.agg #[.int .i64 T,.int .i64 N,rv],.agg #[.bool t,.int .i64 v]] w fun r w'=>r= .returned (.bool (lg T N (t,v)))/\Below w.heap.size w w':=by
 subst aG;cases t with
 |true=>
  have HD:Hid (lg T N (true,v)=wG v T):=rfl
  go_enter Tryz.func97,Tryz.ntmps97
  go_wp2_with (go_at_call 96;refine FD.mono ?_;rintro e w2 ⟨rfl,rfl⟩)
  go_ret;exact⟨by rw[HD.out];rfl,((Below.refl _ _).alloc (Nat.le_refl _) _).alloc (by simp) _⟩
 |false=>
  have HD:Hid (lg T N (false,v)=wG v N):=rfl
  go_enter Tryz.func97,Tryz.ntmps97
  go_wp2_with (go_at_call 96;refine FD.mono ?_;rintro e w2 ⟨rfl,rfl⟩)
  go_ret;exact⟨by rw[HD.out];rfl,((Below.refl _ _).alloc (Nat.le_refl _) _).alloc (by simp) _⟩
theorem XG{w:World}{T N L:Int}{rv:Value}{qa ra:Option Addr}{qc rl rc:Nat}{Rt:List Sy}(aG:rv= .slice ra rl rc)(hR:fq w w.heap.size qa Rt):
 Calls Tryz.prog 72 #[.agg #[.int .i64 T,.int .i64 N,rv],.agg #[.int .i64 L,.slice qa Rt.length qc]] w fun r w'=>r= .returned (.bool (ji T N (L,Rt)))/\Below w.heap.size w w':=by
 subst aG;by_cases hh:0<=L/\L<N
 ·have e1:wG L N=true:=decide_eq_true hh
  have call:=FD (w:=(w.alloc (.cells #[.int .i64 T,.int .i64 N,.slice ra rl rc] 26)).alloc (.cells #[.int .i64 L,.slice qa Rt.length qc] 91)) (n:=L) (e:=N);rw[e1]at call;by_cases h8:Rt.length<=8
  ·have HD:Hid (ji T N (L,Rt)=Rt.all (lg T N)):=by show ji T N (L,Rt)=_;simp[ji,hh.1,hh.2,h8]
   have HR:Hid (fq w w.heap.size qa Rt):=hR;clear hR e1 hh
   go_enter Tryz.func72,Tryz.ntmps72
   go_wp2_with (go_at_call 96;refine call.mono ?_;rintro e w2 ⟨rfl,rfl⟩)
   go_loopw [22] (fun k wr=> ∃i:Nat,k= .int .i64 i/\i<=Rt.length/\(Rt.take i).all (lg T N)=true/\Below (w.heap.size+2) ((w.alloc (.cells #[.int .i64 T,.int .i64 N,.slice ra rl rc] 26)).alloc (.cells #[.int .i64 L,.slice qa Rt.length qc] 91)) wr) (fun k _=>Rt.length-(intOf k).toNat)
   case atStart=>exact⟨0,rfl,Nat.zero_le _,rfl,Below.refl _ _⟩
   case round=>
    obtain⟨i,rfl,hi,hall,hB⟩:=hrel;have HI:Hid ((Rt.take i).all (lg T N)=true):=hall;have HB2:Hid (Below (w.heap.size+2) ((w.alloc (.cells #[.int .i64 T,.int .i64 N,.slice ra rl rc] 26)).alloc (.cells #[.int .i64 L,.slice qa Rt.length qc] 91)) wr):=hB;have HB:Hid (Below w.heap.size w wr):=(((Below.refl _ _).alloc (Nat.le_refl _) _).alloc (by simp) _).trans (hB.mono (by omega));have hsz:w.heap.size+2<=wr.heap.size:=by have:=hB.size;simp at this;omega
    have b0:wr.cell? ⟨w.heap.size,0,none⟩=some (.int .i64 T):=(hB.cell (by simp)).trans (by simp[go_sem]);have b1:wr.cell? ⟨w.heap.size,1,none⟩=some (.int .i64 N):=(hB.cell (by simp)).trans (by simp[go_sem]);have b2:wr.cell? ⟨w.heap.size,2,none⟩=some (.slice ra rl rc):=(hB.cell (by simp)).trans (by simp[go_sem]);clear hall hB call;by_cases hi':i<Rt.length
    ·obtain⟨b',o',oO,hb',k3,k4⟩:=HR.out i hi'
     subst oO;obtain⟨⟨t,v⟩,hsy⟩:∃x,Rt.getD i (false,0)=x:=⟨_,rfl⟩;rw[hsy]at k3 k4;have Cn:wr.cell? ⟨b',o'+i*2,none⟩=some (.bool t):=(HB.out.cell (p:=⟨b',o'+i*2,none⟩) hb').trans k3;have zX:wr.cell? ⟨b',o'+i*2+1,none⟩=some (.int .i64 v):=by rw[Nat.add_assoc];exact(HB.out.cell (p:=⟨b',o'+(i*2+1),none⟩) hb').trans k4
     have HT:Hid ((Rt.take (i+1)).all (lg T N)=lg T N (t,v)):=by
      show (Rt.take (i+1)).all (lg T N)=_;rw[OI _ Rt (false,0) i hi',HI.out,hsy,Bool.true_and]
     have HF:Hid (lg T N (t,v)=false->Rt.all (lg T N)=false):=fun h=>OM _ Rt (false,0) i hi' (by rw[hsy];exact h);have n0:(wr.alloc (.cells #[.bool t,.int .i64 v] 116)).cell? ⟨w.heap.size,0,none⟩=some (.int .i64 T):=by rw[World.cell?_alloc_past _ _ _ (by omega)];exact b0
     have n1:(wr.alloc (.cells #[.bool t,.int .i64 v] 116)).cell? ⟨w.heap.size,1,none⟩=some (.int .i64 N):=by rw[World.cell?_alloc_past _ _ _ (by omega)];exact b1
     have n2:(wr.alloc (.cells #[.bool t,.int .i64 v] 116)).cell? ⟨w.heap.size,2,none⟩=some (.slice ra rl rc):=by rw[World.cell?_alloc_past _ _ _ (by omega)];exact b2
     have sym:=XF (w:=wr.alloc (.cells #[.bool t,.int .i64 v] 116)) (T:=T) (N:=N) (t:=t) (v:=v) (ra:=ra) (rl:=rl) (rc:=rc) rfl;clear k3 k4 hsy b0 b1 b2;cases hs:lg T N (t,v) with
     |true=>
      rw[hs]at sym HT;clear hs HF
      go_wp2_with (go_at_call 97;refine sym.mono ?_;rintro e w2 ⟨rfl,hB2⟩)
      go_roundw
      case rel=>exact⟨i+1,by go_num,by omega,HT.out,(HB2.out.alloc (by omega) _).trans (hB2.mono (by simp;omega))⟩
      case measure=>simp[intOf];omega
     |false=>
      rw[hs]at sym;have XH:Hid (Rt.all (lg T N)=false):=HF.out hs;clear hs HF HT
      go_wp2_with (go_at_call 97;refine sym.mono ?_;rintro e w2 ⟨rfl,hB2⟩)
      go_ret;exact⟨by rw[HD.out,XH.out];rfl,(HB.out.alloc (by omega) _).trans (hB2.mono (by simp;omega))⟩
    ·have HZ:Hid (Rt.all (lg T N)=true):=by
      show Rt.all (lg T N)=true;rw[<-OJ _ Rt i (by omega)];exact HI.out
     go_wp2_with fail
     go_ret;exact⟨by rw[HD.out,HZ.out];rfl,HB.out⟩
  ·have HD:Hid (ji T N (L,Rt)=false):=by show ji T N (L,Rt)=_;simp[ji,h8]
   clear hR e1 hh
   go_enter Tryz.func72,Tryz.ntmps72
   go_wp2_with (go_at_call 96;refine call.mono ?_;rintro e w2 ⟨rfl,rfl⟩)
   go_ret;exact⟨by rw[HD.out];rfl,((Below.refl _ _).alloc (Nat.le_refl _) _).alloc (by simp) _⟩
 ·have e1:wG L N=false:=decide_eq_false hh
  have HD:Hid (ji T N (L,Rt)=false):=by show ji T N (L,Rt)=_;simp[ji];omega
  have call:=FD (w:=(w.alloc (.cells #[.int .i64 T,.int .i64 N,.slice ra rl rc] 26)).alloc (.cells #[.int .i64 L,.slice qa Rt.length qc] 91)) (n:=L) (e:=N);rw[e1]at call;clear hR e1 hh
  go_enter Tryz.func72,Tryz.ntmps72
  go_wp2_with (go_at_call 96;refine call.mono ?_;rintro e w2 ⟨rfl,rfl⟩)
  go_ret;exact⟨by rw[HD.out];rfl,((Below.refl _ _).alloc (Nat.le_refl _) _).alloc (by simp) _⟩
theorem lm{w:World}{T N:Int}{rv:Value}{R:List Ru}(hr:au w w.heap.size rv R):
 Calls Tryz.prog 49 #[.agg #[.int .i64 T,.int .i64 N,rv]] w fun e w'=>e= .returned (.bool (aD T N R))/\Below w.heap.size w w':=by
 obtain⟨ra,rc,aG⟩:=hr.1;by_cases hh:zW T N R.length=true
 ·have hh':=hh
  simp only[zW,decide_eq_true_eq]at hh';obtain⟨h1,h2,h3,h4,h5⟩:=hh';have HR:Hid (au w w.heap.size rv R):=hr;have HM:Hid (aD T N R=R.all (ji T N)):=by show aD T N R=_;simp[aD,hh]
  clear hr hh;subst aG
  go_enter Tryz.func49,Tryz.ntmps49
  go_wp2_with fail
  go_loopw [28] (fun i wr=> ∃j:Nat,i= .int .i64 j/\j<=R.length/\(R.take j).all (ji T N)=true/\Below (w.heap.size+1) (w.alloc (.cells #[.int .i64 T,.int .i64 N,.slice ra R.length rc] 26)) wr)
   (fun i _=>R.length-(intOf i).toNat)
  case atStart=>exact⟨0,rfl,Nat.zero_le _,rfl,Below.refl _ _⟩
  case round=>
   obtain⟨j,rfl,hj,hall,hB⟩:=hrel;have HA:Hid ((R.take j).all (ji T N)=true):=hall;have b0:wr.cell? ⟨w.heap.size,0,none⟩=some (.int .i64 T):=(hB.cell (by simp)).trans (by simp[go_sem]);have b1:wr.cell? ⟨w.heap.size,1,none⟩=some (.int .i64 N):=(hB.cell (by simp)).trans (by simp[go_sem]);have b2:wr.cell? ⟨w.heap.size,2,none⟩=some (.slice ra R.length rc):=(hB.cell (by simp)).trans (by simp[go_sem]);have HB:Hid (Below w.heap.size w wr):=((Below.refl _ _).alloc (Nat.le_refl _) _).trans (hB.mono (by omega));have HB1:Hid (Below (w.heap.size+1) (w.alloc (.cells #[.int .i64 T,.int .i64 N,.slice ra R.length rc] 26)) wr):=hB;have hsz:=hB.size;simp only[World.size_alloc]at hsz;clear hall hB;by_cases hlt:j<R.length
   ·obtain⟨b,o,rc',qa,qc,hv,hb,k1,k2,_,k3⟩:=HR.out.2 j hlt
    cases hv;obtain⟨⟨L,Rt⟩,uK⟩:∃x,R.getD j (0,[])=x:=⟨_,rfl⟩;rw[uK]at k1 k2 k3;have k1':=(HB.out.cell (p:=⟨b,o+j*2,none⟩) hb).trans k1;have k2':wr.cell? ⟨b,o+j*2+1,none⟩=some (.slice qa Rt.length qc):=by rw[Nat.add_assoc];exact(HB.out.cell (p:=⟨b,o+(j*2+1),none⟩) hb).trans k2
    have HU:Hid (R.getD j (0,[])=(L,Rt)):=uK;have lq:fq w w.heap.size qa Rt:=k3;have n0:(wr.alloc (.cells #[.int .i64 L,.slice qa Rt.length qc] 91)).cell? ⟨w.heap.size,0,none⟩=some (.int .i64 T):=by rw[World.cell?_alloc_past _ _ _ (by omega)];exact b0
    have n1:(wr.alloc (.cells #[.int .i64 L,.slice qa Rt.length qc] 91)).cell? ⟨w.heap.size,1,none⟩=some (.int .i64 N):=by rw[World.cell?_alloc_past _ _ _ (by omega)];exact b1
    have n2:(wr.alloc (.cells #[.int .i64 L,.slice qa Rt.length qc] 91)).cell? ⟨w.heap.size,2,none⟩=some (.slice (some ⟨b,o,none⟩) R.length rc):=by rw[World.cell?_alloc_past _ _ _ (by omega)];exact b2
    have FE:=XG (w:=wr.alloc (.cells #[.int .i64 L,.slice qa Rt.length qc] 91)) (T:=T) (N:=N) (L:=L) (rv:= .slice (some ⟨b,o,none⟩) R.length rc) (qa:=qa) (qc:=qc) (Rt:=Rt) rfl
     ((lq.below (HB.out.alloc (by omega) _)).mono (by simp;omega))
    clear k1 k2 k3 uK b0 b1 b2 lq;cases hs:ji T N (L,Rt) with
    |true=>
     rw[hs]at FE
     have HJ:Hid ((R.take (j+1)).all (ji T N)=true):=by
      show (R.take (j+1)).all (ji T N)=true;rw[OI _ R (0,[]) j hlt,HA.out,HU.out,hs];rfl
     clear hs
     go_wp2_with (go_at_call 72;refine FE.mono ?_;rintro e w2 ⟨rfl,hB2⟩)
     go_roundw
     case rel=>exact⟨j+1,by go_num,by omega,HJ.out,(HB1.out.alloc (by omega) _).trans (hB2.mono (by simp;omega))⟩
     case measure=>simp[intOf];omega
    |false=>
     rw[hs]at FE;have HJ:Hid (R.all (ji T N)=false):=XE hlt (by rw[HU.out];exact hs);clear hs
     go_wp2_with (go_at_call 72;refine FE.mono ?_;rintro e w2 ⟨rfl,hB2⟩)
     go_ret;exact⟨by rw[HM.out,HJ.out];rfl,(HB.out.alloc (by omega) _).trans (hB2.mono (by simp;omega))⟩
   ·have HZ:Hid (aD T N R=true):=by
     show aD T N R=true;rw[HM.out,<-OJ _ R j (by omega)];exact HA.out
    go_wp2_with fail
    go_ret;exact⟨by rw[HZ.out];rfl,HB.out⟩
 ·have hm:aD T N R=false:=by simp[aD,hh]
  simp only[zW,decide_eq_true_eq]at hh;subst aG;clear hr;rw[hm];clear hm;by_cases h1:T<0
  ·go_enter Tryz.func49,Tryz.ntmps49
   go_wp2_with fail
   go_ret;exact⟨rfl,(Below.refl _ _).alloc (Nat.le_refl _) _⟩
  by_cases h2:8<T
  ·go_enter Tryz.func49,Tryz.ntmps49
   go_wp2_with fail
   go_ret;exact⟨rfl,(Below.refl _ _).alloc (Nat.le_refl _) _⟩
  by_cases h3:N<1
  ·go_enter Tryz.func49,Tryz.ntmps49
   go_wp2_with fail
   go_ret;exact⟨rfl,(Below.refl _ _).alloc (Nat.le_refl _) _⟩
  by_cases h4:12<N
  ·go_enter Tryz.func49,Tryz.ntmps49
   go_wp2_with fail
   go_ret;exact⟨rfl,(Below.refl _ _).alloc (Nat.le_refl _) _⟩
  have h5:40<R.length:=by omega
  go_enter Tryz.func49,Tryz.ntmps49
  go_wp2_with fail
  go_ret;exact⟨rfl,(Below.refl _ _).alloc (Nat.le_refl _) _⟩
end Go.Proofs.YtblkkhfdeaaidaaGreatDoor
