import Derived.Test.YtblkkhfdeaaidaaGreatDoorStCxAndLeft3
import Derived.Test.YtblkkhfdeaaidaaGreatDoorDrAsk2AndConcR
import Derived.Test.YtblkkhfdeaaidaaGreatDoorTxMathAndDerMath
import Derived.Test.YtblkkhfdeaaidaaGreatDoorConcYAndStOutP
import Derived.Test.YtblkkhfdeaaidaaGreatDoorTxPaAndLfp
import Derived.Test.YtblkkhfdeaaidaaGreatDoorTkTabAndGrow
set_option maxHeartbeats 6400000
set_option maxRecDepth 100000
namespace Go.Proofs.YtblkkhfdeaaidaaGreatDoor
theorem xZ{X:List Bool}{l:Nat}(hl:l<X.length){n:Int}:hasB (X.set l true) n↔n=(l:Int)\/hasB X n:=Dn hl
theorem Vy{N:Nat}{n:Int}(hn:hasB (List.replicate N false) n):False:=by
 have:=hn.2;by_cases h:n.toNat<N
 ·simp[List.getD,h]at this
 ·simp[List.getD,List.getElem?_eq_none (show (List.replicate N false).length<=n.toNat by simp;omega)]at this
section
variable{T N:Nat}{R:List Ru}(hf:bM T N R)
include hf
theorem IQ{i:Nat}(hi:i<R.length):∀s∈(R.getD i (0,[])).2,s.1=false->0<=s.2:=fun s hs h=>(hf.name _ (uD hi) s hs h).1
theorem M4:(qJ R N).length=N/\∀n,hasB (qJ R N) n↔gT N R n:=by
 have hm:=Vx hf
 have main:=mR (n:=N) (f:=fun _=>aK R.length (Ir R)) (x:=List.replicate N false)
  (fun k X=>X.length=N/\(∀n,hasB X n->gT N R n)/\∀n,Lv (zB R) k n->hasB X n)
  ⟨by simp,fun n hn=>(Vy hn).elim,fun n hn=>hn.elim⟩
  (fun k _ X ⟨h1,h2,h3⟩=>by
    have inner:=mR (n:=R.length) (f:=Ir R) (x:=X)
     (fun i Y=>Y.length=N/\(∀n,hasB Y n->gT N R n)/\(∀n,Lv (zB R) k n->hasB Y n)/\∀j,j<i->rW (Lv (zB R) k) (R.getD j (0,[])).2->hasB Y (R.getD j (0,[])).1)
     ⟨h1,h2,h3,fun j hj=>absurd hj (Nat.not_lt_zero _)⟩
     (fun i hi Y ⟨y1,y2,y3,y4⟩=>by
       have hL:=hf.left _ (uD hi);have hl:(R.getD i (0,[])).1.toNat<Y.length:=by omega
       have hcast:=rX hL.1;unfold Ir;cases hb:dK Y (R.getD i (0,[])).2 with
       |true=>
        simp only[if_true];have hall:=(xY (IQ hf hi)).1 hb;refine⟨by simp[y1],fun n hn=> ?_,fun n hn=>(xZ hl).2 (.inr (y3 n hn)),fun j hj ha=> ?_⟩
        ·rcases(xZ hl).1 hn with rfl|hn
         ·rw[hcast]
          exact lu hm _ ⟨_,uD hi,rfl,hall.mono y2⟩
         ·exact y2 n hn
        ·rcases Nat.lt_succ_iff_lt_or_eq.1 hj with hj|rfl
         ·exact(xZ hl).2 (.inr (y4 j hj ha))
         ·exact(xZ hl).2 (.inl hcast.symm)
       |false=>
        simp only[Bool.false_eq_true,if_false];refine⟨y1,y2,y3,fun j hj ha=> ?_⟩;rcases Nat.lt_succ_iff_lt_or_eq.1 hj with hj|rfl
        ·exact y4 j hj ha
        ·rw[(xY (IQ hf hi)).2 (ha.mono y3)]at hb;cases hb)
    obtain⟨z1,z2,_,z4⟩:=inner;refine⟨z1,z2,fun n hn=> ?_⟩;obtain⟨r,hr,rfl,ha⟩:=hn;obtain⟨j,hj,rfl⟩:=EM hr
    exact z4 j hj ha)
 obtain⟨m1,m2,m3⟩:=main;exact⟨m1,fun n=>⟨m2 n,fun hn=>m3 n hn⟩⟩
theorem Vz:(Iw R N).length=N/\∀n,hasB (Iw R N) n↔oI N R n:=by
 obtain⟨ml,mi⟩:=M4 hf;have hN:=hf.some;have hm:=MZ hf (gT N R)
 have h0:hasB ((List.replicate N false).set 0 ((qJ R N).getD 0 false)) 0↔gT N R 0:=by
  rw[<-mi 0];unfold hasB;have:0<N:=by omega
  simp[List.getD,this]
 have main:=mR (n:=N) (f:=fun _=>aK R.length (Iu R (qJ R N))) (x:=(List.replicate N false).set 0 ((qJ R N).getD 0 false))
  (fun k X=>X.length=N/\(∀n,hasB X n->oI N R n)/\(gT N R 0->hasB X 0)/\∀n,Lv (EL R (gT N R)) k n->hasB X n)
  ⟨by simp,fun n hn=>by
    by_cases h:n=0
    ·subst h;exact lu hm _ (.inl ⟨rfl,h0.1 hn⟩)
    ·refine(Vy (N:=N) (n:=n) ⟨hn.1,?_⟩).elim
     have hn2:=hn.2;have hne:0≠n.toNat:=by have:=hn.1;omega
     simpa [List.getD,List.getElem?_set_ne hne] using hn2,h0.2,fun n hn=>hn.elim⟩
  (fun k _ X ⟨h1,h2,hz,h3⟩=>by
    have inner:=mR (n:=R.length) (f:=Iu R (qJ R N)) (x:=X)
     (fun i Y=>Y.length=N/\(∀n,hasB Y n->oI N R n)/\(∀n,hasB X n->hasB Y n)/\∀j,j<i->rW (gT N R) (R.getD j (0,[])).2->hasB X (R.getD j (0,[])).1->∀n:Int,(false,n)∈(R.getD j (0,[])).2->hasB Y n)
     ⟨h1,h2,fun _ h=>h,fun j hj=>absurd hj (Nat.not_lt_zero _)⟩
     (fun i hi Y ⟨y1,y2,y3,y4⟩=>by
       have hr:=uD hi;have hL:=hf.left _ hr;have hcast:=rX hL.1;unfold Iu;cases hb:(Y.getD (R.getD i (0,[])).1.toNat false&&dK (qJ R N) (R.getD i (0,[])).2) with
       |true=>
        simp only[if_true];simp only[Bool.and_eq_true]at hb;have hc:oI N R (R.getD i (0,[])).1:=y2 _ ⟨hL.1,hb.1⟩;have hall:rW (gT N R) (R.getD i (0,[])).2:=((xY (IQ hf hi)).1 hb.2).mono fun n hn=>(mi n).1 hn
        have names:=mR (n:=(R.getD i (0,[])).2.length) (f:=MJ (R.getD i (0,[])).2) (x:=Y)
         (fun k Q=>Q.length=N/\(∀n,hasB Q n->oI N R n)/\(∀n,hasB Y n->hasB Q n)/\∀j,j<k->((R.getD i (0,[])).2.getD j (false,0)).1=false->hasB Q ((R.getD i (0,[])).2.getD j (false,0)).2)
         ⟨y1,y2,fun _ h=>h,fun j hj=>absurd hj (Nat.not_lt_zero _)⟩
         (fun k hk Q ⟨q1,q2,q3,q4⟩=>by
           have hmem:(R.getD i (0,[])).2.getD k (false,0)∈(R.getD i (0,[])).2:=by
            generalize (R.getD i (0,[])).2=l at hk;simp[List.getD,hk]
           unfold MJ;obtain⟨⟨x,v⟩,hx⟩:∃x,(R.getD i (0,[])).2.getD k (false,0)=x:=⟨_,rfl⟩;rw[hx]at hmem⊢;cases x with
           |true=>
            simp only[if_true];refine⟨q1,q2,q3,fun j hj EN=> ?_⟩;rcases Nat.lt_succ_iff_lt_or_eq.1 hj with hj|rfl
            ·exact q4 j hj EN
            ·rw[hx]at EN;cases EN
           |false=>
            simp only[Bool.false_eq_true,if_false];have hv:=hf.name _ hr _ hmem rfl;simp only at hv;have hl:v.toNat<Q.length:=by omega
            refine⟨by simp[q1],fun n hn=> ?_,fun n hn=>(xZ hl).2 (.inr (q3 n hn)),fun j hj EN=> ?_⟩
            ·rcases(xZ hl).1 hn with rfl|hn
             ·rw[rX hv.1]
              exact lu hm _ (.inr ⟨_,hr,hmem,hall,hc⟩)
             ·exact q2 n hn
            ·rcases Nat.lt_succ_iff_lt_or_eq.1 hj with hj|rfl
             ·exact(xZ hl).2 (.inr (q4 j hj EN))
             ·rw[hx];exact(xZ hl).2 (.inl (rX hv.1).symm))
        obtain⟨z1,z2,z3,z4⟩:=names;refine⟨z1,z2,fun n hn=>z3 n (y3 n hn),fun j hj ha hx n hmem=> ?_⟩;rcases Nat.lt_succ_iff_lt_or_eq.1 hj with hj|rfl
        ·exact z3 n (y4 j hj ha hx n hmem)
        ·obtain⟨q,hq,he⟩:=List.getElem_of_mem hmem
         have e:(R.getD j (0,[])).2.getD q (false,0)=(false,n):=by
          generalize (R.getD j (0,[])).2=l at hq he;simp[List.getD,hq,he]
         have:=z4 q hq (by rw[e])
         rwa [e]at this
       |false=>
        simp only[Bool.false_eq_true,if_false];refine⟨y1,y2,y3,fun j hj ha hx n hmem=> ?_⟩;rcases Nat.lt_succ_iff_lt_or_eq.1 hj with hj|rfl
        ·exact y4 j hj ha hx n hmem
        ·rw[(y3 _ hx).2,(xY (IQ hf hi)).2 (ha.mono fun n hn=>(mi n).2 hn)]at hb
         cases hb)
    obtain⟨z1,z2,z3,z4⟩:=inner;refine⟨z1,z2,fun h=>z3 0 (hz h),fun n hn=> ?_⟩;rcases hn with⟨rfl,hM⟩|⟨r,hr,hmem,ha,hc⟩
    ·exact z3 0 (hz hM)
    ·obtain⟨j,hj,rfl⟩:=EM hr
     exact z4 j hj ha (h3 _ hc) n hmem)
 obtain⟨m1,m2,_,m3⟩:=main;exact⟨m1,fun n=>⟨m2 n,fun hn=>m3 n hn⟩⟩
end
section
variable{T N:Nat}{R:List Ru}(hf:bM T N R)
include hf
end
section
variable{N:Nat}{R R':List Ru}{a:Nat}{l1 l2 l3:List Sy}
end
section
variable{R R':List Ru}{a:Nat}{l1 l3:List Sy}{X:Int}{sh ush rk:Nat->Nat}{isIn:Nat->Option Nat}{m:Nat->Nat}
end
section
variable{R R':List Ru}{M C:Int->Prop}{sh ush:Nat->Nat}
end
section
variable{N:Nat}{R R':List Ru}{A:Int}{own isA:Nat->Bool}{L:Nat}
end
section
variable{T N:Nat}{R:List Ru}{s:Stp}
theorem VA{f:Nat->List Ru}{h:Nat->Ru}(he:∀k,f k=[h k]):∀L:List Nat,L.flatMap f=L.map h
 | []=>rfl
 |k::L=>by rw[List.flatMap_cons,he,List.map_cons,VA he L];rfl
theorem M5{h:Nat->Ru}(he:∀k,BB N R s k=[h k]):gy N R s=(List.range R.length).map h++xX N R s:=by
 unfold gy;rw[VA he]
end
section
variable{N:Nat}{R R':List Ru}{A:Int}{own isA:Nat->Bool}
end
def aY(p:Nat->Bool)(n:Nat):List Nat:=(List.range n).filter p
theorem VB(p:Nat->Bool)(n:Nat):aY p (n+1)=aY p n++(if p n then [n] else []):=by
 unfold aY;rw[List.range_succ,List.filter_append]
 congr 1
 cases h:p n<;>simp[h]
theorem VD{f g:Nat->List Ru}:∀L:List Nat,(∀k∈L,f k=g k)->L.flatMap f=L.flatMap g
 | [],_=>rfl
 |k::L,h=>by rw[List.flatMap_cons,List.flatMap_cons,h k (List.mem_cons_self ..),VD L fun k hk=>h k (List.mem_cons_of_mem _ hk)]
section
variable{T N:Nat}{R:List Ru}
theorem VF(p:Nat->Bool)(f:Nat->Ru):∀L:List Nat,(L.flatMap fun k=>if p k then [f k] else [])=(L.filter p).map f
 | []=>rfl
 |k::L=>by
  rw[List.flatMap_cons,VF p f L,List.filter_cons];split<;>rfl
theorem ad4(X:Int):(R.filter fun x=>decide (x.1=X))=(aY (fun k=>decide ((R.getD k (0,[])).1=X)) R.length).map fun k=>R.getD k (0,[]):=by
 have hR:R=(List.range R.length).map fun k=>R.getD k (0,[]):=by
  refine List.ext_getElem? fun i=> ?_;by_cases hi:i<R.length
  ·rw[List.getElem?_map,List.getElem?_range hi]
   simp[List.getD,hi]
  ·rw[List.getElem?_eq_none (by omega),List.getElem?_eq_none (by rw[List.length_map,List.length_range];omega)]
 conv=>lhs;rw[hR]
 rw[List.filter_map];rfl
end
end Go.Proofs.YtblkkhfdeaaidaaGreatDoor
namespace Go.Proofs.YtblkkhfdeaaidaaGreatDoor
open Go.RowKit
theorem Tryz.infoIn8:(Tryz.prog.info? 3).map (fun i=>(i.zero,i.size,i.bytes))=some (some (.int .i64 0),1,8):=by kernel_rfl
def kE(IX:List Nat):List Value:=IX.map fun(n:Nat)=>Value.int .i64 (n:Int)
theorem IU(p:Nat->Bool)(n:Nat):(aY p n).length<=n:=by
 unfold aY;refine Nat.le_trans (List.length_filter_le _ _) ?_;simp
theorem VG{p:Nat->Bool}{n k:Nat}(h:k<(aY p n).length):(aY p n).getD k 0<n:=by
 have e:(aY p n).getD k 0=(aY p n)[k]:=by simp[List.getD,h]
 have hm:(aY p n)[k]∈aY p n:=List.getElem_mem h;rw[e];unfold aY at hm⊢;rw[List.mem_filter]at hm;exact List.mem_range.1 hm.1
theorem VH{w:World}{B:Nat}{v:Value}{IX:List Nat}(h:w.ownsRow B 3 1 v IX.length (kE IX)):aP w w.heap.size v (IX.map fun(n:Nat)=>(n:Int)):=by
 obtain⟨a,c,hv⟩:=bK h;refine⟨⟨a,c,by rw[List.length_map];exact hv⟩,fun p hp=> ?_⟩;have hp':p<IX.length:=by simpa using hp
 obtain⟨g,cap,hg,_,hlt⟩:=h.form (by omega);have h':=h;rw[hg]at h';refine⟨g,0,cap,by rw[List.length_map];exact hg,hlt,?_⟩;rw[Nat.zero_add,h'.cellAt p (by omega)];simp[kE,List.getD,hp']
theorem ad5{w:World}{ra:Option Addr}{rc:Nat}{R:List Ru}{m:Int}(hr:au w w.heap.size (.slice ra R.length rc) R)(hl:R.length<=1000):
 Calls Tryz.prog 172 #[.slice ra R.length rc,.int .i64 m] w fun e w'=> ∃ov,e= .returned ov/\w'.ownsRow w.heap.size 3 1 ov (aY (fun k=>decide ((R.getD k (0,[])).1=m)) R.length).length (kE (aY (fun k=>decide ((R.getD k (0,[])).1=m)) R.length))/\Below w.heap.size w w':=by
 obtain⟨p,hp⟩:∃p:Nat->Bool,(fun k=>decide ((R.getD k (0,[])).1=m))=p:=⟨_,rfl⟩;rw[hp];have HP:Hid (∀k,p k=decide ((R.getD k (0,[])).1=m)):=fun k=>by rw[<-hp]
 have HR:Hid (au w w.heap.size (.slice ra R.length rc) R):=hr;clear hr hp
 go_enter Tryz.func172,Tryz.ntmps172
 go_wp2_with fail
 go_loopw [5,10] (fun s5 s10 wr=> ∃(k:Nat) (ov:Value),ov=s5/\s10= .int .i64 k/\k<=R.length/\wr.ownsRow w.heap.size 3 1 ov (aY p k).length (kE (aY p k))/\Below w.heap.size w wr) (fun _ s _=>R.length-(intOf s).toNat)
 case atStart=>exact⟨0,_,rfl,rfl,Nat.zero_le _,World.ownsRow_nil w w.heap.size 3 1,Below.refl _ _⟩
 case round=>
  obtain⟨k,ov,rfl,rfl,hk,hO,hB⟩:=hrel;have HB:Hid (Below w.heap.size w wr):=hB;have HO:Hid (wr.ownsRow w.heap.size 3 1 ov (aY p k).length (kE (aY p k))):=hO;by_cases hlt:k<R.length
  ·obtain⟨b0,o0,qy,qa,qc,hv,_,k1,k2,_⟩:=(HR.out.below hB).jV hlt
   cases hv;have hpk:=HP.out k;have hsu:=VB p k;have hln:=IU p k;obtain⟨⟨L,l⟩,hx⟩:∃x,R.getD k (0,[])=x:=⟨_,rfl⟩;rw[hx]at k1 k2 hpk;simp only at k1 k2 hpk;obtain⟨n,hn⟩:∃n,l.length=n:=⟨_,rfl⟩;rw[hn]at k2;obtain⟨W1,hW1⟩:∃W,wr.alloc (.cells #[.int .i64 L,.slice qa n qc] 91)=W:=⟨_,rfl⟩;have hB1:Below wr.heap.size wr W1:=by rw[<-hW1];exact(Below.refl _ _).alloc (Nat.le_refl _) _
   have HB1:Hid (Below wr.heap.size wr W1):=hB1;have d0:W1.cell? ⟨wr.heap.size,0,none⟩=some (.int .i64 L):=by rw[<-hW1];exact aB (heap_alloc_new _ _) rfl
   have i0:(0:Int)<=(k:Int):=Int.natCast_nonneg _;have i1:(k:Int)<(R.length:Int):=by omega
   by_cases hm:L=m
   ·subst hm
    have e1:(L==L)=true:=by simp
    rw[hpk]at hsu;simp only[decide_true,if_true]at hsu;have dh:=(own_below hO hB1 fun g hg=>(hO.lt g hg).2).alloc (.cells #[.int .i64 k] 3);have iJ:=World.news_of_block (cs:= #[.int .i64 k]) (t:=3) (fr:=(0,0)) (heap_alloc_new W1 (.cells #[.int .i64 k] 3))
    have hb5:w.heap.size<=(W1.alloc (.cells #[.int .i64 k] 3)).heap.size:=by
     have:=hB.size;have:=hB1.size;simp;omega
    obtain⟨q,hq⟩:∃q,(aY p k).length=q:=⟨_,rfl⟩;rw[hq]at dh hln;have n1:q+1<=maxLen:=by unfold maxLen;omega
    have n2:(q+1)*8<=140737488355328:=by omega
    have HX:Hid (aY p (k+1)=aY p k++[k]/\(aY p k).length=q):=⟨hsu,hq⟩;obtain⟨rC,hi0,hz0,hz1,hz2⟩:=info_parts Tryz.infoIn8;clear hB hO hx hn hq hpk hsu hB1
    go_wp2_with
     (at_builtin
      refine wpList_append_lies _ rfl _ _ _ rfl w.heap.size 3 rC _ 1 8 Tryz.underlying59 hi0 hz0 hz1 hz2 rfl (by omega) ov q (kE (aY p k)) rfl dh ⟨W1.heap.size,0,none⟩ 1 1 [.int .i64 k] rfl rfl iJ (by simp[Value.oneCell']) (by omega) n1 n2 hb5 _ rfl ?_
      intro g6 cap6 w6 hown6 dO lI rq)
    go_roundw
    case rel=>
     refine⟨k+1,_,rfl,by go_num,by omega,?_,?_⟩
     ·rw[HX.out.1,List.length_append,HX.out.2]
      unfold kE at hown6⊢;rw[List.map_append];exact hown6
     ·have h4:Below w.heap.size w (W1.alloc (.cells #[.int .i64 k] 3)):=(HB.out.trans (HB1.out.mono HB.out.size)).alloc (Nat.le_trans HB.out.size HB1.out.size) _
      exact h4.grown dO hb5 fun j hj=>(dh.lt j hj).1
    case measure=>simp[intOf];omega
   ·have e1:(L==m)=false:=by simpa using hm
    have HN:Hid (aY p (k+1)=aY p k):=by
     show _=_;rw[hsu,hpk,decide_eq_false hm];simp
    clear hB hO hx hn hpk hsu hB1
    go_wp2_with fail
    go_roundw
    case rel=>exact⟨k+1,ov,rfl,by go_num,by omega,by rw[HN.out];exact own_below HO.out HB1.out fun g hg=>(HO.out.lt g hg).2,HB.out.trans (HB1.out.mono HB.out.size)⟩
    case measure=>simp[intOf];omega
  ·obtain rfl:k=R.length:=by omega
   clear hB hO
   go_wp2_with fail
   go_ret;exact⟨ov,rfl,HO.out,HB.out⟩
theorem ad6{w:World}{T N:Int}{ra:Option Addr}{rc:Nat}{R:List Ru}{op a b c:Int}(hr:au w w.heap.size (.slice ra R.length rc) R)(hs:¬(0<=a/\a<(R.length:Int)/\0<=b/\b<((R.getD a.toNat (0,[])).2.length:Int)/\c=0/\((R.getD a.toNat (0,[])).2.getD b.toNat (false,0)).1=false/\((R.getD a.toNat (0,[])).2.getD b.toNat (false,0)).2≠(R.getD a.toNat (0,[])).1)):
 Calls Tryz.prog 153 #[.agg #[.int .i64 T,.int .i64 N,.slice ra R.length rc,.int .i64 op,.int .i64 a,.int .i64 b,.int .i64 c]] w fun e w'=>e= .returned (.tuple #[.nilIface,.bool false])/\Below w.heap.size w w':=by
 have hK:=oH (T:=T) (N:=N) (op:=op) (a:=a) (b:=b) (c:=c) hr;obtain⟨W0,hW0⟩:∃W,w.alloc (.cells #[.int .i64 T,.int .i64 N,.slice ra R.length rc,.int .i64 op,.int .i64 a,.int .i64 b,.int .i64 c] 207)=W:=⟨_,rfl⟩;rw[hW0]at hK;have x2:=hK.x2;have x4:=hK.x4;have x5:=hK.x5;have x6:=hK.x6;have HB:Hid (Below w.heap.size w W0):=hK.below;have ia:=ul (w:=W0) (n:=a) (m:=(R.length:Int));cases hA:(decide (0<=a)&&decide (a<(R.length:Int))) with
 |false=>
  rw[hA]at ia;clear hK hr hs hA
  go_enter Tryz.func153,Tryz.ntmps153
  go_wp2_with (go_at_call 170;refine ia.mono ?_;rintro e w2 ⟨rfl,rfl⟩)
  refine bodyPost_ret (v:= .tuple #[.nilIface,.bool false]) (by simp[results,Tryz.results153,go_sem]) rfl ?_;exact⟨rfl,HB.out⟩
 |true=>
  rw[hA]at ia;simp only[Bool.and_eq_true,decide_eq_true_eq]at hA;by_cases hc:c=0
  ·have ec:(c==0)=true:=by simpa using hc
   obtain⟨ka,rfl⟩:∃ka:Nat,a=ka:=⟨a.toNat,by omega⟩;have hk:ka<R.length:=by omega
   obtain⟨b0,o0,qy,qa,qc,hv,_,k1,k2,hsy⟩:=hK.rules.jV hk;cases hv;rw[Int.toNat_natCast]at hs;obtain⟨⟨L,l⟩,hx⟩:∃x,R.getD ka (0,[])=x:=⟨_,rfl⟩;rw[hx]at k1 k2 hsy hs;simp only at k1 k2 hsy hs;obtain⟨W1,hW1⟩:∃W,W0.alloc (.cells #[.int .i64 L,.slice qa l.length qc] 91)=W:=⟨_,rfl⟩;have hB1:Below W0.heap.size W0 W1:=by rw[<-hW1];exact(Below.refl _ _).alloc (Nat.le_refl _) _
   have hK1:=hK.next hB1;have HB1:Hid (Below w.heap.size w W1):=hK1.below;have y5:=hK1.x5;have r0:W1.cell? ⟨W0.heap.size,0,none⟩=some (.int .i64 L):=by rw[<-hW1];exact aB (heap_alloc_new _ _) rfl
   have r1:W1.cell? ⟨W0.heap.size,1,none⟩=some (.slice qa l.length qc):=by rw[<-hW1];exact aB (heap_alloc_new _ _) rfl
   have i0:(0:Int)<=(ka:Int):=Int.natCast_nonneg _;have i1:(ka:Int)<(R.length:Int):=by omega
   have ib:=ul (w:=W1) (n:=b) (m:=(l.length:Int));have IW:=hsy.same (iH hB1);cases hBb:(decide (0<=b)&&decide (b<(l.length:Int))) with
   |false=>
    rw[hBb]at ib;clear hK hr hs hx hsy IW hB1 hK1 hA hBb hc
    go_enter Tryz.func153,Tryz.ntmps153
    go_wp2_with
     (first
      |(go_at_call 170;with_reducible refine ia.mono ?_;rintro e w2 ⟨rfl,h2⟩;obtain rfl:W0=w2:=h2.symm;clear ia)
      |(go_at_call 170;with_reducible refine ib.mono ?_;rintro e w2 ⟨rfl,h2⟩;obtain rfl:W1=w2:=h2.symm;clear ib))
    refine bodyPost_ret (v:= .tuple #[.nilIface,.bool false]) (by simp[results,Tryz.results153,go_sem]) rfl ?_;exact⟨rfl,HB1.out⟩
   |true=>
    rw[hBb]at ib;simp only[Bool.and_eq_true,decide_eq_true_eq]at hBb;obtain⟨bn,rfl⟩:∃bn:Nat,b=bn:=⟨b.toNat,by omega⟩;have hbl:bn<l.length:=by omega
    obtain⟨b1,o1,c1,hv1,s1,s2⟩:=IW.2 bn hbl;cases hv1;rw[Int.toNat_natCast]at hs;obtain⟨⟨t,X⟩,hy⟩:∃x,l.getD bn (false,0)=x:=⟨_,rfl⟩;rw[hy]at s1 s2 hs;simp only at s1 s2 hs;obtain⟨W2,hW2⟩:∃W,W1.alloc (.cells #[.bool t,.int .i64 X] 116)=W:=⟨_,rfl⟩;have hB2:Below W1.heap.size W1 W2:=by rw[<-hW2];exact(Below.refl _ _).alloc (Nat.le_refl _) _
    have HB2:Hid (Below w.heap.size w W2):=(hK1.next hB2).below;have t0:W2.cell? ⟨W1.heap.size,0,none⟩=some (.bool t):=by rw[<-hW2];exact aB (heap_alloc_new _ _) rfl
    have t1:W2.cell? ⟨W1.heap.size,1,none⟩=some (.int .i64 X):=by rw[<-hW2];exact aB (heap_alloc_new _ _) rfl
    have u0:=(hB2.cell (World.block_lt_of_cell? _ _ r0)).trans r0;have j0:(0:Int)<=(bn:Int):=Int.natCast_nonneg _;have j1:(bn:Int)<(l.length:Int):=by omega
    cases t with
    |true=>
     clear hK hr hs hx hsy IW hB1 hK1 hA hBb hc hB2 hy
     go_enter Tryz.func153,Tryz.ntmps153
     go_wp2_with
      (first
       |(go_at_call 170;with_reducible refine ia.mono ?_;rintro e w2 ⟨rfl,h2⟩;obtain rfl:W0=w2:=h2.symm;clear ia)
       |(go_at_call 170;with_reducible refine ib.mono ?_;rintro e w2 ⟨rfl,h2⟩;obtain rfl:W1=w2:=h2.symm;clear ib))
     refine bodyPost_ret (v:= .tuple #[.nilIface,.bool false]) (by simp[results,Tryz.results153,go_sem]) rfl ?_;exact⟨rfl,HB2.out⟩
    |false=>
     have hXL:X=L:=Classical.byContradiction fun hne=>hs ⟨i0,i1,j0,j1,hc,rfl,hne⟩;subst hXL;have eX:(X==X)=true:=by simp
     clear hK hr hs hx hsy IW hB1 hK1 hA hBb hc hB2 hy
     go_enter Tryz.func153,Tryz.ntmps153
     go_wp2_with
      (first
       |(go_at_call 170;with_reducible refine ia.mono ?_;rintro e w2 ⟨rfl,h2⟩;obtain rfl:W0=w2:=h2.symm;clear ia)
       |(go_at_call 170;with_reducible refine ib.mono ?_;rintro e w2 ⟨rfl,h2⟩;obtain rfl:W1=w2:=h2.symm;clear ib))
     refine bodyPost_ret (v:= .tuple #[.nilIface,.bool false]) (by simp[results,Tryz.results153,go_sem]) rfl ?_;exact⟨rfl,HB2.out⟩
  ·have ec:(c==0)=false:=by simpa using hc
   clear hK hr hs hA hc
   go_enter Tryz.func153,Tryz.ntmps153
   go_wp2_with (go_at_call 170;refine ia.mono ?_;rintro e w2 ⟨rfl,rfl⟩)
   refine bodyPost_ret (v:= .tuple #[.nilIface,.bool false]) (by simp[results,Tryz.results153,go_sem]) rfl ?_;exact⟨rfl,HB.out⟩
theorem ad7{w:World}{T N:Int}{ra:Option Addr}{rc:Nat}{R:List Ru}{op:Int}{ka bn m:Nat}{L X:Int}{l:List Sy}(hr:au w w.heap.size (.slice ra R.length rc) R)(hl:R.length<=1000)(hk:ka<R.length)(hx:R.getD ka (0,[])=(L,l))(hcl:l.length=bn+1+m)(vX:l.length<=1000)(hX:l.getD bn (false,0)=(false,X))(hne:X≠L):
 Calls Tryz.prog 153 #[.agg #[.int .i64 T,.int .i64 N,.slice ra R.length rc,.int .i64 op,.int .i64 ka,.int .i64 bn,.int .i64 0]] w fun e w'=> ∃ov,e= .returned (.tuple #[.iface 258 (.agg #[.int .i64 T,.int .i64 N,.slice ra R.length rc,.int .i64 op,.int .i64 ka,.int .i64 bn,.int .i64 0,ov,.int .i64 (iD (l.take bn)).length]),.bool true])/\w'.ownsRow w.heap.size 3 1 ov (aY (fun k=>decide ((R.getD k (0,[])).1=X)) R.length).length (kE (aY (fun k=>decide ((R.getD k (0,[])).1=X)) R.length))/\Below w.heap.size w w':=by
 obtain⟨n,hn⟩:∃n,bn+1+m=n:=⟨_,rfl⟩;rw[hn]at hcl;have hK:=oH (T:=T) (N:=N) (op:=op) (a:=ka) (b:=bn) (c:=0) hr;obtain⟨W0,hW0⟩:∃W,w.alloc (.cells #[.int .i64 T,.int .i64 N,.slice ra R.length rc,.int .i64 op,.int .i64 ka,.int .i64 bn,.int .i64 0] 207)=W:=⟨_,rfl⟩;rw[hW0]at hK;have x2:=hK.x2;have x4:=hK.x4;have x5:=hK.x5;have x6:=hK.x6;have ia:=ul (w:=W0) (n:=ka) (m:=(R.length:Int));obtain⟨b0,o0,qy,qa,qc,hv,_,k1,k2,hsy⟩:=hK.rules.jV hk;cases hv;rw[hx]at k1 k2 hsy;simp only at k1 k2 hsy;have hqc:l.length<=qc:=by obtain⟨_,_,hv,hle⟩:=hsy.1;cases hv;exact hle
 obtain⟨ad,rfl⟩:=hsy.IJ (by omega);rw[hcl]at k2 hqc;obtain⟨W1,hW1⟩:∃W,W0.alloc (.cells #[.int .i64 L,.slice (some ad) n qc] 91)=W:=⟨_,rfl⟩;obtain⟨rb,hrb⟩:∃x,W0.heap.size=x:=⟨_,rfl⟩;have hB1:Below W0.heap.size W0 W1:=by rw[<-hW1];exact(Below.refl _ _).alloc (Nat.le_refl _) _
 have hK1:=hK.next hB1;have y5:=hK1.x5;have r0:W1.cell? ⟨rb,0,none⟩=some (.int .i64 L):=by rw[<-hW1,<-hrb];exact aB (heap_alloc_new _ _) rfl
 have r1:W1.cell? ⟨rb,1,none⟩=some (.slice (some ad) n qc):=by rw[<-hW1,<-hrb];exact aB (heap_alloc_new _ _) rfl
 have ib:=ul (w:=W1) (n:=bn) (m:=(n:Int));obtain⟨b1,o1,c1,hv1,s1,s2⟩:=(hsy.same (iH hB1)).2 bn (by omega);rw[hcl]at hv1;cases hv1;rw[hX]at s1 s2;simp only at s1 s2;obtain⟨W2,hW2⟩:∃W,W1.alloc (.cells #[.bool false,.int .i64 X] 116)=W:=⟨_,rfl⟩;obtain⟨sb,hsb⟩:∃x,W1.heap.size=x:=⟨_,rfl⟩;have hB2:Below W1.heap.size W1 W2:=by rw[<-hW2];exact(Below.refl _ _).alloc (Nat.le_refl _) _
 have t0:W2.cell? ⟨sb,0,none⟩=some (.bool false):=by rw[<-hW2,<-hsb];exact aB (heap_alloc_new _ _) rfl
 have t1:W2.cell? ⟨sb,1,none⟩=some (.int .i64 X):=by rw[<-hW2,<-hsb];exact aB (heap_alloc_new _ _) rfl
 have u0:=(hB2.cell (World.block_lt_of_cell? _ _ r0)).trans r0;have u1:=(hB2.cell (World.block_lt_of_cell? _ _ r1)).trans r1;have hK2:=hK1.next hB2;have dP:Hid (fK w T N (some ⟨b0,o0,none⟩) rc R op ka bn 0 W2):=hK2;have HU:Hid (W2.cell? ⟨rb,1,none⟩=some (.slice (some ⟨b1,o1,none⟩) n qc)/\W2.cell? ⟨sb,1,none⟩=some (.int .i64 X)):=⟨u1,t1⟩;have jH:Hid (∀wq,Below W2.heap.size W2 wq->bG wq (.slice (some ⟨b1,o1,none⟩) l.length qc) l):=fun wq hq=>hsy.same (iH (hB1.trans ((hB2.mono hB1.size).trans (hq.mono (Nat.le_trans hB1.size hB2.size)))));have HX:Hid (l.length=n):=hcl;have i0:(0:Int)<=(ka:Int):=Int.natCast_nonneg _;have i1:(ka:Int)<(R.length:Int):=by omega
 have j0:(0:Int)<=(bn:Int):=Int.natCast_nonneg _;have j1:(bn:Int)<(n:Int):=by omega
 rw[decide_eq_true i0,decide_eq_true i1]at ia;rw[decide_eq_true j0,decide_eq_true j1]at ib;have eX:(X==L)=false:=by simpa using hne
 have e0:((0:Int)==0)=true:=rfl;have adZ:=fun w=>EK (ad:=⟨b1,o1,none⟩) (f:=bn) (sl:=n) (lc:=qc) (fi:=(bn:Int)) rfl (by omega) w;have HN:Hid (bn+1+m=n):=hn;clear hK hr hx hcl hsy hB1 hK1 hB2 hK2 hX hn
 go_enter Tryz.func153,Tryz.ntmps153
 go_upto_region 9 with
  (first
   |(go_at_call 170;with_reducible refine ia.mono ?_;rintro e w2 ⟨rfl,h2⟩;obtain rfl:W0=w2:=h2.symm;clear ia)
   |(go_at_call 170;with_reducible refine ib.mono ?_;rintro e w2 ⟨rfl,h2⟩;obtain rfl:W1=w2:=h2.symm;clear ib))
 obtain⟨Wd,hWd⟩:∃W,W2.drew=W:=⟨_,rfl⟩;have hBd:Below W2.heap.size W2 Wd:=by rw[<-hWd];exact(Below.refl _ _).drew
 have iZ:Hid (∀wq,Below Wd.heap.size Wd wq->fK w T N (some ⟨b0,o0,none⟩) rc R op ka bn 0 wq/\bG wq (.slice (some ⟨b1,o1,none⟩) l.length qc) l/\Below W2.heap.size W2 wq):=fun wq hq=>by
  have h1:Below W2.heap.size W2 wq:=hBd.trans (hq.mono hBd.size);exact⟨dP.out.next h1,jH.out wq h1,h1⟩
 have fM:Hid (∀wq,Below Wd.heap.size Wd wq->wq.cell? ⟨w.heap.size,0,none⟩=some (.int .i64 T)/\wq.cell? ⟨w.heap.size,1,none⟩=some (.int .i64 N)/\wq.cell? ⟨w.heap.size,2,none⟩=some (.slice (some ⟨b0,o0,none⟩) R.length rc)/\wq.cell? ⟨w.heap.size,3,none⟩=some (.int .i64 op)/\wq.cell? ⟨w.heap.size,4,none⟩=some (.int .i64 ka)/\wq.cell? ⟨w.heap.size,5,none⟩=some (.int .i64 bn)/\wq.cell? ⟨w.heap.size,6,none⟩=some (.int .i64 0)/\wq.cell? ⟨rb,1,none⟩=some (.slice (some ⟨b1,o1,none⟩) n qc)/\wq.cell? ⟨sb,1,none⟩=some (.int .i64 X)):=fun wq hq=>
  let h:=(iZ.out wq hq).1
  let hb:=(iZ.out wq hq).2.2
  ⟨h.x0,h.x1,h.x2,h.x3,h.x4,h.x5,h.x6,(hb.cell (World.block_lt_of_cell? _ _ HU.out.1)).trans HU.out.1,(hb.cell (World.block_lt_of_cell? _ _ HU.out.2)).trans HU.out.2⟩
 have S0:=fM.out Wd (Below.refl _ _);clear hBd x2 x4 x5 x6 k1 k2 hW0 hW1 hW2 y5 r0 r1 t0 t1 u0 u1 s1 s2 hrb hsb;refine lY [0,1,2,3,4,5,7,8,9,10,11,12] 6 17 (fun wq=>wq.cell? ⟨w.heap.size,0,none⟩=some (.int .i64 T)/\wq.cell? ⟨w.heap.size,1,none⟩=some (.int .i64 N)/\wq.cell? ⟨w.heap.size,2,none⟩=some (.slice (some ⟨b0,o0,none⟩) R.length rc)/\wq.cell? ⟨w.heap.size,3,none⟩=some (.int .i64 op)/\wq.cell? ⟨w.heap.size,4,none⟩=some (.int .i64 ka)/\wq.cell? ⟨w.heap.size,5,none⟩=some (.int .i64 bn)/\wq.cell? ⟨w.heap.size,6,none⟩=some (.int .i64 0)/\wq.cell? ⟨rb,1,none⟩=some (.slice (some ⟨b1,o1,none⟩) n qc)/\wq.cell? ⟨sb,1,none⟩=some (.int .i64 X)) (by kernel_rfl) (by kernel_rfl) (by rw[hWd];exact S0) ?_;rw[hWd];clear hWd S0
 iterate 12
  refine aO.vW (v:= ?_) rfl (by rfl) ?_ ?_;rotate_left
  ·intro w' hSw
   obtain⟨z0,z1,z2,z3,z4,z5,z6,z7,z8⟩:=hSw
   go_simp
   try with_reducible rfl
  simp only[Act.put,List.setIfInBounds_toArray,List.set_cons_zero,List.set_cons_succ]
 rw[aO];have n1:=ad5 (w:=Wd) (m:=X) (iZ.out Wd (Below.refl _ _)).1.all hl;refine ax.one (i:=6) (by kernel_rfl) ⟨_,rfl,fun K hK=> ?_⟩
 go_simp
 refine n1.mono ?_;rintro e w3 ⟨ov,rfl,hov,hB3⟩;dsimp only;refine hK.out _ _ (fun _=>fM.out _ hB3) ?_;clear hK n1;have n2:=MO (w:=w3) ((iZ.out w3 hB3).2.1.BN (f:=bn) (by rw[HX.out];have:=HN.out;omega)) (by rw[List.length_take];omega);obtain⟨oa,oc,EO⟩:=bK hov;have VI:Hid (ov= .slice oa (aY (fun k=>decide ((R.getD k (0,[])).1=X)) R.length).length oc):=EO;obtain⟨on,hon⟩:∃on,(aY (fun k=>decide ((R.getD k (0,[])).1=X)) R.length).length=on:=⟨_,rfl⟩;rw[hon]at EO VI;rw[EO];rw[EO]at hov;clear EO VI;refine ax.one (i:=13) (by kernel_rfl) ⟨_,rfl,fun K hK=> ?_⟩
 go_simp
 refine n2.mono ?_;rintro e w4 ⟨rfl,hB4⟩;dsimp only;have rV:Below Wd.heap.size Wd w4:=hB3.trans (hB4.mono hB3.size);refine hK.out _ _ (fun _=>fM.out _ rV) ?_;clear hK n2;refine ax.one (i:=14) (by kernel_rfl) ⟨_,rfl,fun K hK=> ?_⟩
 go_simp
 refine hK.out _ _ (fun _=>fM.out _ rV) ?_;clear hK;refine ax.one (i:=15) (by kernel_rfl) ⟨_,rfl,fun K hK=> ?_⟩
 go_simp
 refine hK.out _ _ (fun _=>fM.out _ rV) ?_;clear hK;refine ax.one (i:=16) (by kernel_rfl) ⟨_,rfl,fun K hK=> ?_⟩
 go_simp
 refine hK.out _ _ (fun _=>fM.out _ rV) ?_;clear hK;refine ax.last (i:=17) (by kernel_rfl) ⟨_,rfl,fun K hK=> ?_⟩
 go_simp
 refine hK.out _ _ (fun h=>absurd h (by omega)) (NoPanic.normal ?_);clear hK;have qI:Hid (w4.ownsRow w.heap.size 3 1 (.slice oa on oc) (aY (fun k=>decide ((R.getD k (0,[])).1=X)) R.length).length (kE (aY (fun k=>decide ((R.getD k (0,[])).1=X)) R.length))):=jf (own_below hov hB4 fun g hg=>(hov.lt g hg).2) (iZ.out Wd (Below.refl _ _)).1.below.size;clear hov hon
 go_wp2_with fail
 refine bodyPost_ret (v:= .tuple #[.iface 258 (.agg #[.int .i64 T,.int .i64 N,.slice (some ⟨b0,o0,none⟩) R.length rc,.int .i64 op,.int .i64 ka,.int .i64 bn,.int .i64 0,.slice oa on oc,.int .i64 (iD (l.take bn)).length]),.bool true]) (by simp[results,Tryz.results153,go_sem]) rfl ?_;exact⟨_,rfl,qI.out,(iZ.out w4 rV).1.below⟩
theorem ad8{w:World}{mb g N B:Nat}{Y:List Bool}{t:Bool}{v:Int}(hm:w.cell? ⟨mb,0,none⟩=some (.slice (some ⟨g,0,none⟩) N N))(hY:eU w B g N Y)(hv:t=false->0<=v/\v<(N:Int)):
 Calls Tryz.prog 176 #[.agg #[.bool t,.int .i64 v],.pointer (some ⟨mb,0,none⟩)] w fun e w'=>e= .returned (.bool (!(t||Y.getD v.toNat false)))/\Below w.heap.size w w':=by
 obtain⟨W1,hW1⟩:∃W,w.alloc (.cells #[.bool t,.int .i64 v] 116)=W:=⟨_,rfl⟩;have hB1:Below w.heap.size w W1:=by rw[<-hW1];exact(Below.refl _ _).alloc (Nat.le_refl _) _
 have d0:W1.cell? ⟨w.heap.size,0,none⟩=some (.bool t):=by rw[<-hW1];exact aB (heap_alloc_new _ _) rfl
 have d1:W1.cell? ⟨w.heap.size,1,none⟩=some (.int .i64 v):=by rw[<-hW1];exact aB (heap_alloc_new _ _) rfl
 have m1:=(hB1.cell (World.block_lt_of_cell? _ _ hm)).trans hm;have HB:Hid (Below w.heap.size w W1):=hB1;have BO:=hY.below hB1;clear hB1 hY hm;cases t with
 |true=>
  clear BO hv
  go_enter Tryz.func176,Tryz.ntmps176
  go_wp2_with fail
  go_ret;exact⟨rfl,HB.out⟩
 |false=>
  obtain⟨i0,i1⟩:=hv rfl;obtain⟨q,rfl⟩:∃q:Nat,v=q:=⟨v.toNat,by omega⟩;have c1:=(BO.cell (m:=q) (by omega)).1;rw[Int.toNat_natCast];obtain⟨y,hy⟩:∃y,Y.getD q false=y:=⟨_,rfl⟩;rw[hy]at c1⊢;clear BO hy hv
  go_enter Tryz.func176,Tryz.ntmps176
  go_wp2_with fail
  go_ret;exact⟨rfl,HB.out⟩
theorem ad9{w:World}{mb g N B:Nat}{Y:List Bool}{lv:Value}{l:List Sy}(hl:bG w lv l)(hs:l.length<=1000)(hm:w.cell? ⟨mb,0,none⟩=some (.slice (some ⟨g,0,none⟩) N N))(hY:eU w B g N Y)(hv:∀j,j<l.length->(l.getD j (false,0)).1=false->0<=(l.getD j (false,0)).2/\(l.getD j (false,0)).2<(N:Int)):
 Calls Tryz.prog 195 #[lv,.func (.func 176) #[] #[.pointer (some ⟨mb,0,none⟩)]] w fun e w'=>(∃r:Int,e= .returned (.int .i64 r)/\(0<=r↔dK Y l=false))/\Below w.heap.size w w':=by
 obtain⟨la,lc,hlv,_⟩:=hl.1;subst hlv;have HL:Hid (bG w (.slice la l.length lc) l):=hl;have HM:Hid (w.cell? ⟨mb,0,none⟩=some (.slice (some ⟨g,0,none⟩) N N)/\eU w B g N Y):=⟨hm,hY⟩;have HV:Hid (∀j,j<l.length->(l.getD j (false,0)).1=false->0<=(l.getD j (false,0)).2/\(l.getD j (false,0)).2<(N:Int)):=hv;clear hl hm hY hv
 go_enter Tryz.func195,Tryz.ntmps195
 go_wp2_with fail
 go_loopw [8] (fun s8 wr=> ∃k:Nat,s8= .int .i64 k/\k<=l.length/\dK Y (l.take k)=true/\Below w.heap.size w wr) (fun s _=>l.length-(intOf s).toNat)
 case atStart=>exact⟨0,rfl,Nat.zero_le _,rfl,Below.refl _ _⟩
 case round=>
  obtain⟨k,rfl,hk,hall,hB⟩:=hrel;have HB:Hid (Below w.heap.size w wr):=hB;have HA:Hid (dK Y (l.take k)=true):=hall;by_cases hlt:k<l.length
  ·obtain⟨b,o,c,hv,c1,c2⟩:=(HL.out.same (iH hB)).2 k hlt
   cases hv;have hvk:=HV.out k hlt;have hat:=U7 Y l k hlt;obtain⟨⟨t,v⟩,hx⟩:∃x,l.getD k (false,0)=x:=⟨_,rfl⟩;rw[hx]at c1 c2 hvk hat;simp only at c1 c2 hvk hat;rw[HA.out,Bool.true_and]at hat;have mn:=ad8 (w:=wr) (t:=t) (v:=v) ((hB.cell (World.block_lt_of_cell? _ _ HM.out.1)).trans HM.out.1) (HM.out.2.below hB) hvk;obtain⟨y,hy⟩:∃y,(t||Y.getD v.toNat false)=y:=⟨_,rfl⟩;rw[hy]at mn hat;have HT:Hid (dK Y (l.take (k+1))=y):=hat;have i0:(0:Int)<=(k:Int):=Int.natCast_nonneg _;have i1:(k:Int)<(l.length:Int):=by omega
   clear hx hvk hat hB hall hy;cases y with
   |true=>
    go_wp2_with (go_at_call 176;refine mn.mono ?_;rintro e w2 ⟨rfl,hB2⟩;clear mn)
    go_roundw
    case rel=>exact⟨k+1,by go_num,by omega,HT.out,HB.out.trans (hB2.mono HB.out.size)⟩
    case measure=>simp[intOf];omega
   |false=>
    go_wp2_with (go_at_call 176;refine mn.mono ?_;rintro e w2 ⟨rfl,hB2⟩;clear mn)
    go_ret;refine⟨⟨k,rfl,fun _=> ?_,fun _=>i0⟩,HB.out.trans (hB2.mono HB.out.size)⟩;cases h:dK Y l with
    |false=>rfl
    |true=>
     have h2:=HT.out;unfold dK at h h2;rw[List.all_eq_true]at h
     have:((l.take (k+1)).all fun s=>s.1||Y.getD s.2.toNat false)=true:=by
      rw[List.all_eq_true];exact fun x hx=>h x (List.mem_of_mem_take hx)
     rw[this]at h2;cases h2
  ·have hkk:k=l.length:=by omega
   clear hB hall
   go_wp2_with fail
   go_ret;have h:=HA.out;rw[hkk,List.take_length]at h;exact⟨⟨-1,rfl,fun h=>by omega,fun h'=>by rw[h]at h';cases h'⟩,HB.out⟩
theorem aea{w:World}{mb g N B:Nat}{Y:List Bool}{lv:Value}{l:List Sy}(hl:bG w lv l)(hs:l.length<=1000)(hm:w.cell? ⟨mb,0,none⟩=some (.slice (some ⟨g,0,none⟩) N N))(hY:eU w B g N Y)(hv:∀j,j<l.length->(l.getD j (false,0)).1=false->0<=(l.getD j (false,0)).2/\(l.getD j (false,0)).2<(N:Int)):
 Calls Tryz.prog 177 #[lv,.func (.func 176) #[] #[.pointer (some ⟨mb,0,none⟩)]] w fun e w'=>e= .returned (.bool (!dK Y l))/\Below w.heap.size w w':=by
 have ix:=ad9 hl hs hm hY hv;clear hl hs hm hY hv;cases hA:dK Y l with
 |false=>
  go_enter Tryz.func177,Tryz.ntmps177
  go_wp2_with (go_at_call 195;refine ix.mono ?_;rintro e w1 ⟨⟨r,rfl,hr⟩,hB⟩;have h0:0<=r:=hr.2 hA;clear hr)
  go_ret;exact⟨rfl,hB⟩
 |true=>
  go_enter Tryz.func177,Tryz.ntmps177
  go_wp2_with (go_at_call 195;refine ix.mono ?_;rintro e w1 ⟨⟨r,rfl,hr⟩,hB⟩;have h0:decide (0<=r)=false:=decide_eq_false (fun h=>by rw[hr.1 h]at hA;cases hA);clear hr)
  go_ret;exact⟨rfl,hB⟩
end Go.Proofs.YtblkkhfdeaaidaaGreatDoor
namespace Go.Proofs.YtblkkhfdeaaidaaGreatDoor
section
variable{ι:Type}
def kU(dom:ι->Option Nat)(X:ι->List Bool):Prop:=∀i n,dom i=some n->(X i).length=n
structure kF(gr:ι)(dom:ι->Option Nat)(X Y:ι->List Bool):Prop where
 bU:kU dom Y
 up:∀i m,bit X i m=true->bit Y i m=true
 still:bit Y gr 0=false->Y=X
 grew:bit X gr 0=false->bit Y gr 0=true->∃i m n,i≠gr/\dom i=some n/\m<n/\bit X i m=false/\bit Y i m=true
def oJ(dom:ι->Option Nat)(Z:ι->Nat->Prop)(X:ι->List Bool):Prop:=∀i n m,dom i=some n->m<n->bit X i m=true->Z i m
variable{gr:ι}{dom:ι->Option Nat}{Z:ι->Nat->Prop}
theorem kF.refl{X:ι->List Bool}(h:kU dom X):kF gr dom X X:=⟨h,fun _ _ h=>h,fun _=>rfl,fun h1 h2=>by rw[h1]at h2;cases h2⟩
theorem kF.trans{X Y W:ι->List Bool}(h:kF gr dom X Y)(k:kF gr dom Y W):kF gr dom X W:=
 ⟨k.bU,fun i m hm=>k.up i m (h.up i m hm),fun hz=>by
   have e:=k.still hz;rw[e]at hz⊢;exact h.still hz,fun h1 h2=>by
   cases hy:bit Y gr 0 with
   |true=>
    obtain⟨i,m,n,a1,a2,a3,a4,a5⟩:=h.grew h1 hy;exact⟨i,m,n,a1,a2,a3,a4,k.up i m a5⟩
   |false=>
    obtain⟨i,m,n,a1,a2,a3,a4,a5⟩:=k.grew hy h2;rw[h.still hy]at a4
    exact⟨i,m,n,a1,a2,a3,a4,a5⟩⟩
variable[DecidableEq ι]
theorem VJ(hgr:dom gr=some 1){X:ι->List Bool}{i:ι}{n m:Nat}(h:kU dom X)(hd:dom i=some n)(hm:m<n)(hi:i≠gr):kF gr dom X (gN gr X i m)/\bit (gN gr X i m) i m=true:=by
 have hl:=h i n hd;have hg:=h gr 1 hgr;cases hb:bit X i m with
 |true=>
  have e:gN gr X i m=X:=by simp[gN,hb]
  rw[e];exact⟨kF.refl h,hb⟩
 |false=>
  have e:gN gr X i m=aU (aU X i m true) gr 0 true:=by simp[gN,hb]
  rw[e];have hg':0<(aU X i m true gr).length:=by rw[qN];omega
  refine⟨⟨fun j k hj=> ?_,fun j q hq=> ?_,fun hz=> ?_,fun _ _=> ?_⟩,?_⟩
  ·rw[qN,qN];exact h j k hj
  ·rw[gV hg',gV (by omega)]
   split
   ·rfl
   ·split
    ·rfl
    ·exact hq
  ·rw[gV hg']at hz
   simp at hz
  ·refine⟨i,m,n,hi,hd,hm,hb,?_⟩
   rw[gV hg',gV (by omega)];simp
  ·rw[gV hg',gV (by omega)]
   simp
theorem VK(hgr:dom gr=some 1)(hZ:∀m,Z gr m){X:ι->List Bool}{i:ι}{n m:Nat}(h:kU dom X)(hd:dom i=some n)(hm:m<n)(hs:oJ dom Z X)(hz:Z i m):oJ dom Z (gN gr X i m):=by
 have hl:=h i n hd;have hg:=h gr 1 hgr;cases hb:bit X i m with
 |true=>
  have e:gN gr X i m=X:=by simp[gN,hb]
  rw[e];exact hs
 |false=>
  have e:gN gr X i m=aU (aU X i m true) gr 0 true:=by simp[gN,hb]
  rw[e];have hg':0<(aU X i m true gr).length:=by rw[qN];omega
  intro j k q hj hq hbq;rw[gV hg',gV (by omega)]at hbq;by_cases c1:j=gr/\q=0
  ·rw[c1.1];exact hZ q
  ·rw[if_neg c1]at hbq
   by_cases c2:j=i/\q=m
   ·rw[c2.1,c2.2];exact hz
   ·rw[if_neg c2]at hbq
    exact hs j k q hj hq hbq
omit [DecidableEq ι] in
theorem M6{n:Nat}{f:Nat->(ι->List Bool)->ι->List Bool}(hf:∀k,k<n->∀Y,kU dom Y->kF gr dom Y (f k Y)){X:ι->List Bool}(h:kU dom X):kF gr dom X (aK n f X)/\
 (bit (aK n f X) gr 0=false->∀k,k<n->bit (f k X) gr 0=false):=by
 induction n with
 |zero=>exact⟨kF.refl h,fun _ k hk=>absurd hk (Nat.not_lt_zero _)⟩
 |succ n ih=>
  obtain⟨h1,h2⟩:=ih fun k hk=>hf k (by omega);have h3:=hf n (by omega) _ h1.bU;refine⟨h1.trans h3,fun hz k hk=> ?_⟩;have hz':bit (f n (aK n f X)) gr 0=false:=hz;have e1:=h3.still hz';have hz1:bit (aK n f X) gr 0=false:=by rw[<-e1];exact hz'
  rcases Nat.lt_succ_iff_lt_or_eq.1 hk with hk|rfl
  ·exact h2 hz1 k hk
  ·rw[h1.still hz1]at hz'
   exact hz'
omit [DecidableEq ι] in
theorem VL{n:Nat}{f:Nat->(ι->List Bool)->ι->List Bool}(hf:∀k,k<n->∀Y,kU dom Y->kF gr dom Y (f k Y))(hg:∀k,k<n->∀Y,kU dom Y->oJ dom Z Y->oJ dom Z (f k Y)){X:ι->List Bool}(h:kU dom X)(hs:oJ dom Z X):oJ dom Z (aK n f X):=by
 induction n with
 |zero=>exact hs
 |succ n ih=>
  have h1:=(M6 (n:=n) (f:=f) (fun k hk=>hf k (by omega)) h).1;exact hg n (by omega) _ h1.bU (ih (fun k hk=>hf k (by omega)) fun k hk=>hg k (by omega))
structure rY(gr:ι)(dom:ι->Option Nat)(Z:ι->Nat->Prop)(X0:ι->List Bool)(R:List Ru)(f:Ru->(ι->List Bool)->ι->List Bool)(X:ι->List Bool):Prop where
 bU:kU dom X
 snd:oJ dom Z X
 up:∀i m,i≠gr->bit X0 i m=true->bit X i m=true
 held:bit X gr 0=false->∀q,q<R.length->bit (f (R.getD q (0,[])) X) gr 0=false
def EP(gr:ι)(rZ:List (ι×Nat))(X:ι->List Bool):Nat:=2*(rZ.filter fun p=> !bit X p.1 p.2).length+if bit X gr 0 then 1 else 0
theorem rY.next{X0:ι->List Bool}{R:List Ru}{f:Ru->(ι->List Bool)->ι->List Bool}{rZ:List (ι×Nat)}(hgr:dom gr=some 1)(hin:∀i n m,i≠gr->dom i=some n->m<n->(i,m)∈rZ)(hno:∀p∈rZ,p.1≠gr)(hZ:∀m,Z gr m)
 (hf:∀q,q<R.length->∀Y,kU dom Y->kF gr dom Y (f (R.getD q (0,[])) Y)) (hs:∀q,q<R.length->∀Y,kU dom Y->oJ dom Z Y->oJ dom Z (f (R.getD q (0,[])) Y))
 (X:ι->List Bool) (h:rY gr dom Z X0 R f X) (hg:bit X gr 0=true):
 rY gr dom Z X0 R f (lT R f R.length (aU X gr 0 false))/\EP gr rZ (lT R f R.length (aU X gr 0 false))<EP gr rZ X:=by
 have hl:=h.bU gr 1 hgr;have s1:kU dom (aU X gr 0 false):=fun i n hd=>by rw[qN];exact h.bU i n hd
 have n1:oJ dom Z (aU X gr 0 false):=fun i n m hd hm hb=>by
  rw[gV (by omega)]at hb;by_cases c:i=gr/\m=0
  ·rw[c.1];exact hZ m
  ·rw[if_neg c]at hb;exact h.snd i n m hd hm hb
 have g1:bit (aU X gr 0 false) gr 0=false:=by rw[gV (by omega)];simp
 have f1:∀i m,i≠gr->bit (aU X gr 0 false) i m=bit X i m:=fun i m hi=>by rw[gV (by omega),if_neg (fun e=>hi e.1)]
 obtain⟨u1,u2⟩:=M6 (n:=R.length) (f:=fun q=>f (R.getD q (0,[]))) hf s1;have e0:lT R f R.length (aU X gr 0 false)=aK R.length (fun q=>f (R.getD q (0,[]))) (aU X gr 0 false):=rfl;rw[<-e0]at u1 u2;refine⟨⟨u1.bU,VL hf hs s1 n1,fun i m hi hb=>u1.up _ _ (by rw[f1 i m hi];exact h.up i m hi hb),fun hz=> ?_⟩,?_⟩
 ·rw[u1.still hz];exact u2 hz
 ·have e:(rZ.filter fun p=> !bit (aU X gr 0 false) p.1 p.2)=rZ.filter fun p=> !bit X p.1 p.2:=List.filter_congr fun p hp=>by rw[f1 _ _ (hno p hp)]
  unfold EP;rw[hg];cases hz:bit (lT R f R.length (aU X gr 0 false)) gr 0 with
  |true=>
   have:(rZ.filter fun p=> !bit (lT R f R.length (aU X gr 0 false)) p.1 p.2).length<(rZ.filter fun p=> !bit (aU X gr 0 false) p.1 p.2).length:=by
    obtain⟨i,m,n,a1,a2,a3,a4,a5⟩:=u1.grew g1 hz;refine(filter_lt _ _ (fun p hp=> ?_) rZ).2 ⟨(i,m),hin i n m a1 a2 a3,by simp[a4],by simp[a5]⟩;cases hb:bit (aU X gr 0 false) p.1 p.2 with
    |false=>rfl
    |true=>simp[u1.up _ _ hb]at hp
   rw[e]at this;simp only[if_true];omega
  |false=>rw[u1.still hz,e];simp only[if_true,Bool.false_eq_true,if_false];omega
end
end Go.Proofs.YtblkkhfdeaaidaaGreatDoor
