import Derived.Lib.ItoaNum
import Derived.Test.YtblkkhfdeaaidaaGreatDoorTxPaAndLfp
import Derived.Test.YtblkkhfdeaaidaaGreatDoorShortMathAndTxPut
import Derived.Test.YtblkkhfdeaaidaaGreatDoorTxRlsAndMayG
import Derived.Test.YtblkkhfdeaaidaaGreatDoorHeldAnyAndTxLn
import Derived.Test.YtblkkhfdeaaidaaGreatDoorMathAndTxSc
set_option maxHeartbeats 6400000
set_option maxRecDepth 100000
namespace Go.Proofs.YtblkkhfdeaaidaaGreatDoor
def lC(s:Sy):List UInt8:=32::(if s.1 then 116 else 110)::Lib.decDigits s.2.toNat
def qw(n:Int):List UInt8:=110::(Lib.decDigits n.toNat++[58])
def nQ(r:Ru):List UInt8:=qw r.1++((r.2.map lC).flatten++[10])
def tq(T N:Nat):List UInt8:=[116,101,114,109,115,32]++(Lib.decDigits T++([32,110,97,109,101,115,32]++(Lib.decDigits N++[10])))
def oP(T N:Nat)(R:List Ru):List UInt8:=tq T N++(R.map nQ).flatten
theorem Cz{α:Type}{l:List α}{j:Nat}{d:α}(h:j<l.length):l.getD j d=l[j]:=by simp[List.getD,h]
theorem Pg{n:Nat}(h:n<10):Lib.decDigits n=[UInt8.ofNat (48+n)]:=by rw[Lib.decDigits,dif_pos h]
theorem Yj{n:Nat}(h:¬n<10):Lib.decDigits n=Lib.decDigits (n/10)++[UInt8.ofNat (48+n%10)]:=by rw[Lib.decDigits,dif_neg h]
theorem wK{n:Nat}(h:n<100):(Lib.decDigits n).length<=2:=by
 by_cases h1:n<10
 ·rw[Pg h1];simp
 ·rw[Yj h1,Pg (by omega)];simp
theorem Yk{s:Sy}(h:s.2.toNat<100):(lC s).length<=4:=by
 have:=wK h;simp only[lC,List.length_cons];omega
theorem FI{α:Type}(f:α->List UInt8)(m:Nat):∀(l:List α),(∀x∈l,(f x).length<=m)->(l.map f).flatten.length<=l.length*m
 | [],_=>by simp
 |x::l,h=>by
  have h1:=h x (List.mem_cons_self ..);have h2:=FI f m l fun y hy=>h y (List.mem_cons_of_mem _ hy);rw[List.map_cons,List.flatten_cons,List.length_append,List.length_cons,Nat.add_mul];omega
structure Low(T N:Nat)(R:List Ru):Prop where
 t:T<100
 n:N<100
 r:R.length<=40
 left:∀k,k<R.length->∃m:Nat,(R.getD k (0,[])).1=m/\m<100
 len:∀k,k<R.length->(R.getD k (0,[])).2.length<=8
 sym:∀k,k<R.length->∀j,j<(R.getD k (0,[])).2.length->∃m:Nat,((R.getD k (0,[])).2.getD j (false,0)).2=m/\m<100
theorem JW{T N:Nat}{R:List Ru}(hm:aD T N R=true):Low T N R:=by
 obtain⟨h1,h2,h3,h4,h5⟩:=fV hm;refine⟨by omega,by omega,h4,fun k hk=> ?_,fun k hk=>(h5 k hk).2.2.1,fun k hk j hj=> ?_⟩
 ·obtain⟨a,b,_⟩:=h5 k hk
  exact⟨(R.getD k (0,[])).1.toNat,by omega,by omega⟩
 ·have hmem:(R.getD k (0,[])).2.getD j (false,0)∈(R.getD k (0,[])).2:=by rw[Cz hj];exact List.getElem_mem hj
  obtain⟨a,b⟩:=(h5 k hk).2.2.2 _ hmem;refine⟨((R.getD k (0,[])).2.getD j (false,0)).2.toNat,by omega,?_⟩;split at b<;>omega
section
variable{T N:Nat}{R:List Ru}
theorem Low.jV(h:Low T N R){k:Nat}(hk:k<R.length):∀s∈(R.getD k (0,[])).2,(lC s).length<=4:=fun s hs=>by
 obtain⟨j,hj,rfl⟩:=List.getElem_of_mem hs;obtain⟨m,h1,h2⟩:=h.sym k hk j hj;rw[Cz hj]at h1;exact Yk (by omega)
theorem Low.Ph(h:Low T N R){k:Nat}(hk:k<R.length):(qw (R.getD k (0,[])).1).length<=4:=by
 obtain⟨m,h1,h2⟩:=h.left k hk;have:=wK h2;rw[h1];simp only[qw,List.length_cons,List.length_append,List.length_nil,Int.toNat_natCast];omega
theorem Low.Yl(h:Low T N R){k:Nat}(hk:k<R.length):(nQ (R.getD k (0,[]))).length<=40:=by
 have h1:=h.Ph hk;have h2:=FI lC 4 (R.getD k (0,[])).2 (h.jV hk);have h3:=h.len k hk;simp only[nQ,List.length_append,List.length_cons,List.length_nil];omega
theorem JX(h:Low T N R):(tq T N).length<=20:=by
 have h1:=wK h.t;have h2:=wK h.n;simp only[tq,List.length_append,List.length_cons,List.length_nil];omega
theorem Low.mem(h:Low T N R):∀r∈R,(nQ r).length<=40:=fun r hr=>by
 obtain⟨k,hk,rfl⟩:=List.getElem_of_mem hr;have:=h.Yl hk;rw[Cz hk]at this;exact this
theorem Low.part(h:Low T N R)(k:Nat):(((R.take k).map nQ).flatten).length<=1600:=by
 have h1:=FI nQ 40 (R.take k) fun r hr=>h.mem r (List.mem_of_mem_take hr);have h2:=h.r;rw[List.length_take]at h1;have:min k R.length*40<=40*40:=Nat.mul_le_mul_right _ (by omega);omega
theorem Low.Ym(h:Low T N R){k:Nat}(hk:k<R.length)(j:Nat):((((R.getD k (0,[])).2.take j).map lC).flatten).length<=32:=by
 have h1:=FI lC 4 ((R.getD k (0,[])).2.take j) fun s hs=>h.jV hk s (List.mem_of_mem_take hs);have h2:=h.len k hk;rw[List.length_take]at h1;have:min j (R.getD k (0,[])).2.length*4<=8*4:=Nat.mul_le_mul_right _ (by omega);omega
end
theorem Pj{α:Type}(f:α->List UInt8){l:List α}{k:Nat}(hk:k<l.length):((l.take (k+1)).map f).flatten=((l.take k).map f).flatten++f l[k]:=by
 rw[List.take_succ_eq_append_getElem hk,List.map_append,List.flatten_append];simp
end Go.Proofs.YtblkkhfdeaaidaaGreatDoor
namespace Go.Proofs.YtblkkhfdeaaidaaGreatDoor
open Go.RowKit
def Pk(sz:Nat)(T N:Int)(ra:Option Addr)(rl rc:Nat)(wq:World):Prop:=
 wq.cell? ⟨sz,0,none⟩=some (.int .i64 T)/\wq.cell? ⟨sz,1,none⟩=some (.int .i64 N)/\wq.cell? ⟨sz,2,none⟩=some (.slice ra rl rc)
theorem Pm(w:World):Lib.IsBuilderF 32 5 w.heap.size w.heap.size (Lib.byteCells []) (w.alloc (.cells #[.pointer none,.slice none 0 0] 32)):=
 .inl ⟨Nat.le_refl _,.slice none 0 0,heap_alloc_new w _,World.ownsRowF_of (World.ownsRow_nil _ _ _ _),by simp[Value.ownBlock]⟩
theorem Pn{T e B b:Nat}{bs:List Value}{w w':World}(h:Lib.IsBuilderF T e B b bs w)(hb:Below w.heap.size w w'):Lib.IsBuilderF T e B b bs w':=by
 have one:∀p,Lib.BuilderAtF T e B b p bs w->Lib.BuilderAtF T e B b p bs w':=fun p h=>by
  obtain⟨h1,v,h2,h3,h4⟩:=h;refine⟨h1,v,(hb.block _ (Array.getElem?_eq_some_iff.1 h2).1).trans h2,⟨h3.1,?_⟩,h4⟩;rcases h3.2 with h5|⟨g,cap,cur,fz,e1,e2,e3,e4⟩
  ·exact .inl h5
  ·exact .inr ⟨g,cap,cur,fz,e1,e2,(hb.block _ (Array.getElem?_eq_some_iff.1 e3).1).trans e3,e4⟩
 exact h.imp (one _) (one _)
theorem wL{T e B b:Nat}{bs:List Value}{w:World}(h:Lib.IsBuilderF T e B b bs w):b<w.heap.size:=by
 rcases h with⟨_,v,h,_⟩|⟨_,v,h,_⟩<;>exact(Array.getElem?_eq_some_iff.1 h).1
section
variable{w:World}{ra:Option Addr}{rc:Nat}{R:List Ru}
theorem Yn{T N:Nat}(hr:au w w.heap.size (.slice ra R.length rc) R)(hm:aD T N R=true):
 Calls Tryz.prog 33 #[.agg #[.int .i64 T,.int .i64 N,.slice ra R.length rc]] w fun e w'=>e= .returned (.tuple #[.string ⟨(oP T N R).toArray⟩,.int .i64 0])/\Below w.heap.size w w':=by
 obtain⟨W1,hW1⟩:∃W,w.alloc (.cells #[.int .i64 (T:Int),.int .i64 (N:Int),.slice ra R.length rc] 26)=W:=⟨_,rfl⟩;have hB1:Below w.heap.size w W1:=by rw[<-hW1];exact(Below.refl _ _).alloc (Nat.le_refl _) _
 have hx:=heap_alloc_new w (.cells #[.int .i64 (T:Int),.int .i64 (N:Int),.slice ra R.length rc] 26);rw[hW1]at hx;have g0:W1.cell? ⟨w.heap.size,0,none⟩=some (.int .i64 (T:Int)):=qY hx rfl;have g1:W1.cell? ⟨w.heap.size,1,none⟩=some (.int .i64 (N:Int)):=qY hx rfl;have g2:W1.cell? ⟨w.heap.size,2,none⟩=some (.slice ra R.length rc):=qY hx rfl;have hr1:au W1 W1.heap.size (.slice ra R.length rc) R:=(hr.below hB1).mono hB1.size;have may:=lm (w:=W1) (T:=T) (N:=N) hr1;rw[hm]at may;have qx:Hid (Low T N R):=JW hm;have HW1:Hid (Below w.heap.size w W1/\W1.heap[w.heap.size]?=some (.cells #[.int .i64 (T:Int),.int .i64 (N:Int),.slice ra R.length rc] 26 (0,0))/\au W1 W1.heap.size (.slice ra R.length rc) R):=⟨hB1,hx,hr1⟩;have hcf:∀args w,(callFunc 63 args).run Tryz.prog w= .ok (.enter 63 args) w:=fun args w=>by simp[callFunc,Tryz.func63,Tryz.f63 ]
 clear hr hm hB1 hx hr1
 go_enter Tryz.func33,Tryz.ntmps33
 go_upto_region 5 with(go_at_call 49;refine may.mono ?_;rintro e w2 ⟨rfl,hB2⟩;have HB2:Hid (Below W1.heap.size W1 w2):=hB2;clear may hB2 g0 g1 g2 hW1)
 obtain⟨b,hb⟩:∃x,w2.heap.size=x:=⟨_,rfl⟩;obtain⟨W3,hW3⟩:∃V,w2.alloc (.cells #[.pointer none,.slice none 0 0] 32)=V:=⟨_,rfl⟩;have hI0:=Pm w2;rw[hW3,hb]at hI0;have Po:Below b w2 W3:=by rw[<-hW3,<-hb];exact(Below.refl _ _).alloc (Nat.le_refl _) _
 have hz3:W3.heap.size=b+1:=by rw[<-hW3,<-hb];simp
 rw[hW3];rw[hb]
 have HG:Hid (∀wq,Below b W3 wq->Pk w.heap.size T N ra R.length rc wq/\au wq b (.slice ra R.length rc) R/\Below w.heap.size w wq):=fun wq hq=>by
  have h1:Below b w2 wq:=Po.trans hq;have hs:W1.heap.size<=b:=by rw[<-hb];exact HB2.out.size
  have h2:Below W1.heap.size W1 wq:=HB2.out.trans (h1.mono hs);have hx:=(h2.block _ (Array.getElem?_eq_some_iff.1 HW1.out.2.1).1).trans HW1.out.2.1;exact⟨⟨qY hx rfl,qY hx rfl,qY hx rfl⟩,(HW1.out.2.2.below h2).mono hs,HW1.out.1.trans (h2.mono HW1.out.1.size)⟩
 have HI0:Hid (Lib.IsBuilderF 32 5 b b (Lib.byteCells []) W3/\W3.heap.size=b+1):=⟨hI0,hz3⟩;clear hI0 Po hz3 hW3 hb;obtain⟨Wd,hWd⟩:∃V,W3.drew=V:=⟨_,rfl⟩;have hBd:Below b W3 Wd:=by rw[<-hWd];exact(Below.refl _ _).drew
 have Pp:Lib.IsBuilderF 32 5 b b (Lib.byteCells []) Wd:=by rw[<-hWd];exact HI0.out.1
 have hzd:Wd.heap.size=b+1:=by rw[<-hWd];exact HI0.out.2
 have S0:=(HG.out Wd hBd).1;have HD:Hid (Below b W3 Wd/\Lib.IsBuilderF 32 5 b b (Lib.byteCells []) Wd/\Wd.heap.size=b+1):=⟨hBd,Pp,hzd⟩;clear hBd Pp hzd;refine lY [0,1,2,4,5] 4 8 (Pk w.heap.size T N ra R.length rc) (by kernel_rfl) (by kernel_rfl) (by rw[hWd];exact S0) ?_;rw[hWd];clear hWd
 iterate 5
  refine aO.Aa (v:= ?_) rfl (by rfl) ?_ ?_;rotate_left
  ·intro w' hSw
   obtain⟨z0,z1,z2⟩:=hSw
   go_simp
   try with_reducible rfl
  simp only[Act.put,List.setIfInBounds_toArray,List.set_cons_zero,List.set_cons_succ]
 rw[aO];have CB:=Fg T qx.out.t Wd;refine ax.one (i:=3) (by kernel_rfl) ⟨_,rfl,fun K hK=> ?_⟩
 go_simp
 refine CB.mono ?_;rintro e w4 ⟨rfl,h4⟩;obtain rfl:Wd=w4:=h4.symm;dsimp only;refine hK.out _ _ (fun _=>S0) ?_;clear hK CB;have CF:=Fg N qx.out.n Wd;refine ax.one (i:=6) (by kernel_rfl) ⟨_,rfl,fun K hK=> ?_⟩
 go_simp
 refine CF.mono ?_;rintro e w4 ⟨rfl,h4⟩;obtain rfl:Wd=w4:=h4.symm;dsimp only;refine hK.out _ _ (fun _=>S0) ?_;clear hK CF;have yG:Below b Wd (Wd.alloc (.cells (kK [[116,101,114,109,115,32],Lib.decDigits T,[32,110,97,109,101,115,32],Lib.decDigits N,[10]]).toArray 9)):=(Below.refl _ _).alloc (by have:=HD.out.2.2;omega) _;have pu:=FH (w:=Wd.alloc (.cells (kK [[116,101,114,109,115,32],Lib.decDigits T,[32,110,97,109,101,115,32],Lib.decDigits N,[10]]).toArray 9)) (B:=b) (b:=b) (sb:=Wd.heap.size) (S:=[[116,101,114,109,115,32],Lib.decDigits T,[32,110,97,109,101,115,32],Lib.decDigits N,[10]]) (acc:=[]) (HD.out.2.1.alloc _) (heap_alloc_new _ _) (by have:=HD.out.2.2;omega) (by have:=HD.out.2.2;simp;omega) (by have h1:=wK qx.out.t;have h2:=wK qx.out.n;simp;omega) (by simp);have hS1:=(HG.out _ (HD.out.1.trans yG)).1;simp only[kK,List.map_cons,List.map_nil]at yG pu hS1;refine ax.one (i:=7) (by kernel_rfl) ⟨_,rfl,fun K hK=> ?_⟩
 go_simp
 refine hK.out _ _ (fun _=>hS1) ?_;clear hK;refine ax.last (i:=8) (by kernel_rfl) ⟨_,rfl,fun K hK=> ?_⟩
 go_simp
 refine pu.mono ?_;rintro e w5 ⟨rfl,Pq,ak,-⟩;dsimp only;refine hK.out _ _ (fun h=>absurd h (by omega)) (NoPanic.normal ?_);clear hK pu
 have yH:Hid (Lib.IsBuilderF 32 5 b b (Lib.byteCells (tq T N)) w5/\Below b W3 w5):=by
  refine⟨?_,HD.out.1.trans (yG.trans ak)⟩;have e:[]++[[116,101,114,109,115,32],Lib.decDigits T,[32,110,97,109,101,115,32],Lib.decDigits N,[10]].flatten=tq T N:=by simp[tq]
  rw[<-e];exact Pq
 obtain⟨z0,z1,z2⟩:=(HG.out w5 yH.out.2).1;clear Pq ak yG hS1 S0 HD HI0
 go_wp2_with fail
 clear z0 z1 z2
 go_loopw [26] (fun Yo wr=> ∃k:Nat,Yo= .int .i64 k/\k<=R.length/\Lib.IsBuilderF 32 5 b b (Lib.byteCells (tq T N++((R.take k).map nQ).flatten)) wr/\Below b W3 wr/\b<wr.heap.size) (fun s _=>R.length-(intOf s).toNat)
 case atStart=>
  refine⟨0,rfl,Nat.zero_le _,?_,yH.out.2,?_⟩
  ·rw[List.take_zero,List.map_nil,List.flatten_nil,List.append_nil];exact yH.out.1
  ·exact wL yH.out.1
 case round=>
  clear yH;obtain⟨k,rfl,hk,hI,hB,hlb⟩:=hrel;have afH:=qx.out.r;obtain⟨wo,hwo⟩:∃x,x=wr:=⟨_,rfl⟩;subst hwo;have HR:Hid (Lib.IsBuilderF 32 5 b b (Lib.byteCells (tq T N++((R.take k).map nQ).flatten)) wo/\Below b W3 wo/\b<wo.heap.size):=⟨hI,hB,hlb⟩;clear hI hB hlb;by_cases hlt:k<R.length
  ·obtain⟨b0,o0,qy,qa,qc,hv,-,k1,k2',-,hsy⟩:=(HG.out wo HR.out.2.1).2.1.2 k hlt
   have k2:wo.cell? ⟨b0,o0+k*2+1,none⟩=some (.slice qa (R.getD k (0,[])).2.length qc):=k2';clear k2';injection hv with hv1 _ hv3;subst hv1;subst hv3;have hstep:=Pj nQ hlt;rw[<-Cz (d:=(0,[])) hlt]at hstep;have hpl:=qx.out.part k;have Yp:=JX qx.out;have hll:=qx.out.Ph hlt;have hsl:=fun j=>qx.out.Ym hlt j;have hsm:=qx.out.sym k hlt;have hsn:=qx.out.len k hlt;obtain⟨m,hm,hm1⟩:=qx.out.left k hlt;obtain⟨⟨L,l⟩,hx⟩:∃x,R.getD k (0,[])=x:=⟨_,rfl⟩;rw[hx]at k1 k2 hsy hstep hll hsl hsm hsn hm;simp only at k1 k2 hsy hll hsl hsm hsn hm;subst hm;obtain⟨acc,hacc⟩:∃a,tq T N++((R.take k).map nQ).flatten=a:=⟨_,rfl⟩;have hal:acc.length<=1700:=by rw[<-hacc,List.length_append];omega
   rw[hacc]at HR;have HLen:Hid (acc.length<=1700/\(qw (m:Int)).length<=4):=⟨hal,hll⟩
   have jU:Hid (tq T N++((R.take (k+1)).map nQ).flatten=acc++nQ ((m:Int),l)):=by
    show _=_;rw[hstep,<-List.append_assoc,hacc]
   obtain⟨W8,Ab⟩:∃V,wo.alloc (.cells #[.int .i64 (m:Int),.slice qa l.length qc] 91)=V:=⟨_,rfl⟩;have mq:Below b wo W8:=by rw[<-Ab];exact(Below.refl _ _).alloc (Nat.le_of_lt HR.out.2.2) _
   have wM:Lib.IsBuilderF 32 5 b b (Lib.byteCells acc) W8:=by rw[<-Ab];exact HR.out.1.alloc _
   have CG:=heap_alloc_new wo (.cells #[.int .i64 (m:Int),.slice qa l.length qc] 91);rw[Ab]at CG;obtain⟨rb,hrb⟩:∃x,wo.heap.size=x:=⟨_,rfl⟩;have Yq:W8.heap.size=rb+1:=by rw[<-Ab,<-hrb];simp
   rw[hrb]at CG;have c0:W8.cell? ⟨rb,0,none⟩=some (.int .i64 (m:Int)):=qY CG rfl;have Pt:b<rb:=by rw[<-hrb];exact HR.out.2.2
   have CB:=Fg m hm1 W8;have pu:=FH (w:=W8.alloc (.cells (kK [[110],Lib.decDigits m,[58]]).toArray 9)) (B:=b) (b:=b) (sb:=W8.heap.size) (S:=[[110],Lib.decDigits m,[58]]) (acc:=acc) (wM.alloc _) (heap_alloc_new _ _) (by omega) (by simp;omega) (by have h1:=wK hm1;simp;omega) (by simp);have uI:Below b W8 (W8.alloc (.cells (kK [[110],Lib.decDigits m,[58]]).toArray 9)):=(Below.refl _ _).alloc (by omega) _;have qR:(W8.alloc (.cells (kK [[110],Lib.decDigits m,[58]]).toArray 9)).heap[rb]?=some (.cells #[.int .i64 (m:Int),.slice qa l.length qc] 91 (0,0)):=(heap_alloc_old W8 _ (by omega)).trans CG;simp only[kK,List.map_cons,List.map_nil]at pu uI qR;have nI:Hid (Below b wo W8/\Below b W8 (W8.alloc (.cells #[.string ⟨[110].toArray⟩,.string ⟨(Lib.decDigits m).toArray⟩,.string ⟨[58].toArray⟩] 9))/\(W8.alloc (.cells #[.string ⟨[110].toArray⟩,.string ⟨(Lib.decDigits m).toArray⟩,.string ⟨[58].toArray⟩] 9)).heap[rb]?=some (.cells #[.int .i64 (m:Int),.slice qa l.length qc] 91 (0,0))/\b<rb):=⟨mq,uI,qR,Pt⟩
   have jH:Hid (∀wq,Below b wo wq->∀j,j<l.length->∃b' o',qa=some ⟨b',o',none⟩/\wq.cell? ⟨b',o'+j*2,none⟩=some (.bool (l.getD j (false,0)).1)/\wq.cell? ⟨b',o'+j*2+1,none⟩=some (.int .i64 (l.getD j (false,0)).2)):=fun wq hq j hj=>by
    obtain⟨b',o',h1,h2,h3,h4⟩:=hsy j hj;exact⟨b',o',h1,(hq.cell h2).trans h3,(hq.cell h2).trans h4⟩
   have JY:Hid (wo.alloc (.cells #[.int .i64 (m:Int),.slice qa l.length qc] 91)=W8/\wo.heap.size=rb):=⟨Ab,hrb⟩;have i0:(0:Int)<=(k:Int):=Int.natCast_nonneg _;have i1:(k:Int)<(R.length:Int):=by omega
   clear hsy hstep hpl Yp hll hx hacc mq wM CG Yq Pt uI qR Ab hrb
   go_upto_region 9 with fail
   rw[JY.out.1];rw[JY.out.2]
   go_wp2_with
    (first
     |(go_at_call 55;refine CB.mono ?_;rintro e w9 ⟨rfl,h9⟩;obtain rfl:W8=w9:=h9.symm;clear CB)
     |(go_at_call 63;refine pu.mono ?_;rintro e w9 ⟨rfl,Pv,uI,Pw⟩
       have qR:=Pw rb _ nI.out.2.2.1 (fun e=>by have:=nI.out.2.2.2;have:=Option.some.inj e;omega) (fun _ _ e=>by cases e);have c1:w9.cell? ⟨rb,1,none⟩=some (.slice qa l.length qc):=qY qR rfl
       have JZ:Hid (Lib.IsBuilderF 32 5 b b (Lib.byteCells (acc++qw (m:Int))) w9/\Below b wo w9/\b<w9.heap.size):=by
        refine⟨?_,nI.out.1.trans (nI.out.2.1.trans uI),?_⟩
        ·have e:acc++[[110],Lib.decDigits m,[58]].flatten=acc++qw (m:Int):=by simp[qw]
         rw[<-e];exact Pv
        ·have:=(Array.getElem?_eq_some_iff.1 qR).1
         have:=nI.out.2.2.2;omega
       clear pu Pv uI Pw qR))
   clear c1 c0 k1 k2
   go_loopw [39] (fun Yr wq=> ∃j:Nat,Yr= .int .i64 j/\j<=l.length/\Lib.IsBuilderF 32 5 b b (Lib.byteCells (acc++qw (m:Int)++((l.take j).map lC).flatten)) wq/\Below b wo wq/\b<wq.heap.size) (fun s _=>l.length-(intOf s).toNat)
   case atStart=>
    refine⟨0,rfl,Nat.zero_le _,?_,JZ.out.2⟩;rw[List.take_zero,List.map_nil,List.flatten_nil,List.append_nil];exact JZ.out.1
   case round=>
    clear JZ nI JY;obtain⟨j,rfl,hj,Px,mr,hlq⟩:=hrel;have HQ:Hid (Lib.IsBuilderF 32 5 b b (Lib.byteCells (acc++qw (m:Int)++((l.take j).map lC).flatten)) wr/\Below b wo wr/\b<wr.heap.size):=⟨Px,mr,hlq⟩;clear Px mr hlq;by_cases hjl:j<l.length
    ·obtain⟨b1,o1,oO,d1,d2⟩:=jH.out wr HQ.out.2.1 j hjl
     subst oO;obtain⟨v,hv,hv1⟩:=hsm j hjl;have hnx:=Pj lC hjl;rw[<-Cz (d:=(false,0)) hjl]at hnx;have hle:=hsl j;have hle2:=hsl (j+1);obtain⟨⟨t,v'⟩,hx⟩:∃x,l.getD j (false,0)=x:=⟨_,rfl⟩;rw[hx]at d1 d2 hv hnx;simp only at d1 d2 hv;subst hv;obtain⟨mD,uR⟩:∃a,acc++qw (m:Int)++((l.take j).map lC).flatten=a:=⟨_,rfl⟩
     have Yt:mD.length<=2000:=by
      rw[<-uR,List.length_append,List.length_append];have:=HLen.out;omega
     have Cw:Hid (acc++qw (m:Int)++((l.take (j+1)).map lC).flatten=mD++lC (t,(v:Int))):=by
      show _=_;rw[hnx,<-List.append_assoc,uR]
     rw[uR]at HQ;obtain⟨Ws,hWs⟩:∃V,wr.alloc (.cells #[.bool t,.int .i64 (v:Int)] 116)=V:=⟨_,rfl⟩;have yG:Below b wr Ws:=by rw[<-hWs];exact(Below.refl _ _).alloc (Nat.le_of_lt HQ.out.2.2) _
     have hIs:Lib.IsBuilderF 32 5 b b (Lib.byteCells mD) Ws:=by rw[<-hWs];exact HQ.out.1.alloc _
     have hxs:=heap_alloc_new wr (.cells #[.bool t,.int .i64 (v:Int)] 116);rw[hWs]at hxs;obtain⟨p9,CJ⟩:∃x,wr.heap.size=x:=⟨_,rfl⟩;have hzs:Ws.heap.size=p9+1:=by rw[<-hWs,<-CJ];simp
     rw[CJ]at hxs;have Py:b<p9:=by rw[<-CJ];exact HQ.out.2.2
     have Pz:Hid (wr.alloc (.cells #[.bool t,.int .i64 (v:Int)] 116)=Ws/\wr.heap.size=p9):=⟨hWs,CJ⟩;have HS:Hid (Below b wr Ws/\Lib.IsBuilderF 32 5 b b (Lib.byteCells mD) Ws/\Ws.heap[p9]?=some (.cells #[.bool t,.int .i64 (v:Int)] 116 (0,0))/\b<p9/\Ws.heap.size=p9+1):=⟨yG,hIs,hxs,Py,hzs⟩;have i2:(0:Int)<=(j:Int):=Int.natCast_nonneg _;have i3:(j:Int)<(l.length:Int):=by omega
     clear hnx hle hle2 hx uR hWs yG hIs hxs CJ hzs Py
     go_upto_region 13 with fail
     rw[Pz.out.1];rw[Pz.out.2];clear d1 d2;obtain⟨qZ,Ac⟩:∃V,Ws.drew=V:=⟨_,rfl⟩;have FJ:Below Ws.heap.size Ws qZ:=by rw[<-Ac];exact(Below.refl _ _).drew
     have hI2:Lib.IsBuilderF 32 5 b b (Lib.byteCells mD) qZ:=by rw[<-Ac];exact HS.out.2.1
     have hz2:qZ.heap.size=p9+1:=by rw[<-Ac];exact HS.out.2.2.2.2
     have HSc:Hid (∀wq,Below qZ.heap.size qZ wq->wq.cell? ⟨p9,0,none⟩=some (.bool t)/\wq.cell? ⟨p9,1,none⟩=some (.int .i64 (v:Int))):=fun wq hq=>by
      have h1:Below Ws.heap.size Ws wq:=FJ.trans (hq.mono FJ.size);have hx:=(h1.block _ (Array.getElem?_eq_some_iff.1 HS.out.2.2.1).1).trans HS.out.2.2.1;exact⟨qY hx rfl,qY hx rfl⟩
     have S1:=HSc.out qZ (Below.refl _ _);have HD2:Hid (Below b wr qZ/\Lib.IsBuilderF 32 5 b b (Lib.byteCells mD) qZ/\qZ.heap.size=p9+1):=⟨HS.out.1.trans (FJ.mono (by have:=HS.out.2.2.2;omega)),hI2,hz2⟩;have mk:=Yi (w:=qZ) (t:=t) (v:=(v:Int));clear FJ hI2 hz2;refine lY [0,1,3,4] 4 7 (fun wq=>wq.cell? ⟨p9,0,none⟩=some (.bool t)/\wq.cell? ⟨p9,1,none⟩=some (.int .i64 (v:Int))) (by kernel_rfl) (by kernel_rfl) (by rw[Ac];exact S1) ?_;rw[Ac];clear Ac S1
     iterate 4
      refine aO.Aa (v:= ?_) rfl (by rfl) ?_ ?_;rotate_left
      ·intro w' hSw
       obtain⟨z0,z1⟩:=hSw
       go_simp
       try with_reducible rfl
      simp only[Act.put,List.setIfInBounds_toArray,List.set_cons_zero,List.set_cons_succ]
     rw[aO];refine ax.one (i:=2) (by kernel_rfl) ⟨_,rfl,fun K hK=> ?_⟩
     go_simp
     refine mk.mono ?_;rintro e w6 ⟨rfl,aQ⟩;dsimp only;refine hK.out _ _ (fun _=>HSc.out w6 aQ) ?_;clear hK mk;have CF:=Fg v hv1 w6;refine ax.one (i:=5) (by kernel_rfl) ⟨_,rfl,fun K hK=> ?_⟩
     go_simp
     refine CF.mono ?_;rintro e w7 ⟨rfl,h7⟩;obtain rfl:w6=w7:=h7.symm;dsimp only;refine hK.out _ _ (fun _=>HSc.out w6 aQ) ?_;clear hK CF;have PD:Lib.IsBuilderF 32 5 b b (Lib.byteCells mD) w6:=Pn HD2.out.2.1 aQ;have PE:Below b qZ w6:=aQ.mono (by have:=HD2.out.2.2;have:=HS.out.2.2.2;omega);have oM:p9+1<=w6.heap.size:=by have:=aQ.size;have:=HD2.out.2.2;omega
     have J2:=FH (w:=w6.alloc (.cells (kK [[32],[if t then 116 else 110],Lib.decDigits v]).toArray 9)) (B:=b) (b:=b) (sb:=w6.heap.size) (S:=[[32],[if t then 116 else 110],Lib.decDigits v]) (acc:=mD) (PD.alloc _) (heap_alloc_new _ _) (by have:=HS.out.2.2.2;omega) (by have:=HS.out.2.2.2;simp;omega) (by have h1:=wK hv1;simp;omega) (by simp);have hBa:Below b w6 (w6.alloc (.cells (kK [[32],[if t then 116 else 110],Lib.decDigits v]).toArray 9)):=(Below.refl _ _).alloc (by have:=HS.out.2.2.2;omega) _;have J3:=HSc.out _ (aQ.alloc aQ.size (.cells (kK [[32],[if t then 116 else 110],Lib.decDigits v]).toArray 9));simp only[kK,List.map_cons,List.map_nil]at J2 hBa J3;refine ax.one (i:=6) (by kernel_rfl) ⟨_,rfl,fun K hK=> ?_⟩
     go_simp
     refine hK.out _ _ (fun _=>J3) ?_;clear hK;refine ax.last (i:=7) (by kernel_rfl) ⟨_,rfl,fun K hK=> ?_⟩
     go_simp
     refine J2.mono ?_;rintro e w8 ⟨rfl,wM,mq,-⟩;dsimp only;refine hK.out _ _ (fun h=>absurd h (by omega)) (NoPanic.normal ?_);clear hK J2
     have yI:Hid (Lib.IsBuilderF 32 5 b b (Lib.byteCells (mD++lC (t,(v:Int)))) w8/\Below b wo w8):=by
      refine⟨?_,HQ.out.2.1.trans (HD2.out.1.trans (PE.trans (hBa.trans mq)))⟩;have e:mD++[[32],[if t then 116 else 110],Lib.decDigits v].flatten=mD++lC (t,(v:Int)):=by simp[lC]
      rw[<-e];exact wM
     clear PD PE oM hBa J3 wM mq aQ HSc
     go_wp2_with fail
     go_roundw
     case rel=>
      refine⟨j+1,by go_num,by omega,?_,yI.out.2,wL yI.out.1⟩;rw[Cw.out];exact yI.out.1
     case measure=>simp[intOf];omega
    ·have hjj:j=l.length:=by omega
     have hI1:=HQ.out.1;rw[hjj,List.take_length]at hI1;obtain⟨mD,uR⟩:∃a,acc++qw (m:Int)++(l.map lC).flatten=a:=⟨_,rfl⟩
     have Yt:mD.length<=2000:=by
      rw[<-uR,List.length_append,List.length_append];have h1:=HLen.out;have h2:=hsl l.length;rw[List.take_length]at h2;omega
     rw[uR]at hI1
     have Yu:Hid (acc++nQ ((m:Int),l)=mD++[10]):=by
      show _=_;rw[<-uR];simp[nQ]
     have J4:=FH (w:=wr.alloc (.cells (kK [[10]]).toArray 9)) (B:=b) (b:=b) (sb:=wr.heap.size) (S:=[[10]]) (acc:=mD) (hI1.alloc _) (heap_alloc_new _ _) (by have:=HQ.out.2.2;omega) (by have:=HQ.out.2.2;simp;omega) (by simp;omega) (by simp);have PG:Hid (Below b wr (wr.alloc (.cells (kK [[10]]).toArray 9))):=(Below.refl _ _).alloc (Nat.le_of_lt HQ.out.2.2) _;simp only[kK,List.map_cons,List.map_nil]at J4 PG;clear hjj uR hI1
     go_wp2_with
      (go_at_call 63;refine J4.mono ?_;rintro e w8 ⟨rfl,wM,mq,-⟩
       have yI:Hid (Lib.IsBuilderF 32 5 b b (Lib.byteCells (mD++[10])) w8/\Below b W3 w8):=⟨wM,HR.out.2.1.trans (HQ.out.2.1.trans (PG.out.trans mq))⟩
       clear J4 wM mq)
     go_roundw
     case rel=>
      refine⟨k+1,by go_num,by omega,?_,yI.out.2,wL yI.out.1⟩;rw[jU.out,Yu.out];exact yI.out.1
     case measure=>simp[intOf];omega
  ·have hkk:k=R.length:=by omega
   have hI1:=HR.out.1;rw[hkk,List.take_length]at hI1;have st:=NJ b b (oP T N R) wo hI1 (Nat.le_of_lt HR.out.2.2);obtain⟨tx,htx⟩:∃z,(⟨(oP T N R).toArray⟩:ByteArray)=z:=⟨_,rfl⟩;rw[htx]at st;have Yv:Hid ((⟨(oP T N R).toArray⟩:ByteArray)=tx):=htx;clear hkk hI1 htx
   go_wp2_with
    (go_at_call 8;refine st.mono ?_;rintro e w8 ⟨rfl,-,mq,-⟩
     have CK:Hid (Below b W3 w8):=HR.out.2.1.trans mq
     clear st mq)
   refine bodyPost_ret (v:= .tuple #[.string tx,.int .i64 0]) (by simp[results,Tryz.results33,go_sem]) rfl ?_;exact⟨by rw[Yv.out],(HG.out w8 CK.out).2.2⟩
end
theorem PI{N:Nat}{R:List Ru}{O:List Int}(h:nN N R O):∀x∈O,fQ x:=by
 intro x hx;obtain⟨i,hi,rfl⟩:=List.getElem_of_mem hx;have hN:i<N:=by have:=h.len;omega
 have e:O[i]=O.getD i 0:=by simp[List.getD,hi]
 rw[e];unfold fQ;by_cases h0:O.getD i 0<0
 ·have:=(h.none i hN h0).1
  omega
 ·have:=(JO (h.some i hN (by omega)).1).2
  unfold lid at this;omega
section
variable{w w':World}{pb B G:Nat}{rv:Value}{p:bQ}
theorem Yw{x:Int}(hE:cB G w)(hG:G<=w.heap.size)(hx:fQ x):Calls Tryz.prog 29 #[.slice (some ⟨w.heap.size,0,none⟩) 1 1] (w.alloc (.cells #[.int .i64 x] 3)) fun e w'=>e= .returned (.string ⟨(jh [x]).toArray⟩)/\Below w.heap.size w w':=by
 have hb:Below w.heap.size w (w.alloc (.cells #[.int .i64 x] 3)):=(Below.refl _ _).alloc (Nat.le_refl _) _;exact(Cj (hE.below hb hG) (Nat.le_trans hG hb.size) (OP w x) (by simp) (fun y hy=>by rw[List.mem_singleton.1 hy];exact hx)).mono fun e w' ⟨h1,h2⟩=>⟨h1,hb.trans (h2.mono hb.size)⟩
theorem Yx(h:aZ w pb B rv p)(hE:cB G w)(hG:G<=pb)(hm:aD p.T p.N p.R=true):Calls Tryz.prog 19 #[.pointer (some ⟨pb,0,none⟩)] w fun e w'=>e= .returned (.string ⟨(jh [((oP p.T p.N p.R).length:Int)]).toArray⟩)/\Below w.heap.size w w':=by
 obtain⟨c0,c1,c2,-⟩:=h.cells;obtain⟨ra,rc,aG⟩:=h.rules.at.1;subst aG;have pr:=Yn (T:=p.T) (N:=p.N) h.rules.at hm
 have hlen:(oP p.T p.N p.R).length<=4611686018427387904:=by
  have hl:=JW hm;have h1:=JX hl;have h2:=hl.part p.R.length;rw[List.take_length]at h2;unfold oP;rw[List.length_append];omega
 obtain⟨z,hz⟩:∃z,oP p.T p.N p.R=z:=⟨_,rfl⟩;rw[hz]at pr hlen⊢;have hpb:=h.below
 have HT:Hid (∀wq,Below w.heap.size w wq->Calls Tryz.prog 29 #[.slice (some ⟨wq.heap.size,0,none⟩) 1 1] (wq.alloc (.cells #[.int .i64 (z.length:Int)] 3)) fun e w'=>e= .returned (.string ⟨(jh [(z.length:Int)]).toArray⟩)/\Below wq.heap.size wq w'):=fun wq hq=>
  Yw (hE.below hq (by omega)) (by have:=hq.size;omega) ⟨by omega,by omega⟩
 clear h hE hz hm
 go_enter Tryz.func19,Tryz.ntmps19
 go_wp2_with
  (first
   |(go_at_call 33;refine pr.mono ?_;rintro e w2 ⟨rfl,h2⟩
     have dg:=HT.out w2 h2;have H2:Hid (Below w.heap.size w w2):=h2
     clear pr h2)
   |(go_at_call 29;refine dg.mono ?_;rintro e w3 ⟨rfl,h3⟩
     have H3:Hid (Below w.heap.size w w3):=H2.out.trans (h3.mono H2.out.size)
     clear dg h3))
 go_ret;exact⟨rfl,H3.out⟩
theorem Yy(h:aZ w pb B rv p)(hE:cB G w)(hG:G<=pb)(hm:aD p.T p.N p.R=true):Calls Tryz.prog 17 #[.pointer (some ⟨pb,0,none⟩)] w fun e w'=> ∃O,nN p.N p.R O/\e= .returned (.string ⟨(jh O).toArray⟩)/\Below w.heap.size w w':=by
 obtain⟨c0,c1,c2,-⟩:=h.cells;obtain⟨ra,rc,aG⟩:=h.rules.at.1;subst aG;have sh:=Yf (T:=p.T) (N:=p.N) h.rules.at hm;have hN:=(fV hm).2.2.1;have hpb:=h.below
 have HT:Hid (∀wq g O,Below w.heap.size w wq->dR wq w.heap.size g p.N O->nN p.N p.R O->Calls Tryz.prog 29 #[.slice (some ⟨g,0,none⟩) p.N p.N] wq fun e w'=>e= .returned (.string ⟨(jh O).toArray⟩)/\Below wq.heap.size wq w'):=fun wq g O hq hr hi=>
  Cj (hE.below hq (by omega)) (by have:=hq.size;omega) hr.list (by have:=hr.len;omega) (PI hi)
 clear h hE hm
 go_enter Tryz.func17,Tryz.ntmps17
 go_wp2_with
  (first
   |(go_at_call 30;refine sh.mono ?_;rintro e w2 ⟨g,O,rfl,h2,h3,h4⟩
     have dg:=HT.out w2 g O h2 h3 h4;have H2:Hid (Below w.heap.size w w2/\nN p.N p.R O):=⟨h2,h4⟩
     clear sh h2 h3 h4)
   |(go_at_call 29;refine dg.mono ?_;rintro e w3 ⟨rfl,h3⟩
     have H3:Hid (Below w.heap.size w w3):=H2.out.1.trans (h3.mono H2.out.1.size)
     clear dg h3))
 go_ret;exact⟨O,H2.out.2,rfl,H3.out⟩
end
end Go.Proofs.YtblkkhfdeaaidaaGreatDoor
namespace Go.Proofs.YtblkkhfdeaaidaaGreatDoor
def lD(A:Int->List Int->Prop):List Sy->List Int->Prop
 | [],Z=>Z=[]
 |(true,v)::l,Z=> ∃Z',Z=v::Z'/\lD A l Z'
 |(false,n)::l,Z=> ∃Z1 Z2,Z=Z1++Z2/\A n Z1/\lD A l Z2
def CO(R:List Ru)(A:Int->List Int->Prop)(n:Int)(Z:List Int):Prop:=∃r∈R,r.1=n/\lD A r.2 Z
def tu(R:List Ru):Nat->Int->List Int->Prop
 |0,_,_=>False
 |k+1,n,Z=>CO R (tu R k) n Z
def lF(R:List Ru)(n:Int)(Z:List Int):Prop:=∃k,tu R k n Z
theorem lD.mono{A B:Int->List Int->Prop}(h:∀n Z,A n Z->B n Z):∀{l:List Sy} {Z:List Int},lD A l Z->lD B l Z:=by
 intro l
 induction l with
 |nil=>intro Z hZ;exact hZ
 |cons s l ih=>
  intro Z hZ;obtain⟨b,n⟩:=s;cases b with
  |true=>obtain⟨Z',h1,h2⟩:=hZ;exact⟨Z',h1,ih h2⟩
  |false=>obtain⟨Z1,Z2,h1,h2,h3⟩:=hZ;exact⟨Z1,Z2,h1,h _ _ h2,ih h3⟩
theorem CO.mono{R:List Ru}{A B:Int->List Int->Prop}(h:∀n Z,A n Z->B n Z){n:Int}{Z:List Int}(hZ:CO R A n Z):CO R B n Z:=by
 obtain⟨r,h1,h2,h3⟩:=hZ;exact⟨r,h1,h2,h3.mono h⟩
theorem Yz{R:List Ru}:∀k n Z,tu R k n Z->tu R (k+1) n Z:=by
 intro k
 induction k with
 |zero=>intro n Z h;exact h.elim
 |succ k ih=>intro n Z h;exact CO.mono ih h
theorem PK{R:List Ru}{k m:Nat}(h:k<=m):∀n Z,tu R k n Z->tu R m n Z:=by
 induction h with
 |refl=>intro n Z h;exact h
 |step _ ih=>intro n Z h;exact Yz _ _ _ (ih n Z h)
theorem YA{R:List Ru}:∀{l:List Sy} {Z:List Int},lD (lF R) l Z->∃k,lD (tu R k) l Z:=by
 intro l
 induction l with
 |nil=>intro Z h;exact⟨0,h⟩
 |cons s l ih=>
  intro Z h;obtain⟨b,n⟩:=s;cases b with
  |true=>
   obtain⟨Z',h1,h2⟩:=h;obtain⟨k,hk⟩:=ih h2;exact⟨k,Z',h1,hk⟩
  |false=>
   obtain⟨Z1,Z2,h1,⟨m,h2⟩,h3⟩:=h;obtain⟨k,hk⟩:=ih h3;exact⟨max m k,Z1,Z2,h1,PK (Nat.le_max_left _ _) _ _ h2,hk.mono (PK (Nat.le_max_right _ _))⟩
theorem YB{R:List Ru}{r:Ru}(hr:r∈R){Z:List Int}(h:lD (lF R) r.2 Z):lF R r.1 Z:=by
 obtain⟨k,hk⟩:=YA h;exact⟨k+1,r,hr,rfl,hk⟩
section
variable{R:List Ru}
end
def part(tok:List Int)(i j:Nat):List Int:=(tok.drop i).take (j-i)
theorem PN(tok:List Int)(i:Nat):part tok i i=[]:=by simp[part]
theorem PO(tok:List Int):part tok 0 tok.length=tok:=by simp[part]
theorem FK{tok:List Int}{i j:Nat}(h:i<=j)(hj:j<=tok.length):(part tok i j).length=j-i:=by
 simp[part];omega
theorem PS{tok:List Int}{i j:Nat}(h:i<j)(hj:j<=tok.length):part tok i j=tok.getD i 0::part tok (i+1) j:=by
 have hi:i<tok.length:=by omega
 unfold part;rw[List.drop_eq_getElem_cons hi,show j-i=(j-(i+1))+1 by omega,List.take_succ_cons];simp[List.getD,hi]
theorem J5{tok:List Int}{i m j:Nat}(h1:i<=m)(h2:m<=j):part tok i j=part tok i m++part tok m j:=by
 unfold part;have e:tok.drop m=(tok.drop i).drop (m-i):=by rw[List.drop_drop];congr 1;omega
 rw[e,show j-i=(m-i)+(j-m) by omega,List.take_add]
theorem YC{tok Z1 Z2:List Int}{i j:Nat}(h:i<=j)(hj:j<=tok.length)(e:part tok i j=Z1++Z2):i+Z1.length<=j/\Z1=part tok i (i+Z1.length)/\Z2=part tok (i+Z1.length) j:=by
 have hl:=FK h hj;have hl2:Z1.length+Z2.length=j-i:=by rw[<-hl,e];simp
 have hle:i+Z1.length<=j:=by omega
 have e2:=J5 (tok:=tok) (i:=i) (m:=i+Z1.length) (j:=j) (by omega) hle;rw[e]at e2;have hl3:(part tok i (i+Z1.length)).length=Z1.length:=by rw[FK (by omega) (by omega)];omega
 obtain⟨a,b⟩:=List.append_inj e2 hl3.symm;exact⟨hle,a,b⟩
section
variable{K:Nat->Nat->Nat->Bool}{tok:List Int}{upto:Nat}
end
end Go.Proofs.YtblkkhfdeaaidaaGreatDoor
