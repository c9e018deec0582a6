import Derived.Test.YtblkkhfdeaaidaaGreatDoorConcYAndStOutP
import Derived.Test.YtblkkhfdeaaidaaGreatDoorHeldAnyAndTxLn
import Derived.BigQuiet
import Derived.Test.YtblkkhfdeaaidaaGreatDoorTxPaAndLfp
import Derived.Test.YtblkkhfdeaaidaaGreatDoorDrAsk2AndConcR
import Derived.Test.YtblkkhfdeaaidaaGreatDoorChartOfAndSpreadMath
import Derived.Test.YtblkkhfdeaaidaaGreatDoorLooksMathAndTabMath
import Derived.Test.YtblkkhfdeaaidaaGreatDoorTxRlsAndMayG
import Derived.Deep.RegionLaw
import Derived.Deep.RegionWith
import Derived.Deep.Cut
import Derived.Deep.CutRange
import Derived.Deep.DrawnRows
set_option maxHeartbeats 6400000
set_option maxRecDepth 100000
namespace Go.Proofs.YtblkkhfdeaaidaaGreatDoor
open Go.RowKit
theorem aB{w:World}{b i:Nat}{cs:Array Value}{ty:TypeId}{f:Nat×Nat}{u:Value}(h:w.heap[b]?=some (.cells cs ty f))(hu:cs[i]?=some u):w.cell? ⟨b,i,none⟩=some u:=by
 unfold World.cell?;simp[h,hu]
theorem MS{w:World}{b i:Nat}{cs:Array Value}{ty:TypeId}(h:w.heap[b]?=some (.cells cs ty (0,0))):w.frozen? ⟨b,i,none⟩=false:=by
 unfold World.frozen?;simp[h]
structure bI(w:World)(cs:Array Value)(ty:TypeId)(ra:Option Addr)(rc:Nat)(R:List Ru)(wq:World):Prop where
 blk:wq.heap[w.heap.size]?=some (.cells cs ty (0,0))
 res:wq.heap[w.heap.size+1]?=some (.cells #[.int .i64 0,.int .i64 0,.slice none 0 0] 26 (0,0))
 rules:au wq w.heap.size (.slice ra R.length rc) R
 below:Below w.heap.size w wq
section
variable{w wq w':World}{cs:Array Value}{ty:TypeId}{ra:Option Addr}{rc:Nat}{R:List Ru}
theorem bI.size(h:bI w cs ty ra rc R wq):w.heap.size+2<=wq.heap.size:=by
 have:=(Array.getElem?_eq_some_iff.1 h.res).1;omega
theorem bI.later(h:bI w cs ty ra rc R wq)(hb:Below (w.heap.size+2) wq w'):bI w cs ty ra rc R w':=
 ⟨(hb.block _ (by omega)).trans h.blk,(hb.block _ (by omega)).trans h.res,h.rules.below (hb.mono (by omega)),h.below.trans (hb.mono (by omega))⟩
theorem bI.next(h:bI w cs ty ra rc R wq)(hb:Below wq.heap.size wq w'):bI w cs ty ra rc R w':=h.later (hb.mono h.size)
theorem bI.cell(h:bI w cs ty ra rc R wq){i:Nat}{u:Value}(hu:cs[i]?=some u):wq.cell? ⟨w.heap.size,i,none⟩=some u:=aB h.blk hu
theorem IG(hr:au w w.heap.size (.slice ra R.length rc) R):bI w cs ty ra rc R ((w.alloc (.cells cs ty)).alloc (.cells #[.int .i64 0,.int .i64 0,.slice none 0 0] 26)):=by
 have hB:Below w.heap.size w ((w.alloc (.cells cs ty)).alloc (.cells #[.int .i64 0,.int .i64 0,.slice none 0 0] 26)):=((Below.refl _ _).alloc (Nat.le_refl _) _).alloc (by simp) _;refine⟨?_,?_,hr.below hB,hB⟩
 ·rw[((Below.refl (w.alloc (.cells cs ty)).heap.size _).alloc (Nat.le_refl _) _).block w.heap.size (by simp)]
  exact heap_alloc_new _ _
 ·have:=heap_alloc_new (w.alloc (.cells cs ty)) (.cells #[.int .i64 0,.int .i64 0,.slice none 0 0] 26)
  simpa using this
theorem bI.y0(h:bI w cs ty ra rc R wq):wq.cell? ⟨w.heap.size+1,0,none⟩=some (.int .i64 0):=aB h.res rfl
theorem bI.y1(h:bI w cs ty ra rc R wq):wq.cell? ⟨w.heap.size+1,1,none⟩=some (.int .i64 0):=aB h.res rfl
theorem bI.y2(h:bI w cs ty ra rc R wq):wq.cell? ⟨w.heap.size+1,2,none⟩=some (.slice none 0 0):=aB h.res rfl
theorem bI.yf(h:bI w cs ty ra rc R wq)(o:Nat):wq.frozen? ⟨w.heap.size+1,o,none⟩=false:=MS h.res
theorem bI.out(h:bI w cs ty ra rc R wq){lv:Value}{RL:List (Value×Ru)}(hr:aM wq (w.heap.size+2) lv RL)(v0 v1 v2:Value):aM (((wq.setCell ⟨w.heap.size+1,0,none⟩ v0).setCell ⟨w.heap.size+1,1,none⟩ v1).setCell ⟨w.heap.size+1,2,none⟩ v2) w.heap.size lv RL/\Below w.heap.size w (((wq.setCell ⟨w.heap.size+1,0,none⟩ v0).setCell ⟨w.heap.size+1,1,none⟩ v1).setCell ⟨w.heap.size+1,2,none⟩ v2):=
 ⟨(((hr.qL (by simp) _).qL (by simp) _).qL (by simp) _).mono (by omega),((h.below.setCell (by simp) _).setCell (by simp) _).setCell (by simp) _⟩
end
theorem EK{ad:Addr}{f sl lc:Nat}{fi:Int}(hf:fi=f)(hu:f<=lc)(w:World):Sem.run Tryz.prog (Instr.sliceAt 89 (.slice (some ad) sl lc) none (some (.int .i64 fi)) none) w= .ok (.slice (some ad) f lc) w:=by
 subst hf;have h0:(0:Int)<=(f:Int):=Int.natCast_nonneg _;have h1:(f:Int)<=(lc:Int):=by omega
 go_simp
theorem adS{ad:Addr}{f n g sl lc:Nat}{fi gi:Int}(hf:fi=f)(hg:gi=g)(hn:g=f+n)(hu:g<=lc):∃A,(∀w:World,Sem.run Tryz.prog (Instr.sliceAt 89 (.slice (some ad) sl lc) (some (.int .i64 fi)) (some (.int .i64 gi)) none) w= .ok (.slice A n (lc-f)) w)/\(lc≠f->A=some (ad.add (f*2))):=by
 subst hf hg;have h0:(0:Int)<=(f:Int):=Int.natCast_nonneg _;have h1:(f:Int)<=(g:Int):=by omega
 have h2:g-f=n:=by omega
 have h3:(0:Int)<=(g:Int):=Int.natCast_nonneg _;have h4:(g:Int)<=(lc:Int):=by omega
 have h5:f<=g:=by omega
 clear hn;refine⟨if lc=f then some ad else some (ad.add (f*2)),fun w=> ?_,fun h=>by rw[if_neg h]⟩
 go_simp
section
variable{w:World}{qa A:Option Addr}{d f n:Nat}{l:List Sy}
theorem bG.BN(h:bG w (.slice qa l.length d) l)(hl:f<=l.length):bG w (.slice qa f d) (l.take f):=by
 obtain⟨_,_,hv,hd⟩:=h.1;cases hv;have hlen:(l.take f).length=f:=by rw[List.length_take];omega
 refine⟨⟨_,d,by rw[hlen],by omega⟩,fun j hj=> ?_⟩;rw[hlen]at hj;obtain⟨b,o,c,hv,h1,h2⟩:=h.2 j (by omega);cases hv;have e:(l.take f).getD j (false,0)=l.getD j (false,0):=by simp[List.getD,hj]
 exact⟨b,o,d,by rw[hlen],by rw[e];exact h1,by rw[e];exact h2⟩
theorem bG.II(h:bG w (.slice qa l.length d) l)(hl:l.length=f+n)(hA:d≠f->A=qa.map (·.add (f*2))):bG w (.slice A n (d-f)) (l.drop f):=by
 obtain⟨_,_,hv,hd⟩:=h.1;cases hv;have hlen:(l.drop f).length=n:=by rw[List.length_drop];omega
 refine⟨⟨A,d-f,by rw[hlen],by omega⟩,fun j hj=> ?_⟩;rw[hlen]at hj;obtain⟨b,o,c,hv,h1,h2⟩:=h.2 (f+j) (by omega);cases hv;have hA':=hA (by omega);simp only[Option.map_some,Addr.add_lit]at hA';subst hA';have e:(l.drop f).getD j (false,0)=l.getD (f+j) (false,0):=by simp[List.getD,List.getElem?_drop]
 refine⟨b,o+f*2,d-f,by rw[hlen],?_,?_⟩
 ·rw[e,<-h1];congr 2;omega
 ·rw[e,<-h2];congr 2;omega
theorem bG.IJ(h:bG w (.slice qa l.length d) l)(hl:0<l.length):∃ad,qa=some ad:=by
 obtain⟨b,o,c,hv,_⟩:=h.2 0 hl;cases hv;exact⟨_,rfl⟩
end
theorem Vm{RL:List (Value×Ru)}{k:Nat}(hk:k<RL.length)(v:Value)(l:List Sy):(cO RL).set (k*2+1) v=cO (RL.set k (v,(RL[k].2.1,l))):=by
 unfold cO
 induction RL generalizing k with
 |nil=>simp at hk
 |cons a RL ih=>
  cases k with
  |zero=>simp[jB]
  |succ k=>
   have:=ih (k:=k) (by simpa using hk);rw[List.flatMap_cons,List.set_cons_succ,List.flatMap_cons,List.set_append_right _ _ (by simp[jB];omega)];simp only[jB,List.length_cons,List.length_nil,List.getElem_cons_succ]at this⊢;rw[show (k+1)*2+1-(0+1+1)=k*2+1 by omega,this]
theorem adT{RL:List (Value×Ru)}{k:Nat}(hk:k<RL.length)(L:Int):(cO RL).set (k*2) (.int .i64 L)=cO (RL.set k (RL[k].1,(L,RL[k].2.2))):=by
 unfold cO
 induction RL generalizing k with
 |nil=>simp at hk
 |cons a RL ih=>
  cases k with
  |zero=>simp[jB]
  |succ k=>
   have:=ih (k:=k) (by simpa using hk);rw[List.flatMap_cons,List.set_cons_succ,List.flatMap_cons,List.set_append_right _ _ (by simp[jB];omega)];simp only[jB,List.length_cons,List.length_nil,List.getElem_cons_succ]at this⊢;rw[show (k+1)*2-(0+1+1)=k*2 by omega,this]
section
variable{w w5 w6:World}{B g cap k:Nat}{lv nv v:Value}{RL:List (Value×Ru)}{L:Int}{l:List Sy}
theorem MU{α:Type}{l:List α}{k:Nat}{x y:α}(h:y∈l.set k x):y=x\/y∈l:=(List.mem_or_eq_of_mem_set h).symm
theorem aM.adU(h:aM w B (.slice (some ⟨g,0,none⟩) RL.length cap) RL)(hb:Below w.heap.size w w5)(hk:k<RL.length)(ho:w5.ownsRow w.heap.size 116 2 v l.length (aR l)):aM (w5.setCell ⟨g,k*2+1,none⟩ v) B (.slice (some ⟨g,0,none⟩) RL.length cap) (RL.set k (v,(RL[k].2.1,l))):=by
 have hg:=h.own.lt g rfl;have hs5:=hb.size;have dh:=own_below h.own hb fun g hg=>(h.own.lt g hg).2;refine⟨?_,fun x hx=> ?_⟩
 ·have:=(dh.stored (k*2+1) v).1
  rw[Vm hk v l]at this;rw[List.length_set];exact this
 ·rcases MU hx with rfl|hx
  ·refine(BF ho).kept (by simp) fun b hA _=>⟨Below.heap_setCell _ _ _ _ ?_,by have:=hA.2;omega,fun e=> ?_⟩
   ·have:=hA.2;simp only;omega
   ·simp only[Value.ownBlock,Option.some.injEq]at e;have:=hA.2;omega
  ·refine(h.sym x hx).kept (by simpa using hs5) fun b hA hlt=>⟨?_,hA⟩
   rw[Below.heap_setCell _ _ _ _ (fun e=>hA.2 (by simp only[Value.ownBlock];exact congrArg some e.symm)),hb.block b hlt]
theorem aM.KS(h:aM w B (.slice (some ⟨g,0,none⟩) RL.length cap) RL)(hk:k<RL.length)(L:Int):aM (w.setCell ⟨g,k*2,none⟩ (.int .i64 L)) B (.slice (some ⟨g,0,none⟩) RL.length cap) (RL.set k (RL[k].1,(L,RL[k].2.2))):=by
 have hold:∀x∈RL,oG (w.setCell ⟨g,k*2,none⟩ (.int .i64 L)) (fun b=>B<=b/\(Value.slice (some ⟨g,0,none⟩) RL.length cap).ownBlock≠some b) x.1 x.2.2:=fun x hx=>by
  refine(h.sym x hx).kept (by simp) fun b hA hlt=>⟨?_,hA⟩;rw[Below.heap_setCell _ _ _ _ (fun e=>hA.2 (by simp only[Value.ownBlock];exact congrArg some e.symm))]
 refine⟨?_,fun x hx=> ?_⟩
 ·have:=(h.own.stored (k*2) (.int .i64 L)).1
  rw[adT hk L]at this;rw[List.length_set];exact this
 ·rcases MU hx with rfl|hx
  ·exact hold RL[k] (List.getElem_mem hk)
  ·exact hold x hx
theorem aM.IK(h:aM w B lv RL)(hB:B<=w.heap.size)(hb:Below w.heap.size w w5)(ho:w5.ownsRow w.heap.size 116 2 v l.length (aR l))(hg:w5.grownBy w6 lv.ownBlock)(hn:w6.ownsRow B 91 2 nv (RL.length+1) (cO (RL++[(v,(L,l))])))(hat:∀g,nv.ownBlock=some g->lv.ownBlock=some g\/w5.heap.size<=g):aM w6 B nv (RL++[(v,(L,l))]):=by
 have hs5:=hb.size;have hs6:=hg.size;have hlv:∀g,lv.ownBlock=some g->g<w.heap.size:=fun g hg=>(h.own.lt g hg).2;refine⟨by rw[List.length_append];exact hn,fun x hx=> ?_⟩;rcases List.mem_append.1 hx with hx|hx
 ·refine(h.sym x hx).kept (by omega) fun b hA hlt=>⟨?_,hA.1,fun e=> ?_⟩
  ·rw[hg.block b (by omega) (fun e=>hA.2 e.symm),hb.block b hlt]
  ·rcases hat b e with e|e
   ·exact hA.2 e
   ·omega
 ·simp only[List.mem_singleton]at hx
  subst hx;refine(BF ho).kept (by omega) fun b hA hlt=>⟨?_,by have:=hA.2;omega,fun e=> ?_⟩
  ·rw[hg.block b hlt (fun e=>by have:=hlv b e.symm;have:=hA.2;omega)]
  ·rcases hat b e with e|e
   ·have:=hlv b e;have:=hA.2;omega
   ·omega
end
theorem Vn{w:World}{xb:Nat}{n N:Int}(x1:w.cell? ⟨xb,1,none⟩=some (.int .i64 N)):
 Calls Tryz.prog 169 #[.int .i64 n,.pointer (some ⟨xb,0,none⟩)] w fun e w'=>e= .returned (.bool (decide (0<n)&&decide (n<N)))/\w'=w:=by
 by_cases h0:0<n
 ·have e0:decide (0<n)=true:=decide_eq_true h0
  by_cases h1:n<N
  ·have e1:decide (n<N)=true:=decide_eq_true h1
   rw[e0,e1]
   go_enter Tryz.func169,Tryz.ntmps169
   go_wp2_with fail
   go_ret;exact⟨rfl,rfl⟩
  ·have e1:decide (n<N)=false:=decide_eq_false h1
   rw[e0,e1];clear h1
   go_enter Tryz.func169,Tryz.ntmps169
   go_wp2_with fail
   go_ret;exact⟨rfl,rfl⟩
 ·have e0:decide (0<n)=false:=decide_eq_false h0
  rw[e0];clear h0
  go_enter Tryz.func169,Tryz.ntmps169
  go_wp2_with fail
  go_ret;exact⟨rfl,rfl⟩
theorem adV{w:World}{T N:Int}{ra:Option Addr}{rn rc:Nat}{op a b c:Int}:
 Calls Tryz.prog 151 #[.agg #[.int .i64 T,.int .i64 N,.slice ra rn rc,.int .i64 op,.int .i64 a,.int .i64 b,.int .i64 c]] w fun e w'=>e= .returned (.tuple #[.iface 252 (.agg #[.int .i64 T,.int .i64 N,.slice ra rn rc,.int .i64 op,.int .i64 a,.int .i64 b,.int .i64 c]),.bool (decide (0<a)&&decide (a<N)&&(decide (0<b)&&decide (b<N))&&decide (c=0))])/\Below w.heap.size w w':=by
 obtain⟨W0,hW0⟩:∃W,w.alloc (.cells #[.int .i64 T,.int .i64 N,.slice ra rn rc,.int .i64 op,.int .i64 a,.int .i64 b,.int .i64 c] 207)=W:=⟨_,rfl⟩;have HB:Hid (Below w.heap.size w W0):=by show Below _ _ _;rw[<-hW0];exact(Below.refl _ _).alloc (Nat.le_refl _) _
 have hb:=heap_alloc_new w (.cells #[.int .i64 T,.int .i64 N,.slice ra rn rc,.int .i64 op,.int .i64 a,.int .i64 b,.int .i64 c] 207);rw[hW0]at hb;have x0:W0.cell? ⟨w.heap.size,0,none⟩=some (.int .i64 T):=aB hb rfl;have x1:W0.cell? ⟨w.heap.size,1,none⟩=some (.int .i64 N):=aB hb rfl;have x2:W0.cell? ⟨w.heap.size,2,none⟩=some (.slice ra rn rc):=aB hb rfl;have x3:W0.cell? ⟨w.heap.size,3,none⟩=some (.int .i64 op):=aB hb rfl;have x4:W0.cell? ⟨w.heap.size,4,none⟩=some (.int .i64 a):=aB hb rfl;have x5:W0.cell? ⟨w.heap.size,5,none⟩=some (.int .i64 b):=aB hb rfl;have x6:W0.cell? ⟨w.heap.size,6,none⟩=some (.int .i64 c):=aB hb rfl;have ia:=fun k=>Vn (w:=W0.drewN k) (xb:=w.heap.size) (n:=a) (N:=N) x1;have ib:=fun k=>Vn (w:=W0.drewN k) (xb:=w.heap.size) (n:=b) (N:=N) x1;clear hb;cases hA:(decide (0<a)&&decide (a<N)) with
 |false=>
  simp only[hA]at ia
  go_enter Tryz.func151,Tryz.ntmps151
  go_wp2_with fail
  go_big_quiet ((go_at_call 169;exact Calls.quiet_of_same (ia _)))
  go_wp2_with fail
  refine bodyPost_ret (v:= .tuple #[.iface 252 (.agg #[.int .i64 T,.int .i64 N,.slice ra rn rc,.int .i64 op,.int .i64 a,.int .i64 b,.int .i64 c]),.bool false]) (by simp[results,Tryz.results151,go_sem]) rfl ?_;exact⟨by simp,below_drewN HB.out _⟩
 |true=>
  simp only[hA]at ia;cases hB:(decide (0<b)&&decide (b<N)) with
  |false=>
   simp only[hB]at ib
   go_enter Tryz.func151,Tryz.ntmps151
   go_wp2_with fail
   go_big_quiet ((go_at_call 169;first|with_reducible exact Calls.quiet_of_same (ia _)|with_reducible exact Calls.quiet_of_same (ib _)))
   go_wp2_with fail
   refine bodyPost_ret (v:= .tuple #[.iface 252 (.agg #[.int .i64 T,.int .i64 N,.slice ra rn rc,.int .i64 op,.int .i64 a,.int .i64 b,.int .i64 c]),.bool false]) (by simp[results,Tryz.results151,go_sem]) rfl ?_;exact⟨by simp,below_drewN HB.out _⟩
  |true=>
   simp only[hB]at ib;by_cases hc:c=0
   ·have ec:(c==0)=true:=by simpa using hc
    have MV:Hid (decide (c=0)=true):=decide_eq_true hc;clear hc
    go_enter Tryz.func151,Tryz.ntmps151
    go_wp2_with fail
    go_big_quiet ((go_at_call 169;first|with_reducible exact Calls.quiet_of_same (ia _)|with_reducible exact Calls.quiet_of_same (ib _)))
    go_wp2_with fail
    refine bodyPost_ret (v:= .tuple #[.iface 252 (.agg #[.int .i64 T,.int .i64 N,.slice ra rn rc,.int .i64 op,.int .i64 a,.int .i64 b,.int .i64 c]),.bool true]) (by simp[results,Tryz.results151,go_sem]) rfl ?_;exact⟨by rw[MV.out];rfl,below_drewN HB.out _⟩
   ·have ec:(c==0)=false:=by simpa using hc
    have MV:Hid (decide (c=0)=false):=decide_eq_false hc;clear hc
    go_enter Tryz.func151,Tryz.ntmps151
    go_wp2_with fail
    go_big_quiet ((go_at_call 169;first|with_reducible exact Calls.quiet_of_same (ia _)|with_reducible exact Calls.quiet_of_same (ib _)))
    go_wp2_with fail
    refine bodyPost_ret (v:= .tuple #[.iface 252 (.agg #[.int .i64 T,.int .i64 N,.slice ra rn rc,.int .i64 op,.int .i64 a,.int .i64 b,.int .i64 c]),.bool false]) (by simp[results,Tryz.results151,go_sem]) rfl ?_;exact⟨by rw[MV.out];rfl,below_drewN HB.out _⟩
section
variable{w:World}{pb:Nat}{va vb vc:Value}{la lb lc:List Sy}
theorem Vo(p0:w.cell? ⟨pb,0,none⟩=some va)(p1:w.cell? ⟨pb,1,none⟩=some vb)(p2:w.cell? ⟨pb,2,none⟩=some vc)(ha:bG w va la)(hb:bG w vb lb)(hc:bG w vc lc)(hs:la.length+lb.length+lc.length<=100000):
 Calls Tryz.prog 232 #[.slice (some ⟨pb,0,none⟩) 3 3] w fun e w'=> ∃a d,e= .returned (.slice a (la.length+lb.length+lc.length) d)/\w'.ownsRow w.heap.size 116 2 (.slice a (la.length+lb.length+lc.length) d) (la.length+lb.length+lc.length) (aR (la++lb++lc))/\Below w.heap.size w w':=by
 have hN:dm [(va,la.length,aR la),(vb,lb.length,aR lb),(vc,lc.length,aR lc)]=la.length+lb.length+lc.length:=by simp[dm];omega
 have hX:kC [(va,la.length,aR la),(vb,lb.length,aR lb),(vc,lc.length,aR lc)]=aR (la++lb++lc):=by simp[kC,Va]
 have cc:=ML (w:=w) (pb:=pb) (PL:=[(va,la.length,aR la),(vb,lb.length,aR lb),(vc,lc.length,aR lc)]) (fun i hi=>by
  match i,hi with
  |0,_=>exact p0
  |1,_=>exact p1
  |2,_=>exact p2
  |i+3,hi=>exact absurd hi (by simp)) (fun p hp=>by
  simp only[List.mem_cons,List.not_mem_nil,or_false]at hp;rcases hp with rfl|rfl|rfl
  ·exact ha.row
  ·exact hb.row
  ·exact hc.row) (by rw[hN];exact hs) (by simp)
 rw[hN,hX]at cc;exact cc
theorem MW(p0:w.cell? ⟨pb,0,none⟩=some va)(p1:w.cell? ⟨pb,1,none⟩=some vb)(ha:bG w va la)(hb:bG w vb lb)(hs:la.length+lb.length<=100000):
 Calls Tryz.prog 232 #[.slice (some ⟨pb,0,none⟩) 2 2] w fun e w'=> ∃a d,e= .returned (.slice a (la.length+lb.length) d)/\w'.ownsRow w.heap.size 116 2 (.slice a (la.length+lb.length) d) (la.length+lb.length) (aR (la++lb))/\Below w.heap.size w w':=by
 have hN:dm [(va,la.length,aR la),(vb,lb.length,aR lb)]=la.length+lb.length:=by simp[dm]
 have hX:kC [(va,la.length,aR la),(vb,lb.length,aR lb)]=aR (la++lb):=by simp[kC,Va]
 have cc:=ML (w:=w) (pb:=pb) (PL:=[(va,la.length,aR la),(vb,lb.length,aR lb)]) (fun i hi=>by
  match i,hi with
  |0,_=>exact p0
  |1,_=>exact p1
  |i+2,hi=>exact absurd hi (by simp)) (fun p hp=>by
  simp only[List.mem_cons,List.not_mem_nil,or_false]at hp;rcases hp with rfl|rfl
  ·exact ha.row
  ·exact hb.row) (by rw[hN];exact hs) (by simp)
 rw[hN,hX]at cc;exact cc
theorem Vp(p0:w.cell? ⟨pb,0,none⟩=some va)(ha:bG w va la)(hs:la.length<=100000):
 Calls Tryz.prog 232 #[.slice (some ⟨pb,0,none⟩) 1 1] w fun e w'=> ∃a d,e= .returned (.slice a la.length d)/\w'.ownsRow w.heap.size 116 2 (.slice a la.length d) la.length (aR la)/\Below w.heap.size w w':=by
 have hN:dm [(va,la.length,aR la)]=la.length:=by simp[dm]
 have hX:kC [(va,la.length,aR la)]=aR la:=by simp[kC]
 have cc:=ML (w:=w) (pb:=pb) (PL:=[(va,la.length,aR la)]) (fun i hi=>by
  match i,hi with
  |0,_=>exact p0
  |i+1,hi=>exact absurd hi (by simp)) (fun p hp=>by
  simp only[List.mem_cons,List.not_mem_nil,or_false]at hp;rcases hp with rfl
  exact ha.row) (by rw[hN];exact hs) (by simp)
 rw[hN,hX]at cc;exact cc
end
theorem adW{w:World}{t:Bool}{v:Int}:bG (w.alloc (.cells #[.bool t,.int .i64 v] 116)) (.slice (some ⟨w.heap.size,0,none⟩) 1 1) [(t,v)]:=by
 have hb:=heap_alloc_new w (.cells #[.bool t,.int .i64 v] 116);refine⟨⟨_,_,rfl,Nat.le_refl _⟩,fun j hj=> ?_⟩;have:j=0:=by simp at hj;omega
 subst this;exact⟨w.heap.size,0,1,rfl,aB (i:=0) hb rfl,aB (i:=1) hb rfl⟩
theorem Vq{w:World}{T N:Int}{ra:Option Addr}{rc k:Nat}{op a b c:Int}{R:List Ru}(hr:au w w.heap.size (.slice ra R.length rc) R)(hk:k<R.length):
 Calls Tryz.prog 173 #[.agg #[.int .i64 T,.int .i64 N,.slice ra R.length rc,.int .i64 op,.int .i64 a,.int .i64 b,.int .i64 c],.int .i64 k] w fun e w'=>e= .returned (.bool (iY a (R.getD k (0,[]))))/\Below w.heap.size w w':=by
 obtain⟨W0,hW0⟩:∃W,w.alloc (.cells #[.int .i64 T,.int .i64 N,.slice ra R.length rc,.int .i64 op,.int .i64 a,.int .i64 b,.int .i64 c] 259)=W:=⟨_,rfl⟩;have hB0:Below w.heap.size w W0:=by rw[<-hW0];exact(Below.refl _ _).alloc (Nat.le_refl _) _
 have x2:W0.cell? ⟨w.heap.size,2,none⟩=some (.slice ra R.length rc):=by rw[<-hW0];exact aB (heap_alloc_new _ _) rfl
 have x4:W0.cell? ⟨w.heap.size,4,none⟩=some (.int .i64 a):=by rw[<-hW0];exact aB (heap_alloc_new _ _) rfl
 obtain⟨b0,o0,qy,qa,qc,hv,_,k1,k2,hsy⟩:=(hr.below hB0).jV hk;cases hv;obtain⟨⟨L,l⟩,hx⟩:∃x,R.getD k (0,[])=x:=⟨_,rfl⟩;rw[hx]at k1 k2 hsy⊢;simp only at k1 k2 hsy;obtain⟨W1,hW1⟩:∃W,W0.alloc (.cells #[.int .i64 L,.slice qa l.length qc] 91)=W:=⟨_,rfl⟩;have hB1:Below W0.heap.size W0 W1:=by rw[<-hW1];exact(Below.refl _ _).alloc (Nat.le_refl _) _
 have y4:=(hB1.cell (World.block_lt_of_cell? _ _ x4)).trans x4;have r0:W1.cell? ⟨W0.heap.size,0,none⟩=some (.int .i64 L):=by rw[<-hW1];exact aB (heap_alloc_new _ _) rfl
 have r1:W1.cell? ⟨W0.heap.size,1,none⟩=some (.slice qa l.length qc):=by rw[<-hW1];exact aB (heap_alloc_new _ _) rfl
 have HB:Hid (Below w.heap.size w W1):=hB0.trans (hB1.mono hB0.size);have IL:=hsy.same (iH hB1);have i0:(0:Int)<=(k:Int):=Int.natCast_nonneg _;have i1:(k:Int)<(R.length:Int):=by omega
 clear hr hx hB0 hB1 hsy;by_cases uz:L=a
 ·subst uz
  by_cases h0:0<l.length
  ·obtain⟨b1,o1,c1,h1,h2,h3⟩:=IL.2 0 h0
   cases h1;simp only[Nat.zero_mul,Nat.add_zero]at h2 h3;obtain⟨⟨t,v⟩,hx⟩:∃x,l.getD 0 (false,0)=x:=⟨_,rfl⟩;rw[hx]at h2 h3;simp only at h2 h3;have j0:(0:Int)<(l.length:Int):=by omega
   have hE:iY L (L,l)=(!t&&decide (v=L)):=by unfold iY vV;simp only[hx];simp[h0]
   rw[hE];have eL:(L==L)=true:=by simp
   clear IL hx hE;cases t with
   |true=>
    go_enter Tryz.func173,Tryz.ntmps173
    go_wp2_with fail
    go_big_quiet (fail)
    go_wp2_with fail
    go_ret;exact⟨rfl,below_drewN HB.out _⟩
   |false=>
    by_cases hv:v=L
    ·subst hv
     go_enter Tryz.func173,Tryz.ntmps173
     go_wp2_with fail
     go_big_quiet (fail)
     go_wp2_with fail
     go_ret;exact⟨by simp,below_drewN HB.out _⟩
    ·have e1:(v==L)=false:=by simpa using hv
     go_enter Tryz.func173,Tryz.ntmps173
     go_wp2_with fail
     go_big_quiet (fail)
     go_wp2_with fail
     go_ret;exact⟨by simp[hv],below_drewN HB.out _⟩
  ·have hl0:l.length=0:=by omega
   have hE:iY L (L,l)=false:=by unfold iY vV;simp[hl0]
   rw[hE];rw[hl0]at r1 k2 hW1;have eL:(L==L)=true:=by simp
   clear IL hE h0 hl0
   go_enter Tryz.func173,Tryz.ntmps173
   go_wp2_with fail
   go_big_quiet (fail)
   go_wp2_with fail
   go_ret;exact⟨rfl,below_drewN HB.out _⟩
 ·have hE:iY a (L,l)=false:=by unfold iY;simp[uz]
  rw[hE];have eL:(L==a)=false:=by simpa using uz
  clear IL hE uz
  go_enter Tryz.func173,Tryz.ntmps173
  go_wp2_with fail
  go_big_quiet (fail)
  go_wp2_with fail
  go_ret;exact⟨rfl,below_drewN HB.out _⟩
structure fK(w:World)(T N:Int)(ra:Option Addr)(rc:Nat)(R:List Ru)(op a b c:Int)(wq:World):Prop where
 blk:wq.heap[w.heap.size]?=some (.cells #[.int .i64 T,.int .i64 N,.slice ra R.length rc,.int .i64 op,.int .i64 a,.int .i64 b,.int .i64 c] 207 (0,0))
 rules:au wq w.heap.size (.slice ra R.length rc) R
 below:Below w.heap.size w wq
section
variable{w wq w':World}{T N:Int}{ra:Option Addr}{rc:Nat}{R:List Ru}{op a b c:Int}
theorem fK.size(h:fK w T N ra rc R op a b c wq):w.heap.size+1<=wq.heap.size:=(Array.getElem?_eq_some_iff.1 h.blk).1
theorem fK.next(h:fK w T N ra rc R op a b c wq)(hb:Below wq.heap.size wq w'):fK w T N ra rc R op a b c w':=
 ⟨(hb.block _ h.size).trans h.blk,h.rules.below (hb.mono (Nat.le_trans (by omega) h.size)),h.below.trans (hb.mono (Nat.le_trans (by omega) h.size))⟩
theorem fK.x0(h:fK w T N ra rc R op a b c wq):wq.cell? ⟨w.heap.size,0,none⟩=some (.int .i64 T):=aB h.blk rfl
theorem fK.x1(h:fK w T N ra rc R op a b c wq):wq.cell? ⟨w.heap.size,1,none⟩=some (.int .i64 N):=aB h.blk rfl
theorem fK.x2(h:fK w T N ra rc R op a b c wq):wq.cell? ⟨w.heap.size,2,none⟩=some (.slice ra R.length rc):=aB h.blk rfl
theorem fK.x3(h:fK w T N ra rc R op a b c wq):wq.cell? ⟨w.heap.size,3,none⟩=some (.int .i64 op):=aB h.blk rfl
theorem fK.x4(h:fK w T N ra rc R op a b c wq):wq.cell? ⟨w.heap.size,4,none⟩=some (.int .i64 a):=aB h.blk rfl
theorem fK.x5(h:fK w T N ra rc R op a b c wq):wq.cell? ⟨w.heap.size,5,none⟩=some (.int .i64 b):=aB h.blk rfl
theorem fK.x6(h:fK w T N ra rc R op a b c wq):wq.cell? ⟨w.heap.size,6,none⟩=some (.int .i64 c):=aB h.blk rfl
theorem fK.all(h:fK w T N ra rc R op a b c wq):au wq wq.heap.size (.slice ra R.length rc) R:=h.rules.mono (Nat.le_trans (by omega) h.size)
theorem oH(hr:au w w.heap.size (.slice ra R.length rc) R):fK w T N ra rc R op a b c (w.alloc (.cells #[.int .i64 T,.int .i64 N,.slice ra R.length rc,.int .i64 op,.int .i64 a,.int .i64 b,.int .i64 c] 207)):=by
 have hB:Below w.heap.size w (w.alloc (.cells #[.int .i64 T,.int .i64 N,.slice ra R.length rc,.int .i64 op,.int .i64 a,.int .i64 b,.int .i64 c] 207)):=(Below.refl _ _).alloc (Nat.le_refl _) _;exact⟨heap_alloc_new _ _,hr.below hB,hB⟩
end
theorem adX{w:World}{T N:Int}{ra:Option Addr}{rc:Nat}{R:List Ru}{op a b c:Int}(hr:au w w.heap.size (.slice ra R.length rc) R)(hs:¬(0<=a/\a<(R.length:Int)/\0<=b/\b<c/\c<=((R.getD a.toNat (0,[])).2.length:Int))):
 Calls Tryz.prog 152 #[.agg #[.int .i64 T,.int .i64 N,.slice ra R.length rc,.int .i64 op,.int .i64 a,.int .i64 b,.int .i64 c]] w fun e w'=>e= .returned (.tuple #[.nilIface,.bool false])/\Below w.heap.size w w':=by
 have hK:=oH (T:=T) (N:=N) (op:=op) (a:=a) (b:=b) (c:=c) hr;obtain⟨W0,hW0⟩:∃W,w.alloc (.cells #[.int .i64 T,.int .i64 N,.slice ra R.length rc,.int .i64 op,.int .i64 a,.int .i64 b,.int .i64 c] 207)=W:=⟨_,rfl⟩;rw[hW0]at hK;have x2:=hK.x2;have x4:=hK.x4;have x5:=hK.x5;have x6:=hK.x6;have HB:Hid (Below w.heap.size w W0):=hK.below;have ia:=ul (w:=W0) (n:=a) (m:=(R.length:Int));cases hA:(decide (0<=a)&&decide (a<(R.length:Int))) with
 |false=>
  rw[hA]at ia;clear hK hr hs hA
  go_enter Tryz.func152,Tryz.ntmps152
  go_wp2_with (go_at_call 170;refine ia.mono ?_;rintro e w2 ⟨rfl,rfl⟩)
  refine bodyPost_ret (v:= .tuple #[.nilIface,.bool false]) (by simp[results,Tryz.results152,go_sem]) rfl ?_;exact⟨rfl,HB.out⟩
 |true=>
  rw[hA]at ia;simp only[Bool.and_eq_true,decide_eq_true_eq]at hA;obtain⟨ka,rfl⟩:∃ka:Nat,a=ka:=⟨a.toNat,by omega⟩;have hk:ka<R.length:=by omega
  obtain⟨b0,o0,qy,qa,qc,hv,_,k1,k2,_⟩:=hK.rules.jV hk;cases hv;rw[Int.toNat_natCast]at hs;obtain⟨n,hn⟩:∃n,(R.getD ka (0,[])).2.length=n:=⟨_,rfl⟩;rw[hn]at k2 hs;have i0:(0:Int)<=(ka:Int):=Int.natCast_nonneg _;have i1:(ka:Int)<(R.length:Int):=by omega
  have ib:=ul (w:=W0) (n:=b) (m:=c);by_cases hc:(n:Int)<c
  ·clear hK hr hs hn k1 ib hA
   go_enter Tryz.func152,Tryz.ntmps152
   go_wp2_with (go_at_call 170;refine ia.mono ?_;rintro e w2 ⟨rfl,rfl⟩)
   refine bodyPost_ret (v:= .tuple #[.nilIface,.bool false]) (by simp[results,Tryz.results152,go_sem]) rfl ?_;exact⟨rfl,HB.out⟩
  ·have hBb:(decide (0<=b)&&decide (b<c))=false:=by
    cases h:(decide (0<=b)&&decide (b<c)) with
    |false=>rfl
    |true=>
     simp only[Bool.and_eq_true,decide_eq_true_eq]at h;exact absurd ⟨i0,i1,h.1,h.2,by omega⟩ hs
   rw[hBb]at ib;have ec:decide ((n:Int)<c)=false:=decide_eq_false hc;clear hK hr hs hn k1 hBb hA hc
   go_enter Tryz.func152,Tryz.ntmps152
   go_wp2_with
    (first
     |(go_at_call 170;refine ia.mono ?_;rintro e w2 ⟨rfl,rfl⟩;clear ia)
     |(go_at_call 170;refine ib.mono ?_;rintro e w2 ⟨rfl,rfl⟩))
   refine bodyPost_ret (v:= .tuple #[.nilIface,.bool false]) (by simp[results,Tryz.results152,go_sem]) rfl ?_;exact⟨rfl,HB.out⟩
theorem adY{w:World}{T N:Int}{ra:Option Addr}{rc:Nat}{R:List Ru}{op:Int}{ka bn cn m:Nat}{L:Int}{l:List Sy}(hr:au w w.heap.size (.slice ra R.length rc) R)(hk:ka<R.length)(hx:R.getD ka (0,[])=(L,l))(hbc:bn<cn)(hcl:l.length=cn+m)(vX:l.length<=1000):
 Calls Tryz.prog 152 #[.agg #[.int .i64 T,.int .i64 N,.slice ra R.length rc,.int .i64 op,.int .i64 ka,.int .i64 bn,.int .i64 cn]] w fun e w'=>e= .returned (.tuple #[.iface 255 (.agg #[.int .i64 T,.int .i64 N,.slice ra R.length rc,.int .i64 op,.int .i64 ka,.int .i64 bn,.int .i64 cn,.int .i64 (iD (l.take bn)).length,.int .i64 (iD (l.take cn)).length]),.bool true])/\Below w.heap.size w w':=by
 have hK:=oH (T:=T) (N:=N) (op:=op) (a:=ka) (b:=bn) (c:=cn) hr;obtain⟨W0,hW0⟩:∃W,w.alloc (.cells #[.int .i64 T,.int .i64 N,.slice ra R.length rc,.int .i64 op,.int .i64 ka,.int .i64 bn,.int .i64 cn] 207)=W:=⟨_,rfl⟩;rw[hW0]at hK;have x2:=hK.x2;have x4:=hK.x4;have x5:=hK.x5;have x6:=hK.x6;have ia:=ul (w:=W0) (n:=ka) (m:=(R.length:Int));have ib:=ul (w:=W0) (n:=bn) (m:=cn);obtain⟨b0,o0,qy,qa,qc,hv,_,k1,k2,hsy⟩:=hK.rules.jV hk;cases hv;rw[hx]at k1 k2 hsy;simp only at k1 k2 hsy;have hqc:l.length<=qc:=by obtain⟨_,_,hv,hle⟩:=hsy.1;cases hv;exact hle
 obtain⟨ad,rfl⟩:=hsy.IJ (by omega);rw[hcl]at k2 hqc;have i0:(0:Int)<=(ka:Int):=Int.natCast_nonneg _;have i1:(ka:Int)<(R.length:Int):=by omega
 have j0:(0:Int)<=(bn:Int):=Int.natCast_nonneg _;have j1:(bn:Int)<(cn:Int):=by omega
 rw[decide_eq_true i0,decide_eq_true i1]at ia;rw[decide_eq_true j0,decide_eq_true j1]at ib;have ec:decide (((cn+m:Nat):Int)<(cn:Int))=false:=decide_eq_false (by omega);have HK:Hid (fK w T N (some ⟨b0,o0,none⟩) rc R op ka bn cn W0):=hK;have jH:Hid (∀wq,Below W0.heap.size W0 wq->bG wq (.slice (some ad) l.length qc) l):=fun wq hq=>hsy.same (iH hq);have HX:Hid (l.length=cn+m):=hcl;have adZ:=fun w=>EK (ad:=ad) (f:=bn) (sl:=cn+m) (lc:=qc) (fi:=(bn:Int)) rfl (by omega) w;have ad1:=fun w=>EK (ad:=ad) (f:=cn) (sl:=cn+m) (lc:=qc) (fi:=(cn:Int)) rfl (by omega) w;clear hK hr hx hcl hsy k1
 go_enter Tryz.func152,Tryz.ntmps152
 go_upto_region 6 with
  (first
   |(go_at_call 170;with_reducible refine ia.mono ?_;rintro e w2 ⟨rfl,h2⟩;obtain rfl:W0=w2:=h2.symm;clear ia)
   |(go_at_call 170;with_reducible refine ib.mono ?_;rintro e w2 ⟨rfl,h2⟩;obtain rfl:W0=w2:=h2.symm;clear ib))
 obtain⟨Wd,hWd⟩:∃W,W0.drew=W:=⟨_,rfl⟩;have hBd:Below W0.heap.size W0 Wd:=by rw[<-hWd];exact(Below.refl _ _).drew
 have iZ:Hid (∀wq,Below Wd.heap.size Wd wq->fK w T N (some ⟨b0,o0,none⟩) rc R op ka bn cn wq/\bG wq (.slice (some ad) l.length qc) l):=fun wq hq=>by
  have h1:Below W0.heap.size W0 wq:=hBd.trans (hq.mono hBd.size);exact⟨HK.out.next h1,jH.out wq h1⟩
 have fM:Hid (∀wq,Below Wd.heap.size Wd wq->wq.cell? ⟨w.heap.size,0,none⟩=some (.int .i64 T)/\wq.cell? ⟨w.heap.size,1,none⟩=some (.int .i64 N)/\wq.cell? ⟨w.heap.size,2,none⟩=some (.slice (some ⟨b0,o0,none⟩) R.length rc)/\wq.cell? ⟨w.heap.size,3,none⟩=some (.int .i64 op)/\wq.cell? ⟨w.heap.size,4,none⟩=some (.int .i64 ka)/\wq.cell? ⟨w.heap.size,5,none⟩=some (.int .i64 bn)/\wq.cell? ⟨w.heap.size,6,none⟩=some (.int .i64 cn)):=fun wq hq=>
  let h:=(iZ.out wq hq).1
  ⟨h.x0,h.x1,h.x2,h.x3,h.x4,h.x5,h.x6⟩
 have S0:=fM.out Wd (Below.refl _ _);clear hBd x2 x4 x5 x6 k2 hW0;refine lY [0,1,2,3,4,5,7,8,9,10,11] 6 16 (fun wq=>wq.cell? ⟨w.heap.size,0,none⟩=some (.int .i64 T)/\wq.cell? ⟨w.heap.size,1,none⟩=some (.int .i64 N)/\wq.cell? ⟨w.heap.size,2,none⟩=some (.slice (some ⟨b0,o0,none⟩) R.length rc)/\wq.cell? ⟨w.heap.size,3,none⟩=some (.int .i64 op)/\wq.cell? ⟨w.heap.size,4,none⟩=some (.int .i64 ka)/\wq.cell? ⟨w.heap.size,5,none⟩=some (.int .i64 bn)/\wq.cell? ⟨w.heap.size,6,none⟩=some (.int .i64 cn)) (by kernel_rfl) (by kernel_rfl) (by rw[hWd];exact S0) ?_;rw[hWd];clear hWd S0
 iterate 11
  refine aO.vW (v:= ?_) rfl (by rfl) ?_ ?_;rotate_left
  ·intro w' hSw
   obtain⟨z0,z1,z2,z3,z4,z5,z6⟩:=hSw
   go_simp
   try with_reducible rfl
  simp only[Act.put,List.setIfInBounds_toArray,List.set_cons_zero,List.set_cons_succ]
 rw[aO];have n1:=MO (w:=Wd) ((iZ.out Wd (Below.refl _ _)).2.BN (f:=bn) (by rw[HX.out];omega)) (by rw[List.length_take];omega);refine ax.one (i:=6) (by kernel_rfl) ⟨_,rfl,fun K hK=> ?_⟩
 go_simp
 refine n1.mono ?_;rintro e w3 ⟨rfl,hB3⟩;dsimp only;refine hK.out _ _ (fun _=>fM.out _ hB3) ?_;clear hK n1;have n2:=MO (w:=w3) ((iZ.out w3 hB3).2.BN (f:=cn) (by rw[HX.out];omega)) (by rw[List.length_take];omega);refine ax.one (i:=12) (by kernel_rfl) ⟨_,rfl,fun K hK=> ?_⟩
 go_simp
 refine n2.mono ?_;rintro e w4 ⟨rfl,hB4⟩;dsimp only;have rV:Below Wd.heap.size Wd w4:=hB3.trans (hB4.mono hB3.size);refine hK.out _ _ (fun _=>fM.out _ rV) ?_;clear hK n2;refine ax.one (i:=13) (by kernel_rfl) ⟨_,rfl,fun K hK=> ?_⟩
 go_simp
 refine hK.out _ _ (fun _=>fM.out _ rV) ?_;clear hK;refine ax.one (i:=14) (by kernel_rfl) ⟨_,rfl,fun K hK=> ?_⟩
 go_simp
 refine hK.out _ _ (fun _=>fM.out _ rV) ?_;clear hK;refine ax.one (i:=15) (by kernel_rfl) ⟨_,rfl,fun K hK=> ?_⟩
 go_simp
 refine hK.out _ _ (fun _=>fM.out _ rV) ?_;clear hK;refine ax.last (i:=16) (by kernel_rfl) ⟨_,rfl,fun K hK=> ?_⟩
 go_simp
 refine hK.out _ _ (fun h=>absurd h (by omega)) (NoPanic.normal ?_);clear hK
 go_wp2_with fail
 refine bodyPost_ret (v:= .tuple #[.iface 255 (.agg #[.int .i64 T,.int .i64 N,.slice (some ⟨b0,o0,none⟩) R.length rc,.int .i64 op,.int .i64 ka,.int .i64 bn,.int .i64 cn,.int .i64 (iD (l.take bn)).length,.int .i64 (iD (l.take cn)).length]),.bool true]) (by simp[results,Tryz.results152,go_sem]) rfl ?_;exact⟨rfl,(iZ.out w4 rV).1.below⟩
theorem ad2{w:World}{T N:Int}{ra:Option Addr}{rc:Nat}{R:List Ru}{op a b c:Int}(hr:au w w.heap.size (.slice ra R.length rc) R)(hs:¬(0<=a/\a<N/\b=0/\c=0)):
 Calls Tryz.prog 154 #[.agg #[.int .i64 T,.int .i64 N,.slice ra R.length rc,.int .i64 op,.int .i64 a,.int .i64 b,.int .i64 c]] w fun e w'=>e= .returned (.tuple #[.nilIface,.bool false])/\Below w.heap.size w w':=by
 have hK:=oH (T:=T) (N:=N) (op:=op) (a:=a) (b:=b) (c:=c) hr;obtain⟨W0,hW0⟩:∃W,w.alloc (.cells #[.int .i64 T,.int .i64 N,.slice ra R.length rc,.int .i64 op,.int .i64 a,.int .i64 b,.int .i64 c] 207)=W:=⟨_,rfl⟩;rw[hW0]at hK;have x1:=hK.x1;have x4:=hK.x4;have x5:=hK.x5;have x6:=hK.x6;have HB:Hid (Below w.heap.size w W0):=hK.below;have ia:=ul (w:=W0) (n:=a) (m:=N);cases hA:(decide (0<=a)&&decide (a<N)) with
 |false=>
  rw[hA]at ia;clear hK hr hs hA
  go_enter Tryz.func154,Tryz.ntmps154
  go_wp2_with (go_at_call 170;refine ia.mono ?_;rintro e w2 ⟨rfl,rfl⟩)
  refine bodyPost_ret (v:= .tuple #[.nilIface,.bool false]) (by simp[results,Tryz.results154,go_sem]) rfl ?_;exact⟨rfl,HB.out⟩
 |true=>
  rw[hA]at ia;simp only[Bool.and_eq_true,decide_eq_true_eq]at hA;by_cases hb:b=0
  ·subst hb
   have ec:(c==0)=false:=by
    have:c≠0:=fun hc=>hs ⟨hA.1,hA.2,rfl,hc⟩;simpa using this
   clear hK hr hs hA
   go_enter Tryz.func154,Tryz.ntmps154
   go_wp2_with (go_at_call 170;refine ia.mono ?_;rintro e w2 ⟨rfl,rfl⟩)
   refine bodyPost_ret (v:= .tuple #[.nilIface,.bool false]) (by simp[results,Tryz.results154,go_sem]) rfl ?_;exact⟨rfl,HB.out⟩
  ·have eb:(b==0)=false:=by simpa using hb
   clear hK hr hs hA hb
   go_enter Tryz.func154,Tryz.ntmps154
   go_wp2_with (go_at_call 170;refine ia.mono ?_;rintro e w2 ⟨rfl,rfl⟩)
   refine bodyPost_ret (v:= .tuple #[.nilIface,.bool false]) (by simp[results,Tryz.results154,go_sem]) rfl ?_;exact⟨rfl,HB.out⟩
theorem Vr{f:Ru->Bool}{R:List Ru}{k:Nat}(hk:k<R.length):(R.take (k+1)).any f=((R.take k).any f||f (R.getD k (0,[]))):=by
 have e:R.getD k (0,[])=R[k]:=by simp[List.getD,hk]
 rw[List.take_succ_eq_append_getElem hk,List.any_append,e];simp
theorem Vt{f:Ru->Bool}{R:List Ru}{k:Nat}(hk:k<R.length):(R.take (k+1)).all f=((R.take k).all f&&f (R.getD k (0,[]))):=by
 have e:R.getD k (0,[])=R[k]:=by simp[List.getD,hk]
 rw[List.take_succ_eq_append_getElem hk,List.all_append,e];simp
theorem ad3{w:World}{T N:Int}{ra:Option Addr}{rc:Nat}{R:List Ru}{op a:Int}(hr:au w w.heap.size (.slice ra R.length rc) R)(hl:R.length<=1000)(ha:0<=a/\a<N):
 Calls Tryz.prog 154 #[.agg #[.int .i64 T,.int .i64 N,.slice ra R.length rc,.int .i64 op,.int .i64 a,.int .i64 0,.int .i64 0]] w fun e w'=> ∃cv,e= .returned (.tuple #[cv,.bool (pW R a)])/\(pW R a=true->cv= .iface 259 (.agg #[.int .i64 T,.int .i64 N,.slice ra R.length rc,.int .i64 op,.int .i64 a,.int .i64 0,.int .i64 0]))/\Below w.heap.size w w':=by
 have hK:=oH (T:=T) (N:=N) (op:=op) (a:=a) (b:=0) (c:=0) hr;obtain⟨W0,hW0⟩:∃W,w.alloc (.cells #[.int .i64 T,.int .i64 N,.slice ra R.length rc,.int .i64 op,.int .i64 a,.int .i64 0,.int .i64 0] 207)=W:=⟨_,rfl⟩;rw[hW0]at hK;obtain⟨W1,hW1⟩:∃W,W0.alloc (.cells #[.int .i64 T,.int .i64 N,.slice ra R.length rc,.int .i64 op,.int .i64 a,.int .i64 0,.int .i64 0] 259)=W:=⟨_,rfl⟩;have hB1:Below W0.heap.size W0 W1:=by rw[<-hW1];exact(Below.refl _ _).alloc (Nat.le_refl _) _
 have hblk:W1.heap[W0.heap.size]?=some (.cells #[.int .i64 T,.int .i64 N,.slice ra R.length rc,.int .i64 op,.int .i64 a,.int .i64 0,.int .i64 0] 259 (0,0)):=by rw[<-hW1];exact heap_alloc_new _ _
 have x0:=hK.x0;have x1:=hK.x1;have x2:=hK.x2;have x3:=hK.x3;have x4:=hK.x4;have x5:=hK.x5;have x6:=hK.x6;have y2:=(hK.next hB1).x2;rw[<-hW1]at y2;have HW1:Hid (W0.alloc (.cells #[.int .i64 T,.int .i64 N,.slice ra R.length rc,.int .i64 op,.int .i64 a,.int .i64 0,.int .i64 0] 259)=W1):=hW1;have gq:Hid (fK w T N ra rc R op a 0 0 W1):=hK.next hB1;have HX:Hid (∀wq,Below W1.heap.size W1 wq->wq.heap[W0.heap.size]?=some (.cells #[.int .i64 T,.int .i64 N,.slice ra R.length rc,.int .i64 op,.int .i64 a,.int .i64 0,.int .i64 0] 259 (0,0))):=fun wq hq=>(hq.block _ (Array.getElem?_eq_some_iff.1 hblk).1).trans hblk;have ia:=ul (w:=W0) (n:=a) (m:=N);rw[decide_eq_true ha.1,decide_eq_true ha.2]at ia;have e0:((0:Int)==0)=true:=rfl;clear hK hr hB1 hblk ha hW1
 go_enter Tryz.func154,Tryz.ntmps154
 go_wp2_with (go_at_call 170;refine ia.mono ?_;rintro e w2 ⟨rfl,h2⟩;obtain rfl:W0=w2:=h2.symm;clear ia)
 obtain⟨xb,hxb⟩:∃x,W0.heap.size=x:=⟨_,rfl⟩;rw[HW1.out];rw[hxb]at HX⊢;clear x0 x1 x2 x3 x4 x5 x6 y2 hW0 HW1 hxb
 go_loopw [5,34] (fun s5 s34 wr=> ∃k:Nat,s5= .bool ((R.take k).any (iY a))/\s34= .int .i64 k/\k<=R.length/\(R.take k).all (fun r=> !(iY a r&&decide (r.2.length=1)))=true/\Below W1.heap.size W1 wr) (fun _ s _=>R.length-(intOf s).toNat)
 case atStart=>exact⟨0,rfl,rfl,Nat.zero_le _,rfl,Below.refl _ _⟩
 case round=>
  obtain⟨k,rfl,rfl,hk,hall,hB⟩:=hrel;have HB:Hid (Below W1.heap.size W1 wr):=hB;have D5:Hid ((R.take k).all (fun r=> !(iY a r&&decide (r.2.length=1)))=true):=hall;have hKr:=gq.out.next hB;have oz:=HX.out wr hB;obtain⟨any,hany⟩:∃x,(R.take k).any (iY a)=x:=⟨_,rfl⟩;have Vu:Hid ((R.take k).any (iY a)=any):=hany;rw[hany];clear hany hall;by_cases hlt:k<R.length
  ·obtain⟨b0,o0,qy,qa,qc,hv,_,k1,k2,_⟩:=hKr.rules.jV hlt
   cases hv;obtain⟨⟨L,l⟩,hx⟩:∃x,R.getD k (0,[])=x:=⟨_,rfl⟩;rw[hx]at k1 k2;simp only at k1 k2;obtain⟨n,hn⟩:∃n,l.length=n:=⟨_,rfl⟩;rw[hn]at k2;have zA:Hid (R.getD k (0,[])=(L,l)/\l.length=n):=⟨hx,hn⟩;obtain⟨W2,hW2⟩:∃W,wr.alloc (.cells #[.int .i64 L,.slice qa n qc] 91)=W:=⟨_,rfl⟩;obtain⟨rb,hrb⟩:∃x,wr.heap.size=x:=⟨_,rfl⟩;have hB2:Below wr.heap.size wr W2:=by rw[<-hW2];exact(Below.refl _ _).alloc (Nat.le_refl _) _
   have hB2':Below W1.heap.size W1 W2:=HB.out.trans (hB2.mono HB.out.size);have r1:W2.cell? ⟨rb,1,none⟩=some (.slice qa n qc):=by rw[<-hW2,<-hrb];exact aB (heap_alloc_new _ _) rfl
   have hX2:=HX.out W2 hB2';have z0:W2.cell? ⟨xb,0,none⟩=some (.int .i64 T):=aB hX2 rfl;have z1:W2.cell? ⟨xb,1,none⟩=some (.int .i64 N):=aB hX2 rfl;have z2:W2.cell? ⟨xb,2,none⟩=some (.slice (some ⟨b0,o0,none⟩) R.length rc):=aB hX2 rfl;have z3:W2.cell? ⟨xb,3,none⟩=some (.int .i64 op):=aB hX2 rfl;have z4:W2.cell? ⟨xb,4,none⟩=some (.int .i64 a):=aB hX2 rfl;have z5:W2.cell? ⟨xb,5,none⟩=some (.int .i64 0):=aB hX2 rfl;have z6:W2.cell? ⟨xb,6,none⟩=some (.int .i64 0):=aB hX2 rfl;have be:=Vq (w:=W2) (T:=T) (N:=N) (op:=op) (a:=a) (b:=0) (c:=0) (gq.out.next hB2').all hlt;rw[hx]at be;have HB2:Hid (Below W1.heap.size W1 W2):=hB2';have HR1:Hid (W2.cell? ⟨rb,1,none⟩=some (.slice qa n qc)):=r1;have i0:(0:Int)<=(k:Int):=Int.natCast_nonneg _;have i1:(k:Int)<(R.length:Int):=by omega
   clear hx hn hB2 hB2' hX2 oz hKr r1 hB;cases hbe:iY a (L,l) with
   |false=>
    rw[hbe]at be;have kP:Hid (iY a (L,l)=false):=hbe;clear hbe
    go_wp2_with (go_at_call 173;refine be.mono ?_;rintro e w3 ⟨rfl,hB3⟩;clear be)
    go_roundw
    case rel=>
     refine⟨k+1,?_,by go_num,by omega,?_,HB2.out.trans (hB3.mono HB2.out.size)⟩
     ·rw[Vr hlt,Vu.out,zA.out.1,kP.out,Bool.or_false]
     ·rw[Vt hlt,D5.out,zA.out.1,kP.out]
      rfl
    case measure=>simp[intOf];omega
   |true=>
    rw[hbe]at be;have kP:Hid (iY a (L,l)=true):=hbe;clear hbe;by_cases hn1:n=1
    ·have MX:Hid (n=1):=hn1
     have en:((n:Int)==1)=true:=by rw[hn1];rfl
     clear hn1
     go_wp2_with
      (go_at_call 173;refine be.mono ?_;rintro e w3 ⟨rfl,hB3⟩;clear be
       have q1:=(hB3.cell (World.block_lt_of_cell? _ _ HR1.out)).trans HR1.out)
     have hF:pW R a=false:=by
      unfold pW
      have:(R.all fun r=> !(iY a r&&decide (r.2.length=1)))=false:=by
       rw[List.all_eq_false];refine⟨(L,l),?_,?_⟩
       ·rw[<-zA.out.1]
        simp[List.getD,hlt]
       ·rw[kP.out,zA.out.2,MX.out]
        simp
      rw[this,Bool.and_false]
     refine bodyPost_ret (v:= .tuple #[.nilIface,.bool false]) (by simp[results,Tryz.results154,go_sem]) rfl ?_;refine⟨_,by rw[hF],fun h=> ?_,gq.out.below.trans ((HB2.out.trans (hB3.mono HB2.out.size)).mono (Nat.le_trans (by omega) gq.out.size))⟩;rw[hF]at h;cases h
    ·have en:((n:Int)==1)=false:=by
      have:(n:Int)≠1:=by omega
      simpa using this
     have MX:Hid (¬n=1):=hn1;clear hn1
     go_wp2_with
      (go_at_call 173;refine be.mono ?_;rintro e w3 ⟨rfl,hB3⟩;clear be
       have q1:=(hB3.cell (World.block_lt_of_cell? _ _ HR1.out)).trans HR1.out)
     go_roundw
     case rel=>
      refine⟨k+1,?_,by go_num,by omega,?_,HB2.out.trans (hB3.mono HB2.out.size)⟩
      ·rw[Vr hlt,zA.out.1,kP.out,Bool.or_true]
      ·rw[Vt hlt,D5.out,zA.out.1,kP.out,zA.out.2]
       simp[MX.out]
     case measure=>simp[intOf];omega
  ·have hkk:k=R.length:=by omega
   have hL:pW R a=any:=by
    unfold pW;have h1:=Vu.out;have h2:=D5.out;rw[hkk,List.take_length]at h1 h2;rw[h1,h2,Bool.and_true]
   have HL:Hid (pW R a=any):=hL;have z0:wr.cell? ⟨xb,0,none⟩=some (.int .i64 T):=aB oz rfl;have z1:wr.cell? ⟨xb,1,none⟩=some (.int .i64 N):=aB oz rfl;have z2:wr.cell? ⟨xb,2,none⟩=some (.slice ra R.length rc):=aB oz rfl;have z3:wr.cell? ⟨xb,3,none⟩=some (.int .i64 op):=aB oz rfl;have z4:wr.cell? ⟨xb,4,none⟩=some (.int .i64 a):=aB oz rfl;have z5:wr.cell? ⟨xb,5,none⟩=some (.int .i64 0):=aB oz rfl;have z6:wr.cell? ⟨xb,6,none⟩=some (.int .i64 0):=aB oz rfl;have Lm:Hid (Below w.heap.size w wr):=hKr.below;clear oz hKr hB hkk hL
   go_wp2_with fail
   refine bodyPost_ret (v:= .tuple #[.iface 259 (.agg #[.int .i64 T,.int .i64 N,.slice ra R.length rc,.int .i64 op,.int .i64 a,.int .i64 0,.int .i64 0]),.bool any]) (by simp[results,Tryz.results154,go_sem]) rfl ?_;exact⟨_,by rw[HL.out],fun _=>rfl,Lm.out⟩
end Go.Proofs.YtblkkhfdeaaidaaGreatDoor
namespace Go.Proofs.YtblkkhfdeaaidaaGreatDoor
def hasB(X:List Bool)(n:Int):Prop:=0<=n/\X.getD n.toNat false=true
def rW(A:Int->Prop)(l:List Sy):Prop:=∀s∈l,s.1=false->A s.2
def zB(R:List Ru)(A:Int->Prop)(n:Int):Prop:=∃r∈R,r.1=n/\rW A r.2
def EL(R:List Ru)(M A:Int->Prop)(n:Int):Prop:=(n=0/\M 0)\/∃r∈R,(false,n)∈r.2/\rW M r.2/\A r.1
def gT(N:Nat)(R:List Ru):Int->Prop:=Lv (zB R) N
def oI(N:Nat)(R:List Ru):Int->Prop:=Lv (EL R (gT N R)) N
theorem rW.mono{A B:Int->Prop}(h:∀n,A n->B n){l:List Sy}(hl:rW A l):rW B l:=fun s hs hb=>h _ (hl s hs hb)
theorem Vv(R:List Ru)(A B:Int->Prop)(h:∀n,A n->B n)(n:Int)(hn:zB R A n):zB R B n:=by
 obtain⟨r,h1,h2,h3⟩:=hn;exact⟨r,h1,h2,h3.mono h⟩
theorem Vw(R:List Ru)(M:Int->Prop)(A B:Int->Prop)(h:∀n,A n->B n)(n:Int)(hn:EL R M A n):EL R M B n:=by
 rcases hn with hn|⟨r,h1,h2,h3,h4⟩
 ·exact .inl hn
 ·exact .inr ⟨r,h1,h2,h3,h _ h4⟩
section
variable{T N:Nat}{R:List Ru}(h:bM T N R)
include h
theorem Vx:uN N (zB R):=⟨fun A B=>Vv R A B,fun A n hn=>by obtain⟨r,h1,rfl,_⟩:=hn;exact h.left r h1⟩
theorem MZ(M:Int->Prop):uN N (EL R M):=⟨fun A B=>Vw R M A B,fun A n hn=>by
 rcases hn with⟨rfl,_⟩|⟨r,h1,h2,_⟩
 ·have:=h.some;omega
 ·exact h.name r h1 _ h2 rfl⟩
end
theorem xY{X:List Bool}{l:List Sy}(h:∀s∈l,s.1=false->0<=s.2):dK X l=true↔rW (hasB X) l:=by
 unfold dK rW hasB;rw[List.all_eq_true];constructor
 ·intro hh s hs hb
  have:=hh s hs;rw[hb]at this;exact⟨h s hs hb,by simpa using this⟩
 ·intro hh s hs
  cases hb:s.1 with
  |true=>rfl
  |false=>rw[(hh s hs hb).2];rfl
theorem uD{R:List Ru}{i:Nat}(hi:i<R.length):R.getD i (0,[])∈R:=by simp[List.getD,hi]
theorem EM{R:List Ru}{r:Ru}(hr:r∈R):∃i,i<R.length/\R.getD i (0,[])=r:=by
 obtain⟨i,hi,rfl⟩:=List.getElem_of_mem hr;exact⟨i,hi,by simp[List.getD,hi]⟩
theorem rX{v:Int}(h:0<=v):((v.toNat:Nat):Int)=v:=by omega
end Go.Proofs.YtblkkhfdeaaidaaGreatDoor
namespace Go.Proofs.YtblkkhfdeaaidaaGreatDoor
open Go.RowKit
end Go.Proofs.YtblkkhfdeaaidaaGreatDoor
