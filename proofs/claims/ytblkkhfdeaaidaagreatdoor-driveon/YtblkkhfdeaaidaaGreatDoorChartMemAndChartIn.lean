import Derived.Test.YtblkkhfdeaaidaaGreatDoorChartMathAndMapMem
import Derived.Test.YtblkkhfdeaaidaaGreatDoorTxPaAndLfp
import Derived.RegionTactic
import Derived.Deep.RegionLaw
import Derived.Deep.LoopGhost
set_option maxHeartbeats 3200000
set_option maxRecDepth 100000
namespace Go.Proofs.YtblkkhfdeaaidaaGreatDoor
open Go.RowKit
open Go.WideMaps (KeyLaw)
def oV(it:aJ):Value:= .agg #[.int .i64 it.rule,.int .i64 it.read,.int .i64 it.fr,.int .i64 it.upto]
def gH(s:bX):Value:= .agg #[.int .i64 s.1,.int .i64 s.2]
def gZ(it:aJ):List Value:=[.int .i64 it.rule,.int .i64 it.read,.int .i64 it.fr,.int .i64 it.upto]
theorem Qf(a b:aJ)(h:oV a=oV b):a=b:=by
 obtain⟨a1,a2,a3,a4⟩:=a;obtain⟨b1,b2,b3,b4⟩:=b;simp[oV]at h;simp;omega
theorem FP(a b:bX)(h:gH a=gH b):a=b:=by
 obtain⟨a1,a2⟩:=a;obtain⟨b1,b2⟩:=b;simp[gH]at h;simp;omega
theorem Qg:laidOutB Tryz.prog=true:=by kernel_rfl
theorem YP:(match Tryz.prog.underlying 198 with|some (.array _ _)|some (.struct _)=>true|_=>false)=true:=by rw[Tryz.underlying198 ]
theorem YQ:(match Tryz.prog.underlying 196 with|some (.array _ _)|some (.struct _)=>true|_=>false)=true:=by rw[Tryz.underlying196 ]
theorem Qh:KeyLaw Tryz.prog 198:=deep_law_laid Qg (m:=3) (by omega) (of_decide_eq_true (by kernel_rfl)) (by kernel_rfl) YP
theorem FQ:KeyLaw Tryz.prog 196:=deep_law_laid Qg (m:=3) (by omega) (of_decide_eq_true (by kernel_rfl)) (by kernel_rfl) YQ
theorem YR:Tryz.prog.keyType 198=true:=by kernel_rfl
theorem YS:Tryz.prog.keyType 196=true:=by kernel_rfl
theorem Qi:Tryz.prog.cellsOf 198=4:=by kernel_rfl
theorem Qj:Tryz.prog.cellsOf 196=2:=by kernel_rfl
theorem intCells:Tryz.prog.cellsOf 3=1:=by kernel_rfl
theorem Qk:∃m,Tryz.prog.types.size=m+1:=⟨Tryz.prog.types.size-1,by kernel_rfl⟩
theorem wf_i64{a:Int}(h0:0<=a)(h:a<=1000000):(Lit.int .i64 a).wf=true:=by
 have h1:IntKind.i64.min<=a:=Int.le_trans (by decide) h0;have h2:a<=IntKind.i64.max:=Int.le_trans h (by decide);simp only[Lit.wf,decide_eq_true h1,decide_eq_true h2,Bool.and_self]
theorem Ql{it:aJ}(h1:it.rule<=1000)(h2:it.read<=1000)(h3:it.fr<=1000)(h4:it.upto<=1000):∃l,keyOf Tryz.prog 198 (oV it)=some l:=by
 obtain⟨m,hm⟩:=Qk;have w1:=wf_i64 (a:=it.rule) (by omega) (by omega);have w2:=wf_i64 (a:=it.read) (by omega) (by omega);have w3:=wf_i64 (a:=it.fr) (by omega) (by omega);have w4:=wf_i64 (a:=it.upto) (by omega) (by omega);rw[<-Option.isSome_iff_exists];unfold keyOf oV;simp only[Tryz.underlying198 ];rw[if_pos (by simp[YR,Value.formed,Tryz.underlying198,Qi]),hm];simp[Program.keyLits,Tryz.underlying198,Tryz.underlying3,Qi,intCells,Value.cells,w1,w2,w3,w4]
theorem FR{s:bX}(h0:0<=s.1)(h1:s.1<=1000)(h2:s.2<=1000):∃l,keyOf Tryz.prog 196 (gH s)=some l:=by
 obtain⟨m,hm⟩:=Qk;have w1:=wf_i64 (a:=s.1) (by omega) (by omega);have w2:=wf_i64 (a:=s.2) (by omega) (by omega);rw[<-Option.isSome_iff_exists];unfold keyOf gH;simp only[Tryz.underlying196 ];rw[if_pos (by simp[YS,Value.formed,Tryz.underlying196,Qj]),hm];simp[Program.keyLits,Tryz.underlying196,Tryz.underlying3,Qj,intCells,Value.cells,w1,w2]
theorem YT(w:World):(zeroValue 249).run Tryz.prog w= .ok (.agg #[]) w:=by kernel_rfl
theorem Qm(w:World):(zeroValue 191).run Tryz.prog w= .ok (.slice none 0 0) w:=by kernel_rfl
theorem Qn(w:World):(zeroValue 59).run Tryz.prog w= .ok (.slice none 0 0) w:=by kernel_rfl
theorem Tryz.infoItm:(Tryz.prog.info? 198).map (fun i=>(i.zero,i.size,i.bytes))=some (some (.agg #[.int .i64 0,.int .i64 0,.int .i64 0,.int .i64 0]),4,32):=by kernel_rfl
structure Ad where
 ca:Nat
 mi:Nat
 mw:Nat
 me:Nat
 T:Nat
 N:Nat
 rv:Value
 tv:Value
structure CM where
 ov:Value
 VW:bX->Value
 VE:bX->Value
inductive Kb where
 |ch
 |op
 |wt (s:bX)
 |en (s:bX)
 deriving DecidableEq
def Ai(d:Ad)(ov:Value):List Value:=[.int .i64 d.T,.int .i64 d.N,d.rv,d.tv,.map (some d.mi),ov,.map (some d.mw),.map (some d.me)]
def Pc(d:Ad)(v:CM)(st:aL):Kb->Option Row
 | .ch=>some ⟨.slice (some ⟨d.ca,0,none⟩) 1 1,193,8,1,Ai d v.ov⟩
 | .op=>some ⟨v.ov,198,4,st.O.length,st.O.flatMap gZ⟩
 | .wt s=>some ⟨v.VW s,198,4,(st.W s).length,(st.W s).flatMap gZ⟩
 | .en s=>some ⟨v.VE s,3,1,(st.E s).length,(st.E s).map fun j:Nat=>Value.int .i64 j⟩
def uT(I:List aJ)(it:aJ):Option Value:=if it∈I then some (.agg #[]) else none
def ig{α:Type}(L:bX->List α)(V:bX->Value)(s:bX):Option Value:=if (L s).length=0 then none else some (V s)
structure aC(w:World)(B:Nat)(d:Ad)(v:CM)(st:aL)(nm:Nat):Prop where
 own:ah w B (Pc d v st)
 mE:MapAt Tryz.prog 198 oV w d.mi st.I.length (uT st.I)
 mF:MapAt Tryz.prog 196 gH w d.mw nm (ig st.W v.VW)
 mG:MapAt Tryz.prog 196 gH w d.me nm (ig st.E v.VE)
 uU:∀s,(st.W s).length=0->v.VW s= .slice none 0 0
 uV:∀s,(st.E s).length=0->v.VE s= .slice none 0 0
 ne1:d.mi≠d.mw
 uW:d.mi≠d.me
 uX:d.mw≠d.me
 ge:B<=d.mi/\B<=d.mw/\B<=d.me
def Kc(d:Ad)(v:CM)(b:Nat):Prop:=b=d.mi\/b=d.mw\/b=d.me\/b=d.ca\/v.ov.ownBlock=some b\/(∃s,(v.VW s).ownBlock=some b)\/∃s,(v.VE s).ownBlock=some b
structure Goes(d:Ad)(v v':CM)(w w':World):Prop where
 kept:Kept (Kc d v) w w'
 old:∀b,b<w.heap.size->Kc d v' b->Kc d v b
section
variable{d:Ad}{v v' v'':CM}{w w' w'':World}{B nm:Nat}{st:aL}
theorem Goes.refl(d:Ad)(v:CM)(w:World):Goes d v v w w:=⟨Kept.refl _ _,fun _ _ h=>h⟩
theorem Goes.trans(h:Goes d v v' w w')(k:Goes d v' v'' w' w''):Goes d v v'' w w'':=
 ⟨⟨k.kept.os.trans h.kept.os,k.kept.tape.trans h.kept.tape,k.kept.output.trans h.kept.output,Nat.le_trans h.kept.size k.kept.size,
    fun b hb hK=>(k.kept.block b (Nat.lt_of_lt_of_le hb h.kept.size) (fun e=>hK (h.old b hb e))).trans (h.kept.block b hb hK)⟩,
   fun b hb hK=>h.old b hb (k.old b (Nat.lt_of_lt_of_le hb h.kept.size) hK)⟩
theorem Goes.bP(hb:Below w.heap.size w w'):Goes d v v w w':=⟨Kept.bP hb,fun _ _ h=>h⟩
theorem Goes.alloc(h:Goes d v v' w w')(o:Obj):Goes d v v' w (w'.alloc o):=h.trans (Goes.bP ((Below.refl _ _).alloc (Nat.le_refl _) o))
theorem Goes.drew(h:Goes d v v' w w'):Goes d v v' w w'.drew:=h.trans (Goes.bP ((Below.refl _ _).drew))
theorem Goes.far(h:Goes d v v' w w'){b:Nat}(hb:b<w.heap.size)(hn:¬Kc d v b):w'.heap[b]?=w.heap[b]?/\¬Kc d v' b/\b<w'.heap.size:=
 ⟨h.kept.block b hb hn,fun e=>hn (h.old b hb e),Nat.lt_of_lt_of_le hb h.kept.size⟩
theorem aC.off(h:aC w B d v st nm){b:Nat}(hb:b=d.mi\/b=d.mw\/b=d.me){i:Kb}{r:Row}(hr:Pc d v st i=some r):r.v.ownBlock≠some b:=by
 obtain⟨e1,c1,h1⟩:=h.mE.isMap;obtain⟨e2,c2,h2⟩:=h.mF.isMap;obtain⟨e3,c3,h3⟩:=h.mG.isMap;rcases hb with rfl|rfl|rfl
 ·exact CW (h.own.own i r hr) h1
 ·exact CW (h.own.own i r hr) h2
 ·exact CW (h.own.own i r hr) h3
theorem aC.kc(h:aC w B d v st nm){b:Nat}(hb:Kc d v b):B<=b/\b<w.heap.size:=by
 rcases hb with rfl|rfl|rfl|rfl|hb|⟨s,hb⟩|⟨s,hb⟩
 ·exact⟨h.ge.1,h.mE.lt⟩
 ·exact⟨h.ge.2.1,h.mF.lt⟩
 ·exact⟨h.ge.2.2,h.mG.lt⟩
 ·exact h.own.lt (i:= .ch) rfl rfl
 ·exact h.own.lt (i:= .op) rfl hb
 ·exact h.own.lt (i:= .wt s) rfl hb
 ·exact h.own.lt (i:= .en s) rfl hb
theorem YU{i:Kb}{r:Row}{g:Nat}(hr:Pc d v st i=some r)(hg:r.v.ownBlock=some g):Kc d v g:=by
 cases i<;>simp only[Pc,Option.some.injEq]at hr<;>subst hr
 ·simp only[Value.ownBlock,Option.some.injEq]at hg
  exact .inr (.inr (.inr (.inl hg.symm)))
 ·exact .inr (.inr (.inr (.inr (.inl hg))))
 ·exact .inr (.inr (.inr (.inr (.inr (.inl ⟨_,hg⟩)))))
 ·exact .inr (.inr (.inr (.inr (.inr (.inr ⟨_,hg⟩)))))
theorem aC.far(h:aC w B d v st nm)(hh:∀b,b<w.heap.size->Kc d v b->w'.heap[b]?=w.heap[b]?):aC w' B d v st nm:=by
 have k:∀b,Kc d v b->w'.heap[b]?=w.heap[b]?:=fun b hb=>hh b (h.kc hb).2 hb;exact⟨h.own.heap fun i r g hr hg=>k g (YU hr hg),h.mE.kept (k _ (.inl rfl)),h.mF.kept (k _ (.inr (.inl rfl))),h.mG.kept (k _ (.inr (.inr (.inl rfl)))),h.uU,h.uV,h.ne1,h.uW,h.uX,h.ge⟩
theorem aC.below(h:aC w B d v st nm)(hb:Below w.heap.size w w'):aC w' B d v st nm:=h.far fun b hlt _=>hb.block b hlt
theorem aC.alloc(h:aC w B d v st nm)(o:Obj):aC (w.alloc o) B d v st nm:=h.below ((Below.refl _ _).alloc (Nat.le_refl _) o)
theorem aC.drew(h:aC w B d v st nm):aC w.drew B d v st nm:=h.below ((Below.refl _ _).drew)
theorem aC.nR(h:aC w B d v st nm)(g:Goes d v v' w w'):Below B w w':=
 g.kept.below (fun b hb=>(h.kc hb).1) (by have:=h.ge.1;have:=h.mE.lt;omega)
theorem aC.cell(h:aC w B d v st nm){i:Nat}{x:Value}(hx:(Ai d v.ov)[i]?=some x)(hi:i<8):w.cell? ⟨d.ca,i,none⟩=some x/\w.frozen? ⟨d.ca,i,none⟩=false:=by
 have:=h.own.cell (i:= .ch) (g:=d.ca) (n:=1) (cap:=1) (e:=193) (size:=8) (xs:=Ai d v.ov) rfl i (by omega);exact⟨this.1.trans hx,this.2⟩
theorem YV{L:List aJ}{i k:Nat}(hi:i<L.length)(hk:k<4):(L.flatMap gZ)[i*4+k]?=(gZ (L.getD i ⟨0,0,0,0⟩))[k]?:=by
 induction L generalizing i with
 |nil=>simp at hi
 |cons a L ih=>
  rw[List.flatMap_cons];have hl:(gZ a).length=4:=rfl;cases i with
  |zero=>rw[List.getElem?_append_left (by omega)];simp
  |succ i=>
   rw[List.getElem?_append_right (by omega),hl,show (i+1)*4+k-4=i*4+k by omega];rw[ih (by simpa using hi)];simp[List.getD]
theorem Ke(L:List aJ):(L.flatMap gZ).length=L.length*4:=by
 induction L with
 |nil=>rfl
 |cons a L ih=>rw[List.flatMap_cons,List.length_append,ih];simp[gZ];omega
theorem Qo{base g cap:Nat}{L:List aJ}{x:Value}(h:w.ownsRow base 198 4 x L.length (L.flatMap gZ))(hx:x= .slice (some ⟨g,0,none⟩) L.length cap){i:Nat}(hi:i<L.length){it:aJ}(hit:L.getD i ⟨0,0,0,0⟩=it):
 w.cell? ⟨g,i*4,none⟩=some (.int .i64 it.rule)/\w.cell? ⟨g,i*4+1,none⟩=some (.int .i64 it.read)/\w.cell? ⟨g,i*4+2,none⟩=some (.int .i64 it.fr)/\w.cell? ⟨g,i*4+3,none⟩=some (.int .i64 it.upto):=by
 subst hx;subst hit
 have c:∀k,k<4->w.cell? ⟨g,i*4+k,none⟩=(gZ (L.getD i ⟨0,0,0,0⟩))[k]?:=fun k hk=>by
  rw[h.cellAt (i*4+k) (by omega),YV hi hk]
 exact⟨c 0 (by omega),c 1 (by omega),c 2 (by omega),c 3 (by omega)⟩
theorem Qp{base g cap:Nat}{L:List Nat}{x:Value}(h:w.ownsRow base 3 1 x L.length (L.map fun j:Nat=>Value.int .i64 j))(hx:x= .slice (some ⟨g,0,none⟩) L.length cap){i:Nat}(hi:i<L.length){j:Nat}(hj:L.getD i 0=j):
 w.cell? ⟨g,i,none⟩=some (.int .i64 j):=by
 subst hx;subst hj;rw[h.cellAt i (by omega)];simp[List.getD,hi]
theorem aC.YW(h:aC w B d v st nm){it:aJ}(hg:w.grownBy w' (some d.mi))(hm:MapAt Tryz.prog 198 oV w' d.mi (st.I.length+1) (eT (uT st.I) it (.agg #[]))):
 aC w' B d v { st with I:=st.I++[it] } nm/\Goes d v v w w':=by
 refine⟨⟨?_,?_,h.mF.kept ?_,h.mG.kept ?_,h.uU,h.uV,h.ne1,h.uW,h.uX,h.ge⟩,⟨hg.os,hg.tape,hg.output,hg.size,fun b hb hK=>hg.block b hb fun e=>hK (.inl (by simpa using e))⟩,fun _ _ hK=>hK⟩
 ·exact h.own.heap fun i r g hr hg'=>hg.block g (h.own.lt hr hg').2 fun e=>h.off (.inl rfl) hr (hg'.trans e)
 ·have e:eT (uT st.I) it (.agg #[])=uT (st.I++[it]):=by
   funext x
   by_cases hx:x=it
   ·simp[eT,uT,hx]
   ·simp[eT,uT,hx]
  have:=hm.congr e;simpa using this
 ·exact hg.block _ h.mF.lt fun e=>h.ne1 (by simpa using e.symm)
 ·exact hg.block _ h.mG.lt fun e=>h.uW (by simpa using e.symm)
theorem YX{aA:Value}{O':List aJ}:upd (upd (Pc d v st) .op ⟨aA,198,4,O'.length,O'.flatMap gZ⟩) .ch ⟨.slice (some ⟨d.ca,0,none⟩) 1 1,193,8,1,(Ai d v.ov).set 5 aA⟩=Pc d { v with ov:=aA } { st with O:=O' }:=by
 funext i
 cases i<;>simp[upd,Pc,Ai]
theorem aC.Aj(h:aC w B d v st nm){aA:Value}{O':List aJ}(hg:w.grownBy w' v.ov.ownBlock)(ho:w'.ownsRow B 198 4 aA O'.length (O'.flatMap gZ))(hat:∀g,aA.ownBlock=some g->v.ov.ownBlock=some g\/g=w.heap.size):
 aC (w'.setCell ⟨d.ca,5,none⟩ aA) B d { v with ov:=aA } { st with O:=O' } nm/\Goes d v { v with ov:=aA } w (w'.setCell ⟨d.ca,5,none⟩ aA):=by
 have h1:=h.own.turn (i:= .op) (r':=⟨aA,198,4,O'.length,O'.flatMap gZ⟩) rfl hg ho hat;have h2:=h1.store (i:= .ch) (g:=d.ca) (n:=1) (cap:=1) (e:=193) (size:=8) (xs:=Ai d v.ov) (by simp[upd,Pc]) 5 aA;rw[YX]at h2;have far:∀b,b<w.heap.size->b≠d.ca->some b≠v.ov.ownBlock->(w'.setCell ⟨d.ca,5,none⟩ aA).heap[b]?=w.heap[b]?:=fun b hb hne hr=>(Below.heap_setCell _ _ _ _ hne).trans (hg.block b hb hr)
 have m:∀b,(b=d.mi\/b=d.mw\/b=d.me)->b<w.heap.size->(w'.setCell ⟨d.ca,5,none⟩ aA).heap[b]?=w.heap[b]?:=fun b hb hlt=>
  far b hlt (fun e=>h.off hb (i:= .ch) rfl (by rw[e];rfl)) fun e=>h.off hb (i:= .op) rfl e.symm
 refine⟨⟨h2,h.mE.kept (m _ (.inl rfl) h.mE.lt),h.mF.kept (m _ (.inr (.inl rfl)) h.mF.lt),h.mG.kept (m _ (.inr (.inr rfl)) h.mG.lt),h.uU,h.uV,h.ne1,h.uW,h.uX,h.ge⟩,
  ⟨hg.os,hg.tape,hg.output,by have:=hg.size;simpa [World.setCell] using this,fun b hb hK=>far b hb (fun e=>hK (.inr (.inr (.inr (.inl e))))) fun e=>hK (.inr (.inr (.inr (.inr (.inl e.symm)))))⟩,fun b hb hK=> ?_⟩
 rcases hK with hK|hK|hK|hK|hK|hK|hK
 ·exact .inl hK
 ·exact .inr (.inl hK)
 ·exact .inr (.inr (.inl hK))
 ·exact .inr (.inr (.inr (.inl hK)))
 ·rcases hat b hK with e|e
  ·exact .inr (.inr (.inr (.inr (.inl e))))
  ·omega
 ·exact .inr (.inr (.inr (.inr (.inr (.inl hK)))))
 ·exact .inr (.inr (.inr (.inr (.inr (.inr hK)))))
theorem aC.pop(h:aC w B d v st nm){g cap:Nat}(hv:v.ov= .slice (some ⟨g,0,none⟩) st.O.length cap)(hO:0<st.O.length):
 aC (w.setCell ⟨d.ca,5,none⟩ (.slice (some ⟨g,0,none⟩) (st.O.length-1) cap)) B d { v with ov:= .slice (some ⟨g,0,none⟩) (st.O.length-1) cap } (jl st) nm/\
  Goes d v { v with ov:= .slice (some ⟨g,0,none⟩) (st.O.length-1) cap } w (w.setCell ⟨d.ca,5,none⟩ (.slice (some ⟨g,0,none⟩) (st.O.length-1) cap)):=by
 have ho:=h.own.own .op _ rfl;simp only[hv]at ho;have hl:st.O.dropLast.length=st.O.length-1:=by simp
 have ho':w.ownsRow B 198 4 (.slice (some ⟨g,0,none⟩) (st.O.length-1) cap) st.O.dropLast.length (st.O.dropLast.flatMap gZ):=by
  refine⟨Ke _,?_⟩;rcases ho.2 with⟨e,_⟩|⟨g',cap',cur,e,h2,h3,h4,h5,h6,h7⟩
  ·cases e
  ·injection e with e1 e2 e3
   injection e1 with e1;injection e1 with e1;subst e1;subst e3;refine .inr ⟨g,cap,cur,by rw[hl],h2,h3,by omega,h5,h6,?_⟩
   have e8:st.O.flatMap gZ=st.O.dropLast.flatMap gZ++gZ (dJ st):=by
    conv=>lhs;rw[P9 hO,List.flatMap_append]
    simp
   rw[e8]at h7;have h9:=congrArg (List.take (st.O.dropLast.length*4)) h7;rw[List.take_take,Nat.min_eq_left (by omega),<-Ke,List.take_left]at h9;rw[<-Ke];exact h9
 have:=h.Aj (World.grownBy.refl w _) ho' (fun b hb=> .inl (by rw[hv];exact hb));exact⟨⟨this.1.own,this.1.mE,this.1.mF,this.1.mG,this.1.uU,this.1.uV,h.ne1,h.uW,h.uX,h.ge⟩,this.2⟩
theorem YZ{s:bX}{it:aJ}{nv:Value}:upd (Pc d v st) (.wt s) ⟨nv,198,4,(st.W s++[it]).length,(st.W s++[it]).flatMap gZ⟩=Pc d { v with VW:=eB v.VW s nv } (gm s it st):=by
 funext i
 cases i with
 |ch=>simp[upd,Pc]
 |op=>simp[upd,Pc,gm]
 |en t=>simp[upd,Pc,gm]
 |wt t=>
  by_cases e:t=s
  ·subst e;simp[upd,Pc,gm,eB]
  ·simp[upd,Pc,gm,eB,e]
theorem Y0{s:bX}{j:Nat}{nv:Value}:upd (Pc d v st) (.en s) ⟨nv,3,1,(st.E s++[j]).length,(st.E s++[j]).map fun j:Nat=>Value.int .i64 j⟩=Pc d { v with VE:=eB v.VE s nv } (gX s j st):=by
 funext i
 cases i with
 |ch=>simp[upd,Pc]
 |op=>simp[upd,Pc,gX]
 |wt t=>simp[upd,Pc,gX]
 |en t=>
  by_cases e:t=s
  ·subst e;simp[upd,Pc,gX,eB]
  ·simp[upd,Pc,gX,eB,e]
theorem Qq{α:Type}{L:bX->List α}{V:bX->Value}{s:bX}{x:α}{nv:Value}:eT (ig L V) s nv=ig (eB L s (L s++[x])) (eB V s nv):=by
 funext t
 by_cases e:t=s
 ·subst e;simp[eT,ig,eB]
 ·simp[eT,ig,eB,e]
theorem aC.gm(h:aC w B d v st nm){w1 w2 w3:World}{s:bX}{it:aJ}{nv:Value}(g1:w.grownBy w1 (some d.mw))(hs1:w1.heap.size=w.heap.size)(g2:w1.grownBy w2 (v.VW s).ownBlock)
 (ho:w2.ownsRow B 198 4 nv (st.W s++[it]).length ((st.W s++[it]).flatMap gZ)) (hat:∀g,nv.ownBlock=some g->(v.VW s).ownBlock=some g\/g=w.heap.size)
 (g3:w2.grownBy w3 (some d.mw)) (hm:MapAt Tryz.prog 196 gH w3 d.mw (nm+1) (eT (ig st.W v.VW) s nv)):
 aC w3 B d { v with VW:=eB v.VW s nv } (gm s it st) (nm+1)/\Goes d v { v with VW:=eB v.VW s nv } w w3:=by
 have hW:=h.mF.lt;have o1:ah w1 B (Pc d v st):=h.own.heap fun i r g hr hg'=>g1.block g (h.own.lt hr hg').2 fun e=>h.off (.inr (.inl rfl)) hr (hg'.trans e);have o2:=o1.turn (i:= .wt s) (r':=⟨nv,198,4,(st.W s++[it]).length,(st.W s++[it]).flatMap gZ⟩) rfl g2 ho (fun g hg=>by rw[hs1];exact hat g hg)
 have hn:nv.ownBlock≠some d.mw:=fun e=>by
  rcases hat _ e with e1|e1
  ·exact h.off (.inr (.inl rfl)) (i:= .wt s) rfl e1
  ·omega
 have o3:ah w3 B (upd (Pc d v st) (.wt s) ⟨nv,198,4,(st.W s++[it]).length,(st.W s++[it]).flatMap gZ⟩):=o2.heap fun i r g hr hg'=>g3.block g (o2.lt hr hg').2 fun e=>by
  rcases zQ hr with⟨_,rfl⟩|⟨_,hr'⟩
  ·exact hn (hg'.trans e)
  ·exact h.off (.inr (.inl rfl)) hr' (hg'.trans e)
 rw[YZ]at o3
 have far:∀b,b<w.heap.size->b≠d.mw->some b≠(v.VW s).ownBlock->w3.heap[b]?=w.heap[b]?:=fun b hb h1 h2=>
  ((g3.block b (by have:=g2.size;omega) (fun e=>h1 (by simpa using e))).trans (g2.block b (by omega) h2)).trans (g1.block b hb (fun e=>h1 (by simpa using e)))
 refine⟨⟨o3,h.mE.kept (far _ h.mE.lt h.ne1 fun e=>h.off (.inl rfl) (i:= .wt s) rfl e.symm),?_,(h.mG.kept (far _ h.mG.lt h.uX.symm fun e=>h.off (.inr (.inr rfl)) (i:= .wt s) rfl e.symm)).mono (Nat.le_succ _),fun t ht=> ?_,h.uV,h.ne1,h.uW,h.uX,h.ge⟩,
  ⟨(g3.os.trans g2.os).trans g1.os,(g3.tape.trans g2.tape).trans g1.tape,(g3.output.trans g2.output).trans g1.output,Nat.le_trans g1.size (Nat.le_trans g2.size g3.size),fun b hb hK=>far b hb (fun e=>hK (.inr (.inl e))) fun e=>hK (.inr (.inr (.inr (.inr (.inr (.inl ⟨s,e.symm⟩))))))⟩,fun b hb hK=> ?_⟩
 ·rw[Qq (x:=it)]at hm
  exact hm
 ·by_cases e:t=s
  ·subst e;simp[Proofs.YtblkkhfdeaaidaaGreatDoor.gm,eB]at ht
  ·simp only[Proofs.YtblkkhfdeaaidaaGreatDoor.gm,eB,e,if_false]at ht⊢
   exact h.uU t ht
 ·rcases hK with hK|hK|hK|hK|hK|⟨t,hK⟩|hK
  ·exact .inl hK
  ·exact .inr (.inl hK)
  ·exact .inr (.inr (.inl hK))
  ·exact .inr (.inr (.inr (.inl hK)))
  ·exact .inr (.inr (.inr (.inr (.inl hK))))
  ·refine .inr (.inr (.inr (.inr (.inr (.inl ?_)))))
   by_cases e:t=s
   ·subst e
    simp only[uS]at hK;rcases hat b hK with e1|e1
    ·exact⟨_,e1⟩
    ·omega
   ·simp only[wO _ e]at hK
    exact⟨t,hK⟩
  ·exact .inr (.inr (.inr (.inr (.inr (.inr hK)))))
theorem aC.gX(h:aC w B d v st nm){w1 w2 w3:World}{s:bX}{j:Nat}{nv:Value}(g1:w.grownBy w1 (some d.me))(hs1:w1.heap.size=w.heap.size)(g2:w1.grownBy w2 (v.VE s).ownBlock)
 (ho:w2.ownsRow B 3 1 nv (st.E s++[j]).length ((st.E s++[j]).map fun j:Nat=>Value.int .i64 j)) (hat:∀g,nv.ownBlock=some g->(v.VE s).ownBlock=some g\/g=w.heap.size)
 (g3:w2.grownBy w3 (some d.me)) (hm:MapAt Tryz.prog 196 gH w3 d.me (nm+1) (eT (ig st.E v.VE) s nv)):
 aC w3 B d { v with VE:=eB v.VE s nv } (gX s j st) (nm+1)/\Goes d v { v with VE:=eB v.VE s nv } w w3:=by
 have hW:=h.mG.lt;have o1:ah w1 B (Pc d v st):=h.own.heap fun i r g hr hg'=>g1.block g (h.own.lt hr hg').2 fun e=>h.off (.inr (.inr rfl)) hr (hg'.trans e);have o2:=o1.turn (i:= .en s) (r':=⟨nv,3,1,(st.E s++[j]).length,(st.E s++[j]).map fun j:Nat=>Value.int .i64 j⟩) rfl g2 ho (fun g hg=>by rw[hs1];exact hat g hg)
 have hn:nv.ownBlock≠some d.me:=fun e=>by
  rcases hat _ e with e1|e1
  ·exact h.off (.inr (.inr rfl)) (i:= .en s) rfl e1
  ·omega
 have o3:ah w3 B (upd (Pc d v st) (.en s) ⟨nv,3,1,(st.E s++[j]).length,(st.E s++[j]).map fun j:Nat=>Value.int .i64 j⟩):=o2.heap fun i r g hr hg'=>g3.block g (o2.lt hr hg').2 fun e=>by
  rcases zQ hr with⟨_,rfl⟩|⟨_,hr'⟩
  ·exact hn (hg'.trans e)
  ·exact h.off (.inr (.inr rfl)) hr' (hg'.trans e)
 rw[Y0]at o3
 have far:∀b,b<w.heap.size->b≠d.me->some b≠(v.VE s).ownBlock->w3.heap[b]?=w.heap[b]?:=fun b hb h1 h2=>
  ((g3.block b (by have:=g2.size;omega) (fun e=>h1 (by simpa using e))).trans (g2.block b (by omega) h2)).trans (g1.block b hb (fun e=>h1 (by simpa using e)))
 refine⟨⟨o3,h.mE.kept (far _ h.mE.lt h.uW fun e=>h.off (.inl rfl) (i:= .en s) rfl e.symm),(h.mF.kept (far _ h.mF.lt h.uX fun e=>h.off (.inr (.inl rfl)) (i:= .en s) rfl e.symm)).mono (Nat.le_succ _),?_,h.uU,fun t ht=> ?_,h.ne1,h.uW,h.uX,h.ge⟩,
  ⟨(g3.os.trans g2.os).trans g1.os,(g3.tape.trans g2.tape).trans g1.tape,(g3.output.trans g2.output).trans g1.output,Nat.le_trans g1.size (Nat.le_trans g2.size g3.size),fun b hb hK=>far b hb (fun e=>hK (.inr (.inr (.inl e)))) fun e=>hK (.inr (.inr (.inr (.inr (.inr (.inr ⟨s,e.symm⟩))))))⟩,fun b hb hK=> ?_⟩
 ·rw[Qq (x:=j)]at hm
  exact hm
 ·by_cases e:t=s
  ·subst e;simp[Proofs.YtblkkhfdeaaidaaGreatDoor.gX,eB]at ht
  ·simp only[Proofs.YtblkkhfdeaaidaaGreatDoor.gX,eB,e,if_false]at ht⊢
   exact h.uV t ht
 ·rcases hK with hK|hK|hK|hK|hK|hK|⟨t,hK⟩
  ·exact .inl hK
  ·exact .inr (.inl hK)
  ·exact .inr (.inr (.inl hK))
  ·exact .inr (.inr (.inr (.inl hK)))
  ·exact .inr (.inr (.inr (.inr (.inl hK))))
  ·exact .inr (.inr (.inr (.inr (.inr (.inl hK)))))
  ·refine .inr (.inr (.inr (.inr (.inr (.inr ?_)))))
   by_cases e:t=s
   ·subst e
    simp only[uS]at hK;rcases hat b hK with e1|e1
    ·exact⟨_,e1⟩
    ·omega
   ·simp only[wO _ e]at hK
    exact⟨t,hK⟩
end
end Go.Proofs.YtblkkhfdeaaidaaGreatDoor
namespace Go.Proofs.YtblkkhfdeaaidaaGreatDoor
open Go.RowKit
structure Small(it:aJ):Prop where
 a:it.rule<=1000
 b:it.read<=1000
 c:it.fr<=1000
 e:it.upto<=1000
theorem FT{w:World}{B nm:Nat}{d:Ad}{v:CM}{st:aL}(h:aC w B d v st nm){it:aJ}(hs:Small it)(hI:st.I.length<=1000000):
 (Instr.lookup 188 (.map (some d.mi)) (oV it) true).run Tryz.prog w= .ok (.tuple #[.agg #[],.bool (decide (it∈st.I))]) w:=by
 obtain⟨l,hl⟩:=Ql hs.a hs.b hs.c hs.e;have:=CV h.mE true (by unfold maxLen;omega) Qh Tryz.underlying188 (YT w) Qf hl;rw[this];by_cases hi:it∈st.I<;>simp[uT,hi]
theorem Y3{w:World}{B nm:Nat}{d:Ad}{v:CM}{st:aL}(h:aC w B d v st nm){it:aJ}(hs:Small it):
 ∃w',(Instr.mapUpdate 188 (.map (some d.mi)) (oV it) (.agg #[])).run Tryz.prog w= .ok () w'/\aC w' B d v { st with I:=st.I++[it] } nm/\Goes d v v w w':=by
 obtain⟨l,hl⟩:=Ql hs.a hs.b hs.c hs.e;obtain⟨w',h1,h2,h3,_⟩:=Ka h.mE Qh Tryz.underlying188 Qf hl (.agg #[]);obtain⟨h4,h5⟩:=h.YW h3 h2;exact⟨w',h1,h4,h5⟩
theorem Y4{w:World}{B nm:Nat}{d:Ad}{v:CM}{st:aL}(h:aC w B d v st nm){a b c e:Nat}(hs:Small ⟨a,b,c,e⟩)(hI:st.I.length<=1000000)(hin:(⟨a,b,c,e⟩:aJ)∈st.I):
 Calls Tryz.prog 145 #[.pointer (some ⟨d.ca,0,none⟩),.agg #[.int .i64 a,.int .i64 b,.int .i64 c,.int .i64 e]] w fun e w'=>e= .returned (.tuple #[])/\aC w' B d v st nm/\Goes d v v w w':=by
 have h1:=h.alloc (.cells #[.int .i64 a,.int .i64 b,.int .i64 c,.int .i64 e] 198);have h2:=h1.alloc (.cells #[] 249);have l1:=FT h1.drew hs hI;have l2:=FT h2.drew hs hI;have c4:=(h1.cell (i:=4) rfl (by omega)).1;have d4:=(h2.cell (i:=4) rfl (by omega)).1;rw[decide_eq_true hin]at l1 l2;unfold oV at l1 l2;simp only at l1 l2;have HH:Hid (aC w B d v st nm):=h;clear h h1 h2 hin
 go_enter Tryz.func145,Tryz.ntmps145
 go_wp2_with fail
 go_region
 all_goals
  go_wp2_with fail
  refine bodyPost_ret (v:= .tuple #[]) (results_none Tryz.results145 _ _ _) rfl ?_;have hb:Below w.heap.size w ((w.alloc (.cells #[.int .i64 a,.int .i64 b,.int .i64 c,.int .i64 e] 198)).alloc (.cells #[] 249)).drew:=(((Below.refl _ _).alloc (Nat.le_refl _) _).alloc (by simp) _).drew;exact⟨rfl,HH.out.below hb,Goes.bP hb⟩
theorem Y5{w:World}{B nm:Nat}{d:Ad}{v:CM}{st:aL}(h:aC w B d v st nm){a b c e:Nat}(hs:Small ⟨a,b,c,e⟩)(hI:st.I.length<=1000000)(hO:st.O.length<=1000000)(hin:(⟨a,b,c,e⟩:aJ)∉st.I):
 Calls Tryz.prog 145 #[.pointer (some ⟨d.ca,0,none⟩),.agg #[.int .i64 a,.int .i64 b,.int .i64 c,.int .i64 e]] w fun r w'=>r= .returned (.tuple #[])/\∃aA,aC w' B d { v with ov:=aA } { st with I:=st.I++[⟨a,b,c,e⟩],O:=st.O++[⟨a,b,c,e⟩] } nm/\Goes d v { v with ov:=aA } w w':=by
 have h1:=h.alloc (.cells #[.int .i64 a,.int .i64 b,.int .i64 c,.int .i64 e] 198);have h2:=h1.alloc (.cells #[] 249);have l1:=FT h1.drew hs hI;have l2:=FT h2.drew hs hI;have c4:=(h1.cell (i:=4) rfl (by omega)).1;have d4:=(h2.cell (i:=4) rfl (by omega)).1;rw[decide_eq_false hin]at l1 l2;unfold oV at l1 l2;simp only at l1 l2;have hb:Below w.heap.size w ((w.alloc (.cells #[.int .i64 a,.int .i64 b,.int .i64 c,.int .i64 e] 198)).alloc (.cells #[] 249)).drew:=(((Below.refl _ _).alloc (Nat.le_refl _) _).alloc (by simp) _).drew;obtain⟨w3,u3,h3,g3⟩:=Y3 h2.drew.drew hs;unfold oV at u3;simp only at u3;have lb:¬Kc d v w.heap.size:=fun hk=>by have:=(h.kc hk).2;omega
 have nS:w3.heap[w.heap.size]?=some (.cells #[.int .i64 a,.int .i64 b,.int .i64 c,.int .i64 e] 198):=by
  rw[(g3.far (b:=w.heap.size) (by simp;omega) lb).1];show ((w.alloc _).alloc _).heap[w.heap.size]?=_;rw[(World.grownBy_alloc _ _ none).block _ (by simp) (by simp)];exact heap_alloc_new _ _
 have Jz:w.heap.size+2<=w3.heap.size:=by have:=g3.kept.size;simpa using this
 have HG:Hid (Goes d v v w w3):=(Goes.bP hb.drew).trans g3;have H3:Hid (aC w3 B d v { st with I:=st.I++[⟨a,b,c,e⟩] } nm):=h3;have b0:w3.cell? ⟨w.heap.size,0,none⟩=some (.int .i64 a):=by simp[World.cell?,nS]
 have b1:w3.cell? ⟨w.heap.size,1,none⟩=some (.int .i64 b):=by simp[World.cell?,nS]
 have b2:w3.cell? ⟨w.heap.size,2,none⟩=some (.int .i64 c):=by simp[World.cell?,nS]
 have b3:w3.cell? ⟨w.heap.size,3,none⟩=some (.int .i64 e):=by simp[World.cell?,nS]
 clear h h1 h2 hin h3 g3 hb nS
 go_enter Tryz.func145,Tryz.ntmps145
 go_wp2_with fail
 go_region
 all_goals
  go_wp2_with fail
  clear l1 l2 c4
  go_region
  go_wp2_with fail
  clear u3 d4;have h4:=H3.out.alloc (.cells #[.int .i64 a,.int .i64 b,.int .i64 c,.int .i64 e] 198);obtain⟨oa,oc,hov⟩:=h4.own.slice (i:= .op) rfl;have lG:v.ov= .slice oa st.O.length oc:=hov;have e5:=(H3.out.cell (i:=5) rfl (by omega)).1;have f5:=(h4.cell (i:=5) rfl (by omega)).1;rw[lG]at e5 f5
  have dz:((w3.alloc (.cells #[.int .i64 a,.int .i64 b,.int .i64 c,.int .i64 e] 198)).drew).ownsRow B 198 4 (.slice oa st.O.length oc) st.O.length (st.O.flatMap gZ):=by
   have:=h4.own.own .op _ rfl;simp only[lG]at this;exact this
  have hca:d.ca<w3.heap.size:=(H3.out.kc (.inr (.inr (.inr (.inl rfl))))).2;have hne:some d.ca≠(Value.slice oa st.O.length oc).ownBlock:=fun e1=>h4.own.apart .ch .op _ _ (by simp) rfl rfl d.ca rfl (by show v.ov.ownBlock=_;rw[lG];exact e1.symm);have Y6:=(h4.cell (i:=5) rfl (by omega)).2;have hn1:st.O.length+1<=maxLen:=by unfold maxLen;omega
  have hn2:(st.O.length+1)*32<=140737488355328:=by omega
  have hB3:B<=w3.heap.size:=by have:=H3.out.ge.1;have:=H3.out.mE.lt;omega
  have H4:Hid (aC (w3.alloc (.cells #[.int .i64 a,.int .i64 b,.int .i64 c,.int .i64 e] 198)).drew B d v { st with I:=st.I++[⟨a,b,c,e⟩] } nm):=h4.drew;have HV:Hid (v.ov= .slice oa st.O.length oc):=lG;obtain⟨i0,hi0,hz0,hz1,hz2⟩:=info_parts Tryz.infoItm;clear h4 hov lG H3
  go_region_law
   ((refine step_append_lies _ (by rfl) _ _ _ (by rfl) B 198 i0 _ 4 32 Tryz.underlying191 hi0 hz0 hz1 hz2 rfl (by omega) (.slice oa st.O.length oc) st.O.length (st.O.flatMap gZ) (by rfl) dz
      ⟨w3.heap.size,0,none⟩ 1 1 [.int .i64 a,.int .i64 b,.int .i64 c,.int .i64 e] (by rfl) (by rfl) (World.news_of_block (cs:= #[.int .i64 a,.int .i64 b,.int .i64 c,.int .i64 e]) (t:=198) (fr:=(0,0)) (heap_alloc_new w3 _)) (by simp[Value.oneCell'])
      (by omega) hn1 hn2 (by simp;omega) (w3.heap.size+1) (by simp) ?_;intro g cap w5 hown5 hgrow hat hlt;have c5':=(hgrow.cell_far ⟨d.ca,5,none⟩ (by simp;omega) hne).trans f5;have f5':=(hgrow.frozen_far ⟨d.ca,5,none⟩ (by simp;omega) hne).trans Y6))
  all_goals
   go_wp2_with fail
   go_end0
   have hat':∀g',(Value.slice (some ⟨g,0,none⟩) (st.O.length+1) cap).ownBlock=some g'->v.ov.ownBlock=some g'\/g'=((w3.alloc (.cells #[.int .i64 a,.int .i64 b,.int .i64 c,.int .i64 e] 198)).drew).heap.size:=fun g' hg'=>by
    obtain rfl:g=g':=by simpa [Value.ownBlock] using hg'
    rw[HV.out];rcases hat with h5|h5
    ·exact .inl h5
    ·exact .inr (by simpa using h5)
   have r:=H4.out.Aj (O':=st.O++[⟨a,b,c,e⟩]) (aA:= .slice (some ⟨g,0,none⟩) (st.O.length+1) cap) (by rw[HV.out];exact hgrow) (by simpa [List.flatMap_append,gZ] using hown5) hat';exact⟨rfl,_,r.1,(HG.out.trans (Goes.bP (((Below.refl _ _).alloc (Nat.le_refl _) _).drew))).trans r.2⟩
theorem Qr{w:World}{B nm:Nat}{d:Ad}{v:CM}{st:aL}(h:aC w B d v st nm){a b c e:Nat}(hs:Small ⟨a,b,c,e⟩)(hI:st.I.length<=1000000)(hO:st.O.length<=1000000):
 Calls Tryz.prog 145 #[.pointer (some ⟨d.ca,0,none⟩),.agg #[.int .i64 a,.int .i64 b,.int .i64 c,.int .i64 e]] w fun r w'=>r= .returned (.tuple #[])/\∃aA,aC w' B d { v with ov:=aA } (dV st ⟨a,b,c,e⟩) nm/\Goes d v { v with ov:=aA } w w':=by
 unfold dV;split
 ·rename_i hin
  exact(Y4 h hs hI hin).mono fun r w' ⟨h1,h2,h3⟩=>⟨h1,v.ov,h2,h3⟩
 ·rename_i hin
  exact Y5 h hs hI hO hin
theorem Kh{w:World}{B nm:Nat}{d:Ad}{v:CM}{st:aL}(h:aC w B d v st nm){a b c e j:Nat}(hs:Small (bf ⟨a,b,c,e⟩ j))(hI:st.I.length<=1000000)(hO:st.O.length<=1000000):
 Calls Tryz.prog 148 #[.pointer (some ⟨d.ca,0,none⟩),.agg #[.int .i64 a,.int .i64 b,.int .i64 c,.int .i64 e],.int .i64 j] w fun r w'=>r= .returned (.tuple #[])/\∃aA,aC w' B d { v with ov:=aA } (dV st (bf ⟨a,b,c,e⟩ j)) nm/\Goes d v { v with ov:=aA } w w':=by
 have hb1:=hs.b;have hb2:b+1<=1000:=hb1;have h1:=h.alloc (.cells #[.int .i64 a,.int .i64 ((b:Int)+1),.int .i64 c,.int .i64 j] 198);have put:=Qr h1 (a:=a) (b:=b+1) (c:=c) (e:=j) hs hI hO;rw[show ((b+1:Nat):Int)=(b:Int)+1 from rfl]at put;clear h h1
 go_enter Tryz.func148,Tryz.ntmps148
 go_wp2_with (go_at_call 145;refine put.mono ?_;rintro r w1 ⟨rfl,v',h2,h3⟩)
 go_end0
 exact⟨rfl,v',h2,(Goes.bP ((Below.refl _ _).alloc (Nat.le_refl _) _)).trans h3⟩
theorem Ki(st:aL)(it:aJ):(dV st it).I.length<=st.I.length+1/\(dV st it).O.length<=st.O.length+1:=by
 unfold dV;split<;>simp
theorem Qs(R:List Ru)(s:bX)(st:aL):∀k,(eF R s k st).I.length<=st.I.length+k/\(eF R s k st).O.length<=st.O.length+k:=by
 intro k
 induction k with
 |zero=>exact⟨Nat.le_refl _,Nat.le_refl _⟩
 |succ k ih=>
  unfold eF;split
  ·have:=Ki (eF R s k st) ⟨k,0,s.2,s.2⟩;omega
  ·omega
def lH(w:World)(d:Ad)(v:CM)(b:Nat)(x y:Int)(t:TypeId):Prop:=w.heap[b]?=some (.cells #[.int .i64 x,.int .i64 y] t)/\¬Kc d v b/\b<w.heap.size
theorem lH.goes{w w':World}{d:Ad}{v v':CM}{b:Nat}{x y:Int}{t:TypeId}(h:lH w d v b x y t)(g:Goes d v v' w w'):lH w' d v' b x y t:=by
 obtain⟨h1,h2,h3⟩:=g.far h.2.2 h.2.1;exact⟨h1.trans h.1,h2,h3⟩
theorem lH.cells{w:World}{d:Ad}{v:CM}{b:Nat}{x y:Int}{t:TypeId}(h:lH w d v b x y t):w.cell? ⟨b,0,none⟩=some (.int .i64 x)/\w.cell? ⟨b,1,none⟩=some (.int .i64 y):=by
 constructor<;>simp[World.cell?,h.1]
theorem lH.mk{w:World}{B nm:Nat}{d:Ad}{v:CM}{st:aL}(h:aC w B d v st nm)(x y:Int)(t:TypeId):lH (w.alloc (.cells #[.int .i64 x,.int .i64 y] t)) d v w.heap.size x y t:=
 ⟨heap_alloc_new _ _,fun hk=>by have:=(h.kc hk).2;omega,by simp⟩
theorem Qt{w:World}{B nm:Nat}{d:Ad}{v:CM}{st:aL}{R:List Ru}(h:aC w B d v st nm)(hr:au w B d.rv R){n:Int}{p:Nat}(hR:R.length<=40)(hp:p<=1000)(hI:st.I.length+40<=1000000)(hO:st.O.length+40<=1000000):
 Calls Tryz.prog 113 #[.pointer (some ⟨d.ca,0,none⟩),.agg #[.int .i64 n,.int .i64 p]] w fun r w'=>r= .returned (.tuple #[])/\∃aA,aC w' B d { v with ov:=aA } (eF R (n,p) R.length st) nm/\Goes d v { v with ov:=aA } w w':=by
 obtain⟨ra,rc,aG⟩:=hr.1;have h1:=h.alloc (.cells #[.int .i64 n,.int .i64 p] 196);have c2:=(h1.cell (i:=2) rfl (by omega)).1;rw[aG]at c2
 have HR:Hid (∀wr v',Goes d v v' (w.alloc (.cells #[.int .i64 n,.int .i64 p] 196)) wr->au wr B (.slice ra R.length rc) R/\lH wr d v' w.heap.size n p 196):=fun wr v' g=>by
  refine⟨?_,(lH.mk h n p 196).goes g⟩;rw[<-aG];have hB:=h1.nR g;exact hr.below ((h.nR (Goes.bP ((Below.refl _ _).alloc (Nat.le_refl _) _))).trans hB)
 have H1:Hid (aC (w.alloc (.cells #[.int .i64 n,.int .i64 p] 196)) B d v st nm):=h1;clear h h1 hr
 go_enter Tryz.func113,Tryz.ntmps113
 go_wp2_with fail
 clear c2
 go_loopw [12] (fun s wr=> ∃(k:Nat) (aA:Value),s= .int .i64 k/\k<=R.length/\aC wr B d { v with ov:=aA } (eF R (n,p) k st) nm/\Goes d v { v with ov:=aA } (w.alloc (.cells #[.int .i64 n,.int .i64 p] 196)) wr) (fun s _=>R.length-(intOf s).toNat)
 case atStart=>exact⟨0,v.ov,rfl,Nat.zero_le _,H1.out,Goes.refl _ _ _⟩
 case round=>
  obtain⟨k,iB,rfl,hk,hC,hG⟩:=hrel;obtain⟨v1,hv1⟩:∃v1,({ v with ov:=iB }:CM)=v1:=⟨_,rfl⟩;rw[hv1]at hC hG;have uY:Hid (({ v with ov:=iB }:CM)=v1):=hv1;clear hv1;have HG:Hid (Goes d v v1 (w.alloc (.cells #[.int .i64 n,.int .i64 p] 196)) wr):=hG;by_cases hlt:k<R.length
  ·obtain⟨Kj,hL⟩:=HR.out wr v1 hG
   obtain⟨rb,ro,rc',qa,qc,hv,hb,k1,k2,_,_⟩:=Kj.2 k hlt;injection hv with hva _ Y7;subst hva;subst Y7;obtain⟨⟨L,Rt⟩,hre⟩:∃x,R.getD k (0,[])=x:=⟨_,rfl⟩;rw[hre]at k1 k2;simp only at k1 k2;obtain⟨rl,hrl⟩:∃rl,Rt.length=rl:=⟨_,rfl⟩;rw[hrl]at k2;have k2':wr.cell? ⟨rb,ro+k*2+1,none⟩=some (.slice qa rl qc):=by rw[Nat.add_assoc];exact k2
   obtain⟨l0,l1⟩:=hL.cells;have m0:(wr.alloc (.cells #[.int .i64 L,.slice qa rl qc] 91)).cell? ⟨w.heap.size,0,none⟩=some (.int .i64 n):=(World.cell?_alloc_past _ _ _ hL.2.2).trans l0;have m1:(wr.alloc (.cells #[.int .i64 L,.slice qa rl qc] 91)).cell? ⟨w.heap.size,1,none⟩=some (.int .i64 p):=(World.cell?_alloc_past _ _ _ hL.2.2).trans l1;have i0:(0:Int)<=(k:Int):=Int.natCast_nonneg _;have i1:(k:Int)<(R.length:Int):=by omega
   have hlen:=Qs R (n,p) st k;by_cases hLn:L=n
   ·have put:=Qr (hC.alloc (.cells #[.int .i64 L,.slice qa rl qc] 91)) (a:=k) (b:=0) (c:=p) (e:=p) ⟨by simp;omega,by simp,by simpa using hp,by simpa using hp⟩ (by omega) (by omega)
    have HE:Hid (eF R (n,p) (k+1) st=dV (eF R (n,p) k st) ⟨k,0,p,p⟩):=by
     show eF R (n,p) (k+1) st=_;rw[eF,hre];simp only[hLn,if_true]
    subst hLn;rw[show ((0:Nat):Int)=0 from rfl]at put;have HC:Hid (Goes d v1 v1 wr (wr.alloc (.cells #[.int .i64 L,.slice qa rl qc] 91))):=(Goes.refl _ _ _).alloc _;clear hC hG Kj hL k2 hre hrl hlen
    go_wp2_with (go_at_call 145;refine put.mono ?_;rintro r w1 ⟨rfl,v2,h2,h3⟩)
    go_roundw
    case rel=>exact⟨k+1,v2,by go_num,by omega,by rw[HE.out];rw[<-uY.out]at h2;exact h2,by rw[<-uY.out]at h3 HG HC;exact(HG.out.trans HC.out).trans h3⟩
    case measure=>simp[intOf];omega
   ·have HE:Hid (eF R (n,p) (k+1) st=eF R (n,p) k st):=by
     show eF R (n,p) (k+1) st=_;rw[eF,hre];simp only[hLn,if_false]
    have HC:Hid (aC wr B d v1 (eF R (n,p) k st) nm):=hC;have afK:(L==n)=false:=by simpa using hLn
    clear hC hG Kj hL k2 hre hrl hlen
    go_wp2_with fail
    go_roundw
    case rel=>exact⟨k+1,iB,by go_num,by omega,by rw[HE.out,uY.out];exact HC.out.alloc _,by rw[uY.out];exact HG.out.alloc _⟩
    case measure=>simp[intOf];omega
  ·obtain rfl:k=R.length:=by omega
   have HC:Hid (aC wr B d v1 (eF R (n,p) R.length st) nm):=hC;clear hC hG
   go_wp2_with fail
   go_end0
   rw[<-uY.out]at HC HG;exact⟨rfl,iB,HC.out,(Goes.bP ((Below.refl _ _).alloc (Nat.le_refl _) _)).trans HG.out⟩
theorem Y8{w:World}{lim:Nat}{sv:Value}{L:List Int}(h:aP w lim sv L)(hl:L.length<=1000000)(x:Int):
 Calls Tryz.prog 149 #[sv,.int .i64 x] w fun e w'=>(∃r:Int,e= .returned (.int .i64 r)/\(0<=r↔x∈L))/\w'=w:=by
 obtain⟨sa,sc,hsv⟩:=h.1;subst hsv;have HL:Hid (aP w lim (.slice sa L.length sc) L):=h;clear h
 go_enter Tryz.func149,Tryz.ntmps149
 go_wp2_with fail
 go_loop [8] (fun s=> ∃k:Nat,s= .int .i64 k/\k<=L.length/\x∉L.take k) (fun s=>L.length-(intOf s).toNat)
 case atStart=>exact⟨0,rfl,Nat.zero_le _,by simp⟩
 case round=>
  obtain⟨k,rfl,hk,hn⟩:=hrel;by_cases hlt:k<L.length
  ·obtain⟨b,o,sc',he,_,c1⟩:=HL.out.2 k hlt
   injection he with ha _ hc;subst ha;subst hc;obtain⟨y,hy⟩:∃y,L.getD k 0=y:=⟨_,rfl⟩;rw[hy]at c1;have hyk:L[k]=y:=by rw[<-hy];simp[List.getD,hlt]
   have HT:Hid (L.take (k+1)=L.take k++[y]):=by show L.take (k+1)=_;rw[List.take_succ_eq_append_getElem hlt,hyk]
   have HM:Hid (y∈L):=by show y∈L;rw[<-hyk];exact List.getElem_mem hlt
   have HN:Hid (x∉L.take k):=hn;have i0:(0:Int)<=(k:Int):=Int.natCast_nonneg _;have i1:(k:Int)<(L.length:Int):=by omega
   clear hn hy hyk;by_cases hxy:x=y
   ·subst hxy
    go_wp2_with fail
    go_ret;exact⟨⟨k,rfl,fun _=>HM.out,fun _=>i0⟩,rfl⟩
   ·have hb:(x==y)=false:=by simpa using hxy
    go_wp2_with fail
    go_round
    case rel=>exact⟨k+1,by go_num,by omega,by rw[HT.out];simp only[List.mem_append,List.mem_singleton,not_or];exact⟨HN.out,hxy⟩⟩
    case measure=>simp[intOf];omega
  ·have HN:Hid (x∉L):=by
    show x∉L;rw[List.take_of_length_le (by omega)]at hn;exact hn
   clear hn
   go_wp2_with fail
   go_ret;exact⟨⟨-1,rfl,fun h=>by omega,fun h=>absurd h HN.out⟩,rfl⟩
theorem Kk{w:World}{lim:Nat}{sv:Value}{L:List Int}(h:aP w lim sv L)(hl:L.length<=1000000)(x:Int):
 Calls Tryz.prog 115 #[sv,.int .i64 x] w fun e w'=>e= .returned (.bool (decide (x∈L)))/\w'=w:=by
 have ix:=Y8 h hl x;clear h;by_cases hx:x∈L
 ·rw[decide_eq_true hx]
  go_enter Tryz.func115,Tryz.ntmps115
  go_wp2_with (go_at_call 149;refine ix.mono ?_;rintro e w1 ⟨⟨r,rfl,hr⟩,rfl⟩;have h0:0<=r:=hr.2 hx;clear hr)
  go_ret;exact⟨rfl,rfl⟩
 ·rw[decide_eq_false hx]
  go_enter Tryz.func115,Tryz.ntmps115
  go_wp2_with (go_at_call 149;refine ix.mono ?_;rintro e w1 ⟨⟨r,rfl,hr⟩,rfl⟩;have h0:decide (0<=r)=false:=decide_eq_false (fun h=>hx (hr.1 h));clear hr)
  go_ret;exact⟨rfl,rfl⟩
end Go.Proofs.YtblkkhfdeaaidaaGreatDoor
