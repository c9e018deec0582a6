import Derived.Test.YtpkmpkphfflpjaaGreatTab6AndRowI
import Derived.Test.YtpkmpkphfflpjaaGreatMathAndHeldSeq
import Derived.Deep.QuietTactic
import Derived.BigQuiet
import Derived.Deep.CutRange
set_option maxHeartbeats 3200000
set_option maxRecDepth 100000
namespace Go.Proofs.YtpkmpkphfflpjaaGreat
open Go.RowKit
open Go.WideMaps (KeyLaw)
def bJ(i:It):List Value:=[.int .i64 i.1,.int .i64 i.2]
def l5(s:bf):List Value:=[.int .i64 s.1,.int .i64 s.2.1,.int .i64 s.2.2]
def qE(p:Wy):Value:= .agg #[.int .i64 p.1,.bool p.2.1,.int .i64 p.2.2]
def oG(s:bf):Value:= .agg #[.int .i64 s.1,.int .i64 s.2.1,.int .i64 s.2.2]
theorem Ui(a b:Wy)(h:qE a=qE b):a=b:=by
 obtain⟨a1,a2,a3⟩:=a;obtain⟨b1,b2,b3⟩:=b;simp[qE]at h;obtain⟨h1,h2,h3⟩:=h;subst h2;simp;omega
theorem Uj(a b:bf)(h:oG a=oG b):a=b:=by
 obtain⟨a1,a2,a3⟩:=a;obtain⟨b1,b2,b3⟩:=b;simp[oG]at h;simp;omega
theorem Uk:laidOutB Tryz.prog=true:=by kernel_rfl
theorem ack:(match Tryz.prog.underlying 135 with|some (.array _ _)|some (.struct _)=>true|_=>false)=true:=by rw[Tryz.underlying135 ]
theorem acn:(match Tryz.prog.underlying 137 with|some (.array _ _)|some (.struct _)=>true|_=>false)=true:=by rw[Tryz.underlying137 ]
theorem Ul:KeyLaw Tryz.prog 135:=deep_law_laid Uk (m:=3) (by omega) (of_decide_eq_true (by kernel_rfl)) (by kernel_rfl) ack
theorem Um:KeyLaw Tryz.prog 137:=deep_law_laid Uk (m:=3) (by omega) (of_decide_eq_true (by kernel_rfl)) (by kernel_rfl) acn
theorem aco:Tryz.prog.keyType 135=true:=by kernel_rfl
theorem acp:Tryz.prog.keyType 137=true:=by kernel_rfl
theorem Un:Tryz.prog.cellsOf 135=3:=by kernel_rfl
theorem Uo:Tryz.prog.cellsOf 137=3:=by kernel_rfl
theorem acr:Tryz.prog.cellsOf 130=2:=by kernel_rfl
theorem acs:Tryz.prog.cellsOf 104=2:=by kernel_rfl
theorem Uq:Tryz.prog.cellsOf 3=1:=by kernel_rfl
theorem acu:Tryz.prog.cellsOf 4=1:=by kernel_rfl
theorem Ur:∃m,Tryz.prog.types.size=m+2:=⟨Tryz.prog.types.size-2,by kernel_rfl⟩
theorem Fa{a:Int}(h0: -1000000<=a)(h:a<=1000000):(Lit.int .i64 a).wf=true:=by
 have h1:IntKind.i64.min<=a:=Int.le_trans (by decide) h0;have h2:a<=IntKind.i64.max:=Int.le_trans h (by decide);simp only[Lit.wf,decide_eq_true h1,decide_eq_true h2,Bool.and_self]
theorem Us{p:Wy}(h1:p.1<=1000)(h2:0<=p.2.2)(h3:p.2.2<=1000):∃l,keyOf Tryz.prog 135 (qE p)=some l:=by
 obtain⟨m,hm⟩:=Ur;have w1:=Fa (a:=p.1) (by omega) (by omega);have w2:=Fa (a:=p.2.2) (by omega) (by omega);rw[<-Option.isSome_iff_exists];unfold keyOf qE;simp only[Tryz.underlying135 ];rw[if_pos (by simp[aco,Value.formed,Tryz.underlying135,Un]),hm];simp[Program.keyLits,Tryz.underlying135,Tryz.underlying104,Tryz.underlying3,Tryz.underlying4,Un,acs,Uq,acu,Value.cells,w1,w2];rw[if_pos]
 ·rfl
 ·intro i hi
  match i,hi with
  |0,_=>simp
  |1,_=>simp
theorem Ut{s:bf}(h1:s.1<=1000)(h2:s.2.1<=1000)(h3:s.2.2<=1000):∃l,keyOf Tryz.prog 137 (oG s)=some l:=by
 obtain⟨m,hm⟩:=Ur;have w1:=Fa (a:=s.1) (by omega) (by omega);have w2:=Fa (a:=s.2.1) (by omega) (by omega);have w3:=Fa (a:=s.2.2) (by omega) (by omega);rw[<-Option.isSome_iff_exists];unfold keyOf oG;simp only[Tryz.underlying137 ];rw[if_pos (by simp[acp,Value.formed,Tryz.underlying137,Uo]),hm];simp[Program.keyLits,Tryz.underlying137,Tryz.underlying130,Tryz.underlying3,Uo,acr,Uq,Value.cells,w1,w2,w3];rw[if_pos]
 ·rfl
 ·intro i hi
  match i,hi with
  |0,_=>simp
  |1,_=>simp
theorem acv(w:World):(zeroValue 140).run Tryz.prog w= .ok (.int .u32 0) w:=by kernel_rfl
theorem zero_num(w:World):(zeroValue 3).run Tryz.prog w= .ok (.int .i64 0) w:=by kernel_rfl
theorem Tryz.infoIt:(Tryz.prog.info? 130).map (fun i=>(i.zero,i.size,i.bytes))=some (some (.agg #[.int .i64 0,.int .i64 0]),2,16):=by kernel_rfl
theorem Tryz.infoIts:(Tryz.prog.info? 131).map (fun i=>(i.zero,i.size,i.bytes))=some (some (.slice none 0 0),1,24):=by kernel_rfl
theorem Tryz.infoSpo:(Tryz.prog.info? 137).map (fun i=>(i.zero,i.size,i.bytes))=some (some (.agg #[.int .i64 0,.int .i64 0,.int .i64 0]),3,24):=by kernel_rfl
theorem Tryz.infoSy:(Tryz.prog.info? 104).map (fun i=>(i.zero,i.size,i.bytes))=some (some (.agg #[.bool false,.int .i64 0]),2,16):=by kernel_rfl
structure fD where
 ma:Nat
 mg:Nat
 ml:Nat
 T:Nat
 N:Nat
 rv:Value
 nv:Value
 fv:Value
 wv:Value
structure dF where
 sv:Value
 IV:Nat->Value
 ov:Value
 OL:List (List It)
inductive Ny where
 |ma
 |st
 |it (k:Nat)
 |op
 deriving DecidableEq
def wm(d:fD)(v:dF):List Value:=[.int .i64 d.T,.int .i64 d.N,d.rv,d.nv,d.fv,d.wv,v.sv,.map (some d.mg),.map (some d.ml),v.ov]
def iQ(d:fD)(v:dF)(O:List bf):Ny->Option Row
 | .ma=>some ⟨.slice (some ⟨d.ma,0,none⟩) 1 1,93,10,1,wm d v⟩
 | .st=>some ⟨v.sv,131,1,v.OL.length,(List.range v.OL.length).map v.IV⟩
 | .it k=>if k<v.OL.length then some ⟨v.IV k,130,2,(v.OL.getD k []).length,(v.OL.getD k []).flatMap bJ⟩ else none
 | .op=>some ⟨v.ov,137,3,O.length,O.flatMap l5⟩
def uU(lk:bf->Nat)(s:bf):Option Value:=if lk s=0 then none else some (.int .u32 (lk s))
structure aA(w0 w:World)(d:fD)(v:dF)(G:Wy->Option Value)(ng:Nat)(st:LS):Prop where
 own:au w w0.heap.size (iQ d v st.O)
 tC:MapAt Tryz.prog 135 qE w d.mg ng G
 tF:MapAt Tryz.prog 137 oG w d.ml st.c (uU st.lk)
 ne:d.mg≠d.ml
 ge:w0.heap.size<=d.mg/\w0.heap.size<=d.ml
 since:Below w0.heap.size w0 w
structure jQ(w0:World)(d:fD)(R:List Ru)(Nu:List Bool)(Fi:List (List Bool)):Prop where
 rules:aD w0 w0.heap.size d.rv R
 mF:qQ w0 d.nv Nu
 pK:wH w0 d.fv Fi
 Je:Nu.length=d.N
 xL:Fi.length=d.N
 zF:∀n,n<d.N->(Fi.getD n []).length=d.T
 hT:d.T<=8
 hN:1<=d.N/\d.N<=12
 hR:R.length<=40
 r8:∀q,q<R.length->(R.getD q (0,[])).2.length<=8
 sym:∀r,r<=R.length->∀s∈aJ R r,(s.1=true->0<=s.2/\s.2<(d.T:Int))/\(s.1=false->0<=s.2/\s.2<(d.N:Int))
theorem jQ.zG{w0:World}{d:fD}{R:List Ru}{Nu:List Bool}{Fi:List (List Bool)}(E:jQ w0 d R Nu Fi):∀r,r<=R.length->(aJ R r).length<=8:=fun r hr=>by
 unfold aJ;split
 ·simp
 ·exact E.r8 r (by omega)
def oH(d:fD)(v:dF)(b:Nat):Prop:=b=d.mg\/b=d.ml\/b=d.ma\/v.sv.ownBlock=some b\/v.ov.ownBlock=some b\/∃k,k<v.OL.length/\(v.IV k).ownBlock=some b
structure aQ(d:fD)(v v':dF)(w w':World):Prop where
 kept:Kept (oH d v) w w'
 old:∀b,b<w.heap.size->oH d v' b->oH d v b
section
variable{d:fD}{v v' v'':dF}{w0 w w' w'':World}{G:Wy->Option Value}{ng:Nat}{st:LS}
theorem aQ.refl(d:fD)(v:dF)(w:World):aQ d v v w w:=⟨Kept.refl _ _,fun _ _ h=>h⟩
theorem aQ.trans(h:aQ d v v' w w')(k:aQ d v' v'' w' w''):aQ d v v'' w w'':=
 ⟨⟨k.kept.os.trans h.kept.os,k.kept.tape.trans h.kept.tape,k.kept.output.trans h.kept.output,Nat.le_trans h.kept.size k.kept.size,
    fun b hb hK=>(k.kept.block b (Nat.lt_of_lt_of_le hb h.kept.size) (fun e=>hK (h.old b hb e))).trans (h.kept.block b hb hK)⟩,
   fun b hb hK=>h.old b hb (k.old b (Nat.lt_of_lt_of_le hb h.kept.size) hK)⟩
theorem aQ.iU(hb:Below w.heap.size w w'):aQ d v v w w':=⟨Kept.iU hb,fun _ _ h=>h⟩
theorem aQ.alloc(h:aQ d v v' w w')(o:Obj):aQ d v v' w (w'.alloc o):=h.trans (aQ.iU ((Below.refl _ _).alloc (Nat.le_refl _) o))
theorem aQ.drew(h:aQ d v v' w w'):aQ d v v' w w'.drew:=h.trans (aQ.iU ((Below.refl _ _).drew))
theorem aQ.far(h:aQ d v v' w w'){b:Nat}(hb:b<w.heap.size)(hn:¬oH d v b):w'.heap[b]?=w.heap[b]?/\¬oH d v' b/\b<w'.heap.size:=
 ⟨h.kept.block b hb hn,fun e=>hn (h.old b hb e),Nat.lt_of_lt_of_le hb h.kept.size⟩
theorem aA.off(h:aA w0 w d v G ng st){b:Nat}(hb:b=d.mg\/b=d.ml){i:Ny}{r:Row}(hr:iQ d v st.O i=some r):r.v.ownBlock≠some b:=by
 obtain⟨e1,c1,h1⟩:=h.tC.isMap;obtain⟨e2,c2,h2⟩:=h.tF.isMap;rcases hb with rfl|rfl
 ·exact TT (h.own.own i r hr) h1
 ·exact TT (h.own.own i r hr) h2
theorem Nz{k:Nat}(hk:k<v.OL.length){O:List bf}:iQ d v O (.it k)=some ⟨v.IV k,130,2,(v.OL.getD k []).length,(v.OL.getD k []).flatMap bJ⟩:=by simp[iQ,hk]
theorem aA.kc(h:aA w0 w d v G ng st){b:Nat}(hb:oH d v b):w0.heap.size<=b/\b<w.heap.size:=by
 rcases hb with rfl|rfl|rfl|hb|hb|⟨k,hk,hb⟩
 ·exact⟨h.ge.1,h.tC.lt⟩
 ·exact⟨h.ge.2,h.tF.lt⟩
 ·exact h.own.lt (i:= .ma) rfl rfl
 ·exact h.own.lt (i:= .st) rfl hb
 ·exact h.own.lt (i:= .op) rfl hb
 ·exact h.own.lt (i:= .it k) (Nz hk) hb
theorem Uu{i:Ny}{r:Row}{g:Nat}{O:List bf}(hr:iQ d v O i=some r)(hg:r.v.ownBlock=some g):oH d v g:=by
 cases i with
 |ma=>
  simp only[iQ,Option.some.injEq]at hr;subst hr;simp only[Value.ownBlock,Option.some.injEq]at hg;exact .inr (.inr (.inl hg.symm))
 |st=>simp only[iQ,Option.some.injEq]at hr;subst hr;exact .inr (.inr (.inr (.inl hg)))
 |op=>simp only[iQ,Option.some.injEq]at hr;subst hr;exact .inr (.inr (.inr (.inr (.inl hg))))
 |it k=>
  by_cases hk:k<v.OL.length
  ·rw[Nz hk,Option.some.injEq]at hr;subst hr
   exact .inr (.inr (.inr (.inr (.inr ⟨k,hk,hg⟩))))
  ·simp[iQ,hk]at hr
theorem aA.far(h:aA w0 w d v G ng st)(hs:Below w0.heap.size w w')(hh:∀b,b<w.heap.size->oH d v b->w'.heap[b]?=w.heap[b]?):aA w0 w' d v G ng st:=by
 have k:∀b,oH d v b->w'.heap[b]?=w.heap[b]?:=fun b hb=>hh b (h.kc hb).2 hb;exact⟨h.own.heap fun i r g hr hg=>k g (Uu hr hg),h.tC.kept (k _ (.inl rfl)),h.tF.kept (k _ (.inr (.inl rfl))),h.ne,h.ge,h.since.trans hs⟩
theorem aA.le(h:aA w0 w d v G ng st):w0.heap.size<=w.heap.size:=h.since.size
theorem aA.below(h:aA w0 w d v G ng st)(hb:Below w.heap.size w w'):aA w0 w' d v G ng st:=h.far (hb.mono h.le) fun b hlt _=>hb.block b hlt
theorem aA.alloc(h:aA w0 w d v G ng st)(o:Obj):aA w0 (w.alloc o) d v G ng st:=h.below ((Below.refl _ _).alloc (Nat.le_refl _) o)
theorem aA.drew(h:aA w0 w d v G ng st):aA w0 w.drew d v G ng st:=h.below ((Below.refl _ _).drew)
theorem aA.BK(h:aA w0 w d v G ng st)(g:aQ d v v' w w'):Below w0.heap.size w w':=g.kept.below (fun _ hb=>(h.kc hb).1) h.le
theorem aA.cell(h:aA w0 w d v G ng st){i:Nat}{x:Value}(hx:(wm d v)[i]?=some x)(hi:i<10):w.cell? ⟨d.ma,i,none⟩=some x/\w.frozen? ⟨d.ma,i,none⟩=false:=by
 have:=h.own.cell (i:= .ma) (g:=d.ma) (n:=1) (cap:=1) (e:=93) (size:=10) (xs:=wm d v) rfl i (by omega);exact⟨this.1.trans hx,this.2⟩
theorem aA.BL(h:aA w0 w d v G ng st):d.ma<w.heap.size:=(h.kc (.inr (.inr (.inl rfl)))).2
theorem Fb{L:List It}{i k:Nat}(hi:i<L.length)(hk:k<2):(L.flatMap bJ)[i*2+k]?=(bJ (L.getD i (0,0)))[k]?:=by
 induction L generalizing i with
 |nil=>simp at hi
 |cons a L ih=>
  rw[List.flatMap_cons];have hl:(bJ a).length=2:=rfl;cases i with
  |zero=>rw[List.getElem?_append_left (by omega)];simp
  |succ i=>
   rw[List.getElem?_append_right (by omega),hl,show (i+1)*2+k-2=i*2+k by omega];rw[ih (by simpa using hi)];simp[List.getD]
theorem Fe(L:List It):(L.flatMap bJ).length=L.length*2:=by
 induction L with
 |nil=>rfl
 |cons a L ih=>rw[List.flatMap_cons,List.length_append,ih];simp[bJ];omega
theorem acw{L:List bf}{i k:Nat}(hi:i<L.length)(hk:k<3):(L.flatMap l5)[i*3+k]?=(l5 (L.getD i (0,0,0)))[k]?:=by
 induction L generalizing i with
 |nil=>simp at hi
 |cons a L ih=>
  rw[List.flatMap_cons];have hl:(l5 a).length=3:=rfl;cases i with
  |zero=>rw[List.getElem?_append_left (by omega)];simp
  |succ i=>
   rw[List.getElem?_append_right (by omega),hl,show (i+1)*3+k-3=i*3+k by omega];rw[ih (by simpa using hi)];simp[List.getD]
theorem NA(L:List bf):(L.flatMap l5).length=L.length*3:=by
 induction L with
 |nil=>rfl
 |cons a L ih=>rw[List.flatMap_cons,List.length_append,ih];simp[l5];omega
theorem BM{base n:Nat}{x:Value}{L:List It}(h:w.ownsRow base 130 2 x n (L.flatMap bJ))(hn:n=L.length):jB w w.heap.size x L:=by
 subst hn;obtain⟨a,c,hv⟩:=aY h;refine⟨⟨a,c,hv⟩,fun k hk=> ?_⟩;obtain⟨g,cap,rfl,_,hlt⟩:=h.form (by omega);refine⟨g,0,cap,rfl,hlt,?_,?_⟩
 ·rw[Nat.zero_add,h.cellAt (k*2) (by omega)]
  have:=Fb (k:=0) hk (by omega);simpa [bJ] using this
 ·rw[Nat.zero_add,h.cellAt (k*2+1) (by omega)]
  have:=Fb (k:=1) hk (by omega);simpa [bJ] using this
theorem aA.items(h:aA w0 w d v G ng st){k:Nat}(hk:k<v.OL.length):jB w w.heap.size (v.IV k) (v.OL.getD k []):=BM (h.own.own (.it k) _ (Nz hk)) rfl
theorem aA.states(h:aA w0 w d v G ng st):∃a c,v.sv= .slice a v.OL.length c:=h.own.slice (i:= .st) rfl
theorem aA.state(h:aA w0 w d v G ng st){k:Nat}(hk:k<v.OL.length):∃g c,v.sv= .slice (some ⟨g,0,none⟩) v.OL.length c/\g<w.heap.size/\w.cell? ⟨g,k,none⟩=some (v.IV k):=by
 obtain⟨g,c,hv,_,hlt⟩:=h.own.form (i:= .st) rfl (by simp only;omega);simp only at hv;refine⟨g,c,hv,hlt,?_⟩;have ho:=h.own.own .st _ rfl;simp only[hv]at ho;rw[ho.cellAt k (by omega)];simp[hk]
theorem aA.rules(h:aA w0 w d v G ng st){R:List Ru}{Nu:List Bool}{Fi:List (List Bool)}(E:jQ w0 d R Nu Fi):aD w w0.heap.size d.rv R:=E.rules.below h.since
theorem aA.acy(h:aA w0 w d v G ng st){G':Wy->Option Value}{n':Nat}(hg:w.grownBy w' (some d.mg))(hm:MapAt Tryz.prog 135 qE w' d.mg n' G'):aA w0 w' d v G' n' st/\aQ d v v w w':=by
 have hk:aQ d v v w w':=⟨⟨hg.os,hg.tape,hg.output,hg.size,fun b hb hK=>hg.block b hb fun e=>hK (.inl (by simpa using e))⟩,fun _ _ hK=>hK⟩;refine⟨⟨h.own.heap fun i r g hr hg'=>hg.block g (h.own.lt hr hg').2 fun e=>h.off (.inl rfl) hr (hg'.trans e),hm,h.tF.kept (hg.block _ h.tF.lt fun e=>h.ne (by simpa using e.symm)),h.ne,h.ge,h.since.trans (h.BK hk)⟩,hk⟩
theorem aA.Gi(h:aA w0 w d v G ng st){lk':bf->Nat}{c':Nat}(hg:w.grownBy w' (some d.ml))(hm:MapAt Tryz.prog 137 oG w' d.ml c' (uU lk')):aA w0 w' d v G ng ⟨lk',st.O,c'⟩/\aQ d v v w w':=by
 have hk:aQ d v v w w':=⟨⟨hg.os,hg.tape,hg.output,hg.size,fun b hb hK=>hg.block b hb fun e=>hK (.inr (.inl (by simpa using e)))⟩,fun _ _ hK=>hK⟩;refine⟨⟨h.own.heap fun i r g hr hg'=>hg.block g (h.own.lt hr hg').2 fun e=>h.off (.inr rfl) hr (hg'.trans e),h.tC.kept (hg.block _ h.tC.lt fun e=>h.ne (by simpa using e)),hm,h.ne,h.ge,h.since.trans (h.BK hk)⟩,hk⟩
theorem acz{O O':List bf}{bI:Value}:upd (upd (iQ d v O) .op ⟨bI,137,3,O'.length,O'.flatMap l5⟩) .ma ⟨.slice (some ⟨d.ma,0,none⟩) 1 1,93,10,1,(wm d v).set 9 bI⟩=iQ d { v with ov:=bI } O':=by
 funext i
 cases i<;>simp[upd,iQ,wm]
theorem aA.NC(h:aA w0 w d v G ng st){bI:Value}{O':List bf}(hg:w.grownBy w' v.ov.ownBlock)(ho:w'.ownsRow w0.heap.size 137 3 bI O'.length (O'.flatMap l5))(hat:∀g,bI.ownBlock=some g->v.ov.ownBlock=some g\/g=w.heap.size):
 aA w0 (w'.setCell ⟨d.ma,9,none⟩ bI) d { v with ov:=bI } G ng { st with O:=O' }/\aQ d v { v with ov:=bI } w (w'.setCell ⟨d.ma,9,none⟩ bI):=by
 have h1:=h.own.turn (i:= .op) (r':=⟨bI,137,3,O'.length,O'.flatMap l5⟩) rfl hg ho hat;have h2:=h1.store (i:= .ma) (g:=d.ma) (n:=1) (cap:=1) (e:=93) (size:=10) (xs:=wm d v) (by simp[upd,iQ]) 9 bI;rw[acz]at h2;have far:∀b,b<w.heap.size->b≠d.ma->some b≠v.ov.ownBlock->(w'.setCell ⟨d.ma,9,none⟩ bI).heap[b]?=w.heap[b]?:=fun b hb hne hr=>(Below.heap_setCell _ _ _ _ hne).trans (hg.block b hb hr)
 have m:∀b,(b=d.mg\/b=d.ml)->b<w.heap.size->(w'.setCell ⟨d.ma,9,none⟩ bI).heap[b]?=w.heap[b]?:=fun b hb hlt=>
  far b hlt (fun e=>h.off hb (i:= .ma) rfl (by rw[e];rfl)) fun e=>h.off hb (i:= .op) rfl e.symm
 have hk:aQ d v { v with ov:=bI } w (w'.setCell ⟨d.ma,9,none⟩ bI):=by
  refine⟨⟨hg.os,hg.tape,hg.output,by have:=hg.size;simpa [World.setCell] using this,fun b hb hK=>far b hb (fun e=>hK (.inr (.inr (.inl e)))) fun e=>hK (.inr (.inr (.inr (.inr (.inl e.symm)))))⟩,fun b hb hK=> ?_⟩;rcases hK with hK|hK|hK|hK|hK|hK
  ·exact .inl hK
  ·exact .inr (.inl hK)
  ·exact .inr (.inr (.inl hK))
  ·exact .inr (.inr (.inr (.inl hK)))
  ·rcases hat b hK with e|e
   ·exact .inr (.inr (.inr (.inr (.inl e))))
   ·omega
  ·exact .inr (.inr (.inr (.inr (.inr hK))))
 exact⟨⟨h2,h.tC.kept (m _ (.inl rfl) h.tC.lt),h.tF.kept (m _ (.inr rfl) h.tF.lt),h.ne,h.ge,h.since.trans (h.BK hk)⟩,hk⟩
theorem aA.pop(h:aA w0 w d v G ng st){O:List bf}{p:bf}(hO:st.O=O++[p]){g cap:Nat}(hv:v.ov= .slice (some ⟨g,0,none⟩) (O.length+1) cap):
 aA w0 (w.setCell ⟨d.ma,9,none⟩ (.slice (some ⟨g,0,none⟩) O.length cap)) d { v with ov:= .slice (some ⟨g,0,none⟩) O.length cap } G ng { st with O:=O }/\
  aQ d v { v with ov:= .slice (some ⟨g,0,none⟩) O.length cap } w (w.setCell ⟨d.ma,9,none⟩ (.slice (some ⟨g,0,none⟩) O.length cap)):=by
 have ho:=h.own.own .op _ rfl;simp only[hv,hO]at ho
 have ho':w.ownsRow w0.heap.size 137 3 (.slice (some ⟨g,0,none⟩) O.length cap) O.length (O.flatMap l5):=by
  refine⟨NA _,?_⟩;rcases ho.2 with⟨e,_⟩|⟨g',cap',cur,e,h2,h3,h4,h5,h6,h7⟩
  ·cases e
  ·injection e with e1 e2 e3
   injection e1 with e1;injection e1 with e1;subst e1;subst e3;simp only[List.length_append,List.length_cons,List.length_nil]at h4;refine .inr ⟨g,cap,cur,rfl,h2,h3,by omega,h5,h6,?_⟩;rw[List.flatMap_append]at h7;have h9:=congrArg (List.take (O.length*3)) h7;rw[List.take_take,List.length_append,List.length_cons,List.length_nil,Nat.min_eq_left (by omega),<-NA,List.take_left]at h9;rw[<-NA];exact h9
 exact h.NC (World.grownBy.refl w _) ho' (fun b hb=> .inl (by rw[hv];exact hb))
def pO(v:dF)(cv:Value)(k:Nat):Value:=if k=v.OL.length then cv else v.IV k
theorem acA{O:List bf}{dz cv:Value}{C:List It}:upd (upd (upd (iQ d v O) (.it v.OL.length) ⟨cv,130,2,C.length,C.flatMap bJ⟩) .st ⟨dz,131,1,v.OL.length+1,(List.range v.OL.length).map v.IV++[cv]⟩) .ma ⟨.slice (some ⟨d.ma,0,none⟩) 1 1,93,10,1,(wm d v).set 6 dz⟩=
 iQ d { v with sv:=dz,IV:=pO v cv,OL:=v.OL++[C] } O:=by
 funext i
 cases i with
 |ma=>simp[upd,iQ,wm]
 |op=>simp[upd,iQ]
 |st=>
  simp only[upd,iQ];rw[if_neg (by simp),if_pos trivial]
  congr 2
  ·simp
  ·rw[List.length_append,List.length_cons,List.length_nil,List.range_succ,List.map_append]
   congr 1
   ·refine List.map_congr_left fun k hk=> ?_
    have:=List.mem_range.1 hk;simp[pO,show k≠v.OL.length by omega]
   ·simp[pO]
 |it k=>
  simp only[upd,iQ,List.length_append,List.length_cons,List.length_nil];rw[if_neg (by simp),if_neg (by simp)];by_cases e:k=v.OL.length
  ·subst e
   rw[if_pos rfl,if_pos (by omega)];simp[pO,List.getD]
  ·rw[if_neg (by simpa using e)]
   by_cases hk:k<v.OL.length
   ·rw[if_pos hk,if_pos (by omega)]
    simp[pO,e,List.getD,List.getElem?_append_left hk]
   ·rw[if_neg hk,if_neg (by omega)]
theorem aA.acB{ws:World}(h:aA w0 ws d v G ng st)(hb:Below ws.heap.size ws w){cv:Value}{C:List It}(hC:w.ownsRow ws.heap.size 130 2 cv C.length (C.flatMap bJ)){dz:Value}(hg:w.grownBy w' v.sv.ownBlock)
 (ho:w'.ownsRow w0.heap.size 131 1 dz (v.OL.length+1) ((List.range v.OL.length).map v.IV++[cv])) (hat:∀g,dz.ownBlock=some g->v.sv.ownBlock=some g\/g=w.heap.size):
 aA w0 (w'.setCell ⟨d.ma,6,none⟩ dz) d { v with sv:=dz,IV:=pO v cv,OL:=v.OL++[C] } G ng st/\aQ d v { v with sv:=dz,IV:=pO v cv,OL:=v.OL++[C] } ws (w'.setCell ⟨d.ma,6,none⟩ dz):=by
 have hM:=h.below hb;have hlt:∀b,oH d v b->b<ws.heap.size:=fun b hb=>(h.kc hb).2
 have o1:au w w0.heap.size (upd (iQ d v st.O) (.it v.OL.length) ⟨cv,130,2,C.length,C.flatMap bJ⟩):=hM.own.put (jE hC h.le) (fun j a _ ha=>hM.own.own j a ha) (fun j a _ ha g h1 h2=>by
  have:=hlt g (Uu ha h1);have:=(hC.lt g h2).1
  omega)
 have o2:=o1.turn (i:= .st) (r:=⟨v.sv,131,1,v.OL.length,(List.range v.OL.length).map v.IV⟩) (r':=⟨dz,131,1,v.OL.length+1,(List.range v.OL.length).map v.IV++[cv]⟩) (by simp[upd,iQ]) hg ho hat;have o3:=o2.store (i:= .ma) (g:=d.ma) (n:=1) (cap:=1) (e:=93) (size:=10) (xs:=wm d v) (by simp[upd,iQ]) 6 dz;rw[acA]at o3;have far:∀b,b<ws.heap.size->b≠d.ma->some b≠v.sv.ownBlock->(w'.setCell ⟨d.ma,6,none⟩ dz).heap[b]?=ws.heap[b]?:=fun b hbl hne hr=>((Below.heap_setCell _ _ _ _ hne).trans (hg.block b (Nat.lt_of_lt_of_le hbl hb.size) hr)).trans (hb.block b hbl)
 have m:∀b,(b=d.mg\/b=d.ml)->b<ws.heap.size->(w'.setCell ⟨d.ma,6,none⟩ dz).heap[b]?=ws.heap[b]?:=fun b hb' hlt=>
  far b hlt (fun e=>h.off hb' (i:= .ma) rfl (by rw[e];rfl)) fun e=>h.off hb' (i:= .st) rfl e.symm
 have hk:aQ d v { v with sv:=dz,IV:=pO v cv,OL:=v.OL++[C] } ws (w'.setCell ⟨d.ma,6,none⟩ dz):=by
  refine⟨⟨hg.os.trans hb.os,hg.tape.trans hb.tape,hg.output.trans hb.output,by have:=hg.size;have:=hb.size;simp[World.setCell];omega,fun b hbl hK=>far b hbl (fun e=>hK (.inr (.inr (.inl e)))) fun e=>hK (.inr (.inr (.inr (.inl e.symm))))⟩,fun b hbl hK=> ?_⟩;rcases hK with hK|hK|hK|hK|hK|⟨k,hk,hK⟩
  ·exact .inl hK
  ·exact .inr (.inl hK)
  ·exact .inr (.inr (.inl hK))
  ·rcases hat b hK with e|e
   ·exact .inr (.inr (.inr (.inl e)))
   ·have:=hb.size;omega
  ·exact .inr (.inr (.inr (.inr (.inl hK))))
  ·simp only[pO]at hK
   simp only[List.length_append,List.length_cons,List.length_nil]at hk;split at hK
   ·have:=(hC.lt b hK).1;omega
   ·exact .inr (.inr (.inr (.inr (.inr ⟨k,by omega,hK⟩))))
 exact⟨⟨o3,h.tC.kept (m _ (.inl rfl) h.tC.lt),h.tF.kept (m _ (.inr rfl) h.tF.lt),h.ne,h.ge,h.since.trans (h.BK hk)⟩,hk⟩
theorem aA.Jf(h:aA w0 w d v G ng st){s:bf}(h1:s.1<=1000)(h2:s.2.1<=1000)(h3:s.2.2<=1000)(hc:st.c<=10000000):(Instr.lookup 89 (.map (some d.ml)) (oG s) false).run Tryz.prog w= .ok (.int .u32 (st.lk s)) w:=by
 obtain⟨l,hl⟩:=Ut h1 h2 h3;have:=TQ h.tF false (by unfold maxLen;omega) Um Tryz.underlying89 (acv w) Uj hl;rw[this];by_cases hi:st.lk s=0
 ·simp[uU,hi]
 ·simp[uU,hi]
theorem aA.Uv(h:aA w0 w d v G ng st){p:Wy}(h1:p.1<=1000)(h2:0<=p.2.2)(h3:p.2.2<=1000)(hc:ng<=10000000)(c:Bool):(Instr.lookup 88 (.map (some d.mg)) (qE p) c).run Tryz.prog w= .ok (if c then .tuple #[(G p).getD (.int .i64 0),.bool (G p).isSome] else (G p).getD (.int .i64 0)) w:=by
 obtain⟨l,hl⟩:=Us h1 h2 h3;exact TQ h.tC c (by unfold maxLen;omega) Ul Tryz.underlying88 (zero_num w) Ui hl
theorem aA.iN(h:aA w0 w d v G ng st){p:Wy}(h1:p.1<=1000)(h2:0<=p.2.2)(h3:p.2.2<=1000)(x:Value):
 ∃w',(Instr.mapUpdate 88 (.map (some d.mg)) (qE p) x).run Tryz.prog w= .ok () w'/\aA w0 w' d v (mH G p x) (ng+1) st/\aQ d v v w w'/\w'.heap.size=w.heap.size:=by
 obtain⟨l,hl⟩:=Us h1 h2 h3;obtain⟨w',e1,e2,e3,e4⟩:=TR h.tC Ul Tryz.underlying88 Ui hl x;obtain⟨a,b⟩:=h.acy e3 e2;exact⟨w',e1,a,b,e4⟩
theorem acC{lk:bf->Nat}{s:bf}{m:Nat}(hm:m≠0):mH (uU lk) s (.int .u32 m)=uU fun t=>if t=s then m else lk t:=by
 funext t
 by_cases e:t=s
 ·subst e;simp[mH,uU,hm]
 ·simp[mH,uU,e]
theorem aA.TL(h:aA w0 w d v G ng st){s:bf}(h1:s.1<=1000)(h2:s.2.1<=1000)(h3:s.2.2<=1000){m:Nat}(hm:m≠0):
 ∃w',(Instr.mapUpdate 89 (.map (some d.ml)) (oG s) (.int .u32 m)).run Tryz.prog w= .ok () w'/\aA w0 w' d v G ng ⟨fun t=>if t=s then m else st.lk t,st.O,st.c+1⟩/\aQ d v v w w'/\w'.heap.size=w.heap.size:=by
 obtain⟨l,hl⟩:=Ut h1 h2 h3;obtain⟨w',e1,e2,e3,e4⟩:=TR h.tF Um Tryz.underlying89 Uj hl (.int .u32 m);rw[acC hm]at e2;obtain⟨a,b⟩:=h.Gi e3 e2;exact⟨w',e1,a,b,e4⟩
end
end Go.Proofs.YtpkmpkphfflpjaaGreat
namespace Go.Proofs.YtpkmpkphfflpjaaGreat
open Go.RowKit
theorem aA.auto{w0 w:World}{d:fD}{v:dF}{G:Wy->Option Value}{ng:Nat}{st:LS}{R:List Ru}{Nu:List Bool}{Fi:List (List Bool)}(h:aA w0 w d v G ng st)(E:jQ w0 d R Nu Fi):iE w w0.heap.size d.ma d.T d.N d.rv R:=
 ⟨(h.cell (i:=0) rfl (by omega)).1,(h.cell (i:=1) rfl (by omega)).1,(h.cell (i:=2) rfl (by omega)).1,h.rules E,h.le,h.BL⟩
theorem iE.boxed{w:World}{lim ab T N:Nat}{rv:Value}{R:List Ru}(h:iE w lim ab T N rv R)(o:Obj):iE (w.alloc o) lim ab T N rv R:=h.below ((Below.refl _ _).alloc (Nat.le_refl _) o) h.le h.lt
theorem iE.later{w w':World}{lim ab T N:Nat}{rv:Value}{R:List Ru}(h:iE w lim ab T N rv R)(hb:Below w.heap.size w w'):iE w' lim ab T N rv R:=h.below hb h.le h.lt
theorem Jg{w:World}{lim ab T N:Nat}{rv:Value}{R:List Ru}(hA:iE w lim ab T N rv R):
 Calls Tryz.prog 56 #[.pointer (some ⟨ab,0,none⟩)] w fun e w'=>e= .returned (.int .i64 R.length)/\w'=w:=by
 obtain⟨ra,rc,bW⟩:=hA.rules.1;subst bW;have a2:=hA.r;clear hA
 go_enter Tryz.func56,Tryz.ntmps56
 go_wp2_with fail
 go_ret;exact⟨rfl,rfl⟩
theorem ND{w:World}{lim ab T N r:Nat}{rv:Value}{R:List Ru}(hA:iE w lim ab T N rv R)(hr:r<=R.length):
 Calls Tryz.prog 92 #[.pointer (some ⟨ab,0,none⟩),.int .i64 r] w fun e w'=> ∃la lc,e= .returned (.slice la (aJ R r).length lc)/\bK w' (.slice la (aJ R r).length lc) (aJ R r)/\Below w.heap.size w w':=by
 have Uw:=Jg hA;obtain⟨ra,rc,bW⟩:=hA.rules.1;subst bW;have a2:=hA.r;by_cases he:r=R.length
 ·subst he
  have e1:((R.length:Int)==(R.length:Int))=true:=by simp
  have HE:Hid (aJ R R.length=[(false,0)]):=by show aJ R R.length=_;simp[aJ]
  clear hA hr
  go_enter Tryz.func92,Tryz.ntmps92
  go_wp2_with (go_at_call 56;refine Uw.mono ?_;rintro e w1 ⟨rfl,rfl⟩)
  go_ret;rw[HE.out];refine⟨some ⟨w1.heap.size,0,none⟩,1,rfl,?_,(Below.refl _ _).alloc (Nat.le_refl _) _⟩;refine⟨⟨_,_,rfl,Nat.le_refl _⟩,fun j hj=> ?_⟩;have hj0:j=0:=by simpa using hj
  subst hj0;exact⟨w1.heap.size,0,1,rfl,by simp[go_sem],by simp[go_sem]⟩
 ·have hlt:r<R.length:=by omega
  obtain⟨b,o,rc',qa,qc,hv,hb,k1,k2,hsy⟩:=hA.rules.jF hlt;cases hv;have e1:((r:Int)==(R.length:Int))=false:=by simpa using fun h=>he (by omega)
  have i0:(0:Int)<=(r:Int):=Int.natCast_nonneg _;have i1:(r:Int)<(R.length:Int):=by omega
  have k2':w.cell? ⟨b,o+r*2+1,none⟩=some (.slice qa (R.getD r (0,[])).2.length qc):=by rw[Nat.add_assoc];exact k2
  have hre:aJ R r=(R.getD r (0,[])).2:=by rw[aJ,if_neg he]
  obtain⟨Rt,jX⟩:∃x,(R.getD r (0,[])).2=x:=⟨_,rfl⟩;rw[jX]at k2' hsy hre;rw[hre];have HE:Hid (bK w (.slice qa Rt.length qc) Rt):=hsy;clear hA hr k2 hsy he jX hre
  go_enter Tryz.func92,Tryz.ntmps92
  go_wp2_with (go_at_call 56;refine Uw.mono ?_;rintro e w1 ⟨rfl,rfl⟩)
  go_ret;exact⟨qa,qc,rfl,HE.out,Below.refl _ _⟩
theorem Jh{w:World}{lim ab T N a b:Nat}{rv:Value}{R:List Ru}{s:Sy}(hA:iE w lim ab T N rv R)(hr:a<=R.length)(hs:(aJ R a)[b]?=some s):
 Calls Tryz.prog 77 #[.pointer (some ⟨ab,0,none⟩),.agg #[.int .i64 a,.int .i64 b]] w fun e w'=>e= .returned (.tuple #[.agg #[.bool s.1,.int .i64 s.2],.bool true])/\Below w.heap.size w w':=by
 obtain⟨hlt,hget⟩:=List.getElem?_eq_some_iff.1 hs;have hgd:(aJ R a).getD b (false,0)=s:=by simp[List.getD,hs]
 have rg:=ND ((hA.boxed (.cells #[.int .i64 a,.int .i64 b] 130)).boxed (.cells #[.bool false,.int .i64 0] 104)) hr;obtain⟨Rt,jX⟩:∃x,aJ R a=x:=⟨_,rfl⟩;rw[jX]at rg hlt hgd;have HG:Hid (Rt.getD b (false,0)=s):=hgd;have HL:Hid (b<Rt.length):=hlt;clear hA hget hs jX hgd;obtain⟨s1,s2⟩:=s
 go_enter Tryz.func77,Tryz.ntmps77
 go_wp2_with
  (go_at_call 92;refine rg.mono ?_;rintro e w2 ⟨la,lc,rfl,hsy,hB2⟩
   obtain⟨g,o,c,hv,c1,c2⟩:=hsy.2 b HL.out;cases hv;rw[HG.out]at c1 c2;simp only at c1 c2;have b0:w2.cell? ⟨w.heap.size,0,none⟩=some (.int .i64 a):=(hB2.cell (by simp;omega)).trans (by simp[go_sem]);have b1:w2.cell? ⟨w.heap.size,1,none⟩=some (.int .i64 b):=(hB2.cell (by simp;omega)).trans (by simp[go_sem]);have r0:w2.cell? ⟨w.heap.size+1,0,none⟩=some (.bool false):=(hB2.cell (by simp)).trans (by simp[go_sem]);have r1:w2.cell? ⟨w.heap.size+1,1,none⟩=some (.int .i64 0):=(hB2.cell (by simp)).trans (by simp[go_sem]);have rf:∀o,w2.frozen? ⟨w.heap.size+1,o,none⟩=false:=fun o=>(hB2.frozen (by simp)).trans (by simp[go_sem]);have e1:((b:Int)==(Rt.length:Int))=false:=by have:=HL.out;simp;omega
   have i0:(0:Int)<=(b:Int):=Int.natCast_nonneg _;have i1:(b:Int)<(Rt.length:Int):=by have:=HL.out;omega
   have HX:Hid (Below w.heap.size w w2):=((((Below.refl _ _).alloc (Nat.le_refl _) _).alloc (by simp) _).trans (hB2.mono (by simp;omega)))
   clear hB2 hsy rg)
 refine bodyPost_ret (v:= .tuple #[.agg #[.bool s1,.int .i64 s2],.bool true]) (by simp[results,Tryz.results77,go_sem,r0,r1]) rfl ⟨rfl,?_⟩;exact(HX.out.setCell (by simp) _).setCell (by simp) _
theorem Ji{w:World}{lim ab T N a b:Nat}{rv:Value}{R:List Ru}(hA:iE w lim ab T N rv R)(hr:a<=R.length)(hb:b=(aJ R a).length):
 Calls Tryz.prog 77 #[.pointer (some ⟨ab,0,none⟩),.agg #[.int .i64 a,.int .i64 b]] w fun e w'=>e= .returned (.tuple #[.agg #[.bool false,.int .i64 0],.bool false])/\Below w.heap.size w w':=by
 have rg:=ND ((hA.boxed (.cells #[.int .i64 a,.int .i64 b] 130)).boxed (.cells #[.bool false,.int .i64 0] 104)) hr;rw[<-hb]at rg;clear hA hb
 go_enter Tryz.func77,Tryz.ntmps77
 go_wp2_with
  (go_at_call 92;refine rg.mono ?_;rintro e w2 ⟨la,lc,rfl,_,hB2⟩
   have b1:w2.cell? ⟨w.heap.size,1,none⟩=some (.int .i64 b):=(hB2.cell (by simp;omega)).trans (by simp[go_sem]);have r0:w2.cell? ⟨w.heap.size+1,0,none⟩=some (.bool false):=(hB2.cell (by simp)).trans (by simp[go_sem]);have r1:w2.cell? ⟨w.heap.size+1,1,none⟩=some (.int .i64 0):=(hB2.cell (by simp)).trans (by simp[go_sem]);have rf:∀o,w2.frozen? ⟨w.heap.size+1,o,none⟩=false:=fun o=>(hB2.frozen (by simp)).trans (by simp[go_sem]);have HX:Hid (Below w.heap.size w w2):=((((Below.refl _ _).alloc (Nat.le_refl _) _).alloc (by simp) _).trans (hB2.mono (by simp;omega)))
   clear hB2 rg)
 refine bodyPost_ret (v:= .tuple #[.agg #[.bool false,.int .i64 0],.bool false]) (by simp[results,Tryz.results77,go_sem,r0,r1]) rfl ⟨rfl,?_⟩;exact(HX.out.setCell (by simp) _).setCell (by simp) _
theorem Ux{w:World}{a b:Nat}(hb:b<=1000):
 Calls Tryz.prog 78 #[.agg #[.int .i64 a,.int .i64 b]] w fun e w'=>e= .returned (.agg #[.int .i64 a,.int .i64 ((b:Int)+1)])/\Below w.heap.size w w':=by
 go_enter Tryz.func78,Tryz.ntmps78
 go_wp2_with fail
 refine bodyPost_ret (v:= .agg #[.int .i64 a,.int .i64 ((b:Int)+1)]) (by simp[results,Tryz.results78,go_sem]) rfl ⟨rfl,?_⟩;exact((Below.refl _ _).alloc (Nat.le_refl _) _).alloc (by simp) _
def dX(R:List Ru)(m:Int)(k:Nat):List It:=((List.range k).filter fun n=>decide ((R.getD n (0,[])).1=m)).map fun n=>(n,0)
theorem Uy{R:List Ru}{m:Int}{k:Nat}(h:(R.getD k (0,[])).1=m):dX R m (k+1)=dX R m k++[(k,0)]:=by
 unfold dX;rw[List.range_succ,List.filter_append,List.map_append];have e:([k].filter fun n=>decide ((R.getD n (0,[])).1=m))=[k]:=by rw[List.filter_cons,if_pos (by simpa using h)];rfl
 rw[e];rfl
theorem acD{R:List Ru}{m:Int}{k:Nat}(h:(R.getD k (0,[])).1≠m):dX R m (k+1)=dX R m k:=by
 unfold dX;rw[List.range_succ,List.filter_append,List.map_append];have e:([k].filter fun n=>decide ((R.getD n (0,[])).1=m))=[]:=by rw[List.filter_cons,if_neg (by simpa using h)];rfl
 rw[e];simp
theorem NE(R:List Ru)(m:Int)(k:Nat):(dX R m k).length<=k:=by
 unfold dX;rw[List.length_map];refine Nat.le_trans (List.length_filter_le _ _) ?_;simp
theorem NG{w:World}{lim ab T N:Nat}{rv:Value}{R:List Ru}{m:Int}(hA:iE w lim ab T N rv R)(hR:R.length<=40):
 Calls Tryz.prog 80 #[.pointer (some ⟨ab,0,none⟩),.int .i64 m] w fun e w'=> ∃ov,e= .returned ov/\w'.ownsRow w.heap.size 130 2 ov (dX R m R.length).length ((dX R m R.length).flatMap bJ)/\Below w.heap.size w w'/\(dX R m R.length=[]->ov= .slice none 0 0):=by
 obtain⟨ra,rc,bW⟩:=hA.rules.1;subst bW;have a2:=hA.r;have HA:Hid (iE w lim ab T N (.slice ra R.length rc) R):=hA;clear hA
 go_enter Tryz.func80,Tryz.ntmps80
 go_wp2_with fail
 clear a2
 go_loopw [5,14] (fun s5 s14 wr=> ∃(k:Nat) (ov:Value),ov=s5/\s14= .int .i64 k/\k<=R.length/\wr.ownsRow w.heap.size 130 2 ov (dX R m k).length ((dX R m k).flatMap bJ)/\Below w.heap.size w wr/\(dX R m k=[]->ov= .slice none 0 0)) (fun _ s _=>R.length-(intOf s).toNat)
 case atStart=>exact⟨0,_,rfl,rfl,Nat.zero_le _,World.ownsRow_nil w w.heap.size 130 2,Below.refl _ _,fun _=>rfl⟩
 case round=>
  obtain⟨k,ov,rfl,rfl,hk,hO,hB,Uz⟩:=hrel;have Ff:Hid (dX R m k=[]->ov= .slice none 0 0):=Uz;clear Uz;have HB:Hid (Below w.heap.size w wr):=hB;have HO:Hid (wr.ownsRow w.heap.size 130 2 ov (dX R m k).length ((dX R m k).flatMap bJ)):=hO;by_cases hlt:k<R.length
  ·obtain⟨b,o,rc',qa,qc,hv,hb,k1,k2,_⟩:=(HA.out.later hB).rules.jF hlt
   cases hv;have hle:=HA.out.le;have hsz:=hB.size;have hll:=NE R m k;obtain⟨l,hl⟩:∃l,(R.getD k (0,[])).1=l:=⟨_,rfl⟩;obtain⟨q,hq⟩:∃q,(R.getD k (0,[])).2.length=q:=⟨_,rfl⟩;rw[hl]at k1;rw[hq]at k2;have HL:Hid ((R.getD k (0,[])).1=l):=hl;have i0:(0:Int)<=(k:Int):=Int.natCast_nonneg _;have i1:(k:Int)<(R.length:Int):=by omega
   obtain⟨W1,hW1⟩:∃W1,wr.alloc (.cells #[.int .i64 l,.slice qa q qc] 79)=W1:=⟨_,rfl⟩;have HB1:Hid (Below w.heap.size w W1):=by show Below _ _ _;rw[<-hW1];exact hB.alloc (by omega) _
   have q8:Hid (W1.ownsRow w.heap.size 130 2 ov (dX R m k).length ((dX R m k).flatMap bJ)):=by show World.ownsRow _ _ _ _ _ _ _;rw[<-hW1];exact hO.alloc _
   clear hB hO hl hq;by_cases hm:l=m
   ·subst hm
    have e1:(l==l)=true:=by simp
    have bX:=q8.out.alloc (.cells #[.int .i64 k,.int .i64 0] 130);have jq:=World.news_of_block (cs:= #[.int .i64 k,.int .i64 0]) (t:=130) (fr:=(0,0)) (heap_alloc_new W1 (.cells #[.int .i64 k,.int .i64 0] 130));have hs1:w.heap.size<=W1.heap.size:=HB1.out.size;have acE:W1.heap.size=wr.heap.size+1:=by rw[<-hW1];simp
    rw[acE]at jq;obtain⟨p,hp⟩:∃p,(dX R l k).length=p:=⟨_,rfl⟩;rw[hp]at bX hll;have n1:p+1<=maxLen:=by unfold maxLen;omega
    have n2:(p+1)*16<=140737488355328:=by omega
    have HP:Hid ((dX R l k).length=p):=hp;obtain⟨rZ,hi0,hz0,hz1,hz2⟩:=info_parts Tryz.infoIt;clear hp;have HW1:Hid (wr.alloc (.cells #[.int .i64 l,.slice qa q qc] 79)=W1):=hW1;clear hW1
    go_wp2_with
     (at_builtin
      rw[HW1.out]
      refine wpList_append_lies _ rfl _ _ _ rfl w.heap.size 130 rZ _ 2 16 Tryz.underlying131 hi0 hz0 hz1 hz2 rfl (by omega) ov p ((dX R l k).flatMap bJ) rfl bX
       ⟨wr.heap.size+1,0,none⟩ 1 1 [.int .i64 k,.int .i64 0] rfl rfl jq (by simp[Value.oneCell']) (by omega) n1 n2 (by simp;omega) (wr.heap.size+2) (by simp;omega) ?_
      intro g6 cap6 w6 hown6 fF o6 uq)
    go_roundw
    case rel=>
     have aK:Below w.heap.size w w6:=(HB1.out.alloc (by omega) _).grown fF (by simp;omega) (fun j hj=>(q8.out.lt j hj).1);refine⟨k+1,_,rfl,by go_num,by omega,?_,aK,fun e=>by rw[Uy HL.out]at e;simp at e⟩;rw[Uy HL.out,List.flatMap_append,List.length_append,HP.out];exact hown6
    case measure=>simp[intOf];omega
   ·have e1:(l==m)=false:=by simpa using hm
    have HN:Hid (dX R m (k+1)=dX R m k):=acD (by rw[HL.out];exact hm);have HW1:Hid (wr.alloc (.cells #[.int .i64 l,.slice qa q qc] 79)=W1):=hW1;clear hW1
    go_wp2_with fail
    go_roundw
    case rel=>exact⟨k+1,ov,rfl,by go_num,by omega,by rw[HN.out,HW1.out];exact q8.out,by rw[HW1.out];exact HB1.out,fun e=>Ff.out (by rw[<-HN.out];exact e)⟩
    case measure=>simp[intOf];omega
  ·obtain rfl:k=R.length:=by omega
   clear hB hO
   go_wp2_with fail
   go_ret;exact⟨ov,rfl,HO.out,HB.out,Ff.out⟩
theorem Jj{w:World}{n:Nat}(hn:n<=8):Calls Tryz.prog 60 #[.int .i64 n] w fun e w'=>e= .returned (.int .u32 ((2^n:Nat):Int))/\w'=w:=by
 match n,hn with
 |0,_|1,_|2,_|3,_|4,_|5,_|6,_|7,_|8,_=>
  go_enter Tryz.func60,Tryz.ntmps60
  go_wp2_with fail
  go_ret;exact⟨rfl,rfl⟩
end Go.Proofs.YtpkmpkphfflpjaaGreat
