import Derived.Test.YtpkmpkphfflpjaaGreatTrIfAndStLeft
set_option maxHeartbeats 6400000
set_option maxRecDepth 100000
namespace Go.Proofs.YtpkmpkphfflpjaaGreat
open Go.RowKit
theorem Ij{R:List Ru}{q':Nat}{ks':Fo}:∀{t:Fo} {ns:List Int},okF R t ns->uy q' ks' t->∃n,n∈ns/\okF R (.nd q' ks' .no) [n]
 | .nd _ _ _,_,⟨n,_,rfl,h1,h2,h3,h4⟩,hm=>by
  rcases hm with⟨rfl,rfl⟩|hm
  ·exact⟨n,List.mem_cons_self ..,n,[],rfl,h1,h2,h3,rfl⟩
  ·obtain⟨n',h5,h6⟩:=Ij h4 hm
   exact⟨n',List.mem_cons_of_mem _ h5,h6⟩
theorem RJ{F:Nat->Fo->Nat×Fo}{G:Fo->Fo}{P:Nat->Fo->Prop}(h0:G .no= .no)(hG:∀q ks ts,P q ks->G (.nd q ks ts)= .nd (F q ks).1 (F q ks).2 (G ts)):∀(L L':List Tr),(∀x∈L,P x.2.1 x.2.2)->(L'.map fun x=>x.2)=L.map (fun x=>F x.2.1 x.2.2)->rowOf L'=G (rowOf L)
 | [],[],_,_=>h0.symm
 | [],_::_,_,h=>by simp at h
 |_::_,[],_,h=>by simp at h
 |x::L,y::L',hP,h=>by
  simp only[List.map_cons,List.cons.injEq]at h;rw[rowOf,rowOf,hG _ _ _ (hP x (List.mem_cons_self ..)),RJ h0 hG L L' (fun z hz=>hP z (List.mem_cons_of_mem _ hz)) h.2,h.1]
theorem RN{w:World}{A:Nat->Prop}{v recv:Value}{ks:Fo}{dn:Nat}{F:Nat->Fo->Nat×Fo}{G:Fo->Fo}{P:Nat->Fo->Prop}(hdn:∀args w,(callFunc dn args).run Tryz.prog w= .ok (.enter dn args) w)(h0:G .no= .no)(hG:∀q ks ts,P q ks->G (.nd q ks ts)= .nd (F q ks).1 (F q ks).2 (G ts))(hP:∀q' ks',uy q' ks' ks->P q' ks')(hk:aG w A v ks)(hA:∀b,A b->b<w.heap.size)(hl:(ai ks).length<=50000)
 (hF:∀(w':World) (q':Nat) (ks':Fo) (kv':Value),uy q' ks' ks->Below w.heap.size w w'->aG w' A kv' ks'->(∀b,A b->b<w'.heap.size)->Calls Tryz.prog dn #[recv,.agg #[.int .i64 (q':Int),kv']] w' fun e w''=> ∃kv,e= .returned (.agg #[.int .i64 ((F q' ks').1:Int),kv])/\aG w'' (fun b=>A b\/w'.heap.size<=b) kv (F q' ks').2/\Below w'.heap.size w' w''):
 Calls Tryz.prog 141 #[v,.func (.func dn) #[recv] #[]] w fun e w'=> ∃ov L',e= .returned ov/\gu w' w.heap.size A ov L'/\rowOf L'=G ks/\Below w.heap.size w w':=by
 obtain⟨L,rfl,hL⟩:=hk.list;refine(QL (F:=F) hdn hL hA (Nat.le_trans (qj L) hl) fun x hx w' hb=> ?_).mono ?_
 ·exact hF w' x.2.1 x.2.2 x.1 (DN hx) hb ((hL.kids x hx).below hb) fun b hb'=>Nat.lt_of_lt_of_le (hA b hb') hb.size
 ·rintro e w' ⟨ov,L',rfl,h1,h2,h3⟩
  exact⟨ov,L',rfl,h1,RJ h0 hG L L' (fun x hx=>hP _ _ (DN hx)) h2,h3⟩
section
variable{N:Nat}{R R':List Ru}{A:Int}{own aj:Nat->Bool}
def uI(L:Nat)(own aj:Nat->Bool)(q:Nat)(ks:Fo):Nat×Fo:=(rX (aT L own aj (.nd q ks .no) (.nd L .no .no)),ug (aT L own aj (.nd q ks .no) (.nd L .no .no)))
def leB(L:Nat)(own aj:Nat->Bool)(q:Nat)(ks:Fo):Nat×Fo:=(rX (aN L own aj (.nd q ks .no)).1,ug (aN L own aj (.nd q ks .no)).1)
theorem RO(h:mV N R R' A own aj)(q:Nat)(ks ts:Fo)(hP:∃n,okF R (.nd q ks .no) [n]):aT R.length own aj (.nd q ks ts) (.nd R.length .no .no)= .nd (uI R.length own aj q ks).1 (uI R.length own aj q ks).2 (aT R.length own aj ts (.nd R.length .no .no)):=by
 obtain⟨n,hP⟩:=hP;obtain⟨p,K,e⟩:=AB h _ q ks n (Nat.lt_succ_self _) hP (.nd R.length .no .no);unfold uI;rw[yN,e];rfl
theorem RP{q p:Nat}{ks K:Fo}(e:aT R.length own aj (.nd q ks .no) (.nd R.length .no .no)= .nd p K .no):uI R.length own aj q ks=(p,K):=by
 unfold uI;rw[e];rfl
theorem aai(h:mV N R R' A own aj):∀(z:Nat) (c:Fo),(ai c).length<z->okF R' c [(N:Int)]->∀p K,∃p' K',(aN R.length own aj c).2 (.nd p K .no)= .nd p' K' .no:=by
 intro z
 induction z with
 |zero=>intro c h;omega
 |succ z ih=>
  intro c hz hc p K;obtain⟨q,ks,rfl,_,⟨rfl,rfl⟩|⟨hq,ho⟩⟩:=wU h hc
  ·rw[wT,if_pos rfl]
   exact⟨_,_,rfl⟩
  ·obtain⟨hA,l,hl,hR'⟩:=h.qW q hq ho
   obtain⟨n',ns',e,h1,h2,h3,h4⟩:=hc;rw[hR',gT]at h3;obtain⟨X,c1,rfl,x,hc1⟩:=pX _ _ _ h3;rw[ai,kP,List.length_cons,List.length_append,List.length_append]at hz;rw[wT,if_neg (by omega),(oZ h hc1).1,(oZ h hc1).2];exact ih c1 (by omega) hc1 _ _
theorem RQ(h:mV N R R' A own aj){q:Nat}{ks:Fo}{n:Int}(hn:n<(N:Int))(hok:okF R' (.nd q ks .no) [n]):q<R.length/\own q=false/\((aj q=true/\(R.getD q (0,[])).1=A/\∃X c,ks=aF X c/\okF R' X (aB (R.getD q (0,[])).2)/\okF R' c [(N:Int)]/\(aN R.length own aj (.nd q ks .no)).1=(aN R.length own aj c).2 (.nd q (aN R.length own aj X).1 .no))\/(aj q=false/\(R.getD q (0,[])).1≠A/\okF R' ks (aB (R.getD q (0,[])).2)/\(aN R.length own aj (.nd q ks .no)).1= .nd q (aN R.length own aj ks).1 .no)):=by
 obtain⟨n',ns',e,h1,h2,h3,h4⟩:=hok;injection e with e1 e2;subst e1;have hlen:=h.len
 have YB:q≠R.length:=fun e=>by
  rw[e,h.last]at h2;simp only at h2;omega
 have hq:q<R.length:=by omega
 have ho:own q=false:=by
  cases ho:own q with
  |false=>rfl
  |true=>
   obtain⟨_,l,_,hR'⟩:=h.qW q hq ho;rw[hR']at h2;simp only at h2;omega
 refine⟨hq,ho,?_⟩;by_cases hA:(R.getD q (0,[])).1=A
 ·have hb:=h.base q hq ho hA
  have jH:aj q=true:=(h.uh q hq).2 hA;rw[hb,gT]at h3;obtain⟨X,c,rfl,c1,c2⟩:=pX _ _ _ h3;refine .inl ⟨jH,hA,X,c,rfl,c1,c2,?_⟩;rw[aN];simp only;rw[if_pos (by rw[jH,ho];rfl),(oZ h c2).1,(oZ h c2).2,aN,KJ]
 ·have hR':=h.other q hq hA
  have jH:aj q=false:=by
   cases hi:aj q with
   |false=>rfl
   |true=>exact absurd ((h.uh q hq).1 hi) hA
  rw[hR']at h3;refine .inr ⟨jH,hA,h3,?_⟩;rw[aN];simp only;rw[if_neg (by rw[jH];simp)];rfl
theorem aaj(h:mV N R R' A own aj){q:Nat}{ks:Fo}{n:Int}(hn:n<(N:Int))(hok:okF R' (.nd q ks .no) [n]):∃p K,(aN R.length own aj (.nd q ks .no)).1= .nd p K .no:=by
 obtain⟨_,_,⟨_,_,X,c,_,_,hc,e⟩|⟨_,_,_,e⟩⟩:=RQ h hn hok
 ·rw[e]
  exact aai h _ c (Nat.lt_succ_self _) hc _ _
 ·exact⟨_,_,e⟩
theorem RS(h:mV N R R' A own aj)(q:Nat)(ks ts:Fo)(hP:∃n,n<(N:Int)/\okF R' (.nd q ks .no) [n]):(aN R.length own aj (.nd q ks ts)).1= .nd (leB R.length own aj q ks).1 (leB R.length own aj q ks).2 (aN R.length own aj ts).1:=by
 obtain⟨n,hn,hP⟩:=hP;obtain⟨p,K,e⟩:=aaj h hn hP;have h1:=GR (L:=R.length) (own:=own) (aj:=aj) (.nd q ks .no) ts;rw[aF,aF]at h1;unfold leB;rw[h1,e];rfl
theorem RU{q p:Nat}{ks K:Fo}(e:(aN R.length own aj (.nd q ks .no)).1= .nd p K .no):leB R.length own aj q ks=(p,K):=by
 unfold leB;rw[e];rfl
theorem RV(h:mV N R R' A own aj){q:Nat}(hq:q<R.length):∀x∈aB (R.getD q (0,[])).2,x<(N:Int):=fun x hx=>by
 have:(false,x)∈(R.getD q (0,[])).2:=by
  generalize (R.getD q (0,[])).2=l at hx
  induction l with
  |nil=>cases hx
  |cons s l ihl=>
   obtain⟨b,y⟩:=s;cases b with
   |true=>exact List.mem_cons_of_mem _ (ihl hx)
   |false=>
    rcases List.mem_cons.1 hx with rfl|hx
    ·exact List.mem_cons_self ..
    ·exact List.mem_cons_of_mem _ (ihl hx)
 exact(h.low _ (jV hq)).2 _ this rfl
end
def nO(sz:Nat)(T N o a b c:Int)(ra:Option Addr)(rl rc:Nat)(q:Nat)(kv:Value)(wq:World):Prop:=
 wq.cell? ⟨sz,0,none⟩=some (.int .i64 T)/\wq.cell? ⟨sz,1,none⟩=some (.int .i64 N)/\wq.cell? ⟨sz,2,none⟩=some (.slice ra rl rc)/\wq.cell? ⟨sz,3,none⟩=some (.int .i64 o)/\wq.cell? ⟨sz,4,none⟩=some (.int .i64 a)/\wq.cell? ⟨sz,5,none⟩=some (.int .i64 b)/\wq.cell? ⟨sz,6,none⟩=some (.int .i64 c)/\wq.cell? ⟨sz+1,0,none⟩=some (.int .i64 (q:Int))/\wq.cell? ⟨sz+1,1,none⟩=some kv
theorem Ec{w:World}{g:Nat}{u0 u1 v0 v1:Value}(h:w.heap[g]?=some (.cells #[u0,u1] 73 (0,0))):((w.setCell ⟨g,0,none⟩ v0).setCell ⟨g,1,none⟩ v1).heap[g]?=some (.cells #[v0,v1] 73 (0,0)):=by
 have h1:=heap_setCell_same w g 0 #[u0,u1] 73 v0 h;have h2:=heap_setCell_same _ g 1 _ 73 v1 h1;simpa using h2
theorem mq{w:World}{g k:Nat}(h:k≠g)(v0 v1:Value):((w.setCell ⟨g,0,none⟩ v0).setCell ⟨g,1,none⟩ v1).heap[k]?=w.heap[k]?:=by
 rw[Below.heap_setCell _ _ _ _ h,Below.heap_setCell _ _ _ _ h]
theorem Mi{N:Nat}{R R':List Ru}{A:Int}{own aj:Nat->Bool}(h:mV N R R' A own aj):∀(t:Fo) (ns:List Int),okF R t ns->aS (aT R.length own aj t (.nd R.length .no .no))=aS t
 | .no,_,_=>rfl
 | .nd q ks ts,_,⟨n,_,_,h1,h2,h3,h4⟩=>by
  rw[RO h q ks ts ⟨n,n,[],rfl,h1,h2,h3,rfl⟩,aS,aS,Mi h ts _ h4]
structure fQ(w:World)(cx:Array Value)(p5:Nat)(A:Nat->Prop)(q:Nat)(kv:Value)(bq:Nat)(bv:Value)(bk:Fo)(wr:World):Prop where
 below:Below w.heap.size w wr
 lo:w.heap.size+3<=p5
 fG:wr.heap[w.heap.size]?=some (.cells cx 114 (0,0))
 gV:wr.heap[w.heap.size+1]?=some (.cells #[.int .i64 (q:Int),kv] 73 (0,0))
 res:wr.heap[w.heap.size+1+1]?=some (.cells #[.int .i64 0,.slice none 0 0] 73 (0,0))
 jY:wr.heap[p5]?=some (.cells #[.int .i64 (bq:Int),bv] 73 (0,0))
 bin:aG wr (fun b=>A b\/p5<b) bv bk
section
variable{w wr w':World}{cx:Array Value}{p5:Nat}{A:Nat->Prop}{q:Nat}{kv:Value}{bq:Nat}{bv:Value}{bk:Fo}
theorem fQ.hi(h:fQ w cx p5 A q kv bq bv bk wr):p5<wr.heap.size:=(Array.getElem?_eq_some_iff.1 h.jY).1
theorem fQ.next(h:fQ w cx p5 A q kv bq bv bk wr)(hb:Below wr.heap.size wr w'):fQ w cx p5 A q kv bq bv bk w':=by
 have h1:=h.hi;have h2:=h.lo;exact⟨h.below.trans (hb.mono h.below.size),h.lo,(hb.block _ (by omega)).trans h.fG,(hb.block _ (by omega)).trans h.gV,(hb.block _ (by omega)).trans h.res,(hb.block _ h1).trans h.jY,h.bin.below hb⟩
theorem fQ.Ed(h:fQ w cx p5 A q kv bq bv bk wr)(hA:∀b,A b->b<w.heap.size){cq:Nat}{cv:Value}{ck:Fo}(hk:aG wr (fun b=>A b\/p5<b) cv ck):fQ w cx p5 A q kv cq cv ck ((wr.setCell ⟨p5,0,none⟩ (.int .i64 (cq:Int))).setCell ⟨p5,1,none⟩ cv):=by
 have h1:=h.hi;have h2:=h.lo;refine⟨(h.below.setCell (by simp only;omega) _).setCell (by simp only;omega) _,h.lo,(mq (by omega) _ _).trans h.fG,(mq (by omega) _ _).trans h.gV,(mq (by omega) _ _).trans h.res,Ec h.jY,?_⟩;refine hk.laid (fun h=> ?_) _ _ fun b hb=>hb;rcases h with h|h
 ·have:=hA _ h;omega
 ·omega
theorem fQ.aak(h:fQ w cx p5 A q kv bq bv bk wr)(hA:∀b,A b->b<w.heap.size){cq:Nat}{cv:Value}:fQ w cx p5 A cq cv bq bv bk ((wr.setCell ⟨w.heap.size+1,0,none⟩ (.int .i64 (cq:Int))).setCell ⟨w.heap.size+1,1,none⟩ cv):=by
 have h1:=h.hi;have h2:=h.lo;refine⟨(h.below.setCell (by simp only;omega) _).setCell (by simp only;omega) _,h.lo,(mq (by omega) _ _).trans h.fG,Ec h.gV,(mq (by omega) _ _).trans h.res,(mq (by omega) _ _).trans h.jY,?_⟩;refine h.bin.laid (fun h=> ?_) _ _ fun b hb=>hb;rcases h with h|h
 ·have:=hA _ h;omega
 ·omega
end
theorem aal{w W w2:World}{cx:Array Value}{q:Nat}{kv:Value}{A:Nat->Prop}(hM:DL w W cx 114 (q:Int) kv)(hb:Below W.heap.size W w2)(L:Nat):fQ w cx w2.heap.size A q kv L (.slice none 0 0) .no (w2.alloc (.cells #[.int .i64 (L:Int),.slice none 0 0] 73)):=by
 have h1:=hM.size;have h2:=hb.size;have hb':Below W.heap.size W (w2.alloc (.cells #[.int .i64 (L:Int),.slice none 0 0] 73)):=hb.alloc hb.size _;exact⟨hM.below.trans (hb'.mono hM.below.size),by omega,(hb'.block _ (by omega)).trans hM.fG,(hb'.block _ (by omega)).trans hM.gV,(hb'.block _ (by omega)).trans hM.res,heap_alloc_new w2 _,YQ _ _⟩
theorem fQ.cells{w wr:World}{T N o a b c:Int}{ra:Option Addr}{rl rc p5:Nat}{A:Nat->Prop}{q:Nat}{kv:Value}{bq:Nat}{bv:Value}{bk:Fo}(h:fQ w #[.int .i64 T,.int .i64 N,.slice ra rl rc,.int .i64 o,.int .i64 a,.int .i64 b,.int .i64 c] p5 A q kv bq bv bk wr):nO w.heap.size T N o a b c ra rl rc q kv wr/\wr.cell? ⟨p5,0,none⟩=some (.int .i64 (bq:Int))/\wr.cell? ⟨p5,1,none⟩=some bv:=
 ⟨⟨ah h.fG rfl,ah h.fG rfl,ah h.fG rfl,ah h.fG rfl,ah h.fG rfl,ah h.fG rfl,ah h.fG rfl,ah h.gV rfl,ah h.gV rfl⟩,ah h.jY rfl,ah h.jY rfl⟩
theorem gu.more{w3 w5 w6:World}{B p5:Nat}{A A':Nat->Prop}{v nv bv:Value}{L:List Tr}{bq:Nat}{bk:Fo}(h:gu w3 B A' v L)(hA':∀b,A' b->b<B)(hB:B<=w3.heap.size)(hb:Below w3.heap.size w3 w5)(hk:aG w5 A' bv bk)(hg:w5.grownBy w6 v.ownBlock)(hn:w6.ownsRow B 73 2 nv (L.length+1) (fA (L++[(bv,bq,bk)])))(hat:∀g,nv.ownBlock=some g->v.ownBlock=some g\/w5.heap.size<=g)(hAA:∀b,A' b->A b\/p5<b)(hp:p5<B):aG w6 (fun b=>A b\/p5<b) nv (aF (rowOf L) (.nd bq bk .no)):=by
 have h1:=(h.push hA' hB hb (hk.kept fun b hb _=>⟨rfl,.inl hb⟩) hg hn hat).kU.fo;rw[ul]at h1;refine h1.kept fun b hb _=>⟨rfl,?_⟩;rcases hb with hb|hb
 ·exact hAA b hb
 ·exact .inr (by omega)
section
variable{w0:World}{R R':List Ru}{own aj:Nat->Bool}{T Nn o a b c:Int}{N:Nat}{ra:Option Addr}{rc:Nat}
theorem aam(hL:mV N R R' a own aj)(hown:∀q,q<R.length->own q=gM a (R.getD q (0,[])))(hR:aD w0 w0.heap.size (.slice ra R.length rc) R):∀(n:Nat) (w:World) (q:Nat) (ks:Fo) (kv:Value) (A:Nat->Prop),(ai ks).length<n->Below w0.heap.size w0 w->(∃nm,okF R (.nd q ks .no) [nm])->(ai ks).length<=2000->aG w A kv ks->(∀b,A b->b<w.heap.size)->
 Calls Tryz.prog 156 #[.agg #[.int .i64 T,.int .i64 Nn,.slice ra R.length rc,.int .i64 o,.int .i64 a,.int .i64 b,.int .i64 c],.agg #[.int .i64 (q:Int),kv]] w fun e w'=> ∃kv',e= .returned (.agg #[.int .i64 ((uI R.length own aj q ks).1:Int),kv'])/\aG w' (fun b=>A b\/w.heap.size<=b) kv' (uI R.length own aj q ks).2/\Below w.heap.size w w':=by
 intro n
 induction n with
 |zero=>intro _ _ _ _ _ h;omega
 |succ n ih=>
 intro w q ks kv A hn hb0 uF hl hk hA;obtain⟨nm,hok⟩:=uF;have hk1:=hk;obtain⟨aW,kc,hkv,_⟩:=hk1;obtain⟨n1,hn1⟩:∃n,aS ks=n:=⟨_,rfl⟩;rw[hn1]at hkv;subst hkv;obtain⟨W,hW⟩:∃W,((w.alloc (.cells #[.int .i64 T,.int .i64 Nn,.slice ra R.length rc,.int .i64 o,.int .i64 a,.int .i64 b,.int .i64 c] 114)).alloc (.cells #[.int .i64 (q:Int),.slice aW n1 kc] 73)).alloc (.cells #[.int .i64 0,.slice none 0 0] 73)=W:=⟨_,rfl⟩;have hM:=oh hW
 have HS:Hid (∀wq,Below W.heap.size W wq->nO w.heap.size T Nn o a b c ra R.length rc q (.slice aW n1 kc) wq/\wq.heap[w.heap.size+1+1]?=some (.cells #[.int .i64 0,.slice none 0 0] 73 (0,0))):=fun wq h1=>by
  have hc:=(h1.block _ (by have:=hM.size;omega)).trans hM.fG;have ht:=(h1.block _ (by have:=hM.size;omega)).trans hM.gV;exact⟨⟨ah hc rfl,ah hc rfl,ah hc rfl,ah hc rfl,ah hc rfl,ah hc rfl,ah hc rfl,ah ht rfl,ah ht rfl⟩,(h1.block _ (by have:=hM.size;omega)).trans hM.res⟩
 obtain⟨x0,x1,x2,x3,x4,x5,x6,x7,x8⟩:=(HS.out W (Below.refl _ _)).1
 have rA:Hid (∀(wq:World) (A':Nat->Prop) (v':Value) (ks':Fo),Below w.heap.size w wq->aG wq A' v' ks'->(∀b,A' b->b<wq.heap.size)->(ai ks').length<=(ai ks).length->(∃ns,okF R ks' ns)->Calls Tryz.prog 141 #[v',.func (.func 156) #[.agg #[.int .i64 T,.int .i64 Nn,.slice ra R.length rc,.int .i64 o,.int .i64 a,.int .i64 b,.int .i64 c]] #[]] wq fun e w'=> ∃ov L',e= .returned ov/\gu w' wq.heap.size A' ov L'/\rowOf L'=aT R.length own aj ks' (.nd R.length .no .no)/\Below wq.heap.size wq w'):=fun wq A' v' ks' hq' hk' hA' hs' ⟨ns,hok'⟩=>by
  refine RN (F:=uI R.length own aj) (G:=fun t=>aT R.length own aj t (.nd R.length .no .no)) (P:=fun q ks=> ∃n,okF R (.nd q ks .no) [n]) (fun args w'=>by simp[callFunc,Tryz.func156,Tryz.f156 ]) rfl (RO hL) (fun q' ks' hm=>(Ij hok' hm).imp fun _ h=>h.2) hk' hA' (by omega) fun w' q'' D5 D6 hm hb' hk'' D7=> ?_;have:=sj hm;exact ih w' q'' D5 D6 A' (by omega) (hb0.trans ((hq'.trans (hb'.mono hq'.size)).mono hb0.size)) ((Ij hok' hm).imp fun _ h=>h.2) (by omega) hk'' D7
 have HM:Hid (Below w.heap.size w W/\w.heap.size+3<=W.heap.size/\Below w0.heap.size w0 w):=⟨hM.below,by have:=hM.size;omega,hb0⟩;have Ik:Hid (DL w W #[.int .i64 T,.int .i64 Nn,.slice ra R.length rc,.int .i64 o,.int .i64 a,.int .i64 b,.int .i64 c] 114 (q:Int) (.slice aW n1 kc)):=hM;have HA:Hid (∀b,A b->b<w.heap.size):=hA;have HK:Hid (aG w A (.slice aW n1 kc) ks/\(ai ks).length<=2000):=⟨hk,hl⟩;have lM:Hid (okF R (.nd q ks .no) [nm]):=hok;obtain⟨n',ns',e,h1,h2,h3,h4⟩:=hok;clear e h4;have HQ:Hid (okF R ks (aB (R.getD q (0,[])).2)):=h3;obtain⟨b0,o0,nX,qa,qc,hv,_,k1,-,-⟩:=(hR.below (hb0.trans (hM.below.mono hb0.size))).jF h1;injection hv with hv1 _ hv3;subst hv1;subst hv3;obtain⟨Lq,uJ⟩:∃x,(R.getD q (0,[])).1=x:=⟨_,rfl⟩;rw[uJ]at k1;have i0:(0:Int)<=(q:Int):=Int.natCast_nonneg _;have i1:(q:Int)<(R.length:Int):=by omega
 have HR:Hid (aD w0 w0.heap.size (.slice (some ⟨b0,o0,none⟩) R.length rc) R):=hR;clear ih hn hl hk hA hM hb0 hn1 h2 h3;by_cases eF:Lq=a
 ·subst eF
  have heq:(Lq==Lq)=true:=by simp
  have hok0:okF R (.nd q ks .no) [Lq]:=by
   have:=lM.out;obtain⟨n',ns',e,h1,h2,h3,h4⟩:=this;exact⟨_,_,rfl,h1,uJ,h3,rfl⟩
  have aan:Hid (okF R (.nd q ks .no) [Lq]):=hok0;clear uJ hok0 h1
  go_enter Tryz.func156,Tryz.ntmps156
  go_upto_region 1 with fail
  go_big_quiet (fail)
  go_upto_region 3 with fail
  obtain⟨V0,oo⟩:∃V,W.drewN nq=V:=⟨_,rfl⟩;have hB0:Below W.heap.size W V0:=by rw[<-oo];exact below_drewN (Below.refl _ _) _
  rw[oo];clear oo x0 x1 x2 x3 x4 x5 x6 x7 x8;obtain⟨x0,x1,x2,x3,x4,x5,x6,x7,x8⟩:=(HS.out V0 hB0).1;have HB0:Hid (Below W.heap.size W V0):=hB0;have su:=H7 (w:=V0) (T:=T) (N:=Nn) (ra:=some ⟨b0,o0,none⟩) (rn:=R.length) (rc:=rc) (op:=o) (a:=Lq) (b:=b) (c:=c);clear hB0 hW k1 hR
  go_wp2_with
   (go_at_call 129;refine su.mono ?_;rintro e w2 ⟨rfl,hB2⟩
    have HB2:Hid (Below W.heap.size W w2):=HB0.out.trans (hB2.mono HB0.out.size)
    clear su hB2 x0 x1 x2 x3 x4 x5 x6 x7 x8)
  obtain⟨p5,Ee⟩:∃x,w2.heap.size=x:=⟨_,rfl⟩;obtain⟨W4,gD⟩:∃V,w2.alloc (.cells #[.int .i64 (R.length:Int),.slice none 0 0] 73)=V:=⟨_,rfl⟩;have yX:=aal (A:=A) Ik.out HB2.out R.length;rw[gD,Ee]at yX;rw[gD];rw[Ee];have Ef:Hid (fQ w #[.int .i64 T,.int .i64 Nn,.slice (some ⟨b0,o0,none⟩) R.length rc,.int .i64 o,.int .i64 Lq,.int .i64 b,.int .i64 c] p5 A q (.slice aW n1 kc) R.length (.slice none 0 0) .no W4):=yX;clear yX gD Ee
  go_loopg [] ((ai ks).length) (fun gk wr=> ∃(q':Nat) (qm:Option Addr) (m1 iL:Nat) (ks':Fo) (bq:Nat) (bv:Value) (bk:Fo),gk=(ai ks').length/\fQ w #[.int .i64 T,.int .i64 Nn,.slice (some ⟨b0,o0,none⟩) R.length rc,.int .i64 o,.int .i64 Lq,.int .i64 b,.int .i64 c] p5 A q' (.slice qm m1 iL) bq bv bk wr/\aG w A (.slice qm m1 iL) ks'/\okF R (.nd q' ks' .no) [Lq]/\aT R.length own aj (.nd q ks .no) (.nd R.length .no .no)=aT R.length own aj (.nd q' ks' .no) (.nd bq bk .no)/\(ai ks').length<=(ai ks).length)
  case atStart=>exact⟨q,_,_,_,ks,_,_,_,rfl,Ef.out,HK.out.1,aan.out,rfl,Nat.le_refl _⟩
  case round=>
   clear Ef;obtain⟨q',qm,m1,iL,ks',bq,bv,bk,lQ,hm,hk',hok',hG',hle'⟩:=hrel;obtain⟨ba,bc,hbv,_⟩:=hm.bin;obtain⟨bl,hbl⟩:∃n,aS bk=n:=⟨_,rfl⟩;rw[hbl]at hbv;subst hbv;have hok2:=hok';obtain⟨n',ns',e,h1,h2,h3,h4⟩:=hok2;injection e with e1 e2;rw[<-e1]at h2;clear e1 e2 h4 hbl;have hbw:Below w0.heap.size w0 wr:=HM.out.2.2.trans (hm.below.mono HM.out.2.2.size);have bg:=Mh (w:=wr) (T:=T) (N:=Nn) (op:=o) (a:=Lq) (b:=b) (c:=c) ((HR.out.below hbw).mono hbw.size) h1;rw[<-hown q' h1]at bg;obtain⟨⟨x0,x1,x2,x3,x4,x5,x6,x7,x8⟩,x9,x10⟩:=hm.cells;have sJ:Hid (fQ w #[.int .i64 T,.int .i64 Nn,.slice (some ⟨b0,o0,none⟩) R.length rc,.int .i64 o,.int .i64 Lq,.int .i64 b,.int .i64 c] p5 A q' (.slice qm m1 iL) bq (.slice ba bl bc) bk wr):=hm;have lg:Hid (aT R.length own aj (.nd q ks .no) (.nd R.length .no .no)=aT R.length own aj (.nd q' ks' .no) (.nd bq bk .no)/\gk=(ai ks').length/\(ai ks').length<=(ai ks).length/\aG w A (.slice qm m1 iL) ks'):=⟨hG',lQ,hle',hk'⟩;clear hm hG' hle' hbw lQ hk';cases ho:own q' with
   |true=>
    obtain⟨hA1,l,hl1,-⟩:=hL.qW q' h1 ho;rw[hl1,aB]at h3;obtain⟨p,k0,kr,rfl,d1,d2,d3,d4⟩:=rV h3;have Dr:=AB hL _ p k0 Lq (Nat.lt_succ_self _) ⟨Lq,[],rfl,d1,d2,d3,rfl⟩;have hgo:=Dq (kr:=kr) (c:= .nd bq bk .no) ho Dr;obtain⟨LL,ou,hTL⟩:=lg.out.2.2.2.list;have hLn:LL.length=m1:=by obtain⟨_,_,h,_⟩:=hTL.form;injection h with _ h _;omega
    obtain⟨⟨kv0,p',uK⟩,L1,rfl⟩:∃x L1,LL=x::L1:=by
     cases LL with
     |nil=>cases ou
     |cons x L1=>exact⟨x,L1,rfl⟩
    rw[rowOf]at ou;injection ou with e1 e2 e3;simp only at e1 e2;subst e1 e2;obtain⟨b1,o1,c1,hv,afH,t1,t2⟩:=hTL.cells 0 (by simp);have hT1:=hTL;rw[List.length_cons]at hLn;simp only[List.length_cons,hLn]at hv;injection hv with hv1 _ hv3;subst hv1;subst hv3;simp only[Nat.zero_mul,Nat.add_zero,List.getElem_cons_zero]at t1 t2;obtain⟨Eg,Eh,Mj,hle0,-⟩:=hTL.kids _ (List.mem_cons_self ..);obtain⟨m0,hm0⟩:∃n,aS uK=n:=⟨_,rfl⟩;simp only at Mj;rw[hm0]at Mj;subst Mj
    have HT0:Hid (aG w A (.slice Eg m0 Eh) uK/\L1.length+1=m1/\rowOf L1=kr/\m1<=iL/\bU w A (.slice (some ⟨b1,o1,none⟩) m1 iL) ((.slice Eg m0 Eh,p',uK)::L1)):=by
     refine⟨hTL.kids _ (List.mem_cons_self ..),hLn,e3,?_,hT1⟩;obtain⟨_,_,h,h'⟩:=hTL.form;injection h with _ h5 h6;rw[List.length_cons]at h';omega
    have yY:Hid (okF R (.nd p' uK .no) [Lq]/\okF R kr (aB l)/\aT R.length own aj (.nd q' (.nd p' uK kr) .no) (.nd bq bk .no)=aT R.length own aj (.nd p' uK .no) (.nd q' (aF (aT R.length own aj kr (.nd R.length .no .no)) (.nd bq bk .no)) .no)):=⟨⟨Lq,[],rfl,d1,d2,d3,rfl⟩,d4,hgo⟩;have RX:=World.block_lt_of_cell? _ _ t1;have RY:=World.block_lt_of_cell? _ _ t2;have j1:(0:Int)<(m1:Int):=by omega
    rw[ho]at bg;clear hA1 hl1 h3 d1 d2 d3 d4 Dr hgo hT1 hTL hLn e3 hm0 hle0 hok'
    go_upto_region 5 with
     (go_at_call 45;refine bg.mono ?_;rintro e w3 ⟨rfl,hB3⟩
      have gY:Hid (fQ w #[.int .i64 T,.int .i64 Nn,.slice (some ⟨b0,o0,none⟩) R.length rc,.int .i64 o,.int .i64 Lq,.int .i64 b,.int .i64 c] p5 A q' (.slice (some ⟨b1,o1,none⟩) m1 iL) bq (.slice ba bl bc) bk w3):=sJ.out.next hB3
      clear bg hB3 x0 x1 x2 x3 x4 x5 x6 x7 x8 x9 x10)
    go_cut [] from 36 to 51 (fun wx=> ∃(na:Option Addr) (nl nc:Nat),fQ w #[.int .i64 T,.int .i64 Nn,.slice (some ⟨b0,o0,none⟩) R.length rc,.int .i64 o,.int .i64 Lq,.int .i64 b,.int .i64 c] p5 A q' (.slice (some ⟨b1,o1,none⟩) m1 iL) q' (.slice na nl nc) (aF (aT R.length own aj kr (.nd R.length .no .no)) (.nd bq bk .no)) wx)
    case first=>
     obtain⟨Wd,hWd⟩:∃V,w3.drew=V:=⟨_,rfl⟩;have hBd:Below w3.heap.size w3 Wd:=by rw[<-hWd];exact(Below.refl _ _).drew
     have dZ:=gY.out.next hBd;have aO:Hid (∀wq,Below Wd.heap.size Wd wq->(nO w.heap.size T Nn o Lq b c (some ⟨b0,o0,none⟩) R.length rc q' (.slice (some ⟨b1,o1,none⟩) m1 iL) wq/\wq.cell? ⟨p5,0,none⟩=some (.int .i64 (bq:Int))/\wq.cell? ⟨p5,1,none⟩=some (.slice ba bl bc))/\fQ w #[.int .i64 T,.int .i64 Nn,.slice (some ⟨b0,o0,none⟩) R.length rc,.int .i64 o,.int .i64 Lq,.int .i64 b,.int .i64 c] p5 A q' (.slice (some ⟨b1,o1,none⟩) m1 iL) bq (.slice ba bl bc) bk wq):=fun wq hq=>⟨(dZ.next hq).cells,dZ.next hq⟩;have S0:=(aO.out Wd (Below.refl _ _)).1;obtain⟨m2,hm2⟩:∃m2,m1=1+m2:=⟨m1-1,by omega⟩;obtain⟨A4,hfro,o9⟩:=DU (la:=some ⟨b1,o1,none⟩) (f:=1) (n:=m2) (sl:=m1) (lc:=iL) (fi:=1) rfl hm2
     have Ml:Hid (aG w A (.slice A4 m2 (iL-1)) kr):=by
      have h0:=HT0.out.2.2.2.2;have h1:bU w A (.slice (some ⟨b1,o1,none⟩) ((Value.slice Eg m0 Eh,p',uK)::L1).length iL) ((.slice Eg m0 Eh,p',uK)::L1):=by rw[List.length_cons,HT0.out.2.1];exact h0
      have h2:=(h1.drop (f:=1) (m:=m2) (A:=A4) (by rw[List.length_cons];have:=HT0.out.2.1;omega) o9).fo;rw[List.drop_succ_cons,List.drop_zero,HT0.out.2.2.1]at h2;exact h2
     have yZ:Hid ((ai kr).length<=(ai ks).length/\(∃ns,okF R kr ns)/\aS (aT R.length own aj kr (.nd R.length .no .no))<=2000):=by
      have h1:=lg.out.2.2.1;rw[ai,List.length_cons,List.length_append]at h1;refine⟨by omega,⟨_,yY.out.2.1⟩,?_⟩;rw[Mi hL _ _ yY.out.2.1];have h2:=qj L1;have h3:=nK L1;rw[HT0.out.2.2.1]at h2 h3;have:=HK.out.2;omega
     clear o9 hm2
     have HE2:Hid (∀wq,Below Wd.heap.size Wd wq->Calls Tryz.prog 141 #[(.slice A4 m2 (iL-1)),.func (.func 156) #[.agg #[.int .i64 T,.int .i64 Nn,.slice (some ⟨b0,o0,none⟩) R.length rc,.int .i64 o,.int .i64 Lq,.int .i64 b,.int .i64 c]] #[]] wq fun e w'=> ∃ov L',e= .returned ov/\gu w' wq.heap.size (fun b=>A b\/(p5<b/\b<Wd.heap.size)) ov L'/\rowOf L'=aT R.length own aj kr (.nd R.length .no .no)/\L'.length<=2000/\Below wq.heap.size wq w'):=fun wq hq=>by
      have ji:Below w.heap.size w wq:=dZ.below.trans (hq.mono dZ.below.size);refine(rA.out wq (fun b=>A b\/(p5<b/\b<Wd.heap.size)) _ kr ji ((Ml.out.below ji).kept fun x hx _=>⟨rfl,.inl hx⟩) (fun b hb=> ?_) yZ.out.1 yZ.out.2.1).mono ?_
      ·rcases hb with hb|hb
       ·exact Nat.lt_of_lt_of_le (HA.out b hb) ji.size
       ·exact Nat.lt_of_lt_of_le hb.2 hq.size
      ·rintro e w' ⟨ov,L',rfl,h1,h2,h3⟩
       exact⟨ov,L',rfl,h1,h2,by rw[<-nK,h2];exact yZ.out.2.2,h3⟩
     have vN:Hid (aG Wd (fun b=>A b\/(p5<b/\b<Wd.heap.size)) (.slice ba bl bc) bk/\p5<Wd.heap.size):=⟨dZ.bin.kept fun x hx hlt=>⟨rfl,hx.imp id fun h=>⟨h,hlt⟩⟩,dZ.hi⟩
     have Ei:Hid (∀b,(A b\/(p5<b/\b<Wd.heap.size))->b<Wd.heap.size):=fun b hb=>by
      rcases hb with hb|hb
      ·exact Nat.lt_of_lt_of_le (HA.out b hb) dZ.below.size
      ·exact hb.2
     clear hBd dZ;refine iw [0,1,2,3,4,5,6,8] 5 12 (fun wq=>nO w.heap.size T Nn o Lq b c (some ⟨b0,o0,none⟩) R.length rc q' (.slice (some ⟨b1,o1,none⟩) m1 iL) wq/\wq.cell? ⟨p5,0,none⟩=some (.int .i64 (bq:Int))/\wq.cell? ⟨p5,1,none⟩=some (.slice ba bl bc)) (by kernel_rfl) (by kernel_rfl) (by rw[hWd];exact S0) ?_;rw[hWd];clear hWd S0
     iterate 8
      refine aU.gN (v:= ?_) rfl (by rfl) ?_ ?_;rotate_left
      ·intro w' hSw
       obtain⟨⟨z0,z1,z2,z3,z4,z5,z6,z7,z8⟩,z9,jK⟩:=hSw
       go_simp
       try with_reducible rfl
      simp only[Act.put,List.setIfInBounds_toArray,List.set_cons_zero,List.set_cons_succ]
     rw[aU];refine ax.two (i:=7) (i':=9) (by kernel_rfl) ⟨_,rfl,fun K hK=> ?_⟩ ⟨_,rfl,fun K hK=> ?_⟩
     ·have ea:=HE2.out Wd (Below.refl _ _)
      go_simp
      refine ea.mono ?_;rintro e w4 ⟨rv,L',rfl,fH,hG4,hl4,hB4⟩;obtain⟨la,lc,hlv⟩:=aY fH.own;subst hlv;obtain⟨n4,jy⟩:∃n,L'.length=n:=⟨_,rfl⟩;rw[jy]at fH hl4⊢;dsimp only;refine hK.out _ _ (fun _=>(aO.out w4 hB4).1) ?_;clear hK ea;have aP:Below Wd.heap.size Wd (w4.alloc (.cells #[.int .i64 (bq:Int),.slice ba bl bc] 73)):=hB4.alloc hB4.size _;have y8:Below w4.heap.size w4 (w4.alloc (.cells #[.int .i64 (bq:Int),.slice ba bl bc] 73)):=(Below.refl _ _).alloc (Nat.le_refl _) _;refine ax.one (i:=9) (by kernel_rfl) ⟨_,rfl,fun K hK=> ?_⟩
      go_simp
      refine hK.out _ _ (fun _=>(aO.out _ aP).1) ?_;clear hK;have hrow:dI (w4.alloc (.cells #[.int .i64 (bq:Int),.slice ba bl bc] 73)) (.slice (some ⟨w4.heap.size,0,none⟩) 1 1) 1 [.int .i64 (bq:Int),.slice ba bl bc]:=Ho;obtain⟨pz,hpz⟩:∃x,w4.heap.size=x:=⟨_,rfl⟩;obtain⟨wz,hwz⟩:∃V,w4.alloc (.cells #[.int .i64 (bq:Int),.slice ba bl bc] 73)=V:=⟨_,rfl⟩;rw[hwz]at hrow aP y8⊢;rw[hpz]at hrow⊢;clear hwz;have bX:=own_below fH.own y8 fun g hg=>(fH.own.lt g hg).2;rw[jy]at bX;refine ax.one (i:=10) (by kernel_rfl) ⟨_,rfl,fun K hK=> ?_⟩;refine Ga rfl _ _ rfl rfl rfl rfl bX hrow aP.size (by omega) ?_;intro a6 d6 w6 hown6 hgrow hat;have aK:Below Wd.heap.size Wd w6:=aP.grown hgrow aP.size fun g hg=>(bX.lt g hg).1
      have sM:aG w6 (fun b=>A b\/p5<b) (.slice a6 (n4+1) d6) (aF (aT R.length own aj kr (.nd R.length .no .no)) (.nd bq bk .no)):=by
       rw[<-hG4];refine fH.more (w5:=wz) (B:=Wd.heap.size) Ei.out hB4.size y8 (vN.out.1.below aP) hgrow ?_ (fun g hg=>(hat g hg).imp id fun e=>by omega) (fun b hb=>hb.imp id fun h=>h.1) vN.out.2;rw[AU,jy];exact hown6
      refine hK.out _ _ (fun _=>(aO.out _ aK).1) ?_;clear hK;have eT:Hid (fQ w #[.int .i64 T,.int .i64 Nn,.slice (some ⟨b0,o0,none⟩) R.length rc,.int .i64 o,.int .i64 Lq,.int .i64 b,.int .i64 c] p5 A q' (.slice (some ⟨b1,o1,none⟩) m1 iL) bq (.slice ba bl bc) bk w6/\aG w6 (fun b=>A b\/p5<b) (.slice a6 (n4+1) d6) (aF (aT R.length own aj kr (.nd R.length .no .no)) (.nd bq bk .no))):=⟨(aO.out w6 aK).2,sM⟩;have sO:=eT.out.1.jY;have y0:w6.cell? ⟨p5,0,none⟩=some (.int .i64 (bq:Int)):=ah sO rfl;have y1:w6.cell? ⟨p5,1,none⟩=some (.slice ba bl bc):=ah sO rfl;have eB:w6.frozen? ⟨p5,0,none⟩=false:=bE sO;have eD:w6.frozen? ⟨p5,1,none⟩=false:=bE sO;refine ax.one (i:=11) (by kernel_rfl) ⟨_,rfl,fun K hK=> ?_⟩
      go_simp
      refine hK.out _ _ (fun _=>(aO.out _ aK).1) ?_;clear hK hown6 hgrow hat sM fH hG4 bX hrow sO;refine ax.last (i:=12) (by kernel_rfl) ⟨_,rfl,fun K hK=> ?_⟩
      go_simp
      refine hK.out _ _ (fun h=>absurd h (by omega)) (NoPanic.normal ?_);clear hK
      go_wp2_with fail
      go_meet
      case rel=>exact⟨a6,n4+1,d6,eT.out.1.Ed HA.out eT.out.2⟩
     ·have cZ:Below Wd.heap.size Wd (Wd.alloc (.cells #[.int .i64 (bq:Int),.slice ba bl bc] 73)):=(Below.refl _ _).alloc (Nat.le_refl _) _
      go_simp
      refine hK.out _ _ (fun _=>(aO.out _ cZ).1) ?_;clear hK;have hblk:=heap_alloc_new Wd (.cells #[.int .i64 (bq:Int),.slice ba bl bc] 73);obtain⟨pz,hpz⟩:∃x,Wd.heap.size=x:=⟨_,rfl⟩;obtain⟨wy,kZ⟩:∃V,Wd.alloc (.cells #[.int .i64 (bq:Int),.slice ba bl bc] 73)=V:=⟨_,rfl⟩;rw[kZ]at cZ hblk⊢;rw[hpz]at hblk⊢;clear kZ;have ea:=HE2.out wy cZ;refine ax.one (i:=7) (by kernel_rfl) ⟨_,rfl,fun K hK=> ?_⟩
      go_simp
      refine ea.mono ?_;rintro e w4 ⟨rv,L',rfl,fH,hG4,hl4,hB4⟩;obtain⟨la,lc,hlv⟩:=aY fH.own;subst hlv;obtain⟨n4,jy⟩:∃n,L'.length=n:=⟨_,rfl⟩;rw[jy]at fH hl4⊢;dsimp only;have aP:Below Wd.heap.size Wd w4:=cZ.trans (hB4.mono cZ.size);refine hK.out _ _ (fun _=>(aO.out w4 aP).1) ?_;clear hK ea;have hrow:dI w4 (.slice (some ⟨pz,0,none⟩) 1 1) 1 [.int .i64 (bq:Int),.slice ba bl bc]:=⟨⟨_,_,rfl,Nat.le_refl _⟩,rfl,by simp[Value.oneCell'],fun _=>⟨_,_,rfl,World.news_of_block (cs:= #[.int .i64 (bq:Int),.slice ba bl bc]) (t:=73) (fr:=(0,0)) ((hB4.block _ (Array.getElem?_eq_some_iff.1 hblk).1).trans hblk)⟩⟩;have bX:=fH.own;rw[jy]at bX;refine ax.one (i:=10) (by kernel_rfl) ⟨_,rfl,fun K hK=> ?_⟩;refine Ga rfl _ _ rfl rfl rfl rfl bX hrow hB4.size (by omega) ?_;intro a6 d6 w6 hown6 hgrow hat;have aK:Below Wd.heap.size Wd w6:=aP.grown hgrow aP.size fun g hg=>Nat.le_trans cZ.size (bX.lt g hg).1
      have sM:aG w6 (fun b=>A b\/p5<b) (.slice a6 (n4+1) d6) (aF (aT R.length own aj kr (.nd R.length .no .no)) (.nd bq bk .no)):=by
       rw[<-hG4];refine fH.more (w5:=w4) (B:=wy.heap.size) (fun b hb=>Nat.lt_of_lt_of_le (Ei.out b hb) cZ.size) hB4.size (Below.refl _ _) (vN.out.1.below aP) hgrow ?_ (fun g hg=>(hat g hg).imp id fun e=>by omega) (fun b hb=>hb.imp id fun h=>h.1) (Nat.lt_of_lt_of_le vN.out.2 cZ.size);rw[AU,jy];exact hown6
      refine hK.out _ _ (fun _=>(aO.out _ aK).1) ?_;clear hK;have eT:Hid (fQ w #[.int .i64 T,.int .i64 Nn,.slice (some ⟨b0,o0,none⟩) R.length rc,.int .i64 o,.int .i64 Lq,.int .i64 b,.int .i64 c] p5 A q' (.slice (some ⟨b1,o1,none⟩) m1 iL) bq (.slice ba bl bc) bk w6/\aG w6 (fun b=>A b\/p5<b) (.slice a6 (n4+1) d6) (aF (aT R.length own aj kr (.nd R.length .no .no)) (.nd bq bk .no))):=⟨(aO.out w6 aK).2,sM⟩;have sO:=eT.out.1.jY;have y0:w6.cell? ⟨p5,0,none⟩=some (.int .i64 (bq:Int)):=ah sO rfl;have y1:w6.cell? ⟨p5,1,none⟩=some (.slice ba bl bc):=ah sO rfl;have eB:w6.frozen? ⟨p5,0,none⟩=false:=bE sO;have eD:w6.frozen? ⟨p5,1,none⟩=false:=bE sO;refine ax.one (i:=11) (by kernel_rfl) ⟨_,rfl,fun K hK=> ?_⟩
      go_simp
      refine hK.out _ _ (fun _=>(aO.out _ aK).1) ?_;clear hK hown6 hgrow hat sM fH hG4 bX hrow sO;refine ax.last (i:=12) (by kernel_rfl) ⟨_,rfl,fun K hK=> ?_⟩
      go_simp
      refine hK.out _ _ (fun h=>absurd h (by omega)) (NoPanic.normal ?_);clear hK
      go_wp2_with fail
      go_meet
      case rel=>exact⟨a6,n4+1,d6,eT.out.1.Ed HA.out eT.out.2⟩
    case rest=>
     obtain⟨na,nl,nc,y9⟩:=hcut;obtain⟨⟨x0,x1,x2,x3,x4,x5,x6,x7,x8⟩,x9,x10⟩:=y9.cells;have s1:=(y9.below.cell RX).trans t1;have s2:=(y9.below.cell RY).trans t2;have eB:wc.frozen? ⟨w.heap.size+1,0,none⟩=false:=bE y9.gV;have eD:wc.frozen? ⟨w.heap.size+1,1,none⟩=false:=bE y9.gV;have eT:Hid (fQ w #[.int .i64 T,.int .i64 Nn,.slice (some ⟨b0,o0,none⟩) R.length rc,.int .i64 o,.int .i64 Lq,.int .i64 b,.int .i64 c] p5 A q' (.slice (some ⟨b1,o1,none⟩) m1 iL) q' (.slice na nl nc) (aF (aT R.length own aj kr (.nd R.length .no .no)) (.nd bq bk .no)) wc):=y9;clear y9 t1 t2 RX RY
     go_wp2_with fail
     go_roundg ((ai uK).length)
     case rel=>
      have h1:=lg.out;have h2:=h1.2.2.1;rw[ai,List.length_cons,List.length_append]at h2;exact⟨p',Eg,m0,Eh,uK,q',_,_,rfl,eT.out.aak HA.out,HT0.out.1,yY.out.1,h1.1.trans yY.out.2.2,by omega⟩
     case measure=>
      have h1:=lg.out.2.1;rw[ai,List.length_cons,List.length_append]at h1;omega
   |false=>
    have jH:aj q'=true:=(hL.uh q' h1).2 h2;have HFin:Hid (uI R.length own aj q ks=(q',aF (aT R.length own aj ks' (.nd R.length .no .no)) (.nd bq bk .no))):=RP (by rw[lg.out.1,aT,if_neg (by rw[ho];simp),if_pos jH];rfl);have yY:Hid (okF R ks' (aB (R.getD q' (0,[])).2)):=h3;rw[ho]at bg;clear jH h3 hok' h2
    go_upto_region 7 with
     (go_at_call 45;refine bg.mono ?_;rintro e w3 ⟨rfl,hB3⟩
      have gY:Hid (fQ w #[.int .i64 T,.int .i64 Nn,.slice (some ⟨b0,o0,none⟩) R.length rc,.int .i64 o,.int .i64 Lq,.int .i64 b,.int .i64 c] p5 A q' (.slice qm m1 iL) bq (.slice ba bl bc) bk w3):=sJ.out.next hB3
      clear bg hB3 x0 x1 x2 x3 x4 x5 x6 x7 x8 x9 x10)
    obtain⟨Wd,hWd⟩:∃V,w3.drew=V:=⟨_,rfl⟩;have hBd:Below w3.heap.size w3 Wd:=by rw[<-hWd];exact(Below.refl _ _).drew
    have dZ:=gY.out.next hBd;have aO:Hid (∀wq,Below Wd.heap.size Wd wq->(nO w.heap.size T Nn o Lq b c (some ⟨b0,o0,none⟩) R.length rc q' (.slice qm m1 iL) wq/\wq.cell? ⟨p5,0,none⟩=some (.int .i64 (bq:Int))/\wq.cell? ⟨p5,1,none⟩=some (.slice ba bl bc))/\fQ w #[.int .i64 T,.int .i64 Nn,.slice (some ⟨b0,o0,none⟩) R.length rc,.int .i64 o,.int .i64 Lq,.int .i64 b,.int .i64 c] p5 A q' (.slice qm m1 iL) bq (.slice ba bl bc) bk wq):=fun wq hq=>⟨(dZ.next hq).cells,dZ.next hq⟩;have S0:=(aO.out Wd (Below.refl _ _)).1;have Ml:Hid (aG w A (.slice qm m1 iL) ks'):=lg.out.2.2.2
    have yZ:Hid ((ai ks').length<=(ai ks).length/\(∃ns,okF R ks' ns)/\aS (aT R.length own aj ks' (.nd R.length .no .no))<=2000):=by
     have h1:=lg.out.2.2.1;refine⟨h1,⟨_,yY.out⟩,?_⟩;rw[Mi hL _ _ yY.out];obtain⟨LL,ou,-⟩:=lg.out.2.2.2.list;have h2:=qj LL;have h3:=nK LL;rw[ou]at h2 h3;have:=HK.out.2;omega
    have HE2:Hid (∀wq,Below Wd.heap.size Wd wq->Calls Tryz.prog 141 #[(.slice qm m1 iL),.func (.func 156) #[.agg #[.int .i64 T,.int .i64 Nn,.slice (some ⟨b0,o0,none⟩) R.length rc,.int .i64 o,.int .i64 Lq,.int .i64 b,.int .i64 c]] #[]] wq fun e w'=> ∃ov L',e= .returned ov/\gu w' wq.heap.size (fun b=>A b\/(p5<b/\b<Wd.heap.size)) ov L'/\rowOf L'=aT R.length own aj ks' (.nd R.length .no .no)/\L'.length<=2000/\Below wq.heap.size wq w'):=fun wq hq=>by
     have ji:Below w.heap.size w wq:=dZ.below.trans (hq.mono dZ.below.size);refine(rA.out wq (fun b=>A b\/(p5<b/\b<Wd.heap.size)) _ ks' ji ((Ml.out.below ji).kept fun x hx _=>⟨rfl,.inl hx⟩) (fun b hb=> ?_) yZ.out.1 yZ.out.2.1).mono ?_
     ·rcases hb with hb|hb
      ·exact Nat.lt_of_lt_of_le (HA.out b hb) ji.size
      ·exact Nat.lt_of_lt_of_le hb.2 hq.size
     ·rintro e w' ⟨ov,L',rfl,h1,h2,h3⟩
      exact⟨ov,L',rfl,h1,h2,by rw[<-nK,h2];exact yZ.out.2.2,h3⟩
    have vN:Hid (aG Wd (fun b=>A b\/(p5<b/\b<Wd.heap.size)) (.slice ba bl bc) bk/\p5<Wd.heap.size):=⟨dZ.bin.kept fun x hx hlt=>⟨rfl,hx.imp id fun h=>⟨h,hlt⟩⟩,dZ.hi⟩
    have Ei:Hid (∀b,(A b\/(p5<b/\b<Wd.heap.size))->b<Wd.heap.size):=fun b hb=>by
     rcases hb with hb|hb
     ·exact Nat.lt_of_lt_of_le (HA.out b hb) dZ.below.size
     ·exact hb.2
    clear hBd dZ;refine iw [0,1,2,3,4,5,7] 5 11 (fun wq=>nO w.heap.size T Nn o Lq b c (some ⟨b0,o0,none⟩) R.length rc q' (.slice qm m1 iL) wq/\wq.cell? ⟨p5,0,none⟩=some (.int .i64 (bq:Int))/\wq.cell? ⟨p5,1,none⟩=some (.slice ba bl bc)) (by kernel_rfl) (by kernel_rfl) (by rw[hWd];exact S0) ?_;rw[hWd];clear hWd S0
    iterate 7
     refine aU.gN (v:= ?_) rfl (by rfl) ?_ ?_;rotate_left
     ·intro w' hSw
      obtain⟨⟨z0,z1,z2,z3,z4,z5,z6,z7,z8⟩,z9,jK⟩:=hSw
      go_simp
      try with_reducible rfl
     simp only[Act.put,List.setIfInBounds_toArray,List.set_cons_zero,List.set_cons_succ]
    rw[aU];refine ax.two (i:=6) (i':=8) (by kernel_rfl) ⟨_,rfl,fun K hK=> ?_⟩ ⟨_,rfl,fun K hK=> ?_⟩
    ·have ea:=HE2.out Wd (Below.refl _ _)
     go_simp
     refine ea.mono ?_;rintro e w4 ⟨rv,L',rfl,fH,hG4,hl4,hB4⟩;obtain⟨la,lc,hlv⟩:=aY fH.own;subst hlv;obtain⟨n4,jy⟩:∃n,L'.length=n:=⟨_,rfl⟩;rw[jy]at fH hl4⊢;dsimp only;refine hK.out _ _ (fun _=>(aO.out w4 hB4).1) ?_;clear hK ea;have aP:Below Wd.heap.size Wd (w4.alloc (.cells #[.int .i64 (bq:Int),.slice ba bl bc] 73)):=hB4.alloc hB4.size _;have y8:Below w4.heap.size w4 (w4.alloc (.cells #[.int .i64 (bq:Int),.slice ba bl bc] 73)):=(Below.refl _ _).alloc (Nat.le_refl _) _;refine ax.one (i:=8) (by kernel_rfl) ⟨_,rfl,fun K hK=> ?_⟩
     go_simp
     refine hK.out _ _ (fun _=>(aO.out _ aP).1) ?_;clear hK;have hrow:dI (w4.alloc (.cells #[.int .i64 (bq:Int),.slice ba bl bc] 73)) (.slice (some ⟨w4.heap.size,0,none⟩) 1 1) 1 [.int .i64 (bq:Int),.slice ba bl bc]:=Ho;obtain⟨pz,hpz⟩:∃x,w4.heap.size=x:=⟨_,rfl⟩;obtain⟨wz,hwz⟩:∃V,w4.alloc (.cells #[.int .i64 (bq:Int),.slice ba bl bc] 73)=V:=⟨_,rfl⟩;rw[hwz]at hrow aP y8⊢;rw[hpz]at hrow⊢;clear hwz;have bX:=own_below fH.own y8 fun g hg=>(fH.own.lt g hg).2;rw[jy]at bX;refine ax.one (i:=9) (by kernel_rfl) ⟨_,rfl,fun K hK=> ?_⟩;refine Ga rfl _ _ rfl rfl rfl rfl bX hrow aP.size (by omega) ?_;intro a6 d6 w6 hown6 hgrow hat;have aK:Below Wd.heap.size Wd w6:=aP.grown hgrow aP.size fun g hg=>(bX.lt g hg).1
     have sM:aG w6 (fun b=>A b\/p5<b) (.slice a6 (n4+1) d6) (aF (aT R.length own aj ks' (.nd R.length .no .no)) (.nd bq bk .no)):=by
      rw[<-hG4];refine fH.more (w5:=wz) (B:=Wd.heap.size) Ei.out hB4.size y8 (vN.out.1.below aP) hgrow ?_ (fun g hg=>(hat g hg).imp id fun e=>by omega) (fun b hb=>hb.imp id fun h=>h.1) vN.out.2;rw[AU,jy];exact hown6
     refine hK.out _ _ (fun _=>(aO.out _ aK).1) ?_;clear hK;have eT:Hid (fQ w #[.int .i64 T,.int .i64 Nn,.slice (some ⟨b0,o0,none⟩) R.length rc,.int .i64 o,.int .i64 Lq,.int .i64 b,.int .i64 c] p5 A q' (.slice qm m1 iL) bq (.slice ba bl bc) bk w6/\aG w6 (fun b=>A b\/p5<b) (.slice a6 (n4+1) d6) (aF (aT R.length own aj ks' (.nd R.length .no .no)) (.nd bq bk .no))):=⟨(aO.out w6 aK).2,sM⟩;have hres:=eT.out.1.res;have y0:w6.cell? ⟨w.heap.size+1+1,0,none⟩=some (.int .i64 0):=ah hres rfl;have y1:w6.cell? ⟨w.heap.size+1+1,1,none⟩=some (.slice none 0 0):=ah hres rfl;have eB:w6.frozen? ⟨w.heap.size+1+1,0,none⟩=false:=bE hres;have eD:w6.frozen? ⟨w.heap.size+1+1,1,none⟩=false:=bE hres;have q0:=kW (v0:= .int .i64 (q':Int)) (v1:= .slice a6 (n4+1) d6) hres;have q1:=kX (v0:= .int .i64 (q':Int)) (v1:= .slice a6 (n4+1) d6) hres;refine ax.one (i:=10) (by kernel_rfl) ⟨_,rfl,fun K hK=> ?_⟩
     go_simp
     refine hK.out _ _ (fun _=>(aO.out _ aK).1) ?_;clear hK hown6 hgrow hat sM fH hG4 bX hrow hres;refine ax.last (i:=11) (by kernel_rfl) ⟨_,rfl,fun K hK=> ?_⟩
     go_simp
     refine hK.out _ _ (fun h=>absurd h (by omega)) (NoPanic.normal ?_);clear hK
     go_wp2_with fail
     refine bodyPost_ret (v:= .agg #[.int .i64 (q':Int),.slice a6 (n4+1) d6]) (by simp[results,Tryz.results156,go_sem,q0,q1]) rfl ?_;rw[HFin.out];have hlo:=eT.out.1.lo;refine⟨_,rfl,eT.out.2.laid (fun h=> ?_) _ _ fun b hb=>hb.imp id fun h=>by omega,(eT.out.1.below.setCell (by simp only;omega) _).setCell (by simp only;omega) _⟩;rcases h with h|h
     ·have:=HA.out _ h;omega
     ·omega
    ·have cZ:Below Wd.heap.size Wd (Wd.alloc (.cells #[.int .i64 (bq:Int),.slice ba bl bc] 73)):=(Below.refl _ _).alloc (Nat.le_refl _) _
     go_simp
     refine hK.out _ _ (fun _=>(aO.out _ cZ).1) ?_;clear hK;have hblk:=heap_alloc_new Wd (.cells #[.int .i64 (bq:Int),.slice ba bl bc] 73);obtain⟨pz,hpz⟩:∃x,Wd.heap.size=x:=⟨_,rfl⟩;obtain⟨wy,kZ⟩:∃V,Wd.alloc (.cells #[.int .i64 (bq:Int),.slice ba bl bc] 73)=V:=⟨_,rfl⟩;rw[kZ]at cZ hblk⊢;rw[hpz]at hblk⊢;clear kZ;have ea:=HE2.out wy cZ;refine ax.one (i:=6) (by kernel_rfl) ⟨_,rfl,fun K hK=> ?_⟩
     go_simp
     refine ea.mono ?_;rintro e w4 ⟨rv,L',rfl,fH,hG4,hl4,hB4⟩;obtain⟨la,lc,hlv⟩:=aY fH.own;subst hlv;obtain⟨n4,jy⟩:∃n,L'.length=n:=⟨_,rfl⟩;rw[jy]at fH hl4⊢;dsimp only;have aP:Below Wd.heap.size Wd w4:=cZ.trans (hB4.mono cZ.size);refine hK.out _ _ (fun _=>(aO.out w4 aP).1) ?_;clear hK ea;have hrow:dI w4 (.slice (some ⟨pz,0,none⟩) 1 1) 1 [.int .i64 (bq:Int),.slice ba bl bc]:=⟨⟨_,_,rfl,Nat.le_refl _⟩,rfl,by simp[Value.oneCell'],fun _=>⟨_,_,rfl,World.news_of_block (cs:= #[.int .i64 (bq:Int),.slice ba bl bc]) (t:=73) (fr:=(0,0)) ((hB4.block _ (Array.getElem?_eq_some_iff.1 hblk).1).trans hblk)⟩⟩;have bX:=fH.own;rw[jy]at bX;refine ax.one (i:=9) (by kernel_rfl) ⟨_,rfl,fun K hK=> ?_⟩;refine Ga rfl _ _ rfl rfl rfl rfl bX hrow hB4.size (by omega) ?_;intro a6 d6 w6 hown6 hgrow hat;have aK:Below Wd.heap.size Wd w6:=aP.grown hgrow aP.size fun g hg=>Nat.le_trans cZ.size (bX.lt g hg).1
     have sM:aG w6 (fun b=>A b\/p5<b) (.slice a6 (n4+1) d6) (aF (aT R.length own aj ks' (.nd R.length .no .no)) (.nd bq bk .no)):=by
      rw[<-hG4];refine fH.more (w5:=w4) (B:=wy.heap.size) (fun b hb=>Nat.lt_of_lt_of_le (Ei.out b hb) cZ.size) hB4.size (Below.refl _ _) (vN.out.1.below aP) hgrow ?_ (fun g hg=>(hat g hg).imp id fun e=>by omega) (fun b hb=>hb.imp id fun h=>h.1) (Nat.lt_of_lt_of_le vN.out.2 cZ.size);rw[AU,jy];exact hown6
     refine hK.out _ _ (fun _=>(aO.out _ aK).1) ?_;clear hK;have eT:Hid (fQ w #[.int .i64 T,.int .i64 Nn,.slice (some ⟨b0,o0,none⟩) R.length rc,.int .i64 o,.int .i64 Lq,.int .i64 b,.int .i64 c] p5 A q' (.slice qm m1 iL) bq (.slice ba bl bc) bk w6/\aG w6 (fun b=>A b\/p5<b) (.slice a6 (n4+1) d6) (aF (aT R.length own aj ks' (.nd R.length .no .no)) (.nd bq bk .no))):=⟨(aO.out w6 aK).2,sM⟩;have hres:=eT.out.1.res;have y0:w6.cell? ⟨w.heap.size+1+1,0,none⟩=some (.int .i64 0):=ah hres rfl;have y1:w6.cell? ⟨w.heap.size+1+1,1,none⟩=some (.slice none 0 0):=ah hres rfl;have eB:w6.frozen? ⟨w.heap.size+1+1,0,none⟩=false:=bE hres;have eD:w6.frozen? ⟨w.heap.size+1+1,1,none⟩=false:=bE hres;have q0:=kW (v0:= .int .i64 (q':Int)) (v1:= .slice a6 (n4+1) d6) hres;have q1:=kX (v0:= .int .i64 (q':Int)) (v1:= .slice a6 (n4+1) d6) hres;refine ax.one (i:=10) (by kernel_rfl) ⟨_,rfl,fun K hK=> ?_⟩
     go_simp
     refine hK.out _ _ (fun _=>(aO.out _ aK).1) ?_;clear hK hown6 hgrow hat sM fH hG4 bX hrow hres;refine ax.last (i:=11) (by kernel_rfl) ⟨_,rfl,fun K hK=> ?_⟩
     go_simp
     refine hK.out _ _ (fun h=>absurd h (by omega)) (NoPanic.normal ?_);clear hK
     go_wp2_with fail
     refine bodyPost_ret (v:= .agg #[.int .i64 (q':Int),.slice a6 (n4+1) d6]) (by simp[results,Tryz.results156,go_sem,q0,q1]) rfl ?_;rw[HFin.out];have hlo:=eT.out.1.lo;refine⟨_,rfl,eT.out.2.laid (fun h=> ?_) _ _ fun b hb=>hb.imp id fun h=>by omega,(eT.out.1.below.setCell (by simp only;omega) _).setCell (by simp only;omega) _⟩;rcases h with h|h
     ·have:=HA.out _ h;omega
     ·omega
 ·have hne:(Lq==a)=false:=by simpa using eF
  have RZ:aj q=false:=by
   cases hi:aj q with
   |false=>rfl
   |true=>exact absurd (uJ.symm.trans ((hL.uh q h1).1 hi)) eF
  have how:own q=false:=by
   cases ho:own q with
   |false=>rfl
   |true=>exact absurd (uJ.symm.trans (hL.qW q h1 ho).1) eF
  have hG:uI R.length own aj q ks=(q,aT R.length own aj ks (.nd R.length .no .no)):=RP (by rw[aT,if_neg (by rw[how];simp),if_neg (by rw[RZ];simp)];rfl);rw[hG];clear hG how RZ eF uJ h1
  go_enter Tryz.func156,Tryz.ntmps156
  go_upto_region 1 with fail
  go_big_quiet (fail)
  go_upto_region 2 with fail
  obtain⟨V0,oo⟩:∃V,W.drewN nq=V:=⟨_,rfl⟩;have hB0:Below W.heap.size W V0:=by rw[<-oo];exact below_drewN (Below.refl _ _) _
  rw[oo];clear oo;obtain⟨Wd,hWd⟩:∃V,V0.drew=V:=⟨_,rfl⟩;have hBd:Below W.heap.size W Wd:=by rw[<-hWd];exact hB0.drew
  have S0:=(HS.out Wd hBd).1;have ji:Below w.heap.size w Wd:=HM.out.1.trans (hBd.mono HM.out.1.size);have ea:=rA.out Wd A (.slice aW n1 kc) ks ji (HK.out.1.below ji) (fun b hb=>Nat.lt_of_lt_of_le (HA.out b hb) ji.size) (Nat.le_refl _) ⟨_,HQ.out⟩;have eP:Hid (Below W.heap.size W Wd):=hBd;clear hBd hB0 ji x0 x1 x2 x3 x4 x5 x6 x7 x8 hW k1 rA;refine iw [0,1,2,3,4,5] 3 8 (nO w.heap.size T Nn o a b c (some ⟨b0,o0,none⟩) R.length rc q (.slice aW n1 kc)) (by kernel_rfl) (by kernel_rfl) (by rw[hWd];exact S0) ?_;rw[hWd];clear hWd S0
  iterate 6
   refine aU.gN (v:= ?_) rfl (by rfl) ?_ ?_;rotate_left
   ·intro w' hSw
    obtain⟨z0,z1,z2,z3,z4,z5,z6,z7,z8⟩:=hSw
    go_simp
    try with_reducible rfl
   simp only[Act.put,List.setIfInBounds_toArray,List.set_cons_zero,List.set_cons_succ]
  rw[aU];refine ax.one (i:=6) (by kernel_rfl) ⟨_,rfl,fun K hK=> ?_⟩
  go_simp
  refine ea.mono ?_;rintro e w3 ⟨rv,L',rfl,bY,hG3,hB3⟩;obtain⟨la,lc,hlv⟩:=aY bY.own;subst hlv;obtain⟨n3,jv⟩:∃n,L'.length=n:=⟨_,rfl⟩;rw[jv]at bY⊢;dsimp only;have hW3:Below W.heap.size W w3:=eP.out.trans (hB3.mono eP.out.size);refine hK.out _ _ (fun _=>(HS.out w3 hW3).1) ?_;clear hK ea;have hres:=(HS.out w3 hW3).2;have y0:w3.cell? ⟨w.heap.size+1+1,0,none⟩=some (.int .i64 0):=ah hres rfl;have y1:w3.cell? ⟨w.heap.size+1+1,1,none⟩=some (.slice none 0 0):=ah hres rfl;have eB:w3.frozen? ⟨w.heap.size+1+1,0,none⟩=false:=bE hres;have eD:w3.frozen? ⟨w.heap.size+1+1,1,none⟩=false:=bE hres;have q0:=kW (v0:= .int .i64 (q:Int)) (v1:= .slice la n3 lc) hres;have q1:=kX (v0:= .int .i64 (q:Int)) (v1:= .slice la n3 lc) hres;refine ax.one (i:=7) (by kernel_rfl) ⟨_,rfl,fun K hK=> ?_⟩
  go_simp
  refine hK.out _ _ (fun _=>(HS.out w3 hW3).1) ?_;clear hK
  have HT:Hid (aG w3 (fun b=>A b\/W.heap.size<=b) (.slice la n3 lc) (aT R.length own aj ks (.nd R.length .no .no))/\Below W.heap.size W w3):=by
   refine⟨?_,hW3⟩;have h1:=bY.kU.fo;rw[hG3]at h1;exact h1.kept fun x hx _=>⟨rfl,hx.imp id fun h=>Nat.le_trans eP.out.size h⟩
  clear bY hG3 hB3 jv hres hW3;refine ax.last (i:=8) (by kernel_rfl) ⟨_,rfl,fun K hK=> ?_⟩
  go_simp
  refine hK.out _ _ (fun h=>absurd h (by omega)) (NoPanic.normal ?_);clear hK
  go_wp2_with fail
  refine bodyPost_ret (v:= .agg #[.int .i64 (q:Int),.slice la n3 lc]) (by simp[results,Tryz.results156,go_sem,q0,q1]) rfl ?_;have hz:=HM.out.2.1;exact⟨_,rfl,HT.out.1.rz HA.out hz _ _,((HM.out.1.trans (HT.out.2.mono HM.out.1.size)).setCell (by simp;omega) _).setCell (by simp;omega) _⟩
end
end Go.Proofs.YtpkmpkphfflpjaaGreat
