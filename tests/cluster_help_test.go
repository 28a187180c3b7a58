package tests

import (
	"math"
	"slices"
	"strconv"
	"testing"

	"loop.example/g00567/impl"
)

// someIds are numbers that are replicas of 4, of 7, or of neither.
var someIds = []int{math.MinInt, -7, -4, -1, 0, 1, 2, 3, 4, 5, 6, 7, 8, 256 + 1, math.MaxInt}

func flagsOf(n int, faulty ...int) []bool {
	l := make([]bool, n)
	for _, id := range faulty {
		l[id] = true
	}
	return l
}

// ownsOf are the values 10, 11, 12 ..
func ownsOf(n int) []int {
	var l []int
	for id := range n {
		l = append(l, 10+id)
	}
	return l
}

func started(t *testing.T, n int, faulty ...int) impl.Cluster {
	t.Helper()
	c, ok := impl.ClusterNew(ownsOf(n), flagsOf(n, faulty...))
	if !ok || !impl.ClusterOk(c) {
		t.Fatal(n, faulty, c, ok)
	}
	return c
}

// idleCluster has replicas in a view that have neither heard nor sent anything, and no messages.
func idleCluster(n, view int, faulty ...int) impl.Cluster {
	c := impl.Cluster{N: n, Bad: flagsOf(n, faulty...), Net: make([][]impl.Msg, n*n)}
	for id := range n {
		c.Reps = append(c.Reps, idle(n, id, view))
	}
	return c
}

// busyCluster has something in every field of its replicas, and messages of every kind on its links.
func busyCluster(n int, faulty ...int) impl.Cluster {
	c := idleCluster(n, 0, faulty...)
	for id := range n {
		c.Reps[id] = busy()
		c.Reps[id].N, c.Reps[id].Id = n, id
	}
	all := []impl.Msg{exampleReport(), voting(3, 7), proposing(0, 5), readying(2, 7), report(9, lockOn(8, 60), votes(0, 1, 8, 60)...), deciding(7)}
	for _, at := range linksOf(n) {
		for i := range 1 + (at[0]*n+at[1])%4 {
			setLink(&c, at[0], at[1], append(onLink(c, at[0], at[1]), cloneMsg(all[(at[0]+at[1]+i)%len(all)])))
		}
	}
	return c
}

// linksOf returns the sender and the receiver of each link.
func linksOf(n int) [][2]int {
	var l [][2]int
	for from := range n {
		for to := range n {
			if from != to {
				l = append(l, [2]int{from, to})
			}
		}
	}
	return l
}

// onLink and setLink use the Net as it is.
func onLink(c impl.Cluster, from, to int) []impl.Msg { return c.Net[from*c.N+to] }

func setLink(c *impl.Cluster, from, to int, l []impl.Msg) { c.Net[from*c.N+to] = l }

// numbered returns so many different messages.
func numbered(count int) []impl.Msg {
	var l []impl.Msg
	for i := range count {
		l = append(l, voting(i%10, 1+i/10))
	}
	return l
}

func bytesOf(m impl.Msg) []byte {
	b, _ := impl.MsgBytes(m)
	return b
}

func sameCluster(a, b impl.Cluster) bool {
	return a.N == b.N && slices.Equal(a.Bad, b.Bad) && slices.EqualFunc(a.Reps, b.Reps, sameRep) && slices.EqualFunc(a.Net, b.Net, sameMsgs)
}

func zeroCluster(c impl.Cluster) bool { return sameCluster(c, impl.Cluster{}) }

func wantCluster(t *testing.T, got impl.Cluster, ok bool, want impl.Cluster, wantOk bool) {
	t.Helper()
	if ok != wantOk || !sameCluster(got, want) {
		t.Fatalf("got  %v %v,\nwant %v %v", got, ok, want, wantOk)
	}
}

func cloneMsg(m impl.Msg) impl.Msg {
	m.Votes = slices.Clone(m.Votes)
	return m
}

func cloneMsgs(l []impl.Msg) []impl.Msg {
	l = slices.Clone(l)
	for i := range l {
		l[i] = cloneMsg(l[i])
	}
	return l
}

func cloneCluster(c impl.Cluster) impl.Cluster {
	c.Bad, c.Reps, c.Net = slices.Clone(c.Bad), slices.Clone(c.Reps), slices.Clone(c.Net)
	for i := range c.Reps {
		c.Reps[i] = cloneRep(c.Reps[i])
	}
	for i := range c.Net {
		c.Net[i] = cloneMsgs(c.Net[i])
	}
	return c
}

// changedCluster returns a copy of c with one change.
func changedCluster(c impl.Cluster, change func(*impl.Cluster)) impl.Cluster {
	c = cloneCluster(c)
	change(&c)
	return c
}

// A deed is one of the six events at a cluster.
type deed struct {
	what     string
	from, to int
	said     []byte
}

var allDeeds = []string{"deliver", "lose", "twice", "later", "tick", "lie"}

func (d deed) do(c impl.Cluster) (impl.Cluster, bool) {
	switch d.what {
	case "deliver":
		return impl.Deliver(c, d.from, d.to)
	case "lose":
		return impl.Lose(c, d.from, d.to)
	case "twice":
		return impl.Twice(c, d.from, d.to)
	case "later":
		return impl.Later(c, d.from, d.to)
	case "tick":
		return impl.Tick(c, d.from)
	}
	return impl.Lie(c, d.from, d.to, d.said)
}

// A world is a cluster written down as the document describes it, with what is on its way by sender and receiver.
type world struct {
	n    int
	bad  []bool
	reps []impl.Rep
	way  map[[2]int][]impl.Msg
	lost int // messages transmitted to a full link
}

func worldOf(c impl.Cluster) *world {
	c = cloneCluster(c)
	w := &world{n: c.N, bad: c.Bad, reps: c.Reps, way: map[[2]int][]impl.Msg{}}
	for _, at := range linksOf(c.N) {
		w.way[at] = onLink(c, at[0], at[1])
	}
	return w
}

func (w *world) cluster() impl.Cluster {
	c := impl.Cluster{N: w.n, Bad: w.bad, Reps: w.reps, Net: make([][]impl.Msg, w.n*w.n)}
	for at, l := range w.way {
		setLink(&c, at[0], at[1], l)
	}
	return c
}

// append puts m at the end of a link, and reports whether there was room.
func (w *world) append(at [2]int, m impl.Msg) bool {
	if len(w.way[at]) == 80 {
		return false
	}
	w.way[at] = append(slices.Clone(w.way[at]), m)
	return true
}

func (w *world) transmit(from int, sent []impl.Msg) {
	for to := range w.n {
		for _, m := range sent {
			if to != from && !w.append([2]int{from, to}, m) {
				w.lost++
			}
		}
	}
}

// do changes the world by a deed and reports whether it had an effect; it must be one for which no result is the zero value.
func (w *world) do(d deed) bool {
	at := [2]int{d.from, d.to}
	l := w.way[at]
	switch {
	case d.what == "tick" && w.bad[d.from]:
		return false
	case d.what == "tick":
		r, sent := impl.RepTick(w.reps[d.from])
		w.reps[d.from] = r
		w.transmit(d.from, sent)
		return true
	case d.what == "lie":
		m, ok := impl.MsgRead(d.said)
		return ok && w.append(at, m)
	case len(l) == 0:
		return false
	case d.what == "twice":
		return w.append(at, l[0])
	case d.what == "later" && len(l) == 80:
		return false
	case d.what == "later":
		w.way[at] = append(slices.Clone(l[1:]), l[0])
		return true
	}
	w.way[at] = l[1:]
	if d.what == "deliver" && !w.bad[d.to] {
		r, sent := impl.RepHear(w.reps[d.to], d.from, l[0])
		w.reps[d.to] = r
		w.transmit(d.to, sent)
	}
	return true
}

// wantDeed does a deed and checks its results against the world's.
func wantDeed(t *testing.T, c impl.Cluster, d deed) (impl.Cluster, bool) {
	t.Helper()
	w := worldOf(c)
	wantOk := w.do(d)
	got, ok := d.do(c)
	if ok != wantOk || !sameCluster(got, w.cluster()) {
		t.Fatalf("%v of %v:\ngot  %v %v,\nwant %v %v", d, c, got, ok, w.cluster(), wantOk)
	}
	return got, ok
}

// invalidClusters returns clusters that are each wrong in one part, by what is wrong.
func invalidClusters() map[string]impl.Cluster {
	all := map[string]impl.Cluster{"nothing": {}}
	for name, base := range map[string]impl.Cluster{
		"4": busyCluster(4), "4 with a faulty one": busyCluster(4, 1), "7": busyCluster(7), "7 with faulty ones": busyCluster(7, 1, 6), "4 at rest": idleCluster(4, 2, 3),
	} {
		add := func(what string, change func(*impl.Cluster)) { all[name+" with "+what] = changedCluster(base, change) }
		for _, n := range append([]int{11 - base.N}, otherSizes...) {
			add("N "+strconv.Itoa(n), func(c *impl.Cluster) { c.N = n })
		}
		addWrongFlags(add, base)
		addWrongReps(add, base.N)
		addWrongNets(add, base.N)
	}
	return all
}

type addCluster func(what string, change func(*impl.Cluster))

func addWrongFlags(add addCluster, base impl.Cluster) {
	add("no flags", func(c *impl.Cluster) { c.Bad = nil })
	add("a flag less", func(c *impl.Cluster) { c.Bad = flagsOf(c.N - 1) })
	add("a flag more", func(c *impl.Cluster) { c.Bad = flagsOf(c.N + 1) })
	add("a million flags", func(c *impl.Cluster) { c.Bad = make([]bool, 1<<20) })
	add("first ones faulty", func(c *impl.Cluster) { c.Bad = flagsOf(c.N, []int{0, 1, 2}[:weakOf(c.N)]...) })
	add("last ones faulty", func(c *impl.Cluster) { c.Bad = flagsOf(c.N, []int{c.N - 1, c.N - 2, c.N - 3}[:weakOf(c.N)]...) })
	add("all faulty", func(c *impl.Cluster) { c.Bad = slices.Repeat([]bool{true}, c.N) })
}

func addWrongReps(add addCluster, n int) {
	add("no replicas", func(c *impl.Cluster) { c.Reps = nil })
	add("a replica less", func(c *impl.Cluster) { c.Reps = c.Reps[:n-1] })
	add("a replica more", func(c *impl.Cluster) { c.Reps = append(c.Reps, idle(7, 4, 0)) })
	add("a replica twice", func(c *impl.Cluster) { c.Reps[0] = cloneRep(c.Reps[1]) })
	add("two replicas in the other's place", func(c *impl.Cluster) { c.Reps[0], c.Reps[2] = c.Reps[2], c.Reps[0] })
	add("zero replicas", func(c *impl.Cluster) { c.Reps = make([]impl.Rep, n) })
	add("many replicas", func(c *impl.Cluster) { c.Reps = make([]impl.Rep, 1<<12) })
	for id := range n {
		at := " at " + strconv.Itoa(id)
		add("a replica of another N"+at, func(c *impl.Cluster) { c.Reps[id].N = 11 - n })
		add("a replica of no N"+at, func(c *impl.Cluster) { c.Reps[id].N = 0 })
		add("another Id"+at, func(c *impl.Cluster) { c.Reps[id].Id = (id + 1) % n })
		add("the Id -1"+at, func(c *impl.Cluster) { c.Reps[id].Id = -1 })
		add("no own value"+at, func(c *impl.Cluster) { c.Reps[id].Own = 0 })
		add("a zero replica"+at, func(c *impl.Cluster) { c.Reps[id] = impl.Rep{} })
	}
	for what, r := range invalidReps() {
		if len(r.Props.L)+len(r.Votes.L)+len(r.Readies.L)+len(r.Dones.L) < 1000 && r.N == 4 && r.Id == 1 && n == 4 {
			add(what, func(c *impl.Cluster) { c.Reps[1] = r })
		}
	}
}

func addWrongNets(add addCluster, n int) {
	add("no links", func(c *impl.Cluster) { c.Net = nil })
	add("a link less", func(c *impl.Cluster) { c.Net = c.Net[:n*n-1] })
	add("a link more", func(c *impl.Cluster) { c.Net = append(c.Net, nil) })
	add("a link to each", func(c *impl.Cluster) { c.Net = c.Net[:n] })
	add("a million links", func(c *impl.Cluster) { c.Net = make([][]impl.Msg, 1<<20) })
	for id := range n {
		add("a message from itself to "+strconv.Itoa(id), func(c *impl.Cluster) { setLink(c, id, id, numbered(1)) })
	}
	for i, at := range linksOf(n) {
		name := " from " + strconv.Itoa(at[0]) + " to " + strconv.Itoa(at[1])
		add("81 messages"+name, func(c *impl.Cluster) { setLink(c, at[0], at[1], numbered(81)) })
		add("a zero message"+name, func(c *impl.Cluster) { setLink(c, at[0], at[1], append(numbered(i), impl.Msg{})) })
	}
	add("many zero messages", func(c *impl.Cluster) { setLink(c, 0, 1, make([]impl.Msg, 1<<12)) })
	for what, m := range invalidMsgs() {
		for at := range 3 {
			add(what+" at "+strconv.Itoa(at), func(c *impl.Cluster) { setLink(c, 1, 2, slices.Insert(numbered(2), at, m)) })
		}
	}
}

// spareMsgs returns l with room behind it and behind the votes of its messages, and what tells whether any of that was written.
func spareMsgs(l []impl.Msg) ([]impl.Msg, func() bool) {
	all := make([]impl.Msg, len(l)+3)
	var rooms [][]impl.Vote
	for i := range all {
		all[i] = report(80+i, lockOn(81, 82), votes(83, 84)...)
		if i < len(l) {
			all[i] = l[i]
		}
		var room []impl.Vote
		all[i].Votes, room = spare(all[i].Votes)
		rooms = append(rooms, room)
	}
	before, kept := slices.Clone(all), clones(rooms)
	return all[:len(l)], func() bool {
		return sameMsgs(all, before) && slices.EqualFunc(rooms, kept, slices.Equal[[]impl.Vote])
	}
}

// spareCluster returns c with room behind each of its slices, and what tells whether any of the memory was written.
func spareCluster(c impl.Cluster) (impl.Cluster, func() bool) {
	var kept []func() bool
	flags := append(slices.Clone(c.Bad), true, false, true)
	reps := append(slices.Clone(c.Reps), idle(7, 5, 9), busy())
	for i := range reps {
		var same func() bool
		reps[i], same = spareRep(reps[i])
		kept = append(kept, same)
	}
	net := append(slices.Clone(c.Net), numbered(2), nil, numbered(1))
	for i := range net {
		var same func() bool
		net[i], same = spareMsgs(net[i])
		kept = append(kept, same)
	}
	flagsBefore, repsBefore, netBefore := slices.Clone(flags), slices.Clone(reps), slices.Clone(net)
	whole := impl.Cluster{N: c.N, Bad: flags[:len(c.Bad)], Reps: reps[:len(c.Reps)], Net: net[:len(c.Net)]}
	return whole, func() bool {
		for _, same := range kept {
			if !same() {
				return false
			}
		}
		return slices.Equal(flags, flagsBefore) && slices.EqualFunc(reps, repsBefore, sameRep) && slices.EqualFunc(net, netBefore, sameMsgs)
	}
}

func clusterSpans(of string, c impl.Cluster) []span {
	l := []span{spanOf(of+" Bad", c.Bad), spanOf(of+" Reps", c.Reps), spanOf(of+" Net", c.Net)}
	for id, r := range c.Reps {
		l = append(l, repSpans(of+" replica "+strconv.Itoa(id), r)...)
	}
	for i, q := range c.Net {
		l = append(l, msgSpans(of+" link "+strconv.Itoa(i), q)...)
	}
	return l
}
