package tests

import (
	"runtime"
	"slices"
	"testing"

	"loop.example/g00567/impl"
)

// memoryScripts are scripts for c, among them some without any effect and some that are not valid.
func memoryScripts(c impl.Cluster) [][]impl.Act {
	next := recurrence()
	all := [][]impl.Act{nil, {flush}, {flush, flush}, {tick(0), tick(1), tick(2), tick(3)}, mixedScript(next, c, 10), mixedScript(next, c, 40), {deliver(0, 1), tick(-1)}}
	for id, bad := range c.Bad {
		to := (id + 1) % c.N
		if bad {
			said := lie(id, to, report(9, lockOn(8, 60), votes(0, 1, 8, 60)...))
			all = append(all, []impl.Act{tick(id)}, []impl.Act{said}, []impl.Act{said, linkAct(impl.AcTwice, id, to), said, deliver(id, to)}, []impl.Act{lieOf(id, to, make([]byte, 100))}, []impl.Act{lieOf(id, to, make([]byte, 101))})
		} else {
			all = append(all, []impl.Act{lie(id, to, voting(0, 5))})
		}
	}
	return all
}

// deskClusters are memoryClusters and more; of 7 there are a few, as they are long to compare.
func deskClusters(t *testing.T) []impl.Cluster {
	t.Helper()
	return append(memoryClusters(), restlessCluster(4, 0), silentCluster(4, 3), started(t, 7, 0), stuckCluster(4, 2))
}

func TestScriptsModifyNothing(t *testing.T) {
	t.Parallel()
	for i, plain := range deskClusters(t) {
		c, kept := spareCluster(plain)
		for k, plainScript := range memoryScripts(plain) {
			l, keptScript := spareScript(plainScript)
			want, wantN, wantOk := impl.Run(plain, plainScript)
			got, n, ok := impl.Run(c, l)
			if n != wantN || ok != wantOk || !sameCluster(got, want) || !slices.Equal(impl.Useful(c, l), impl.Useful(plain, plainScript)) || impl.Lies(l) != impl.Lies(plainScript) {
				t.Fatal(i, k, "what is behind the slices was read")
			}
			for at, a := range l {
				want, wantOk := impl.Do(plain, plainScript[at])
				if got, ok := impl.Do(c, a); ok != wantOk || !sameCluster(got, want) {
					t.Fatal(i, k, at, "what is behind the slices was read")
				}
				if impl.ActOk(c, a) != impl.ActOk(plain, plainScript[at]) || !slices.Equal(impl.ActText(a), impl.ActText(plainScript[at])) {
					t.Fatal(i, k, at, "what is behind the slices was read")
				}
			}
			if !kept() || !keptScript() {
				t.Fatal(i, k, "an argument was modified")
			}
		}
		if !slices.Equal(impl.ClusterText(c), impl.ClusterText(plain)) || !kept() {
			t.Fatal(i, "was modified, or what is behind the slices was read")
		}
	}
}

func TestScriptsModifyNoInvalidCluster(t *testing.T) {
	for name, c := range invalidClusters() {
		if len(c.Bad) > 1000 || len(c.Reps) > 1000 || len(c.Net) > 1000 || len(c.Net) > 1 && len(c.Net[1]) > 1000 {
			continue
		}
		c, kept := spareCluster(c)
		l, keptScript := spareScript([]impl.Act{deliver(0, 1), lie(1, 2, exampleReport()), tick(0), flush})
		impl.Run(c, l)
		impl.Useful(c, l)
		impl.ClusterText(c)
		for _, a := range l {
			impl.ActOk(c, a)
			impl.Do(c, a)
		}
		if !kept() || !keptScript() {
			t.Error(name)
		}
	}
}

// Acts behind the end of a script are not played, although they would make it invalid, or longer than it may be.
func TestActsBeyondTheLengthAreNotRead(t *testing.T) {
	c := started(t, 4, 3)
	room := append(slices.Repeat([]impl.Act{tick(0)}, 200), tick(4), tick(0))
	want, useful := oneByOne(c, room[:200])
	wantScript(t, c, room[:200], want, useful)
	wantNoScript(t, c, room[:201])
	wantScript(t, c, room[:0], c, nil)
	said := append(bytesOf(exampleReport()), make([]byte, 100)...)
	got, ok := impl.Do(c, lieOf(3, 0, said[:10]))
	wantCluster(t, got, ok, changedCluster(c, func(c *impl.Cluster) { setLink(c, 3, 0, []impl.Msg{exampleReport()}) }), true)
	if l := slices.Repeat([]impl.Act{{Kind: 5}}, 300); impl.Lies(l[:200]) != 200 || impl.Lies(l[:3]) != 3 {
		t.Error(impl.Lies(l[:200]), impl.Lies(l[:3]))
	}
}

func TestResultsOfScriptsShareNoMemory(t *testing.T) {
	t.Parallel()
	for i, c := range deskClusters(t) {
		c, _ = spareCluster(c)
		for k, l := range memoryScripts(c) {
			if c.N == 7 && k%3 != i%3 {
				continue
			}
			l, _ = spareScript(l)
			args := append(clusterSpans("the argument's", c), scriptSpans("the script's", l)...)
			wantOwnCluster(t, args, func() impl.Cluster {
				got, _, _ := impl.Run(c, l)
				return got
			})
			for at, a := range l {
				if at < 5 {
					wantOwnCluster(t, args, func() impl.Cluster {
						got, _ := impl.Do(c, a)
						return got
					})
				}
			}
			runtime.KeepAlive(l) // what is no longer used could become a part of a result
		}
		runtime.KeepAlive(c)
	}
}

// The parts of a result are apart even if those of the arguments are not, with and without effect.
func TestSharedPartsAreSeparateAfterScripts(t *testing.T) {
	for _, base := range []impl.Cluster{busyCluster(4, 3), busyCluster(7, 0), restlessCluster(4, 1)} {
		for id := range base.Reps {
			base.Reps[id] = base.Reps[0]
			base.Reps[id].Id = id
		}
		for _, at := range linksOf(base.N) {
			setLink(&base, at[0], at[1], onLink(base, 0, 1))
		}
		liar := slices.Index(base.Bad, true)
		said := lie(liar, 2, exampleReport())
		l := []impl.Act{said, said, tick(2), said, deliver(liar, 2), {Kind: impl.AcLie, From: liar, To: (liar + 2) % 4, B: said.B}, tick(liar)}
		args := append(clusterSpans("the argument's", base), spanOf("the acts", l), spanOf("the bytes", said.B))
		for _, script := range [][]impl.Act{nil, l, l[:4], {flush}, {tick(liar)}, {linkAct(impl.AcTwice, 0, 1)}, {linkAct(impl.AcLater, 0, 1)}} {
			if liar == 2 {
				t.Fatal(base)
			}
			wantOwnCluster(t, args, func() impl.Cluster {
				got, _, ok := impl.Run(base, script)
				if !ok {
					t.Fatal(base, script)
				}
				return got
			})
		}
		for _, a := range append(l, flush, linkAct(impl.AcLose, 0, 1), linkAct(impl.AcTwice, 0, 1), linkAct(impl.AcLater, 0, 1), deliver(0, 1)) {
			wantOwnCluster(t, args, func() impl.Cluster {
				got, _ := impl.Do(base, a)
				return got
			})
		}
		runtime.KeepAlive(base)
		runtime.KeepAlive(l)
	}
}

// scribbleCluster writes over all that a result consists of.
func scribbleCluster(c impl.Cluster) {
	scribble(c.Bad, true)
	for i := range c.Reps {
		scribble(c.Reps[i].Voted, lockOn(88, 88))
		for _, x := range tallies(&c.Reps[i]) {
			scribble(x.L, ballot(88, 88, 88))
		}
		for k := range c.Reps[i].Heard {
			scribbleReports(c.Reps[i].Heard[k].L)
		}
	}
	for _, l := range c.Net {
		for i := range l {
			scribble(l[i].Votes, lockOn(88, 88))
		}
		scribble(l, impl.Msg{})
	}
}

// What is done to a result is not seen in an argument or in a later result, nor what is done to the bytes of a lie in a result.
func TestChangedResultsOfScripts(t *testing.T) {
	t.Parallel()
	for i, c := range deskClusters(t) {
		if c.N == 7 && i%2 == 0 {
			continue
		}
		before := cloneCluster(c)
		for k, l := range memoryScripts(c) {
			scriptBefore, _ := spareScript(l)
			first, n, ok := impl.Run(c, l)
			useful := impl.Useful(c, l)
			want, wantUseful := cloneCluster(first), slices.Clone(useful)
			scribbleCluster(first)
			scribble(useful, 88)
			for _, a := range l {
				done, _ := impl.Do(c, a)
				scribbleCluster(done)
			}
			second, again, okAgain := impl.Run(c, l)
			if again != n || okAgain != ok || !sameCluster(second, want) || !slices.Equal(impl.Useful(c, l), wantUseful) {
				t.Fatal(i, k, second, want)
			}
			if !sameCluster(c, before) || !sameScript(l, scriptBefore) {
				t.Fatal(i, k, "an argument was modified")
			}
			for _, a := range l {
				scribble(a.B, 88)
			}
			if !sameCluster(second, want) {
				t.Fatal(i, k, "a result is the bytes of a lie")
			}
		}
	}
}

func TestTextsOfScriptsShareNoMemory(t *testing.T) {
	c := lengthCluster(7, 3, 0, 6)
	for k, call := range []func() []byte{
		func() []byte { return impl.ClusterText(c) },
		func() []byte { return impl.ActText(deliver(0, 6)) },
		func() []byte { return impl.ActText(tick(5)) },
		func() []byte { return impl.ActText(flush) },
	} {
		first := call()
		want := slices.Clone(first)
		second := call()
		scribble(first, 88)
		if third := call(); len(want) == 0 || !slices.Equal(second, want) || !slices.Equal(third, want) {
			t.Error(k, string(want), string(second), string(third))
		}
	}
}

func TestUsefulSharesNoMemory(t *testing.T) {
	c := started(t, 4, 3)
	l := []impl.Act{tick(0), tick(3), flush, flush, tick(1)}
	first, second := impl.Useful(c, l), impl.Useful(c, l)
	if wrong := overlap([]span{spanOf("one", first), spanOf("two", second)}, nil); wrong != "" {
		t.Error(wrong)
	}
	scribble(first, 88)
	if third := impl.Useful(c, l); !slices.Equal(second, []int{0, 2, 4}) || !slices.Equal(third, []int{0, 2, 4}) {
		t.Error(second, third)
	}
}
