package tests

import (
	"slices"
	"strconv"
	"testing"

	"loop.example/g00567/impl"
)

// flush delivers round by round, in each the first message of every link that has one when its turn comes.
func (w *world) flush() int {
	total := 0
	for {
		before := total
		for _, at := range linksOf(w.n) {
			if w.do(deed{"deliver", at[0], at[1], nil}) {
				total++
			}
		}
		if total == before || total >= 20000 {
			return total
		}
	}
}

func (w *world) fair(rounds int) int {
	for n := 0; n <= rounds; n++ {
		w.flush()
		if w.allDecided() {
			return n
		}
		for id := range w.n {
			w.do(deed{"tick", id, 0, nil})
		}
	}
	return -1
}

func (w *world) allDecided() bool {
	for id, r := range w.reps {
		if !w.bad[id] && r.Done == 0 {
			return false
		}
	}
	return true
}

// wantFlush flushes c and checks the results against the world's, and what every flush comes to.
func wantFlush(t *testing.T, c impl.Cluster) (impl.Cluster, int) {
	t.Helper()
	w := worldOf(c)
	want := w.flush()
	got, n := impl.Flush(c)
	if n != want || !sameCluster(got, w.cluster()) {
		t.Fatalf("Flush of %v:\ngot  %v %v,\nwant %v %v", c, got, n, w.cluster(), want)
	}
	if impl.Waiting(got) != 0 || !impl.Quiet(got) {
		t.Fatalf("Flush of %v:\n%v has messages", c, got)
	}
	if n < impl.Waiting(c) || n >= 20000 || n == 0 && !sameCluster(got, c) {
		t.Fatalf("Flush of %v:\n%v after %v messages", c, got, n)
	}
	if wrong := undone(c, got); wrong != "" {
		t.Fatalf("Flush of %v:\n%v: %s", c, got, wrong)
	}
	return got, n
}

func wantFair(t *testing.T, c impl.Cluster, rounds int) (impl.Cluster, int) {
	t.Helper()
	w := worldOf(c)
	want := w.fair(rounds)
	got, n := impl.Fair(c, rounds)
	if n != want || !sameCluster(got, w.cluster()) {
		t.Fatalf("Fair of %v with %v:\ngot  %v %v,\nwant %v %v", c, rounds, got, n, w.cluster(), want)
	}
	if all := impl.Decided(got) == len(impl.Honest(got)); all != (n != -1) || all && !impl.Quiet(got) {
		t.Fatalf("Fair of %v with %v:\n%v %v", c, rounds, got, n)
	}
	if wrong := undone(c, got); wrong != "" {
		t.Fatalf("Fair of %v with %v:\n%v: %s", c, rounds, got, wrong)
	}
	return got, n
}

// undone tells what of a cluster a schedule has changed that it never changes, or nothing.
func undone(before, after impl.Cluster) string {
	if !impl.ClusterOk(after) || before.N != after.N || !slices.Equal(before.Bad, after.Bad) {
		return "not valid or another cluster"
	}
	for id, r := range before.Reps {
		if r.Done != 0 && after.Reps[id].Done != r.Done {
			return strconv.Itoa(id) + " has changed its decision"
		}
		if before.Bad[id] && !sameRep(after.Reps[id], r) {
			return strconv.Itoa(id) + " is faulty and has changed"
		}
	}
	return ""
}

// wantAgreement checks a cluster that comes from one of ClusterNew, whatever happened.
func wantAgreement(t *testing.T, c impl.Cluster) {
	t.Helper()
	if wrong := unanimous(c); wrong != "" || !impl.Agreed(c) || !impl.ClusterOk(c) {
		t.Fatalf("%v: %s", c, wrong)
	}
	val, ok := impl.Verdict(c)
	for _, id := range impl.Honest(c) {
		if done := c.Reps[id].Done; done != 0 && (!ok || done != val) {
			t.Fatalf("%v: the verdict is %v %v", c, val, ok)
		}
	}
	if ok != (impl.Decided(c) > 0) || !ok && val != 0 {
		t.Fatalf("%v: the verdict is %v %v", c, val, ok)
	}
}

// firstHonest is the first view from that one on whose leader is honest.
func firstHonest(n, view int, faulty []int) int {
	for slices.Contains(faulty, view%n) {
		view++
	}
	return view
}

// ticksUpTo is how many ticks lead from the start of one view to another.
func ticksUpTo(from, to int) int {
	ticks := 0
	for view := from; view < to; view++ {
		ticks += 3 + view
	}
	return ticks
}

// ticked brings every honest replica into a view, by its timer alone; all that they send stays on the links.
func ticked(t *testing.T, c impl.Cluster, view int) impl.Cluster {
	t.Helper()
	for _, id := range impl.Honest(c) {
		for c.Reps[id].View < view {
			c, _ = impl.Tick(c, id)
		}
	}
	return c
}

// inOneView reports whether all honest replicas are in the same view, and which.
func inOneView(c impl.Cluster) (int, bool) {
	honest := impl.Honest(c)
	view := c.Reps[honest[0]].View
	for _, id := range honest {
		if c.Reps[id].View != view {
			return 0, false
		}
	}
	return view, true
}

// stuckCluster is in the last view, where a timer leads nowhere, and nobody has anything to say.
func stuckCluster(n int, faulty ...int) impl.Cluster { return idleCluster(n, 9, faulty...) }

// silentCluster has something in every field of its replicas, and no messages.
func silentCluster(n int, faulty ...int) impl.Cluster {
	c := busyCluster(n, faulty...)
	c.Net = make([][]impl.Msg, n*n)
	return c
}

func doneCluster(faulty []int, done ...int) impl.Cluster {
	c := idleCluster(len(done), 2, faulty...)
	for id, val := range done {
		c.Reps[id].Done = val
	}
	return c
}

// scheduledClusters are clusters of many kinds, by what they show.
func scheduledClusters(t *testing.T) map[string]impl.Cluster {
	all := validClusters()
	for _, n := range []int{4, 7} {
		for i, faulty := range [][]int{nil, {0}, {2}, {n - 1}, {1, 2}, {0, 6}} {
			if len(faulty) >= weakOf(n) {
				continue
			}
			name := strconv.Itoa(n) + " with faulty set " + strconv.Itoa(i)
			all[name+", new"] = started(t, n, faulty...)
			all[name+", silent"] = silentCluster(n, faulty...)
			all[name+", stuck"] = stuckCluster(n, faulty...)
			for _, count := range []int{1, 3, 17, 80} {
				all[name+", so many messages: "+strconv.Itoa(count)] = lengthCluster(n, count, faulty...)
			}
			for view := range 10 {
				all[name+", in view "+strconv.Itoa(view)] = ticked(t, started(t, n, faulty...), view)
			}
		}
	}
	all["ready and done"] = readyAndDone()
	return all
}
