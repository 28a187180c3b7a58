package tests

import (
	"runtime"
	"slices"
	"testing"

	"loop.example/g00567/impl"
)

// scheduled are the schedules by name; with few rounds there are messages left at the end.
var scheduled = map[string]func(impl.Cluster) impl.Cluster{
	"Flush":   func(c impl.Cluster) impl.Cluster { return firstOf(impl.Flush(c)) },
	"Fair 0":  func(c impl.Cluster) impl.Cluster { return firstOf(impl.Fair(c, 0)) },
	"Fair 1":  func(c impl.Cluster) impl.Cluster { return firstOf(impl.Fair(c, 1)) },
	"Fair 9":  func(c impl.Cluster) impl.Cluster { return firstOf(impl.Fair(c, 9)) },
	"Fair 60": func(c impl.Cluster) impl.Cluster { return firstOf(impl.Fair(c, 60)) },
}

func firstOf(c impl.Cluster, _ int) impl.Cluster { return c }

// restlessCluster has no messages; the next tick of its replicas leads to reports with votes.
func restlessCluster(n int, faulty ...int) impl.Cluster {
	c := silentCluster(n, faulty...)
	for id := range c.Reps {
		c.Reps[id].Left = 1
	}
	return c
}

// calmClusters are some in which a schedule delivers much, and some in which it delivers nothing.
func calmClusters(t *testing.T) []impl.Cluster {
	return append(memoryClusters(),
		silentCluster(4), silentCluster(4, 3), silentCluster(7, 1, 2), restlessCluster(4, 0), restlessCluster(7, 5),
		doneCluster([]int{1}, 7, 0, 7, 7), stuckCluster(4, 2), started(t, 4), started(t, 7, 0, 1), ticked(t, started(t, 4, 1), 3),
	)
}

func TestSchedulesModifyNothing(t *testing.T) {
	for i, plain := range calmClusters(t) {
		c, kept := spareCluster(plain)
		for name, run := range scheduled {
			want := run(plain)
			if got := run(c); !sameCluster(got, want) {
				t.Fatal(i, name, "what is behind the slices was read")
			}
			if !kept() {
				t.Fatal(i, name, "modified its argument")
			}
		}
		impl.Verdict(c)
		impl.Views(c)
		if !kept() {
			t.Fatal(i, "was modified")
		}
	}
}

func TestSchedulesModifyNoInvalidCluster(t *testing.T) {
	for name, c := range invalidClusters() {
		if len(c.Bad) > 1000 || len(c.Reps) > 1000 || len(c.Net) > 1000 || len(c.Net) > 1 && len(c.Net[1]) > 1000 {
			continue
		}
		c, kept := spareCluster(c)
		for _, run := range scheduled {
			run(c)
		}
		impl.Verdict(c)
		impl.Views(c)
		if !kept() {
			t.Error(name)
		}
	}
}

func TestResultsOfSchedulesShareNoMemory(t *testing.T) {
	left := 0
	for _, c := range calmClusters(t) {
		c, _ = spareCluster(c)
		args := clusterSpans("the argument's", c)
		for _, run := range scheduled {
			wantOwnCluster(t, args, func() impl.Cluster {
				got := run(c)
				for _, at := range linksOf(got.N) {
					for _, m := range onLink(got, at[0], at[1]) {
						left += len(m.Votes)
					}
				}
				return got
			})
		}
		runtime.KeepAlive(c) // what is no longer used could become a part of a result
	}
	if left == 0 {
		t.Error("no message with votes is left on any link")
	}
}

// The parts of a result are apart even if those of the argument are not, whether anything is delivered or not.
func TestSharedPartsAreSeparateAfterSchedules(t *testing.T) {
	for _, base := range []impl.Cluster{silentCluster(4, 3), restlessCluster(7, 2), busyCluster(4), busyCluster(7, 0)} {
		for id := range base.Reps {
			base.Reps[id] = base.Reps[0]
			base.Reps[id].Id = id
		}
		for _, at := range linksOf(base.N) {
			if !impl.Quiet(base) {
				setLink(&base, at[0], at[1], onLink(base, 0, 1))
			}
		}
		args := clusterSpans("the argument's", base)
		for _, run := range scheduled {
			wantOwnCluster(t, args, func() impl.Cluster { return run(base) })
		}
		runtime.KeepAlive(base)
	}
}

// What is done to a result is not seen in the argument or in a later result.
func TestChangedResultsOfSchedules(t *testing.T) {
	for _, c := range calmClusters(t) {
		before := cloneCluster(c)
		for name, run := range scheduled {
			first := run(c)
			want := cloneCluster(first)
			scribble(first.Bad, true)
			for i := range first.Reps {
				scribble(first.Reps[i].Voted, lockOn(88, 88))
				for _, x := range tallies(&first.Reps[i]) {
					scribble(x.L, ballot(88, 88, 88))
				}
				for k := range first.Reps[i].Heard {
					scribbleReports(first.Reps[i].Heard[k].L)
				}
			}
			for _, l := range first.Net {
				scribble(l, impl.Msg{})
			}
			if second := run(c); !sameCluster(second, want) || !sameCluster(c, before) {
				t.Fatal(name, second, want)
			}
		}
	}
}

func TestViewsShareNoMemory(t *testing.T) {
	c, kept := spareCluster(busyCluster(7, 1))
	first := impl.Views(c)
	want := slices.Clone(first)
	scribble(first, 88)
	if second := impl.Views(c); !slices.Equal(second, want) || !kept() {
		t.Error(second, want)
	}
}

func TestChainModifiesNothing(t *testing.T) {
	for _, n := range []int{4, 7} {
		plain := someRows(n, 5)
		var rooms [][]int
		for _, row := range plain {
			rooms = append(rooms, append(slices.Clone(row), 61, 0, -1))
		}
		var rows [][]int
		for _, room := range rooms {
			rows = append(rows, room[:n])
		}
		all := append(rows, []int{61}, nil, []int{1})
		flags := append(flagsOf(n, 2), true, true, true)
		roomsBefore, allBefore, flagsBefore := clones(rooms), clones(all), slices.Clone(flags)
		want, _ := impl.Chain(n, plain, flagsOf(n, 2))
		for range 2 {
			got, ok := impl.Chain(n, all[:5], flags[:n])
			if !ok || !slices.Equal(got, want) {
				t.Error(n, got, ok, want)
			}
			scribble(got, 88)
		}
		impl.Chain(n, all[:6], flags[:n])
		impl.Chain(n, all[:5], flags)
		same := slices.Equal[[]int]
		if !slices.EqualFunc(rooms, roomsBefore, same) || !slices.EqualFunc(all, allBefore, same) || !slices.Equal(flags, flagsBefore) {
			t.Error(n, all, flags)
		}
	}
}
