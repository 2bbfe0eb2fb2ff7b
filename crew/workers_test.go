package crew_test

import (
	"fmt"
	"runtime"
	"runtime/metrics"
	"sync"
	"sync/atomic"
	"testing"
	"time"

	"splittally/api"
	"splittally/crew"
)

// started is how many goroutines a call starts. Those that the runtime starts for itself do not come at each of several calls.
func started(call func()) int {
	count := func() int {
		sample := []metrics.Sample{{Name: "/sched/goroutines-created:goroutines"}}
		metrics.Read(sample)
		return int(sample[0].Value.Uint64())
	}
	least := -1
	for range 5 {
		before := count()
		call()
		if n := count() - before; least < 0 || n < least {
			least = n
		}
	}
	return least
}

func splitting(l []split) func() {
	totals, wants := apart(l)
	return func() { crew.Splits(totals, wants) }
}

func merging(l [][]api.Entry) func() { return func() { crew.MergeAll(l) } }

func TestEachTotalHasAWorkerOfItsOwn(t *testing.T) { // P15.1
	for _, n := range []int{0, 1, 2, 3, 8, 9, 100, 199, 200} {
		if got := started(splitting(splits(n))); got != n {
			t.Errorf("%d totals have %d workers", n, got)
		}
	}
}

func TestEachTwoListsHaveAWorkerOfTheirOwn(t *testing.T) { // P15.2
	// Whatever is merged first, each merge makes one of two.
	for _, n := range []int{1, 2, 3, 4, 5, 8, 9, 100, 199, 200} {
		if got := started(merging(writers(n, 0))); got < n-1 {
			t.Errorf("%d lists have %d workers", n, got)
		}
	}
}

// seenAtOnce is how many workers are seen beside each other while a call is made again and again: some tries, or till they are enough.
func seenAtOnce(call func(), enough int) int {
	// One thread alone counts them rightly: none comes or goes meanwhile.
	defer runtime.GOMAXPROCS(runtime.GOMAXPROCS(1))
	before := runtime.NumGoroutine() + 1
	var seen atomic.Int64
	var done atomic.Bool
	var watcher sync.WaitGroup
	watcher.Go(func() {
		for !done.Load() {
			seen.Store(max(seen.Load(), int64(runtime.NumGoroutine()-before)))
			runtime.Gosched()
		}
	})
	for tries := 0; tries < 2000 && int(seen.Load()) < enough; tries++ {
		call()
	}
	done.Store(true)
	watcher.Wait()
	return int(seen.Load())
}

func TestWorkersAreBesideEachOther(t *testing.T) { // P15.1, P15.2
	if n := seenAtOnce(splitting(splits(200)), 50); n < 50 {
		t.Errorf("of 200 totals %d at once", n)
	}
	if n := seenAtOnce(merging(writers(200, 0)), 50); n < 50 {
		t.Errorf("of 200 lists %d at once", n)
	}
}

func TestNoWorkerIsLeft(t *testing.T) { // LANGUAGE.md: all of them are joined
	var calls []func()
	for _, l := range sampleSplits() {
		calls = append(calls, splitting(l))
	}
	for _, l := range sampleLists() {
		calls = append(calls, merging(l))
	}
	// The first two are too many already, and those behind them, too.
	full := make([][]api.Entry, 200)
	for i := range full {
		full[i] = from(i*8, 8)
	}
	calls = append(calls, merging(full), merging(full[:3]), merging(full[:4]))
	for i, call := range calls {
		before := runtime.NumGoroutine()
		for range 20 {
			call()
		}
		// One that has done its work may take some time to end.
		for tries := 0; tries < 1000 && runtime.NumGoroutine() > before; tries++ {
			time.Sleep(time.Millisecond)
		}
		if n := runtime.NumGoroutine(); n > before {
			t.Errorf("call %d: %d workers are left", i, n-before)
		}
	}
}

// answers are what all of the samples come to.
func answers() string {
	var told []any
	for _, l := range sampleSplits() {
		totals, wants := apart(l)
		shares, code := crew.Splits(totals, wants)
		told = append(told, shares, code)
	}
	for _, l := range sampleLists() {
		entries, code := crew.MergeAll(l)
		told = append(told, entries, code)
	}
	return fmt.Sprint(told)
}

func TestHowTheWorkersRunDoesNotMatter(t *testing.T) { // what comes of P15.1 and P15.2
	want := answers()
	defer runtime.GOMAXPROCS(runtime.GOMAXPROCS(0))
	for _, n := range []int{1, 2, 3, 8, 64} {
		runtime.GOMAXPROCS(n)
		for range 20 {
			if got := answers(); got != want {
				t.Fatalf("by %d at once: %s, want %s", n, got, want)
			}
		}
	}
}

func TestManyCallsAtOnce(t *testing.T) { // 'What holds everywhere': lists may be handed in to several calls, as none of them writes there
	want := answers()
	totals, wants := apart(splits(50))
	shares, _ := reckoned(splits(50))
	l := writers(50, 20)
	var callers sync.WaitGroup
	for range 16 {
		callers.Go(func() {
			for range 20 {
				if got := answers(); got != want {
					t.Errorf("%s, want %s", got, want)
				}
				if got, code := crew.Splits(totals, wants); !areEqual(got, shares) || code != api.OK {
					t.Errorf("Splits: %v %d, want %v", got, code, shares)
				}
				if got, code := crew.MergeAll(l); fmt.Sprint(got) != fmt.Sprint(l[20]) || code != api.OK {
					t.Errorf("MergeAll: %v %d, want %v", got, code, l[20])
				}
			}
		})
	}
	callers.Wait()
}
