package crew_test

import (
	"math/rand"
	"runtime"
	"sync"
	"testing"
	"time"

	"prelude/api"
	"prelude/crew"
)

// settles looks that there are no more goroutines than there were. (One that has told its end may take a moment to go.)
func settles(t *testing.T, were int) {
	t.Helper()
	for range 1000 {
		if runtime.NumGoroutine() <= were {
			return
		}
		time.Sleep(time.Millisecond)
	}
	t.Errorf("%d goroutines, not %d", runtime.NumGoroutine(), were)
}

// 16.3: all goroutines have ended, whether there was something to do, nothing, or an error.
func TestAllEnd(t *testing.T) {
	lib := bank(t)
	were := runtime.NumGoroutine()
	for _, l := range layouts() {
		for _, b := range []log{nil, {nil}, example(), {puts(64, 1), puts(64, 2), puts(64, 3)}} {
			b.run(t, l, lib)
			settles(t, were)
		}
		for _, b := range []log{{{{Proc: -1}}}, {puts(65, 1)}} {
			if _, _, err := crew.Run(l, lib, b); err == nil {
				t.Fatal("no error")
			}
			settles(t, were)
		}
	}
}

// 16.3: they have ended when Run answers, not later. (On one processor at most the last one of them is still going.)
func TestEndAheadOfAnswer(t *testing.T) {
	defer runtime.GOMAXPROCS(runtime.GOMAXPROCS(1))
	lib := bank(t)
	were := runtime.NumGoroutine()
	least := 1000
	for range 20 {
		example().run(t, all(), lib)
		least = min(least, runtime.NumGoroutine()-were)
		settles(t, were)
	}
	if least > 8 {
		t.Errorf("%d goroutines are there behind each run", least)
	}
}

// 16.3: Runs at the same time, of the same batches and of others, know nothing of each other.
func TestRunsAtTheSameTime(t *testing.T) {
	r := rand.New(rand.NewSource(163))
	lib := bank(t)
	were := runtime.NumGoroutine()
	logs := []log{example(), anyLog(r, lib, 4), anyLog(r, lib, 20), {puts(64, 5)}, nil}
	var all sync.WaitGroup
	for i := range 40 {
		b, l := logs[i%len(logs)], anyLayout(r)
		want := b.plain(t, lib)
		all.Go(func() {
			for range 5 {
				outcomes, rows, err := crew.Run(l, lib, b)
				if got := (answer{outcomes, rows}); err != nil || !got.same(want) {
					t.Errorf("%v: %v, %v, not %v", l, got, err, want)
				}
			}
		})
		all.Go(func() {
			if _, _, err := crew.Run(api.Layout{}, lib, b); err != error(api.ErrWorkers) {
				t.Errorf("%v", err)
			}
		})
	}
	all.Wait()
	settles(t, were)
}

// 16.3: nothing of one Run is left for the next one: each begins with nothing at any key.
func TestRunsOneBehindTheOther(t *testing.T) {
	lib := bank(t)
	first, second := log{{put(10, 1), put(5, 2)}}, log{{bump(1), move(1, 1, 2)}}
	want := second.plain(t, lib)
	for _, l := range layouts() {
		first.run(t, l, lib)
		if got := second.run(t, l, lib); !got.same(want) {
			t.Errorf("%v: %v, not %v", l, got, want)
		}
	}
}
