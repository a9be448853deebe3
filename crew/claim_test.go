package crew

import (
	"runtime"
	"sync"
	"sync/atomic"
	"testing"

	"prelude/api"
	"prelude/keys"
)

// 16.2: of all that claim a transaction at the same time one gets it.
func TestOneClaims(t *testing.T) {
	for range 3000 {
		one := newTask(api.Place{Batch: 1}, api.Tx{}, nil)
		var got atomic.Int64
		var all sync.WaitGroup
		for range 8 {
			all.Go(func() {
				if one.claim() {
					got.Add(1)
				}
			})
		}
		if all.Wait(); got.Load() != 1 {
			t.Fatalf("%d have claimed it", got.Load())
		}
	}
}

// 16.3: a batch is not complete as long as its transactions are being posted, though others may have done them by then: so nothing is sent into a channel that is closed.
func TestCompleteBehindPosting(t *testing.T) {
	c := newCrew(api.Layout{Workers: 1, Hands: 1, Parts: 1, Ahead: 1}, nil, [][]api.Tx{{{}}})
	for range cap(c.posted) {
		c.posted <- newTask(api.Place{}, api.Tx{}, nil)
	}
	s := c.sheets[0]
	left := make(chan struct{})
	go func() {
		c.leave(s)
		close(left)
	}()
	c.finish(s.tasks[0])
	for range 1000 {
		runtime.Gosched()
	}
	select {
	case <-s.complete:
		t.Error("it is complete, and not posted")
	default:
	}
	<-c.posted
	<-left
	<-s.complete
}

// 16.3: who would wait for what is done goes on, and who waits for what is not done is told once.
func TestWaits(t *testing.T) {
	one, first, second := newTask(api.Place{}, api.Tx{}, nil), newTask(api.Place{}, api.Tx{}, nil), newTask(api.Place{}, api.Tx{}, nil)
	if !one.await(first) || !one.await(second) {
		t.Error("it is done")
	}
	if list := one.finish(); len(list) != 2 || list[0] != first || list[1] != second {
		t.Errorf("%v have waited", list)
	}
	if one.await(first) {
		t.Error("it is not done")
	}
	if one.waiting != nil {
		t.Errorf("%v are kept", one.waiting)
	}
}

// How it is meant: each worker lays the versions of its own partitions, on their shelves.
func TestOwnPartitions(t *testing.T) {
	var b []api.Tx
	for i := range int64(api.MaxTxs) {
		b = append(b, api.Tx{Writes: []api.Key{{Row: i}}})
	}
	c := newCrew(api.Layout{Workers: 3, Hands: 1, Parts: 7, Ahead: 1}, nil, [][]api.Tx{b})
	for worker := range 3 {
		for _, x := range c.sheets[0].tasks {
			x.lay(worker)
			k := x.tx.Writes[0]
			part, _ := keys.Partition(k, 7)
			if is, want := c.shelves[part].newest(k) > 0, part%3 <= worker; is != want {
				t.Errorf("behind worker %d the version of %v is laid: %v", worker, k, is)
			}
		}
	}
}
