package crew

// serve is a hand: it takes transactions that nobody has claimed, and those that have waited and can go on, until there are no more.
func (c *crew) serve() {
	defer c.ended.Done()
	for {
		select {
		case t, more := <-c.posted:
			if !more {
				return
			}
			if t.claim() {
				c.do(t)
			}
		case t := <-c.woken:
			c.do(t)
		}
	}
}

// do goes on with a claimed transaction, and with those that must be done ahead of it and that nobody else has claimed.
func (c *crew) do(t *task) {
	for t != nil {
		t = c.goOn(t)
	}
}

// goOn does a claimed transaction to its end, or lets it wait for one that must be done first; from then on it may be in another hand. It answers what the hand goes on with: the one that must be done first, if nobody has claimed it; else nothing.
//
// Nobody waits for ever: all wait for transactions that are claimed and stand ahead of them in the log, and the first of these waits for none.
func (c *crew) goOn(t *task) *task {
	for {
		lacked, all := t.advance(c.lib)
		if all {
			c.finish(t)
			return nil
		}
		first := c.sheets[lacked.Batch-1].tasks[lacked.Index]
		if !first.await(t) {
			continue
		}
		if first.claim() {
			return first
		}
		return nil
	}
}

// finish tells that a transaction is done, to those that wait for it first: so nothing is sent any more once all batches are complete.
func (c *crew) finish(t *task) {
	for _, other := range t.finish() {
		c.woken <- other
	}
	c.sheets[t.place.Batch-1].tick()
}
