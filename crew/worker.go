package crew

// work is a worker: it lays the versions of its own partitions, batch by batch.
func (c *crew) work(number int, inbox <-chan *sheet) {
	defer c.ended.Done()
	for s := range inbox {
		for _, t := range s.tasks {
			t.lay(number)
		}
		c.leave(s)
	}
}

// leave tells that a worker has laid its versions of a batch. The last one posts its transactions: by then all batches ahead of it are laid too, since each worker takes them in order.
func (c *crew) leave(s *sheet) {
	if s.unlaid.Add(-1) > 0 {
		return
	}
	for _, t := range s.tasks {
		c.posted <- t
	}
	s.tick()
}
