package store

import "bastion/api"

// act is what is put and goes until it is committed, or undone, as far as the tree does not tell it.
type act struct {
	put    map[int]struct{} // the ids of the long values that were put in it, and are there
	done   []func()         // called when it is committed: what stood, and went, is freed
	undone []func()         // called when it is undone: what was put is freed
}

func newAct() act { return act{put: make(map[int]struct{})} }

// lay is the entry of a value that is put: a long one is laid on long blocks.
func (s *Store) lay(data string) (entry, api.Errno) {
	if len(data) <= Short {
		return entry{text: data}, api.OK
	}
	id, e := s.desk.Put(data)
	if e != api.OK {
		return entry{}, e
	}
	s.put[id] = struct{}{}
	s.undone = append(s.undone, func() { s.takeBack(id) })
	return entry{long: true, id: id}, api.OK
}

// leave frees the blocks of the long value under key, if there is one: now, if it was put in the act, and else when the act is committed, since it stands till then, wherever the disk is cut.
func (s *Store) leave(key string) {
	value, _ := s.pairs.Get(key)
	x, _ := entryIn(value)
	if x.long && !s.takeBack(x.id) {
		s.done = append(s.done, func() { s.desk.Drop(x.id) })
	}
}

// takeBack frees the blocks of a long value that was put in the act, and tells whether there was such a one. What was put may have gone, and another value be put with the same id: so it may be asked more than once.
func (s *Store) takeBack(id int) bool {
	_, is := s.put[id]
	if is {
		delete(s.put, id)
		s.desk.Drop(id)
	}
	return is
}

// end calls what is to be done at the act's end, and begins a new one.
func (s *Store) end(calls []func()) {
	for _, call := range calls {
		call()
	}
	s.act = newAct()
}
