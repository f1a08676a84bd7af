package segs

import (
	"slices"
	"strings"

	"lockbox/api"
	"lockbox/canon"
	"lockbox/disk"
	"lockbox/frame"
)

// opening is a store that is read from its disk. Nothing is changed until all of it was read and is right.
type opening struct {
	store *Store
	torn  []tear
}

// tear is how many bytes of an extent stand ahead of those that were torn.
type tear struct {
	extent int
	long   int
}

// Open is the store of a disk.
func Open(d *disk.Disk) (*Store, api.Errno) {
	o := opening{store: &Store{d: d, falls: d.Falls()}}
	e := mayHave(d)
	if e != api.OK {
		goto fails
	}
	if e = o.readLists(); e != api.OK {
		goto fails
	}
	if e = o.readSegments(); e != api.OK {
		goto fails
	}
	if e = o.mayBegin(); e != api.OK {
		goto fails
	}
	if e = o.trim(); e != api.OK {
		goto fails
	}
	if e = o.begin(); e != api.OK {
		goto fails
	}
	return o.store, api.OK
fails:
	return nil, e
}

// mayHave is why a disk can't have a store.
func mayHave(d *disk.Disk) api.Errno {
	has, e := d.Read(0)
	switch {
	case e != api.OK:
		return e
	case d.Extents() < minExtents || len(has)+d.Room(0) < MinRoom:
		return api.ErrArg
	}
	return api.OK
}

// scan is the bodies in an extent, at whose end bytes may be torn or not.
func (o *opening) scan(x int, mayTear bool) ([]string, api.Errno) {
	text, e := o.store.d.Read(x)
	if e != api.OK {
		return nil, e
	}
	bodies, at, why := frame.Scan(text)
	switch {
	case why == api.ErrShort && mayTear:
		o.torn = append(o.torn, tear{extent: x, long: at})
	case why != api.ErrNone:
		return nil, api.ErrForm
	}
	return bodies, api.OK
}

// readLists finds the list that counts.
func (o *opening) readLists() api.Errno {
	for x := range firstSegment {
		bodies, e := o.scan(x, true)
		if e != api.OK {
			return e
		}
		for _, body := range bodies {
			epoch, segments, ok := readList(body, o.store.d.Extents())
			if !ok {
				return api.ErrForm
			}
			if epoch >= o.store.epoch {
				o.store.lists, o.store.epoch, o.store.segments = x, epoch, segments
			}
		}
	}
	return api.OK
}

// readList is what a list on a disk of so many extents says.
func readList(body string, extents int) (epoch int, segments []segment, ok bool) {
	x, e := canon.Decode(body)
	if e != api.OK || len(x.L) < 2 || !canon.Shape(x, "t"+strings.Repeat("n", len(x.L)-1)) {
		return 0, nil, false
	}
	if x.L[0].S != listMark || x.L[1].N > maxEpoch {
		return 0, nil, false
	}
	for _, y := range x.L[2:] {
		g := segment{extent: y.N}
		if g.extent < firstSegment || g.extent >= extents || slices.Contains(segments, g) {
			return 0, nil, false
		}
		segments = append(segments, g)
	}
	return x.L[1].N, segments, true
}

// readSegments finds the records. Only the last segment may be torn: what stands ahead of it was sure when it was turned to.
func (o *opening) readSegments() api.Errno {
	s := o.store
	for i := range s.segments {
		g := &s.segments[i]
		bodies, e := o.scan(g.extent, i == len(s.segments)-1)
		if e != api.OK {
			return e
		}
		g.ahead = len(s.records)
		if len(bodies) == 0 || !isHead(bodies[0], i, g.ahead) || slices.ContainsFunc(bodies[1:], tooLong) {
			return api.ErrForm
		}
		s.records = append(s.records, bodies[1:]...)
	}
	return api.OK
}

// isHead tells whether a body is the head of a segment.
func isHead(body string, number, ahead int) bool {
	x, e := canon.Decode(body)
	return e == api.OK && canon.Same(x, canon.List(canon.Text(segmentMark), canon.Num(number), canon.Num(ahead)))
}

func tooLong(record string) bool { return len(record) > MaxRecord }

// mayBegin is why the store can't have the segment that it lacks.
func (o *opening) mayBegin() api.Errno {
	if len(o.store.segments) > 0 {
		return api.OK
	}
	return o.store.mayTurn()
}

// trim trims off what is torn.
func (o *opening) trim() api.Errno {
	for _, t := range o.torn {
		if e := o.store.d.Trim(t.extent, t.long); e != api.OK {
			return e
		}
	}
	return api.OK
}

// begin turns to a first segment, if there is none, and makes what was found sure: it may still wait from ahead of the opening.
func (o *opening) begin() api.Errno {
	if len(o.store.segments) == 0 {
		return o.store.turn()
	}
	return o.store.sync()
}
