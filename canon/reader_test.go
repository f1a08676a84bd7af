package canon_test

import (
	"strings"
	"testing"

	"lockbox/api"
	"lockbox/canon"
)

// 2.2: the first byte that can't stand there tells; ahead of it the bytes only end.
func TestFirstWrongByte(t *testing.T) {
	six := strings.Repeat("\x09\x01\x01", 6)
	two := "\x09\x01\x02" // the front of a list of two items
	for _, c := range []struct{ s, last string }{
		{"", "\x0a"}, {"", "\xff"},
		{"\x01", "\x00"}, {"\x02", "\x00"}, {"\x07", "\x00"}, // a number with a 0 at its front
		{"\x08", "\x08"}, {"\x08", "\x09"}, {"\x08", "\xff"}, {"\x09", "\x08"}, {"\x09", "\xff"}, // a length that is no number
		{"\x08\x01", "\x00"}, {"\x08\x02", "\x00"}, {"\x09\x01", "\x00"}, {"\x09\x07", "\x00"},
		{"\x08\x02\xff", "\xfd"}, {"\x08\x02\xff", "\xff"}, {"\x08\x03\x01\x00", "\x00"}, {"\x08\x07\x01\x00\x00\x00\x00\x00", "\x00"}, {"\x08\x07\xff\xff\xff\xff\xff\xff", "\xff"},
		{"\x09\x02\x04", "\x01"}, {"\x09\x02\xff", "\x00"}, {"\x09\x03\x01\x00", "\x00"}, {"\x09\x07\xff\xff\xff\xff\xff\xff", "\xff"},
		{six, "\x09"}, {six, "\x0a"}, {"\x09\x01\x02\x00" + six[3:], "\x0a"},
		{two, "\x0a"}, {two + "\x00", "\x0a"}, {two + "\x01", "\x00"}, {two + "\x08\x01\x01a", "\x0b"},
		// Behind a text that takes all room but a byte, 0 alone may stand.
		{two + "\x08\x02\xff", "\xf9"}, {two + "\x08\x02\xff\xf8" + long(65528), "\x01"}, {two + "\x08\x02\xff\xf8" + long(65528), "\x08"}, {two + "\x08\x02\xff\xf8" + long(65528), "\x09"},
		{two + "\x08\x02\xff\xf7" + long(65527), "\x02"}, {two + "\x08\x02\xff\xf7" + long(65527) + "\x08", "\x08"},
		// Lists around it ask for room as well: here for two more items.
		{two + two + "\x08\x02\xff", "\xf5"}, {two + "\x08\x02\xff\xf6" + long(65526) + "\x09\x01", "\x01"},
	} {
		if x, rest, e := canon.Front(c.s); e != api.ErrShort || rest != "" || !canon.Same(x, api.Item{}) {
			t.Errorf("Front(%.30x..), %d bytes: %v, and it only ends", c.s, len(c.s), e)
		}
		if _, e := canon.Decode(c.s); e != api.ErrShort {
			t.Errorf("Decode(%.30x..), %d bytes: %v, and it only ends", c.s, len(c.s), e)
		}
		for _, behind := range []string{"", "\x00", "\xff", long(70000)} {
			if x, rest, e := canon.Front(c.s + c.last + behind); e != api.ErrForm || rest != "" || !canon.Same(x, api.Item{}) {
				t.Errorf("Front(%.30x..) and %x: %v", c.s, c.last, e)
			}
			if _, e := canon.Decode(c.s + c.last + behind); e != api.ErrForm {
				t.Errorf("Decode(%.30x..) and %x: %v", c.s, c.last, e)
			}
		}
	}
}

// 2.2: what still may stand there is not refused too early.
func TestOnlyShort(t *testing.T) {
	two := "\x09\x01\x02"
	for _, s := range []string{
		"", "\x01", "\x07", "\x07\x01", "\x07\xff\xff\xff\xff\xff\xff", "\x08", "\x08\x01", "\x08\x01\x01", "\x08\x07", "\x08\x07\xff\xff\xff\xff\xff\xff",
		"\x08\x02\xff\xfc", "\x08\x02\xff\xfc" + long(65531), "\x09", "\x09\x01", "\x09\x01\x01", "\x09\x07\xff\xff\xff\xff\xff\xff", "\x09\x02\x04\x00",
		strings.Repeat("\x09\x01\x01", 6), strings.Repeat("\x09\x01\x01", 5) + "\x09", "\x09\x02\x04\x00" + strings.Repeat("\x00", 1023),
		two + "\x08\x02\xff\xf8", two + "\x08\x02\xff\xf8" + long(65528), two + two + "\x08\x02\xff\xf4", two + "\x08\x02\xff\xf7" + long(65527) + "\x08",
	} {
		if x, rest, e := canon.Front(s); e != api.ErrShort || rest != "" || !canon.Same(x, api.Item{}) {
			t.Errorf("Front(%.30x..), %d bytes: %v", s, len(s), e)
		}
	}
}

// 2.2: how many items follow is held against the room that is left.
func TestItemsAndRoom(t *testing.T) {
	front := "\x09\x01\x02\x08\x02\xfb\xfc" + long(0xfbfc) // 1021 bytes are left for one item
	for _, c := range []struct {
		s    string
		want api.Errno
	}{
		{front + "\x09\x02\x03", api.ErrShort},
		{front + "\x09\x02\x03\xf9", api.ErrShort},
		{front + "\x09\x02\x03\xfa", api.ErrForm},
		{front + "\x09\x02\x03\xf9" + strings.Repeat("\x00", 1016), api.ErrShort},
		{front + "\x09\x02\x03\xf9" + strings.Repeat("\x00", 1016) + "\x01", api.ErrForm},
		{front + "\x09\x02\x03\xf9" + strings.Repeat("\x00", 1017), api.OK},
		{front + "\x09\x02\x03\xf8" + strings.Repeat("\x00", 1015) + "\x01\x07", api.OK},
		{front + "\x09\x02\x03\xf8" + strings.Repeat("\x00", 1014) + "\x01\x07\x01", api.ErrForm},
	} {
		if _, e := canon.Decode(c.s); e != c.want {
			t.Errorf("%d bytes, the last %x: %v, not %v", len(c.s), c.s[len(c.s)-4:], e, c.want)
		}
	}
}

// R3: what is read shares no list with what is read again.
func TestDecodeSharesNothing(t *testing.T) {
	s := "\x09\x01\x02\x00\x09\x01\x01\x01\x07"
	x, _ := canon.Decode(s)
	x.L[0], x.L[1].L[0] = canon.Text("z"), canon.Text("z")
	if y, e := canon.Decode(s); e != api.OK || y.L[0].N != 0 || y.L[1].L[0].N != 7 {
		t.Error("items read from the same bytes share a list")
	}
}
