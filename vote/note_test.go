package vote_test

import (
	"fmt"
	"testing"

	"amphora/api"
	"amphora/frame"
	"amphora/plate"
	"amphora/shelf"
	"amphora/vote"
)

// bytesOf is a command's.
func bytesOf(t *testing.T, c api.Cmd) string {
	t.Helper()
	b, e := frame.Cmd(c)
	is(t, "frame.Cmd", e, api.OK)
	return string(b)
}

// noted is a shelf with notes by hand.
func noted(t *testing.T, notes map[int]string) (*plate.Plate, *shelf.Shelf) {
	t.Helper()
	p, _ := plate.New(300)
	s, e := shelf.Open(p)
	is(t, "shelf.Open", e, api.OK)
	for n, note := range notes {
		is(t, "Note", s.Note(n, []byte(note)), api.OK)
	}
	return p, s
}

// numbers is forms of numbers, and which ones they are.
func numbers() map[string]int {
	return map[string]int{
		"\x01\x01": 1, "\x01\xff": 255, "\x02\x01\x00": 256, "\x02\x01\x2c": 300, "\x02\xff\xff": 65535,
		"\x03\x01\x00\x00": 65536, "\x07\xff\xff\xff\xff\xff\xff\xff": 1<<56 - 1,
		"\x08\x01\x00\x00\x00\x00\x00\x00\x00": 1 << 56, "\x08\x0f\xff\xff\xff\xff\xff\xff\xff": most - 1,
		"\x08\x10\x00\x00\x00\x00\x00\x00\x00": most,
	}
}

// noNumbers is bytes that are no number, nor begin with one.
func noNumbers() []string {
	return []string{
		"", "\x01", "\x02\x01", "\x03\x01\x01", "\x08\x01\x01\x01\x01\x01\x01\x01", // too short
		"\x01\x00", "\x02\x00\x01", "\x08\x00\x01\x01\x01\x01\x01\x01\x01", // the first is 0
		"\x08\x10\x00\x00\x00\x00\x00\x00\x01", "\x08\x11\x00\x00\x00\x00\x00\x00\x00", // too great
		"\x08\x7f\xff\xff\xff\xff\xff\xff\xff", "\x08\x80\x00\x00\x00\x00\x00\x00\x01", "\x08\xff\xff\xff\xff\xff\xff\xff\xff",
		"\x09\x01\x00\x00\x00\x00\x00\x00\x00\x00", "\x09\x01\x00\x00\x00\x00\x00\x00\x00\x05", "\x09\x00\x01\x01\x01\x01\x01\x01\x01\x01",
		"\x10", "\xff", "\x10" + "\x01\x01\x01\x01\x01\x01\x01\x01" + "\x01\x01\x01\x01\x01\x01\x01\x01",
	}
}

// P11.1: an acceptor of notes that are as the chapter says.
func TestOpenOfNotes(t *testing.T) {
	for form, n := range numbers() {
		_, s := noted(t, map[int]string{0: form})
		a, e := vote.Open(s)
		is(t, "Open", e, api.OK)
		if a.Promised() != n || len(a.Votes(0)) != 0 {
			t.Errorf("%x: promised %d, votes%s", form, a.Promised(), short(a.Votes(0)))
		}
		for _, slot := range []int{1, 2, most} {
			p, _ := noted(t, map[int]string{slot: form + bytesOf(t, cmd(3))})
			open(t, p).has("a vote alone", 0, v(slot, n, 3))
		}
	}
	_, s := noted(t, map[int]string{0: "\x00"})
	if a, e := vote.Open(s); e != api.OK || a.Promised() != 0 {
		t.Errorf("a promise of 0: error %d", e)
	}
	p, _ := noted(t, map[int]string{
		0: "\x01\x05", 9: "\x01\x05" + bytesOf(t, cmd(1)), 4: "\x01\x02" + bytesOf(t, cmd(2)), 300: "\x01\x05" + bytesOf(t, api.Cmd{}),
	})
	b := open(t, p)
	b.has("many", 5, v(4, 2, 2), v(9, 5, 1), api.Vote{Slot: 300, Ballot: 5})
	b.refuses(4, 4)
	b.accept(5, 4, 3)
	b.has("one more", 5, v(4, 5, 3), v(9, 5, 1), api.Vote{Slot: 300, Ballot: 5})
}

// P11.1: notes that are not as it says.
func TestOpenOfWrongNotes(t *testing.T) {
	right := bytesOf(t, cmd(4))
	wrong := map[string]string{
		"a ballot of 0": "\x00" + right, "no command": "\x01\x05", "a ballot of 0 alone": "\x00",
		"a command alone": right[1:], "more behind": "\x01\x05" + right + "\x00", "two": "\x01\x05" + right + right,
		"a ballot too many": "\x01\x05\x01\x05" + right,
	}
	for i := range right {
		wrong[fmt.Sprintf("%d bytes of a command", i)] = "\x01\x05" + right[:i]
	}
	for _, n := range noNumbers() {
		wrong[fmt.Sprintf("no ballot, %x", n)] = n + right
		if n != "" {
			wrong[fmt.Sprintf("no ballot, %x, alone", n)] = n
		}
	}
	wrong["a kind above"] = "\x01\x05" + "\x00\x01\x0d" + "\x00\x00\x00\x00\x00\x00\x00\x00\x00\x00"
	wrong["a node above"] = "\x01\x05" + "\x00\x00\x00\x00\x00\x01\x10" + "\x00\x00\x00\x00\x00\x00"
	wrong["a number in another form"] = "\x01\x05" + "\x01\x00" + "\x00\x00\x00\x00\x00\x00\x00\x00\x00\x00\x00"
	for name, note := range wrong {
		for _, slot := range []int{1, 7, most} {
			refused(t, name, map[int]string{slot: note})
			refused(t, name, map[int]string{0: "\x01\x05", 3: "\x01\x05" + right, slot: note, most - 1: "\x01\x05" + right})
		}
	}
	for _, note := range append(noNumbers(), "\x01\x05\x00", "\x00\x00", "\x01\x05\x01\x05", "\x01\x05"+right) {
		refused(t, fmt.Sprintf("a promise of %x", note), map[int]string{0: note})
		refused(t, fmt.Sprintf("a promise of %x", note), map[int]string{0: note, 1: "\x01\x05" + right})
	}
}

// refused has notes be none of an acceptor, and stay as they are.
func refused(t *testing.T, name string, notes map[int]string) {
	t.Helper()
	_, s := noted(t, notes)
	if a, e := vote.Open(s); a != nil || e != api.ErrLog {
		t.Errorf("%s: error %d", name, e)
	}
	for n, note := range notes {
		if string(s.Noted(n)) != note {
			t.Errorf("%s: note %d is changed", name, n)
		}
	}
}

// A shelf whose notes are spoilt behind Open: calls end, and none panics.
func TestNotesSpoiltLater(t *testing.T) {
	for _, note := range noNumbers() {
		b := fresh(t, 200)
		b.accept(5, 1, 1)
		b.accept(5, 2, 2)
		is(t, "Note", b.shelf.Note(0, []byte(note)), api.OK)
		is(t, "Note", b.shelf.Note(1, []byte(note)), api.OK)
		b.Promised()
		b.Votes(1)
		b.Prepare(most, 1)
		b.Accept(most, 1, cmd(1))
		b.has("mended", most, v(1, most, 1), v(2, 5, 2))
	}
}
