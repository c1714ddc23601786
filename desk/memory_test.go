package desk_test

import (
	"bytes"
	"reflect"
	"slices"
	"testing"

	"amphora/api"
	"amphora/desk"
)

// same tells whether steps are, whatever lists that are empty are made of.
func same(a, b []api.Step) bool {
	return slices.EqualFunc(a, b, func(x, y api.Step) bool {
		for _, s := range []*api.Step{&x, &y} {
			s.Ask.Bytes, s.Keep, s.Cmd.Nodes = append([]byte{}, s.Ask.Bytes...), append([]int{}, s.Keep...), append([]int{}, s.Cmd.Nodes...)
		}
		return reflect.DeepEqual(x, y)
	})
}

// spoil writes over all that a step reaches.
func spoil(s *api.Step) {
	b, keep, nodes := s.Ask.Bytes, s.Keep, s.Cmd.Nodes
	for i := range b[:cap(b)] {
		b[:cap(b)][i] ^= 0xff
	}
	for _, l := range [][]int{keep[:cap(keep)], nodes[:cap(nodes)]} {
		for i := range l {
			l[i] += 1000
		}
	}
}

// all is a script with all kinds of lines, each twice.
func all() (string, []api.Step) {
	script, steps := head, []api.Step(nil)
	for _, x := range append(lines(), lines()...) {
		script += x.text + "\n"
		steps = append(steps, x.step)
	}
	return script, steps
}

func TestStepsAreNewMemory(t *testing.T) {
	script, want := all()
	_, one, err := desk.Parse(script)
	_, other, _ := desk.Parse(script)
	if err != nil {
		t.Fatal(err)
	}
	for i := range one {
		spoil(&one[i])
		if !same(one[i+1:], want[i+1:]) {
			t.Fatalf("step %d shares memory with others", i)
		}
	}
	clear(one[:cap(one)])
	if !same(other, want) {
		t.Fatal("two answers share memory")
	}
	parses(t, script, want...)
}

func TestStepsAreNotChanged(t *testing.T) {
	for _, x := range lines() {
		s := x.step
		s.Ask.Bytes = append(slices.Clone(s.Ask.Bytes), 0xa1, 0xa2)[:len(s.Ask.Bytes)]
		s.Keep = append(slices.Clone(s.Keep), 71, 72)[:len(s.Keep)]
		s.Cmd.Nodes = append(slices.Clone(s.Cmd.Nodes), 81, 82)[:len(s.Cmd.Nodes)]
		got, e := desk.Print(s)
		if e != api.OK || got != x.text || !same([]api.Step{s}, []api.Step{x.step}) {
			t.Fatalf("%q: %q, %v, %+v", x.text, got, e, s)
		}
		n, k, m := len(s.Ask.Bytes), len(s.Keep), len(s.Cmd.Nodes)
		if !bytes.Equal(s.Ask.Bytes[n:n+2], []byte{0xa1, 0xa2}) || !slices.Equal(s.Keep[k:k+2], []int{71, 72}) || !slices.Equal(s.Cmd.Nodes[m:m+2], []int{81, 82}) {
			t.Fatalf("%q: the room behind a list has changed", x.text)
		}
		spoil(&s)
		if got != x.text {
			t.Fatal("a line hangs on its step")
		}
	}
}

func TestLinesAreNewMemory(t *testing.T) {
	script := "cluster 1 1 100 1 0\nsettle 10\nput 0 a 41\nget 0 a\n"
	one, _ := desk.Run(script)
	other, _ := desk.Run(script)
	clear(one[:cap(one)])
	if want := []string{"ok", "ok", "told 1 1", "ok", "told 2 1 41"}; !slices.Equal(other, want) {
		t.Fatal(other)
	}
	again, _ := desk.Run(script)
	if !slices.Equal(other, again) {
		t.Fatal(other, again)
	}
}
