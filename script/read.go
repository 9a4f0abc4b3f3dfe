package script

import (
	"strconv"
	"strings"

	"aumbry/api"
)

// reader takes the words of a line one by one.
type reader struct {
	words []string
	wrong bool // a word was none of its field
}

// next is the next word.
func (r *reader) next() string {
	if len(r.words) == 0 {
		r.wrong = true
		return ""
	}
	w := r.words[0]
	r.words = r.words[1:]
	return w
}

// number reads a number, which is written in one way alone.
func (r *reader) number(word string) int {
	n, err := strconv.Atoi(word)
	if err != nil || strconv.Itoa(n) != word {
		r.wrong = true
		return 0
	}
	return n
}

// act reads an act.
func (r *reader) act(word string) api.Act {
	parts := strings.Split(word, ".")
	if len(parts) != 3 {
		r.wrong = true
		return api.Act{}
	}
	a := api.Act{After: r.number(parts[1]), N: r.number(parts[2])}
	for _, k := range [...]uint8{api.ActEvict, api.ActCollect} {
		if actWord(k) == parts[0] {
			a.Kind = k
		}
	}
	if a.Kind == 0 {
		r.wrong = true
	}
	return a
}

// bytes reads bytes.
func (r *reader) bytes(word string) []byte {
	if word == "-" {
		return nil
	}
	if word == "" || len(word)%2 != 0 {
		r.wrong = true
		return nil
	}
	b := make([]byte, 0, len(word)/2)
	for i := 0; i < len(word); i += 2 {
		high, low := strings.IndexByte(hexDigits, word[i]), strings.IndexByte(hexDigits, word[i+1])
		if high < 0 || low < 0 {
			r.wrong = true
			return nil
		}
		b = append(b, byte(high<<4|low))
	}
	return b
}

// readList reads a list, thing by thing.
func readList[T any](word string, one func(string) T) []T {
	if word == "none" {
		return nil
	}
	var l []T
	for _, w := range strings.Split(word, ",") {
		l = append(l, one(w))
	}
	return l
}

// Read is the event of a line. (P28.3)
func Read(line string) (api.Event, api.Errno) {
	r := &reader{words: strings.Split(line, " ")}
	first := r.next()
	for k := range uint8(api.EvRoots + 1) {
		word, hasN, hasRun, hasKeep := kind(k)
		if word == "" || word != first {
			continue
		}
		e := api.Event{Kind: k}
		if hasRun {
			e.World = api.World{Fuel: r.number(r.next()), Memory: r.number(r.next()), Acts: readList(r.next(), r.act)}
			e.Src = r.bytes(r.next())
		}
		if hasKeep {
			e.Keep = readList(r.next(), r.number)
		}
		if hasN {
			e.N = r.number(r.next())
		}
		if r.wrong || len(r.words) > 0 {
			break
		}
		return e, api.OK
	}
	return api.Event{}, api.ErrForm
}

// readDisk reads how many sectors a disk is to have.
func readDisk(line string) (int, bool) {
	r := &reader{words: strings.Split(line, " ")}
	word := r.next()
	n := r.number(r.next())
	return n, word == "disk" && !r.wrong && len(r.words) == 0
}
