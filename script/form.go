package script

import (
	"strconv"
	"strings"

	"aumbry/api"
)

// kind tells a kind's word, and which fields it has.
func kind(k uint8) (word string, hasN, hasRun, hasKeep bool) {
	switch k {
	case api.EvFormat:
		return "format", false, false, false
	case api.EvBoot:
		return "boot", true, false, false
	case api.EvRun:
		return "run", false, true, false
	case api.EvCollect:
		return "collect", true, false, false
	case api.EvArm:
		return "arm", true, false, false
	case api.EvOff:
		return "off", false, false, false
	case api.EvOn:
		return "on", true, false, true
	case api.EvRoots:
		return "roots", false, false, false
	}
	return "", false, false, false
}

// hexDigits are those of base 16.
const hexDigits = "0123456789abcdef"

// formBytes is a field of bytes.
func formBytes(s string) string {
	if s == "" {
		return "-"
	}
	var b strings.Builder
	for i := range len(s) {
		b.WriteByte(hexDigits[s[i]>>4])
		b.WriteByte(hexDigits[s[i]&15])
	}
	return b.String()
}

// formList is a field of a list.
func formList[T any](l []T, form func(T) string) string {
	if len(l) == 0 {
		return "none"
	}
	var words []string
	for _, x := range l {
		words = append(words, form(x))
	}
	return strings.Join(words, ",")
}

// actWord is an act's word; empty of another kind.
func actWord(k uint8) string {
	switch k {
	case api.ActEvict:
		return "evict"
	case api.ActCollect:
		return "collect"
	}
	return ""
}

// formAct is an act in a list.
func formAct(a api.Act) string {
	return actWord(a.Kind) + "." + strconv.Itoa(a.After) + "." + strconv.Itoa(a.N)
}

// formTruth is a field of yes or no.
func formTruth(is bool) string {
	if is {
		return "yes"
	}
	return "no"
}

// Form is an event's line. (P28.3)
func Form(e api.Event) (string, api.Errno) {
	word, hasN, hasRun, hasKeep := kind(e.Kind)
	w := e.World
	blank := w.Fuel == 0 && w.Memory == 0 && len(w.Acts) == 0 && len(e.Src) == 0
	if word == "" || !hasN && e.N != 0 || !hasKeep && len(e.Keep) > 0 || !hasRun && !blank {
		return "", api.ErrArg
	}
	for _, a := range w.Acts {
		if actWord(a.Kind) == "" {
			return "", api.ErrArg
		}
	}
	words := []string{word}
	if hasRun {
		words = append(words, strconv.Itoa(w.Fuel), strconv.Itoa(w.Memory), formList(w.Acts, formAct), formBytes(string(e.Src)))
	}
	if hasKeep {
		words = append(words, formList(e.Keep, strconv.Itoa))
	}
	if hasN {
		words = append(words, strconv.Itoa(e.N))
	}
	return strings.Join(words, " "), api.OK
}

// Tell is what is answered, as a line. (P28.3)
func Tell(t api.Told) string {
	return strings.Join([]string{
		strconv.Itoa(int(t.Err)), formTruth(t.Yes), strconv.Itoa(int(t.End)), strconv.Itoa(t.Steps), formTruth(t.Dead),
		formBytes(t.Text), formList(t.Lines, formBytes),
	}, " ")
}
