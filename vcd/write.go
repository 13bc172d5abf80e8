package vcd

import (
	"strconv"
	"strings"

	"sluicegate/api"
)

// The digits of Ids are all bytes that can be seen.
const (
	firstDigit = '!'
	lastDigit  = '~'
	base       = lastDigit - firstDigit + 1
)

// Write returns the dump of a trace.
func Write(t Trace) (string, api.Errno) {
	if err := t.Check(); err != api.OK {
		return "", err
	}
	var text strings.Builder
	t.write(func(words ...string) { text.WriteString(strings.Join(words, " ") + "\n") })
	return text.String(), api.OK
}

// write passes on the words of each line.
func (t Trace) write(line func(words ...string)) {
	line("$timescale", "1", "ns", "$end")
	line("$scope", "module", t.Top, "$end")
	for i, x := range t.Vars {
		line("$var", "wire", strconv.Itoa(x.Width), id(i), x.Name, "$end")
	}
	line("$upscope", "$end")
	line("$enddefinitions", "$end")
	for at, row := range t.Values {
		line("#" + strconv.Itoa(at))
		for i, v := range row {
			if at == 0 || v != t.Values[at-1][i] {
				line("b"+v.Text(), id(i))
			}
		}
	}
}

// id returns the Id of a variable.
func id(n int) string {
	digits := []byte{byte(firstDigit + n%base)}
	for n /= base; n > 0; n /= base {
		digits = append(digits, byte(firstDigit+n%base))
	}
	return string(digits)
}
