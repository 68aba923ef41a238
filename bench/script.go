package bench

import (
	"strconv"
	"strings"

	"penumbra/api"
)

// A deed is what one line of a script does: what it tells, or an error, by which nothing is changed.
type deed func(d *desk) (string, api.Errno)

// A command has numbers behind its name.
type command struct {
	name  string
	count int // of its numbers
	does  func(d *desk, numbers []int) (string, api.Errno)
}

// A plain command is its name alone.
type plain struct {
	does deed
}

func commands() []command {
	return []command{
		{"side", 1, (*desk).side},
		{"rect", 6, (*desk).rect},
		{"disc", 5, (*desk).disc},
		{"wedge", 6, (*desk).wedge},
		{"move", 2, (*desk).move},
		{"dir", 2, (*desk).dir},
		{"all", 1, (*desk).all},
		{"miss", 1, (*desk).miss},
		{"see", 2, (*desk).see},
		{"prove", 2, (*desk).prove},
		{"same", 1, (*desk).same},
	}
}

func plains() map[string]plain {
	return map[string]plain{
		"none":   {(*desk).none},
		"mass":   {(*desk).mass},
		"moment": {(*desk).moment},
		"katz":   {(*desk).katz},
		"solve":  {(*desk).solve},
		"width":  {(*desk).width},
		"pack":   {(*desk).pack},
		"keep":   {(*desk).keep},
	}
}

// read: what the commands of a script do, in order; beside an error the number of the first line that is none, or 0 where the script as a whole is too long.
func read(script string) ([]deed, int, api.Errno) {
	if len(script) > api.MaxText {
		return nil, 0, api.ErrScript
	}
	lines := linesOf(script)
	if len(lines) > api.MaxLines {
		return nil, 0, api.ErrScript
	}
	numbered, bare := commands(), plains()
	var deeds []deed
	for i, text := range lines {
		if text == "" || text[0] == '#' {
			continue
		}
		does, found := deedOf(text, numbered, bare)
		if !found {
			return nil, i + 1, api.ErrScript
		}
		deeds = append(deeds, does)
	}
	return deeds, 0, api.OK
}

// linesOf: what stands behind the last end of a line is a line only if it isn't empty.
func linesOf(script string) []string {
	lines := strings.Split(script, "\n")
	last := len(lines) - 1
	if lines[last] == "" {
		return lines[:last]
	}
	return lines
}

// deedOf: what a line does, if it is a command. A blank too many leaves an empty word, which is neither a name nor a number.
func deedOf(text string, numbered []command, bare map[string]plain) (deed, bool) {
	words := strings.Split(text, " ")
	name := words[0]
	if p, found := bare[name]; found {
		return p.does, len(words) == 1
	}
	numbers, whole := numbersOf(words[1:])
	for _, c := range numbered {
		if whole && c.name == name && c.count == len(numbers) {
			return func(d *desk) (string, api.Errno) { return c.does(d, numbers) }, true
		}
	}
	return nil, false
}

// numbersOf: false where a word is no number. A number is written again, since it has many texts that can be read, but one that a script may hold.
func numbersOf(words []string) ([]int, bool) {
	var numbers []int
	for _, word := range words {
		n, err := strconv.ParseInt(word, 10, 32)
		if err != nil || strconv.FormatInt(n, 10) != word {
			return nil, false
		}
		numbers = append(numbers, int(n))
	}
	return numbers, true
}
