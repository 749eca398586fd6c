package reclog

import (
	"encoding/binary"
	"hash/crc32"
	"regexp"
	"strings"
)

// token is one letter of how a log looks, where what it stands for ends, and
// its bytes.
type token struct {
	letter byte
	end    int
	bytes  string
}

// tokens tells how a log looks, up to the first place at which no whole piece
// stands: 1 to 4 for a whole piece of that kind, then c: cut short, or x:
// anything else.
func tokens(log string) []token {
	var l []token
	for at := 0; ; {
		at += len(zeroed(at))
		if at >= len(log) || len(log)-at < 7 {
			return append(l, token{'c', at, ""})
		}
		head := []byte(log[at : at+7])
		end := at + 7 + int(binary.LittleEndian.Uint16(head[4:6]))
		if end > (at/256+1)*256 {
			return append(l, token{'x', at, ""})
		}
		if end > len(log) {
			return append(l, token{'c', at, ""})
		}
		sum := crc32.Checksum([]byte(log[at+4:end]), crc32.MakeTable(crc32.Castagnoli))
		if sum != binary.LittleEndian.Uint32(head) || strings.IndexByte("\x01\x02\x03\x04", head[6]) < 0 {
			return append(l, token{'x', at, ""})
		}
		l = append(l, token{'0' + head[6], end, log[at+7 : end]})
		at = end
	}
}

// The chapter's words of a record, and of what is cut off.
var (
	oneRecord = regexp.MustCompile(`^(1|23*4)`)
	cutOff    = regexp.MustCompile(`^(23*)?c$`)
)

// readByWords is what Read tells by the chapter's words, over how the whole log
// looks.
func readByWords(log string) ([]string, int, bool) {
	l := tokens(log)
	looks := ""
	for _, each := range l {
		looks += string(each.letter)
	}
	var records []string
	end, done := 0, 0
	for {
		n := len(oneRecord.FindString(looks[done:]))
		if n == 0 {
			return records, end, cutOff.MatchString(looks[done:])
		}
		record := ""
		for _, each := range l[done : done+n] {
			record += each.bytes
			end = each.end
		}
		records = append(records, record)
		done += n
	}
}
