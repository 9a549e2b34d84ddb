package desk_test

import (
	"strings"
	"testing"

	"sealpress/api"
)

// 7.1: read: a message's text.
func TestRead(t *testing.T) {
	for _, c := range []struct{ line, want string }{
		{"read A -", "{}"},
		{"read A 0805120178220201 02", "error 3"},
		{"read A 080512017822020102", "{1=5 2=x78 4=18446744073709551615 4=1}"},
		{"read A 1a00", "{3={}}"},
		{"read A 1a0408071a00", "{3={1=7 3={}}}"},
		{"read A 1200", "{2=0}"},                      // of a choice, so it is there
		{"read A 0800", "{}"},                         // of none, so it is not
		{"read A 2a00", "{5={1=0 2={}}}"},             // an empty key
		{"read A 2a050a01411200", "{5={1=x41 2={}}}"}, // a map's key, and its value
		{"read A 2a030a01422a070a014112020805", "{5={1=x41 2={1=5}} 5={1=x42 2={}}}"},
		{"read One 080110ffffffffffffffffff0118ffffffffffffffffff0120fbffffffffffffffff01", "{1=1 2=18446744073709551615 3=18446744073709551615 4=18446744073709551611}"},
		{"read One 2a0131320100", "{5=x31 6=x00}"},
		{"read One 320c000f10807f9fa9aff0f9abff", "{6=x000f10807f9fa9aff0f9abff}"},
		{"read Many 1200120161120012022d2d", "{2=0 2=x61 2=0 2=x2d2d}"},
		{"read Many 0a0301000208ffffffff0f1a001a00", "{1=1 1=0 1=2 1=18446744073709551615 3={} 3={}}"},
		{"read Map 120208010a020801", "{1={1=1 2=0} 2={1=1 2={}}}"},
		{"read Map 0a0408011003" + "090500000000000000" + "1200" + "12020801", "{1={1=1 2=18446744073709551614} 2={1=0 2={}} 2={1=1 2={}} x090500000000000000}"},
		{"read None 0801", "{x0801}"},
		{"read None 080122020102", "{x080122020102}"},
		{"read One 0801380109", "error 3"},
		{"read One 38010801", "{1=1 x3801}"},
		{"read A 1a0238013a00", "{3={x3801} x3a00}"},
		{"read Wide faffffff0f020102", "{536870911=1 536870911=2}"},
		{"read Wide 0a00f8ffffff0f05", "{536870911=5 x0a00}"},
		{"read In 0a020a00", "{1={1={}}}"},
	} {
		isAnswered(t, c.line, c.want)
	}
}

// 7.1: of BYTES each byte is two digits, below f, and small.
func TestBytes(t *testing.T) {
	for _, word := range []string{
		"0", "080", "0g", "g0", "08 1", "AB", "aB", "0A", "0x08", "x08", "--", "-08", "08-", "0-", "-0", "08,01", "`0", "/0", "0/", ":0", "0:", "G0", "0\x00", "\xff\xff", "é", "\t\t", "{}", "{1=1}",
	} {
		for _, line := range []string{"read None ?", "canon None ?", "merge None ? -", "merge None - ?", "join None ? -", "join None - ?"} {
			isAnswered(t, strings.ReplaceAll(line, "?", word), "error 3")
		}
	}
	var all strings.Builder
	for n := range 256 {
		const digits = "0123456789abcdef"
		all.WriteByte(digits[n/16])
		all.WriteByte(digits[n%16])
	}
	isAnswered(t, "read One 328002"+all.String(), "{6=x"+all.String()+"}")
	isAnswered(t, "canon One 328002"+all.String(), "328002"+all.String())
}

// 7.1: BYTES come ahead of what they are: so of a type that is missing, too.
func TestBytesFirst(t *testing.T) {
	for _, c := range []struct{ line, want string }{
		{"read Z 0", "error 3"},
		{"read Z -", "error 7"},
		{"read Z 08", "error 7"},
		{"canon Z 0g", "error 3"},
		{"canon Z 0801", "error 7"},
		{"canon E -", "error 7"},
		{"read .A -", "error 7"},
		{"merge Z 0 0", "error 3"},
		{"merge Z - 0", "error 7"}, // the first one wholly ahead of the second one
		{"merge Z - -", "error 7"},
		{"merge A " + tooMany() + " 0", "error 4"},
		{"merge A 0 " + tooMany(), "error 3"},
		{"merge A - " + tooMany(), "error 4"},
		{"merge A 08 " + tooMany(), "error 3"},
		{"merge Z 08 " + tooMany(), "error 7"},
		{"join Z - 0", "error 3"}, // what both are is told of both at once
		{"join Z 0 -", "error 3"},
		{"join Z - -", "error 7"},
		{"join A " + tooMany() + " 0", "error 3"},
		{"join A " + tooMany() + " 00", "error 4"},
	} {
		isAnswered(t, c.line, c.want)
	}
}

// tooMany is one byte more than a message may have.
func tooMany() string { return strings.Repeat("00", api.MaxBytes+1) }

// 7.1: how many bytes there may be, of both together if they are joined.
func TestBytesLimit(t *testing.T) {
	full := strings.Repeat("0801", api.MaxBytes/2)
	half := full[:api.MaxBytes]
	isAnswered(t, "read One "+full, "{1=1}")
	isAnswered(t, "canon One "+full, "0801")
	isAnswered(t, "read One "+full+"00", "error 4")
	isAnswered(t, "canon One "+full+"00", "error 4")
	isAnswered(t, "join One "+half+" "+half, "{1=1}")
	isAnswered(t, "join One "+full+" -", "{1=1}")
	isAnswered(t, "join One - "+full, "{1=1}")
	isAnswered(t, "join One "+half+" "+half+"0801", "error 4")
	isAnswered(t, "join One "+full+" 0801", "error 4")
	isAnswered(t, "merge One "+full+" 0801", "{1=1}")
	isAnswered(t, "merge One 0801 "+full, "{1=1}")
}

// 7.1: messages too deep are wrong by themselves, and in both.
func TestDeep(t *testing.T) {
	deep := ""
	for n := range api.MaxDepth {
		isAnswered(t, "read In "+orNone(deep), strings.Repeat("{1=", n)+"{}"+strings.Repeat("}", n))
		deep = "0a" + twoDigits(len(deep)/2) + deep
	}
	for _, line := range []string{"read In ?", "canon In ?", "merge In ? -", "merge In - ?", "join In ? -", "join In - ?"} {
		isAnswered(t, strings.ReplaceAll(line, "?", deep), "error 4")
	}
}

func orNone(word string) string {
	if word == "" {
		return "-"
	}
	return word
}

// twoDigits is a number below 160, as a byte.
func twoDigits(n int) string { return string([]byte{"0123456789"[n/16], "0123456789abcdef"[n%16]}) }

// 7.1: canon: what is read, as bytes again.
func TestCanon(t *testing.T) {
	for _, c := range []struct{ line, want string }{
		{"canon A -", "-"},
		{"canon A 0800", "-"},
		{"canon A 0801", "0801"},
		{"canon A 22020102120178 0805", "error 3"},
		{"canon A 220201021201780805", "080512017822020102"},
		{"canon A 2001200208050807", "080722020102"},
		{"canon A 1a020801120178", "120178"},
		{"canon A 1201781a0208011a020807", "1a020807"},
		{"canon A 2a00", "2a040a001200"},
		{"canon A 2a030a01422a030a0141", "2a050a014112002a050a01421200"},
		{"canon One 0885808000", "0801"},
		{"canon One 3a00080138ff01", "08013a0038ff01"},
		{"canon None 0801", "0801"},
		{"canon A 08", "error 3"},
		{"canon One 2a0180", "error 3"},
		{"canon One 320180", "320180"},
	} {
		isAnswered(t, c.line, c.want)
	}
	// What is read may need more bytes than a message may have.
	below := strings.Repeat("08ffffffff0f", api.MaxBytes/10)
	isAnswered(t, "canon Many "+below, "error 4")
	isAnswered(t, "read Many "+below, "{"+strings.TrimSpace(strings.Repeat("1=18446744073709551615 ", api.MaxBytes/10))+"}")
}

// 7.1: merge: both, read and merged.
func TestMerge(t *testing.T) {
	for _, c := range []struct{ line, want string }{
		{"merge A - -", "{}"},
		{"merge A 0805 -", "{1=5}"},
		{"merge A - 0805", "{1=5}"},
		{"merge A 0805120178220102 08071a00220104", "{1=7 3={} 4=1 4=2}"},
		{"merge A 1a020805 1a0422020102", "{3={1=5 4=18446744073709551615 4=1}}"},
		{"merge A 2a050a01411200 2a070a014112020801", "{5={1=x41 2={1=1}}}"},
		{"merge None 0801 1002", "{x08011002}"},
		{"merge One 0801 0800", "{1=1}"}, // the second one has it not, though its bytes tell it
		{"merge A 08 05", "error 3"},     // each by itself
		{"merge A 0801 08", "error 3"},
	} {
		isAnswered(t, c.line, c.want)
	}
}

// 7.1: join: both, one behind the other, and then read.
func TestJoin(t *testing.T) {
	for _, c := range []struct{ line, want string }{
		{"join A - -", "{}"},
		{"join A 0805 -", "{1=5}"},
		{"join A - 0805", "{1=5}"},
		{"join A 0805120178220102 08071a00220104", "{1=7 3={} 4=1 4=2}"},
		{"join A 1a020805 1a0422020102", "{3={1=5 4=18446744073709551615 4=1}}"},
		{"join None 0801 1002", "{x08011002}"},
		{"join One 0801 0800", "{}"},
		{"join A 08 05", "{1=5}"}, // what neither is by itself both are
		{"join A 1203 616263", "{2=x616263}"},
		{"join A 05 08", "error 3"},
		{"join A 0801 08", "error 3"},
	} {
		isAnswered(t, c.line, c.want)
	}
}

// 7.1: none of what reads changes what there is.
func TestReadChangesNothing(t *testing.T) {
	text := sample + strings.Repeat("merge A 0805 0807\njoin A 0805 0807\ncanon A 0805\nread A 0805\nread A 08\nfields Many\n", 2)
	want := []string{"types"}
	for range 2 {
		want = append(want, "{1=7}", "{1=7}", "0805", "{1=5}", "error 3", "fields 1 n 2 many, 2 s 12 many, 3 m 15 None many")
	}
	isTold(t, text, want...)
}
