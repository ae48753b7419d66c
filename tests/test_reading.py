import unittest

from stillroom.reading import read_book
from stillroom.values import is_book
from folios import NONE, SIGNS, WHITE, dict_of, items, name, number, stream, text
from support import check_copies, drawn, drawn_bytes


def book(data):
    return read_book(list(data), len(data))[0]


class Reading(unittest.TestCase):
    def check_objects(self, data, *expected):
        """The values of all objects, in the order of their numbers."""
        found = book(data)
        self.assertTrue(is_book(found), data)
        self.assertEqual([value for _, value in found[0]], list(expected), data)

    def check(self, data, expected):
        """The value of the only object."""
        self.check_objects(b"#1" + data, expected)


class Words(Reading):
    """Point 63."""

    def test_white_bytes(self):
        for byte in WHITE:
            white = bytes([byte])
            self.check(white + b"7" + white, number(7))
            self.check(b"[1" + white + b"2" + white * 2 + b"]", items(number(1), number(2)))
        for byte in set(range(256)) - set(WHITE + SIGNS):
            word = b"1" + bytes([byte]) + b"2"
            self.check(b"[" + word + b"]", items(number(int(word))) if word.isdigit() else items())

    def test_regular_bytes(self):
        for byte in range(256):
            regular = byte not in WHITE + SIGNS
            found = book(b"#1/a" + bytes([byte]) + b"b")[0][0][1]
            self.assertEqual(found, name([97, byte, 98]) if regular else name(b"a"))

    def test_remarks(self):
        self.check(b"%5 #2 ( << \n7", number(7))
        self.check(b"% 5\r7", number(7))
        self.check(b"%%\n%\r \n%x\n 7", number(7))
        self.check(b" % 5", NONE)
        self.check(b"%5\x0c6\x006\n7", number(7))
        self.check(b"[1%2\n3 % 4\r]", items(number(1), number(3)))
        self.check(b"<<%/B 2\n/A%\n5%\n>>", dict_of((b"A", number(5))))
        self.check(b" 7%", number(7))
        self.check(b" foo %5\n7", number(7))
        self.check(b")%5\n7", number(7))
        self.check(b"<</A 1%/B 2\n/C 3%/D 4\n>>", dict_of((b"A", number(1)), (b"C", number(3))))

    def test_number_marks(self):
        for digits, found in (
            (b"1", 1), (b"9999", 9999), (b"0001", 1), (b"000000001", 1), (b"000009999", 9999), (b"0", 0), (b"10000", 0),
            (b"000000000", 0), (b"0000000001", 0), (b"000010000", 0), (b"1234567890", 0), (b"123456789", 0),
            (b"", 0), (b"-1", 0), (b" 1", 0), (b"x", 0),
        ):
            first = book(b"#7[@" + digits + b" none]")[0][0][1][1][0]
            self.assertEqual(first if first[0] == "ref" else None, ("ref", found) if found else None, digits)
            objects = book(b"#" + digits + b" true")
            self.assertEqual(objects, (((found, ("bool", 1)),), 0) if found else None)

    def test_a_number_mark_ends_at_the_last_digit(self):
        self.check_objects(b"#1true#2false#3(x)", ("bool", 1), ("bool", 0), text(b"x"))
        self.check_objects(b"#12a5", NONE)
        self.check(b"@2a", ("ref", 2))
        self.check(b"[@2@3x@4]", items(("ref", 2), ("ref", 3), ("ref", 4)))

    def test_stray_signs(self):
        self.check(b" # 5", number(5))
        self.check(b" @ 5", number(5))
        self.check(b"@0 5", number(0))
        self.check(b"#0 5", number(0))
        self.check(b"[@10000 @ #]", items(number(10000)))
        self.check(b"[#x #10000]", items(number(10000)))


class Books(Reading):
    """Point 64."""

    def test_work(self):
        data = list(b"#1 5")
        self.assertEqual(read_book(data, 4), ((((1, number(5)),), 0), 0))
        self.assertEqual(read_book(data, 11), ((((1, number(5)),), 0), 7))
        self.assertEqual(read_book(data, 3), (None, 0))
        self.assertEqual(read_book(data, 0), (None, 0))

    def test_no_objects(self):
        self.assertEqual(read_book([], 0), (None, 0))
        self.assertEqual(read_book([], 5), (None, 5))
        for data in (b"x", b"%FOL\n", b"%#1 5", b"# 1", b"#0 5", b"5 (x) <</Pages 1>>", b"root @1", b"root"):
            self.assertEqual(read_book(list(data), len(data) + 3), (None, 3), data)

    def test_objects_in_order(self):
        self.assertEqual(book(b"%FOL\n#3 1 #1 2 #2 3"), (((1, number(2)), (2, number(3)), (3, number(1))), 0))

    def test_an_object_without_a_value(self):
        self.check_objects(b"#1", NONE)
        self.check_objects(b"#1 #2", NONE, NONE)
        self.check_objects(b"#1 foo #2 bar", NONE, NONE)
        self.check_objects(b"#1%x", NONE)

    def test_objects_twice(self):
        self.assertEqual(book(b"#1 5 #2 6 #1 7"), (((1, number(7)), (2, number(6))), 0))
        self.assertEqual(book(b"#1 5 #1"), (((1, NONE),), 0))
        self.assertEqual(book(b"#1 5 #0001 6"), (((1, number(6)),), 0))

    def test_what_stands_between_objects(self):
        self.check_objects(b"foo #1 5 bar 6 #2 7 >> ] ) } @3 #3 8", number(5), number(7), number(8))
        self.check_objects(b"(#1 5)", number(5))
        self.check_objects(b"#1 5 (#2 6 ", number(5), number(6))
        self.check_objects(b"<< /A #1 5", number(5))
        self.check_objects(b"#1 5%#2 6\n#3 7", number(5), number(7))
        self.check_objects(b"x#1 5", number(5))

    def test_root(self):
        self.assertEqual(book(b"#1 5 #2 6 root @2")[1], 2)
        self.assertEqual(book(b"root @2 #1 5 #2 6")[1], 2)
        self.assertEqual(book(b"#1 5 root@1")[1], 1)
        self.assertEqual(book(b"#1 5 root %x\n \x00 @1")[1], 1)
        self.assertEqual(book(b"#1 5 root @0001x")[1], 1)

    def test_root_twice(self):
        self.assertEqual(book(b"#1 5 #2 6 root @2 root @1")[1], 1)
        self.assertEqual(book(b"root @1 #1 5 #2 6 root @2")[1], 2)
        self.assertEqual(book(b"#1 5 #2 6 root @2 root @0")[1], 2)
        self.assertEqual(book(b"#1 5 #2 6 root @2 root")[1], 2)

    def test_root_of_an_object_that_is_not_there(self):
        self.assertEqual(book(b"#1 5 root @2")[1], 0)
        self.assertEqual(book(b"#1 5 root @1 root @2")[1], 0)
        self.assertEqual(book(b"#1 5 #3<</Pages 1>> root @2")[1], 3)

    def test_other_words_and_marks(self):
        for data in (
            b"Root @1", b"roots @1", b"xroot @1", b"root x @1", b"root 1", b"@1", b"root @ 1", b"root @0", b"root #1 5",
        ):
            self.assertEqual(book(b"#1 5 " + data)[1], 0, data)

    def test_root_within_a_value_is_a_word(self):
        self.assertEqual(book(b"#1 root @1"), (((1, ("ref", 1)),), 0))
        self.assertEqual(book(b"#1 root @2 #2 5 root @2"), (((1, ("ref", 2)), (2, number(5))), 2))

    def test_the_mark_behind_root_is_skipped(self):
        self.assertEqual(book(b"#1 5 root root @1")[1], 1)
        self.assertEqual(book(b"#1 5 root @1 7 root @ 1")[1], 1)
        self.assertEqual(book(b"#1 5 #2 6 root @1root @2")[1], 2)

    def test_no_root_noted(self):
        self.assertEqual(book(b"#1 5 #7<</Pages 1>> #4<</A 1/Pages>> #9<</Pages 2>>")[1], 4)
        self.assertEqual(book(b"#1<</Pages 1>>{}{}")[1], 0)
        self.assertEqual(book(b"#1[<</Pages 1>>] #2<</A<</Pages 1>>>> #3<</pages 1>>")[1], 0)
        self.assertEqual(book(b"#1<</~50ages 1>>")[1], 1)
        self.assertEqual(book(b"#1<</Pages 1>> #1 5 #2<</Pages 1>>")[1], 2)

    def test_copies(self):
        check_copies(self, read_book, list(b"#1<</A[1 2(x)]>>{1}x{}"), 50)


class Texts(Reading):
    """Point 65: parentheses and hexadecimal digits."""

    def test_plain_texts(self):
        self.check(b"()", text(b""))
        self.check(b"(abc)", text(b"abc"))
        self.check(b"( a%b\n#2 @3 [<</x>>] \x00\xff)", text(b" a%b\n#2 @3 [<</x>>] \x00\xff"))

    def test_parentheses(self):
        self.check(b"(a(b)c)", text(b"a(b)c"))
        self.check(b"((()))", text(b"(())"))
        self.check(b"(()()", text(b"()()"))
        self.check_objects(b"#1(a)b) #2 5", text(b"a"), number(5))

    def test_up_to_the_end(self):
        self.check(b"(", text(b""))
        self.check(b"(abc", text(b"abc"))
        self.check(b"(a(b) #2 5", text(b"a(b) #2 5"))

    def test_backslashes(self):
        self.check(b"(\\n\\r\\t)", text([10, 13, 9]))
        self.check(b"(\\00\\41\\fF\\Ab)", text([0, 65, 255, 171]))
        self.check(b"(\\410)", text(b"A0"))
        self.check(b"(\\4x\\gf\\4)", text(b"4xgf4"))
        self.check(b"(\\\\\\N\\ \\\n\\%)", text(b"\\N \n%"))
        self.check(b"(\\n41)", text(b"\n41"))

    def test_each_byte_behind_a_backslash(self):
        known = {110: 10, 114: 13, 116: 9}
        for byte in range(256):
            self.check(b"(\\" + bytes([byte]) + b"x)", text([known.get(byte, byte), 120]))

    def test_escaped_parentheses_are_not_counted(self):
        self.check(b"(\\()", text(b"("))
        self.check(b"(\\))", text(b")"))
        self.check(b"(a\\)b(c\\)d)e)", text(b"a)b(c)d)e"))
        self.check(b"(\\28\\29)", text(b"()"))

    def test_a_backslash_at_the_end(self):
        self.check(b"(a\\", text(b"a"))
        self.check(b"(a\\\\", text(b"a\\"))
        self.check(b"(a\\4", text(b"a4"))
        self.check(b"(a\\)", text(b"a)"))
        self.check(b"(\\", text(b""))

    def test_digits(self):
        self.check(b"<>", text(b""))
        self.check(b"<4142>", text(b"AB"))
        self.check(b"<4 1-4\n2%x(#2>", text(b"AB"))
        self.check(b"<fFAa>", text([255, 170]))
        self.check(b"<41 4>", text(b"A"))
        self.check(b"<41", text(b"A"))
        self.check(b"<414>", text(b"A"))
        self.check_objects(b"#1[<414>5] #2 6", items(text(b"A"), number(5)), number(6))
        self.check(b"<", text(b""))
        self.check(b"< <41>", text(b"A"))
        self.check_objects(b"#1<41>> #2 5", text(b"A"), number(5))

    def test_digits_cost_nothing(self):
        data = list(b"#1<" + b"41" * 50 + b">")
        self.assertEqual(read_book(data, len(data))[1], 0)
        self.assertEqual(read_book(data, len(data))[0][0][0][1], text(b"A" * 50))


class Plain(Reading):
    """Point 65: names, references and words."""

    def test_names(self):
        self.check(b"/A", name(b"A"))
        self.check(b"/", name(b""))
        self.check(b"/ A", name(b""))
        self.check(b"/A/B", name(b"A"))
        self.check(b"[/A/B//C(x)]", items(name(b"A"), name(b"B"), name(b""), name(b"C"), text(b"x")))
        self.check(b"/a.b-1\xff\x01", name(b"a.b-1\xff\x01"))

    def test_tildes(self):
        self.check(b"/~41~20~2f~00", name(b"A /\x00"))
        self.check(b"/~2F~fF", name([47, 255]))
        self.check(b"/~", name(b"~"))
        self.check(b"/~4", name(b"~4"))
        self.check(b"/~4g~g4", name(b"~4g~g4"))
        self.check(b"/~~41", name(b"~A"))
        self.check(b"/~4~41", name(b"~4A"))
        self.check(b"/~7e41", name(b"~41"))
        self.check(b"/~4 1", name(b"~4"))
        self.check(b"/~4/1", name(b"~4"))

    def test_references(self):
        self.check(b"@1", ("ref", 1))
        self.check(b"@9999", ("ref", 9999))
        self.check(b"@12/A", ("ref", 12))

    def test_words(self):
        self.check(b" true", ("bool", 1))
        self.check(b" false", ("bool", 0))
        self.check(b" none", NONE)

    def test_integers(self):
        for digits, found in (
            (b"0", 0), (b"-0", 0), (b"007", 7), (b"-007", -7), (b"2147483647", 2147483647), (b"2147483648", 2147483647),
            (b"-2147483647", -2147483647), (b"-2147483648", -2147483647), (b"3000000000", 2147483647),
            (b"21474836470", 2147483647), (b"9" * 6000, 2147483647), (b"-" + b"9" * 6000, -2147483647),
            (b"0" * 6000 + b"12", 12),
        ):
            self.check(b" " + digits, number(found))

    def test_other_words_are_skipped(self):
        for word in b"foo - --1 +1 1- 1.5 1e5 True truex nonenone \xff 0x10 ~41".split():
            self.check(b" " + word + b" 7", number(7))
            self.check(b" " + word, NONE)
            self.check(b"[" + word + b" " + word + b" 7]", items(number(7)))

    def test_other_bytes_are_skipped(self):
        self.check(b" ) } { > ] >> 7", number(7))
        self.check(b"[ ) } { > >> 7 >> 8]", items(number(7), number(8)))
        self.check(b"<</A ) } { > ] 7>>", dict_of((b"A", number(7))))
        self.check(b")]}", NONE)


class Lists(Reading):
    """Point 65."""

    def test_lists(self):
        self.check(b"[]", items())
        self.check(b"[ 1 2(x)/A@3[none]]", items(number(1), number(2), text(b"x"), name(b"A"), ("ref", 3), items(NONE)))
        self.check_objects(b"#1[1]2] #2 5", items(number(1)), number(5))

    def test_lists_that_are_not_closed(self):
        self.check(b"[", items())
        self.check(b"[1 [2", items(number(1), items(number(2))))
        self.check(b"[1 %]", items(number(1)))
        self.check_objects(b"#1[1 [2 #2 5", items(number(1), items(number(2))), number(5))
        self.check_objects(b"#1[#2]5", items(), number(5))
        self.check_objects(b"#2[3 #1[4", items(number(4)), items(number(3)))

    def test_a_list_in_a_dict_in_a_list(self):
        self.check(b"[<</A[1>>2]3>>4]", items(dict_of((b"A", items(number(1), number(2)))), number(4)))
        self.check(b"[<</A]1>>2]", items(dict_of((b"A", number(1))), number(2)))


class Dicts(Reading):
    """Point 66."""

    def test_dicts(self):
        self.check(b"<<>>", dict_of())
        expected = dict_of((b"A", number(1)), (b"B", text(b"x")), (b"C", name(b"D")), (b"E", items(number(2))))
        self.check(b"<</A 1/B(x)/C/D/E[2]>>", expected)
        self.check(b"<<\n/A\n<< /B @2 >>\n>>", dict_of((b"A", dict_of((b"B", ("ref", 2))))))
        self.check(b"<</~41 1 / 2>>", dict_of((b"A", number(1)), (b"", number(2))))

    def test_keys_without_a_value(self):
        self.check(b"<</A>>", dict_of((b"A", NONE)))
        self.check(b"<</A 1/B >>", dict_of((b"A", number(1)), (b"B", NONE)))
        self.check(b"<</A foo>>", dict_of((b"A", NONE)))
        self.check(b"<</A", dict_of((b"A", NONE)))
        self.check_objects(b"#1<</A #2 5", dict_of((b"A", NONE)), number(5))
        self.check(b"<</A foo/B 1>>", dict_of((b"A", name(b"B"))))

    def test_keys_twice(self):
        self.check(b"<</A 1/B 2/A 3>>", dict_of((b"A", number(3)), (b"B", number(2))))
        self.check(b"<</A 1/~41 3>>", dict_of((b"A", number(3))))
        self.check(b"<</A 1/A>>", dict_of((b"A", NONE)))

    def test_values_that_are_dropped(self):
        self.check(b"<< foo /A 1 >>", dict_of())
        self.check(b"<< foo /A /B 1 >>", dict_of((b"B", number(1))))
        self.check(b"<<5 /A 1>>", dict_of((b"A", number(1))))
        self.check(b"<<(x)<41>[/B 2]@3<</C 3>>true/A 1>>", dict_of((b"A", number(1))))
        self.check(b"<</A 1 2 /B 3>>", dict_of((b"A", number(1)), (b"B", number(3))))
        self.check(b"<<foo>>", dict_of())
        self.check(b"<<@1true/A 2>>", dict_of((b"A", number(2))))

    def test_other_bytes(self):
        self.check(b"<<) ] } { > @ # @0/A 1>>", dict_of((b"A", number(1))))
        self.check(b"<<)/A 1]/B 2>/C 3>>", dict_of((b"A", number(1)), (b"B", number(2)), (b"C", number(3))))

    def test_dicts_that_are_not_closed(self):
        self.check(b"<<", dict_of())
        self.check(b"<</A 1", dict_of((b"A", number(1))))
        self.check(b"<</A 1>", dict_of((b"A", number(1))))
        self.check_objects(b"#1<</A 1 #2<</B 2>>", dict_of((b"A", number(1))), dict_of((b"B", number(2))))
        self.check_objects(b"#1<<#2 5", dict_of(), number(5))
        self.check_objects(b"#1<</A 1 #2>>{}x{}", dict_of((b"A", number(1))), NONE)


class Streams(Reading):
    """Point 67."""

    def test_a_right_length(self):
        self.check(b"<<>>{3}abc{}", stream(b"abc"))
        self.check(b"<</A 1>>{0}{}", stream(b"", (b"A", number(1))))
        self.check(b"<<>>{000000003}abc{}", stream(b"abc"))
        self.check(b"<<>>{6}ab{}cd{}", stream(b"ab{}cd"))
        self.check_objects(b"#1<<>>{5}#2 7 {} #3 5", stream(b"#2 7 "), number(5))

    def test_a_wrong_length(self):
        self.check(b"<<>>{2}abc{}", stream(b"abc"))
        self.check(b"<<>>{4}abc{}", stream(b"abc"))
        self.check(b"<<>>{999999999}abc{}", stream(b"abc"))
        self.check(b"<<>>{5}ab{}cd{}", stream(b"ab"))
        self.check_objects(b"#1<<>>{9}ab{} #2 5", stream(b"ab"), number(5))

    def test_no_length(self):
        self.check(b"<<>>{}abc{}", stream(b"abc"))
        self.check(b"<<>>{}{}", stream(b""))
        self.check(b"<<>>{}{}{}", stream(b""))
        self.check_objects(b"#1<<>>{}ab{}cd{} #2 5", stream(b"ab"), number(5))

    def test_without_an_end(self):
        self.check(b"<<>>{}abc", stream(b"abc"))
        self.check(b"<<>>{3}abc", stream(b"abc"))
        self.check(b"<<>>{3}abc{", stream(b"abc{"))
        self.check(b"<<>>{}", stream(b""))
        self.check(b"<<>>{3}abc #2 5", stream(b"abc #2 5"))

    def test_the_braces_are_found_behind_the_closing_one(self):
        self.check(b"<<>>{}}x{}", stream(b"}x"))
        self.check(b"<<>>{1}{{}}{}", stream(b"{"))
        self.check(b"<<>>{2}{}{}", stream(b"{}"))

    def test_no_stream(self):
        for behind in (
            b"{", b"{1", b"{12x}", b"{ 3}abc{}", b"{3 }abc{}", b"{1234567890}abc{}", b"{0000000003}abc{}", b"{-1}x{}",
            b"x{}", b"}",
        ):
            self.check(b"<<>>" + behind, dict_of())
            self.check(b"[<<>>" + behind, items(dict_of(), *self.items_of(b"[" + behind)))

    def items_of(self, data):
        return book(b"#1" + data)[0][0][1][1]

    def test_white_bytes_before_it(self):
        self.check(b"<<>> \x00\t\n\x0c\r{1}x{}", stream(b"x"))
        self.check(b"<<>>%x\n{1}x{}", dict_of())
        self.check(b"[<<>>%x\n{1}5{}]", items(dict_of(), number(1), number(5)))

    def test_streams_within_values(self):
        self.check(b"[<<>>{1}x{}5]", items(stream(b"x"), number(5)))
        inner = stream(b"x", (b"B", number(1)))
        self.check(b"<</A<</B 1>>{1}x{}/C 2>>{1}y{}", stream(b"y", (b"A", inner), (b"C", number(2))))
        self.check(b"<<<<>>{4}/A 1{}/B 2>>", dict_of((b"B", number(2))))

    def test_nothing_is_skipped_without_a_stream(self):
        self.check(b"[<<>> 5]", items(dict_of(), number(5)))
        self.check(b"[<<>>{1234567890}]", items(dict_of(), number(1234567890)))
        self.check(b"[<<>> {5 6]", items(dict_of(), number(5), number(6)))


class Depths(Reading):
    """Point 68."""

    def wrapped(self, value, levels):
        for _ in range(levels):
            value = items(value)
        return value

    def keyed(self, value, levels):
        for _ in range(levels):
            value = dict_of((b"A", value))
        return value

    def test_the_16th_list(self):
        self.check(b"[" * 16 + b"5" + b"]" * 16, self.wrapped(number(5), 16))
        self.check(b"[" * 15 + b"<<>>{1}x{}" + b"]" * 15, self.wrapped(stream(b"x"), 15))

    def test_the_17th_list(self):
        self.check(b"[" * 17 + b"5" + b"]" * 17, self.wrapped(number(5), 16))
        inner = items(items(number(5), number(6)), number(7))
        self.check_objects(b"#1" + b"[" * 17 + b"5 [6]7" + b"]" * 16 + b"#2 8", self.wrapped(inner, 14), number(8))
        self.check(b"[" * 18 + b"5", self.wrapped(number(5), 16))
        self.check(b"[" * 1000, self.wrapped(items(), 15))

    def test_the_16th_dict(self):
        self.check(b"<</A " * 16 + b"5" + b">>" * 16, self.keyed(number(5), 16))
        self.check(b"[" * 15 + b"<</A 5>>" + b"]" * 15, self.wrapped(self.keyed(number(5), 1), 15))

    def test_the_17th_dict(self):
        # Of "<</A 1>>" the first sign is skipped, and the second one begins digits.
        self.check(b"<</A " * 16 + b"<</A 1>>" + b">>" * 16, self.keyed(text([161]), 16))
        self.check(b"[" * 16 + b"<</A 1>>5", self.wrapped(items(text([161]), number(5)), 15))
        self.check(b"[" * 16 + b"<<<41>5", self.wrapped(items(text(b"A"), number(5)), 15))
        self.check(b"[" * 16 + b"<<", self.wrapped(items(text(b"")), 15))

    def test_the_17th_list_behind_a_key(self):
        self.check(b"<</A " * 15 + b"<</B[5]/C 6>>", self.keyed(dict_of((b"B", number(5)), (b"C", number(6))), 15))
        self.check(b"<</A " * 15 + b"<</B[]/C 6>>", self.keyed(dict_of((b"B", name(b"C"))), 15))
        self.check(b"<</A " * 15 + b"<</B[>>", self.keyed(dict_of((b"B", NONE)), 15))
        self.check_objects(b"#1" + b"<</A " * 15 + b"<</B[#2 5", self.keyed(dict_of((b"B", NONE)), 15), number(5))

    def test_the_17th_list_elsewhere_in_a_dict(self):
        self.check(b"<</A " * 15 + b"<<[/B 5/C 6>>", self.keyed(dict_of((b"C", number(6))), 15))
        self.check(b"<</A " * 15 + b"<<[5]/C 6>>", self.keyed(dict_of((b"C", number(6))), 15))
        self.check(b"<</A " * 15 + b"<<<<41>>/C 6>>", self.keyed(dict_of((b"C", number(6))), 15))

    def test_it_counts_what_is_around(self):
        row = b"[" * 10 + b"]" * 10
        inner = self.wrapped(items(), 9)
        self.check(b"[" + row * 3 + b"]", items(inner, inner, inner))
        data = b"#1" + b"[" * 30 + b"#2" + b"[" * 16 + b"5"
        self.check_objects(data, self.wrapped(items(), 15), self.wrapped(number(5), 16))

    def test_deep_bytes(self):
        for data in (b"[" * 50000, b"<<" * 50000, b"<</A" * 30000, b"(" * 50000, b"[<<" * 30000):
            self.assertTrue(is_book(book(b"#1" + data)))


# The pieces of which drawn bytes consist.
PIECES = [
    b"#1", b"#2 ", b"#9999", b"#0", b"#10000", b"@1", b"@", b"#", b"(", b")", b"\\", b"\\n", b"\\4", b"<<", b">>", b"<",
    b">", b"[", b"]", b"{", b"}", b"{}", b"{3}", b"{1234567890}", b"/", b"/A", b"/Pages ", b"/~41", b"~", b"true",
    b"none", b"root", b"root @1", b"foo", b"-", b"12", b"-99999999999", b"%", b"%x\n", b"\n", b" ", b"\x00", b"41",
    b"\xff", b"[[[[[[", b"<</A<</A<</A<</A",
]


class DrawnBytes(Reading):
    def check_book(self, data):
        found, left = read_book(data, len(data) + 2)
        self.assertEqual(left, 2)
        self.assertTrue(found is None or is_book(found), bytes(data))

    def test_drawn_bytes(self):
        source = drawn(19)
        for _ in range(500):
            self.check_book(drawn_bytes(source, 60))
            self.check_book(list(b"#1") + drawn_bytes(source, 60))

    def test_drawn_pieces(self):
        source = drawn(20)
        for _ in range(1500):
            pieces = [source.choice(PIECES) for _ in range(source.randint(0, 50))]
            self.check_book(list(b"".join(pieces)))

    def test_the_end_of_the_bytes_in_every_state(self):
        data = (
            b"%FOL\n#1<</A[1 -2(a\\n\\41(b))<4142>/N~41@2]/B<<foo/C true>>{3}x{}{}>> {4}abcd{} % remark\n"
            b"root @1 #0002 [[<</K>>{}ab{}]] root\n@2 # @ (x"
        )
        whole = book(data)
        self.assertEqual([value for value, _ in whole[0]], [1, 2])
        for size in range(len(data) + 1):
            self.check_book(list(data[:size]))
            self.check_book(list(data[size:]))


if __name__ == "__main__":
    unittest.main()
