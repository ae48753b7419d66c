import unittest

from stillroom.errors import Malformed
from stillroom.reading import read_book
from stillroom.values import is_book
from stillroom.writing import write_book, write_value
from folios import (
    NONE, SIGNS, WHITE, dict_of, drawn_book, drawn_value, items, name, nested, number, pairs, stream, text, written,
)
from support import changed, check_copies, drawn

EVERY_BYTE = tuple(range(256))
REGULAR = tuple(set(range(256)) - set(WHITE + SIGNS))

# Values that are not sound.
WRONG = [
    None, 5, "none", (), [], ["none"], ("none", 0), ("other",), ("bool", 2), ("bool", True), ("int", 2147483648),
    ("int", -2147483648), ("int", True), ("ref", 0), ("ref", 10000), ("name", (256,)), ("name", [65]), ("text", (-1,)),
    ("text", b"A"), ("list", []), ("list", (5,)), ("dict", {}), ("dict", (((65,), NONE), ((65,), NONE))),
    ("dict", (([65], NONE),)), ("stream", (), [1]), ("stream", (), (256,)), ("stream", ()), nested("list", 17),
    nested("dict", 17, NONE), nested("stream", 100),
]


class Values(unittest.TestCase):
    def check(self, value, expected):
        self.assertEqual(bytes(write_value(value)), expected)

    def test_words(self):
        self.check(NONE, b"none")
        self.check(("bool", 1), b"true")
        self.check(("bool", 0), b"false")

    def test_integers(self):
        for found in (0, 1, -1, 10, -90, 2147483647, -2147483647):
            self.check(number(found), str(found).encode())

    def test_references(self):
        self.check(("ref", 1), b"@1")
        self.check(("ref", 9999), b"@9999")

    def test_names(self):
        self.check(name(b""), b"/")
        self.check(name(b"Abc.-!"), b"/Abc.-!")
        self.check(name(b"a b~/"), b"/a~20b~7e~2f")

    def test_each_byte_in_a_name_and_in_a_key(self):
        for byte in EVERY_BYTE:
            plain = byte in REGULAR and 33 <= byte <= 126 and byte != 126
            sign = bytes([byte]) if plain else b"~%02x" % byte
            self.check(name([byte]), b"/" + sign)
            self.check(name([65, byte, 48]), b"/A" + sign + b"0")
            self.check(dict_of(([byte], NONE)), b"<</" + sign + b" none>>")
            self.check(stream(b"", ([byte, 66], NONE)), b"<</" + sign + b"B none>>{0}{}")

    def test_texts(self):
        self.check(text(b""), b"()")
        self.check(text(b"a (b) \\n~#%"), b"(a \\(b\\) \\\\n~#%)")
        self.check(text(b"\n\t\r"), b"(\\0a\\09\\0d)")

    def test_each_byte_in_a_text(self):
        for byte in EVERY_BYTE:
            sign = bytes([byte]) if 32 <= byte <= 126 else b"\\%02x" % byte
            if byte in b"()\\":
                sign = b"\\" + bytes([byte])
            self.check(text([byte]), b"(" + sign + b")")
            self.check(text([97, byte, 48]), b"(a" + sign + b"0)")

    def test_lists(self):
        self.check(items(), b"[]")
        self.check(items(number(1)), b"[1]")
        self.check(items(number(1), NONE, items(), name(b"")), b"[1 none [] /]")

    def test_dicts(self):
        self.check(dict_of(), b"<<>>")
        self.check(dict_of((b"A", number(1))), b"<</A 1>>")
        self.check(dict_of((b"B", number(1)), (b"", dict_of()), (b"A", name(b""))), b"<</B 1 / <<>> /A />>")

    def test_streams(self):
        self.check(stream(b""), b"<<>>{0}{}")
        self.check(stream(b"abc", (b"A", number(1)), (b"B", NONE)), b"<</A 1 /B none>>{3}abc{}")
        self.check(stream(b"{}>>#1 \n %", (b"A", stream(b"x"))), b"<</A <<>>{1}x{}>>{10}{}>>#1 \n %{}")
        self.check(stream(bytes(EVERY_BYTE) * 5), b"<<>>{1280}" + bytes(EVERY_BYTE) * 5 + b"{}")

    def test_depth_16(self):
        self.check(nested("list", 16), b"[" * 16 + b"]" * 16)
        self.check(nested("list", 16, number(5)), b"[" * 16 + b"5" + b"]" * 16)
        self.check(nested("dict", 16), b"<</A " * 15 + b"<<>>" + b">>" * 15)
        self.check(nested("stream", 16), b"<</A " * 15 + b"<<>>{0}{}" + b">>{0}{}" * 15)

    def test_values_that_are_not_sound(self):
        for value in WRONG:
            for outer in (value, items(value), dict_of((b"A", value)), stream(b"", (b"A", value))):
                with self.assertRaises(Malformed, msg=outer):
                    write_value(outer)

    def test_deep_values_of_any_kind(self):
        lists = tuples = 5
        for _ in range(100):
            lists = [lists]
            tuples = (tuples,)
        for value in (lists, tuples, nested("list", 100), nested("dict", 100, NONE)):
            with self.assertRaises(Malformed):
                write_value(value)
            with self.assertRaises(Malformed):
                write_book((((1, value),), 1))
            with self.assertRaises(Malformed):
                write_book(value)

    def test_drawn_values(self):
        source = drawn(31)
        for _ in range(400):
            value = drawn_value(source, 4)
            self.check(value, written(value))

    def test_copies(self):
        check_copies(self, write_value, items(number(1), text(b"a")))
        check_copies(self, write_value, stream(b"abc", (b"A", NONE)))
        check_copies(self, write_value, NONE)


class Books(unittest.TestCase):
    def check(self, book, expected):
        self.assertEqual(bytes(write_book(book)), expected)
        self.check_again(book)

    def check_again(self, book):
        """Reading what was written returns the same book."""
        data = write_book(book)
        self.assertEqual(read_book(data, len(data)), (book, 0))

    def test_the_sign_and_the_newlines(self):
        self.check((((1, NONE),), 0), b"%FOL\n#1\nnone\n")
        self.check((((7, number(5)), (9999, items())), 0), b"%FOL\n#7\n5\n#9999\n[]\n")

    def test_roots(self):
        pages = dict_of((b"Pages", NONE))
        self.check((((1, NONE), (20, NONE)), 20), b"%FOL\n#1\nnone\n#20\nnone\nroot @20\n")
        self.check((((1, NONE), (20, pages)), 1), b"%FOL\n#1\nnone\n#20\n<</Pages none>>\nroot @1\n")
        self.check((((3, pages),), 3), b"%FOL\n#3\n<</Pages none>>\nroot @3\n")
        self.check((((3, stream(b"", (b"Pages", NONE))),), 0), b"%FOL\n#3\n<</Pages none>>{0}{}\n")

    def test_books_that_are_not_sound(self):
        pages = dict_of((b"Pages", NONE))
        for book in (
            None, 5, (), "book", ((), 0), ((), 1), (((1, NONE),), 2), (((0, NONE),), 0), (((10000, NONE),), 0),
            (((2, NONE), (1, NONE)), 1), (((1, NONE), (1, NONE)), 1), (((1, pages),), 0), (((1, NONE), (2, pages)), 0),
            ([(1, NONE)], 1), [((1, NONE),), 1], (((1, NONE),),), (((1, NONE),), True), (((True, NONE),), 1),
            (((1, NONE),), None), (((1, NONE, 0),), 1), (((1, NONE),), 1, 1),
        ):
            with self.assertRaises(Malformed, msg=book):
                write_book(book)
        for value in WRONG:
            with self.assertRaises(Malformed, msg=value):
                write_book((((1, NONE), (2, value)), 1))

    def test_one_book_with_everything(self):
        values = [
            NONE, ("bool", 0), ("bool", 1), number(2147483647), number(-2147483647), number(0), ("ref", 1),
            ("ref", 9999), name(b""), name(EVERY_BYTE), text(b""), text(EVERY_BYTE), items(), dict_of(), stream(b""),
            nested("list", 16), nested("dict", 16, name(b"")), nested("stream", 16, text(b")")),
            stream(b"{}"), stream(b"a{}{}b>>\n#4 5\nroot @3\n", (EVERY_BYTE, text(b"(")), (b"", NONE)),
            stream(EVERY_BYTE, (b"Pages", stream(b"{3}"))),
        ]
        values.append(items(*values[:15]))
        values.append(("dict", pairs(*[([at], value) for at, value in enumerate(values[:15])])))
        values.append(stream(b">>{0}{}", *[([255 - at], value) for at, value in enumerate(values[:15])]))
        objects = tuple((3 * at + 1, value) for at, value in enumerate(values))
        for root in (0, 1, 4, objects[-1][0]):
            self.assertTrue(is_book((objects, root)))
            self.check_again((objects, root))
        for value in values:
            self.check_again((((5, value),), 5))

    def test_drawn_books(self):
        source = drawn(21)
        for _ in range(400):
            objects, root = drawn_book(source)
            self.assertTrue(is_book((objects, root)))
            data = b"%FOL\n" + b"".join(b"#%d\n" % at + written(value) + b"\n" for at, value in objects)
            self.check((objects, root), data + (b"root @%d\n" % root if root else b""))

    def test_written_books_that_were_changed(self):
        source = drawn(32)
        choices = EVERY_BYTE + SIGNS * 20
        for _ in range(1500):
            data = changed(source, write_book(drawn_book(source)), choices=choices)
            found, left = read_book(data, len(data))
            self.assertEqual(left, 0)
            if found is not None:
                self.assertTrue(is_book(found), bytes(data))
                self.check_again(found)

    def test_copies(self):
        check_copies(self, write_book, (((1, items(number(1))), (2, stream(b"abc"))), 2))


if __name__ == "__main__":
    unittest.main()
