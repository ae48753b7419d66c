import unittest

from stillroom.pages import lay_out
from layouts import ENOUGH, act, acts_of, book, book_with, check_costs, marks_of, page_of, pages_of, sealed, sealed_mark
from support import check_copies

WHITE = 16777215

# Values that are no list, no text and no name.
OTHERS = ("none", "true", "5", "<</A 1>>", "<</Kind /Text>>{1}a{}", "@99")


def pages_book(*pages, root="", objects=""):
    return book(f"#1 <</Pages [{' '.join(pages)}] {root}>>\n{objects}")


class Pages(unittest.TestCase):
    def check_sides(self, page, width, height, back=WHITE):
        expected = (width, height, back, (), ())
        self.assertEqual(pages_of(pages_book(f"<<{page}>>")), [expected])

    def test_no_pages(self):
        for root in ("<<>>", "<</Pages []>>", "none", "5", "[<<>>]", "(a)", "@1", "@9", "<</pages [<<>>]>>"):
            self.assertEqual(lay_out(book("#1 " + root), 7), ([], 7))
            self.assertEqual(lay_out(book("#1 " + root), 0), ([], 0))

    def test_the_root_0(self):
        self.assertEqual(lay_out((((5, ("list", ())),), 0), 7), ([], 7))

    def test_a_root_behind_references(self):
        found = book("#1 @2 #2 @3 #3 <</Pages @4>> #4 [@5 @6] #5 <</Width 3>> #6 <</Width @7>> #7 @8 #8 4")
        self.assertEqual([page[0] for page in pages_of(found)], [3, 4])

    def test_a_root_that_is_a_stream(self):
        self.assertEqual(len(pages_of(book("#1 <</Pages [<<>>]>>{1}a{}"))), 1)

    def test_pages_that_are_no_list(self):
        for value in OTHERS + ("(a)", "/A"):
            self.assertEqual(lay_out(book(f"#1 <</Pages {value}>>"), 7), ([], 7))

    def test_items_that_are_no_dicts(self):
        found = pages_book("none", "<</Width 1>>", "5", "[<<>>]", "<</Width 2>>{1}a{}", "@99", "@2",
                           objects="#2 <</Width 3>>")
        self.assertEqual([page[0] for page in pages_of(found)], [1, 3])
        check_costs(self, found, 8, 1)

    def test_32_and_33_dicts(self):
        for count in (0, 1, 31, 32, 33, 40):
            found = pages_book(*[f"<</Width {1 + at}>>" for at in range(count)])
            pages, left = lay_out(found, ENOUGH)
            self.assertEqual([page[0] for page in pages], list(range(1, 1 + min(count, 32))))
            self.assertEqual(ENOUGH - left, count + min(count, 32))

    def test_other_items_do_not_count(self):
        found = pages_book(*["none <<>>"] * 33)
        self.assertEqual(len(pages_of(found)), 32)

    def test_sides(self):
        self.check_sides("", 32, 32)
        for side in (1, 2, 63, 64):
            self.check_sides(f"/Width {side}", side, 32)
            self.check_sides(f"/Height {side}", 32, side)
        for side, found in ((0, 1), (-1, 1), (-2147483647, 1), (65, 64), (2147483647, 64)):
            self.check_sides(f"/Width {side} /Height {side}", found, found)
        for side in ("none", "true", "/A", "(5)", "[5]", "<</Width 5>>", "@99", "@1"):
            self.check_sides(f"/Width {side} /Height {side}", 32, 32)

    def test_backs(self):
        for back in (0, 1, WHITE):
            self.check_sides(f"/Back {back}", 32, 32, back)
        for back in (-1, WHITE + 1, "none", "false", "/A", "(5)", "[5]", "@99"):
            self.check_sides(f"/Back {back}", 32, 32)

    def test_a_body(self):
        width, height, back, marks, acts = page_of(sealed() + sealed(2, 3), page="/Back 7")
        self.assertEqual((width, height, back, acts), (16, 16, 7, ()))
        self.assertEqual(marks, (sealed_mark(0, 0), sealed_mark(0, 4, 2, 3)))

    def test_bodies_that_are_no_list(self):
        for value in OTHERS + ("(a)", sealed()):
            found = pages_book(f"<</Body {value}>>")
            self.assertEqual(pages_of(found), [(32, 32, WHITE, (), ())])
            check_costs(self, found, 2)

    def test_marks_are_in_the_box_of_the_page(self):
        found = pages_of(pages_book(f"<</Width 5 /Height 6 /Body [{sealed()}]>>", f"<</Body [{sealed()}]>>"))
        self.assertEqual(found[0][3], (sealed_mark(0, 0, clip=(0, 0, 20, 24)),))
        self.assertEqual(found[1][3], (sealed_mark(0, 0, clip=(0, 0, 128, 128)),))

    def test_copies(self):
        check_copies(self, lay_out, book_with(sealed() + "<</Kind /Text /Text (ab c)>>", root="/Open (a)"), ENOUGH)


class Acts(unittest.TestCase):
    # What a value stands for in an act.
    data = (
        ("(ab)", "ab"), ("/ab", "ab"), ("()", ""), ("/", ""), ("<</Do (ab)>>", "ab"), ("<</Do ()>>", ""),
        ("<</Do /ab>>", ""), ("<</Do 5>>", ""), ("<</do (ab)>>", ""), ("<<>>", ""), ("<</Do (ab)>>{2}ab{}", ""),
        ("5", ""), ("true", ""), ("[(ab)]", ""), ("[]", ""), ("<</Do @2>>", "cd"), ("@2", "cd"), ("@3", "cd"),
        ("<</Do @99>>", ""),
    )
    objects = "#2 (cd) #3 @2"

    def test_open_of_the_root(self):
        for value, data in self.data:
            self.assertEqual(acts_of("", root=f"/Open {value}", objects=self.objects), [act("open", data)])
        for value in ("none", "@99", "@1000 /Opened (a)"):
            self.assertEqual(acts_of("", root=f"/Open {value}"), [])

    def test_open_of_a_page(self):
        for value, data in self.data:
            self.assertEqual(acts_of("", page=f"/Open {value}", objects=self.objects), [act("open", data)])
        self.assertEqual(acts_of("", page="/Open none"), [])
        self.assertEqual(acts_of("", page="/Open @99"), [])

    def test_files(self):
        for value, data in self.data:
            self.assertEqual(acts_of("", root=f"/Files [{value}]", objects=self.objects), [act("file", data)])
        self.assertEqual(acts_of("", root="/Files [none @99]"), [act("file"), act("file")])
        self.assertEqual(acts_of("", root="/Files [(b) (a) (b)]"),
                         [act("file", "b"), act("file", "a"), act("file", "b")])

    def test_files_that_are_no_list(self):
        for value in OTHERS + ("(a)", "/a"):
            found = pages_book("<<>>", root=f"/Files {value}")
            self.assertEqual(pages_of(found)[0][4], ())
            check_costs(self, found, 2)

    def test_only_the_first_page_has_those_of_the_root(self):
        found = pages_book("none", "<</Open (b)>>", "<</Open (c)>>", root="/Open (a) /Files [(f)] /Body [5]")
        acts = [page[4] for page in pages_of(found)]
        self.assertEqual(acts, [(act("open", "a"), act("file", "f"), act("open", "b")), (act("open", "c"),)])

    def test_without_pages(self):
        for pages in ("", "/Pages []", "/Pages [5 none]", "/Pages 5"):
            found, left = lay_out(book(f"#1 <<{pages} /Open (a) /Files [(a) (b)]>>"), 7)
            self.assertEqual((found, left), ([], 5 if pages == "/Pages [5 none]" else 7))

    def test_their_order(self):
        body = "<</Kind /Script /Text (s)>> <</Kind /Fetch /From (f)>>"
        acts = acts_of(body, page="/Open /p", root="/Files [(x) /y] /Open <</Do (r)>>")
        self.assertEqual(acts, [
            act("open", "r"), act("file", "x"), act("file", "y"), act("open", "p"), act("script", "s"),
            act("fetch", "f"),
        ])


class Costs(unittest.TestCase):
    def test_pages(self):
        check_costs(self, pages_book("<<>>"), 2)
        check_costs(self, pages_book("<<>>", "<<>>", "<<>>"), 4, 1, 1)

    def test_bodies(self):
        check_costs(self, pages_book("<</Body []>>"), 2)
        check_costs(self, pages_book("<</Body [5 none 6]>>", "<</Body [5]>>"), 6, 2)
        check_costs(self, pages_book(f"<</Body [5 {sealed()}]>>", f"<</Body [{sealed()} {sealed()}]>>"), 6, 5)

    def test_files(self):
        check_costs(self, pages_book("<<>>", "<<>>", root="/Files [1 2 3]"), 6, 1)
        check_costs(self, pages_book("<</Body [1 2]>>", "<</Files [1 2]>>", root="/Files [1 2 3]"), 8, 1)

    def test_looking_at_values_costs_nothing(self):
        found = book("#1 @2 #2 <</Pages @3 /Open @4 /Files @5>> #3 [@6 @6] #4 (a) #5 [@4] #6 <</Width @7 /Body @8>>"
                     "#7 5 #8 [@9] #9 <</Kind @10 /Text @4>> #10 /Script")
        check_costs(self, found, 2 + 1 + 1 + 1 + 1, 1 + 1 + 1)

    def test_no_work(self):
        self.assertEqual(lay_out(pages_book("<<>>"), 0), ([], 0))
        self.assertEqual(lay_out(pages_book("<<>>"), 1), ([], 0))


class Keys(unittest.TestCase):
    """Point 127."""

    def test_numbers(self):
        for value, width in (("3", 3), ("@2", 5), ("@3", 5), ("@99", 8), ("@4", 8), ("(3)", 8), ("/A", 8), ("none", 8),
                             ("[3]", 8), ("<</Width 3>>", 8), ("<<>>{1}3{}", 8), ("true", 8), ("-5", 1), ("65", 64)):
            body = f"<</Kind /Sealed /Width {value} /Height 1>>"
            self.assertEqual(marks_of(body, objects="#2 5 #3 @2 #4 @4"), [sealed_mark(0, 0, width)])

    def test_colours(self):
        for value, colour in (("3", 3), ("@2", 5), ("@3", 5), ("@99", WHITE), ("-1", WHITE), ("16777216", WHITE),
                              ("0", 0), ("(3)", WHITE), ("[3]", WHITE), ("none", WHITE), ("false", WHITE)):
            self.assertEqual(page_of("", page=f"/Back {value}", objects="#2 5 #3 @2")[2], colour)

    def test_names(self):
        for value, is_name in (("/Sealed", True), ("@2", True), ("@3", True), ("(Sealed)", False), ("[/Sealed]", False),
                               ("none", False), ("5", False), ("<</Kind /Sealed>>", False), ("@99", False),
                               ("/sealed", False), ("/", False), ("/Sealeds", False), ("/~53ealed", True)):
            marks = marks_of(f"<</Width 1 /Height 1 /Kind {value}>>", objects="#2 /Sealed #3 @2")
            self.assertEqual(marks, [sealed_mark(0, 0)] if is_name else [])

    def test_texts(self):
        for value, data in (("(ab)", "ab"), ("@2", "cd"), ("@3", "cd"), ("/ab", ""), ("[(ab)]", ""), ("5", ""),
                            ("none", ""), ("@99", ""), ("<</Text (ab)>>", ""), ("<<>>{2}ab{}", ""), ("<6162>", "ab")):
            acts = acts_of(f"<</Kind /Script /Text {value}>>", objects="#2 (cd) #3 @2")
            self.assertEqual(acts, [act("script", data)])

    def test_lists(self):
        one = sealed()
        for value, count in ((f"[{one}]", 1), ("@2", 2), ("@3", 2), ("[@4 @5]", 2), (one, 0), ("none", 0), ("@99", 0),
                             ("[@99 none 5]", 0), (f"[[{one}]]", 0), ("(a)", 0), (f"<</Blocks [{one}]>>", 0)):
            marks = marks_of(f"<</Kind /Box /Blocks {value}>>", objects=f"#2 [{one}{one}] #3 @2 #4 {one} #5 @4")
            self.assertEqual(marks, [sealed_mark(0, 4 * at) for at in range(count)])

    def test_an_item_that_is_followed_to_none(self):
        acts = acts_of("", root="/Files [@99 (a) @98]")
        self.assertEqual(acts, [act("file"), act("file", "a"), act("file")])

    def test_a_stream_in_the_place_of_a_dict(self):
        stream = "<</Kind /Sealed /Width 1 /Height 1>>{1}a{}"
        self.assertEqual(marks_of(stream), [])
        self.assertEqual(marks_of(f"<</Kind /Box /Blocks [{stream}]>>"), [])
        self.assertEqual(pages_of(pages_book("<</Width 5>>{1}a{}")), [])

    def test_keys_of_a_stream(self):
        # The root may be a stream: what get finds is what counts.
        found = book(f"#1 <</Pages [<</Body [{sealed()}]>>] /Files [(a)]>>" + "{1}a{}")
        self.assertEqual(pages_of(found)[0][4], (act("file", "a"),))

    def test_chains(self):
        for steps, width in ((63, 5), (64, 5), (65, 8), (66, 8)):
            objects = "".join(f"#{at + 1} @{at + 2} " for at in range(1, steps)) + f"#{steps + 1} 5"
            body = "<</Kind /Sealed /Height 1 /Width @2>>"
            self.assertEqual(marks_of(body, objects=objects), [sealed_mark(0, 0, width)])

    def test_rings(self):
        body = "<</Kind /Sealed /Height 1 /Width @2>> @2 <</Kind @3>> <</Kind /Box /Blocks @4>>"
        body += "<</Kind /Box /Blocks [@2]>>"
        self.assertEqual(marks_of(body, objects="#2 @2 #3 @4 #4 @3"), [sealed_mark(0, 0, 8)])

    def test_a_list_costs_as_soon_as_it_is_reached(self):
        # Each item costs, whatever it is, and also behind references.
        box = "<</Kind /Box /Blocks [none @2 @99 (a) 5 [1 2 3]]>>"
        check_costs(self, book_with(box, objects="#2 @2"), 2 + 1 + 1 + 6)
        check_costs(self, book_with(f"{box} <</Kind /Box /Blocks []>>", objects="#2 @2"), 2 + 2 + 2 + 6)


if __name__ == "__main__":
    unittest.main()
