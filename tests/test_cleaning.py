import unittest

from stillroom.cleaning import clean
from stillroom.showing import acts, alike, depth, show
from stillroom.signs import kind_of
from stillroom.stills import read_still, write_still
from documents import all_kinds, crate_of, drawn_document, folio_of, moving, picture, sheet, still
from support import changed, check_copies, drawn


class Cleaning(unittest.TestCase):
    def check(self, data):
        """What point 185 says of every list."""
        found = clean(data)
        self.assertEqual(found, write_still(show(data)))
        self.assertEqual(kind_of(found), "still")
        self.assertEqual(read_still(found), show(data))
        self.assertTrue(alike(found, data))
        self.assertEqual(clean(found), found)
        self.assertEqual((acts(found), depth(found)), ([], 0))
        return found

    def test_every_kind(self):
        for data in all_kinds().values():
            self.assertTrue(show(self.check(data)))

    def test_nothing(self):
        for data in ([], [1, 2, 3], list(b"still 1\n"), list(b"hello"), crate_of(), folio_of(), sheet("")):
            self.assertEqual(self.check(data), write_still([]))

    def test_a_still_is_cleaned_to_itself(self):
        for data in (still(), still(5), still(*range(8))):
            self.assertEqual(self.check(data), data)

    def test_what_is_shown_alike_is_cleaned_to_the_same_list(self):
        lists = [
            still(5), picture(5), moving(5), folio_of(5),
            folio_of(5, more="/Open (x) /Files [(a)] /Hidden (b)", acts=("s",)), crate_of(a=still(5)),
            crate_of(a=crate_of(b=picture(5))), picture(5) + [1, 2, 3], [0] * 9 + folio_of(5),
            crate_of(a=still(), b=[1, 2], c=moving(5, 5)),
        ]
        for data in lists:
            self.assertEqual(self.check(data), still(5))
        self.assertNotEqual(clean(picture(6)), still(5))

    def test_nothing_of_what_is_not_seen_is_left(self):
        data = folio_of(5, more="/Open (secret) /Files [(secret)]", acts=("secret",)) + list(b"secret")
        self.assertNotIn(b"secret", bytes(self.check(data)))

    def test_drawn_documents(self):
        source = drawn(79)
        found = {}
        for _ in range(300):
            data = drawn_document(source)
            cleaned = self.check(data)
            # Unlike pages have unlike stills, and like ones the same.
            self.assertEqual(found.setdefault(tuple(cleaned), show(data)), show(data))
            self.check(changed(source, data))

    def test_copies(self):
        for data in all_kinds().values():
            check_copies(self, clean, data)


if __name__ == "__main__":
    unittest.main()
