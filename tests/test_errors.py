import unittest

from stillroom import errors


class Errors(unittest.TestCase):
    def test_base_class(self):
        self.assertTrue(issubclass(errors.StillroomError, ValueError))

    def test_each_error_has_the_base_class(self):
        for name in ("OutOfRange", "Malformed", "NotThere", "TooMuch"):
            found = getattr(errors, name)
            self.assertEqual(found.__bases__, (errors.StillroomError,))
            self.assertEqual(found.__module__, "stillroom.errors")
            with self.assertRaises(errors.StillroomError):
                raise found("a text")


if __name__ == "__main__":
    unittest.main()
