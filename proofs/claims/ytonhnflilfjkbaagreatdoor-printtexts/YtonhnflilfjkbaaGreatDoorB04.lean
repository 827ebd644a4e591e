/-
  Texts laid together in one: TabG, MathG, Ref03Form, Ref03Of, GrammarTexts.
-/
import Derived.Test.YtonhnflilfjkbaaGreatDoorB01
import Derived.Test.YtonhnflilfjkbaaGreatDoorB03
import Derived.WalkSpells
import Derived.Test.YtonhnflilfjkbaaGreatDoorProg
/-
  The tables of the layer grammar, as the program and the document's answer have them: texts by numbers, forms by operations, names of enumerants.
-/
namespace Go.Proofs.YtonhnflilfjkbaaGreatDoor
open Go.RowKit
set_option linter.unusedVariables false

def namingT : List (Int × ByteArray) := [
  (1, ⟨#[79, 112, 85, 110, 100, 101, 102, 47, 116, 114, 47, 47, 47, 48, 47, 55]⟩),
  (3, ⟨#[79, 112, 83, 111, 117, 114, 99, 101, 47, 47, 108, 110, 47, 47, 48, 47, 52]⟩),
  (5, ⟨#[79, 112, 78, 97, 109, 101, 47, 47, 105, 115, 47, 47, 48, 47, 53]⟩),
  (6, ⟨#[79, 112, 77, 101, 109, 98, 101, 114, 78, 97, 109, 101, 47, 47, 105, 110, 115, 47, 47, 48, 47, 53]⟩),
  (7, ⟨#[79, 112, 83, 116, 114, 105, 110, 103, 47, 114, 47, 115, 47, 47, 48, 47, 52]⟩),
  (14, ⟨#[79, 112, 77, 101, 109, 111, 114, 121, 77, 111, 100, 101, 108, 47, 47, 97, 109, 47, 47, 48, 47, 49]⟩),
  (15, ⟨#[79, 112, 69, 110, 116, 114, 121, 80, 111, 105, 110, 116, 47, 47, 101, 105, 115, 47, 105, 47, 48, 47, 50]⟩),
  (16, ⟨#[79, 112, 69, 120, 101, 99, 117, 116, 105, 111, 110, 77, 111, 100, 101, 47, 47, 105, 120, 47, 47, 48, 47, 51]⟩),
  (17, ⟨#[79, 112, 67, 97, 112, 97, 98, 105, 108, 105, 116, 121, 47, 47, 107, 47, 47, 48, 47, 48]⟩),
  (19, ⟨#[79, 112, 84, 121, 112, 101, 86, 111, 105, 100, 47, 114, 47, 47, 47, 48, 47, 55]⟩),
  (20, ⟨#[79, 112, 84, 121, 112, 101, 66, 111, 111, 108, 47, 114, 47, 47, 47, 48, 47, 55]⟩),
  (21, ⟨#[79, 112, 84, 121, 112, 101, 73, 110, 116, 47, 114, 47, 110, 110, 47, 47, 48, 47, 55]⟩),
  (23, ⟨#[79, 112, 84, 121, 112, 101, 86, 101, 99, 116, 111, 114, 47, 114, 47, 105, 110, 47, 47, 48, 47, 55]⟩),
  (28, ⟨#[79, 112, 84, 121, 112, 101, 65, 114, 114, 97, 121, 47, 114, 47, 105, 105, 47, 47, 48, 47, 55]⟩),
  (30, ⟨#[79, 112, 84, 121, 112, 101, 83, 116, 114, 117, 99, 116, 47, 114, 47, 47, 105, 47, 48, 47, 55]⟩),
  (32, ⟨#[79, 112, 84, 121, 112, 101, 80, 111, 105, 110, 116, 101, 114, 47, 114, 47, 99, 105, 47, 47, 48, 47, 55]⟩),
  (33, ⟨#[79, 112, 84, 121, 112, 101, 70, 117, 110, 99, 116, 105, 111, 110, 47, 114, 47, 105, 47, 105, 47, 48, 47, 55]⟩)]

def makingT : List (Int × ByteArray) := [
  (41, ⟨#[79, 112, 67, 111, 110, 115, 116, 97, 110, 116, 84, 114, 117, 101, 47, 116, 114, 47, 47, 47, 48, 47, 55]⟩),
  (42, ⟨#[79, 112, 67, 111, 110, 115, 116, 97, 110, 116, 70, 97, 108, 115, 101, 47, 116, 114, 47, 47, 47, 48, 47, 55]⟩),
  (43, ⟨#[79, 112, 67, 111, 110, 115, 116, 97, 110, 116, 47, 116, 114, 47, 110, 47, 47, 48, 47, 55]⟩),
  (44, ⟨#[79, 112, 67, 111, 110, 115, 116, 97, 110, 116, 67, 111, 109, 112, 111, 115, 105, 116, 101, 47, 116, 114, 47, 47, 105, 47, 48, 47, 55]⟩),
  (46, ⟨#[79, 112, 67, 111, 110, 115, 116, 97, 110, 116, 78, 117, 108, 108, 47, 116, 114, 47, 47, 47, 48, 47, 55]⟩),
  (54, ⟨#[79, 112, 70, 117, 110, 99, 116, 105, 111, 110, 47, 116, 114, 47, 102, 105, 47, 47, 48, 47, 56]⟩),
  (55, ⟨#[79, 112, 70, 117, 110, 99, 116, 105, 111, 110, 80, 97, 114, 97, 109, 101, 116, 101, 114, 47, 116, 114, 47, 47, 47, 48, 47, 56]⟩),
  (56, ⟨#[79, 112, 70, 117, 110, 99, 116, 105, 111, 110, 69, 110, 100, 47, 47, 47, 47, 48, 47, 56]⟩),
  (57, ⟨#[79, 112, 70, 117, 110, 99, 116, 105, 111, 110, 67, 97, 108, 108, 47, 116, 114, 47, 105, 47, 105, 47, 48, 47, 56]⟩),
  (59, ⟨#[79, 112, 86, 97, 114, 105, 97, 98, 108, 101, 47, 116, 114, 47, 99, 47, 105, 47, 49, 47, 55]⟩),
  (61, ⟨#[79, 112, 76, 111, 97, 100, 47, 116, 114, 47, 105, 47, 47, 48, 47, 56]⟩),
  (62, ⟨#[79, 112, 83, 116, 111, 114, 101, 47, 47, 105, 105, 47, 47, 48, 47, 56]⟩),
  (65, ⟨#[79, 112, 65, 99, 99, 101, 115, 115, 67, 104, 97, 105, 110, 47, 116, 114, 47, 105, 47, 105, 47, 48, 47, 56]⟩),
  (71, ⟨#[79, 112, 68, 101, 99, 111, 114, 97, 116, 101, 47, 47, 105, 100, 47, 110, 47, 48, 47, 54]⟩),
  (77, ⟨#[79, 112, 86, 101, 99, 116, 111, 114, 69, 120, 116, 114, 97, 99, 116, 68, 121, 110, 97, 109, 105, 99, 47, 116, 114, 47, 105, 105, 47, 47, 48, 47, 56]⟩),
  (78, ⟨#[79, 112, 86, 101, 99, 116, 111, 114, 73, 110, 115, 101, 114, 116, 68, 121, 110, 97, 109, 105, 99, 47, 116, 114, 47, 105, 105, 105, 47, 47, 48, 47, 56]⟩),
  (79, ⟨#[79, 112, 86, 101, 99, 116, 111, 114, 83, 104, 117, 102, 102, 108, 101, 47, 116, 114, 47, 105, 105, 47, 110, 47, 48, 47, 56]⟩),
  (80, ⟨#[79, 112, 67, 111, 109, 112, 111, 115, 105, 116, 101, 67, 111, 110, 115, 116, 114, 117, 99, 116, 47, 116, 114, 47, 47, 105, 47, 48, 47, 56]⟩),
  (81, ⟨#[79, 112, 67, 111, 109, 112, 111, 115, 105, 116, 101, 69, 120, 116, 114, 97, 99, 116, 47, 116, 114, 47, 105, 47, 110, 47, 48, 47, 56]⟩),
  (82, ⟨#[79, 112, 67, 111, 109, 112, 111, 115, 105, 116, 101, 73, 110, 115, 101, 114, 116, 47, 116, 114, 47, 105, 105, 47, 110, 47, 48, 47, 56]⟩),
  (83, ⟨#[79, 112, 67, 111, 112, 121, 79, 98, 106, 101, 99, 116, 47, 116, 114, 47, 105, 47, 47, 48, 47, 56]⟩)]

def countingT : List (Int × ByteArray) := [
  (124, ⟨#[79, 112, 66, 105, 116, 99, 97, 115, 116, 47, 116, 114, 47, 105, 47, 47, 48, 47, 56]⟩),
  (126, ⟨#[79, 112, 83, 78, 101, 103, 97, 116, 101, 47, 116, 114, 47, 105, 47, 47, 48, 47, 56]⟩),
  (128, ⟨#[79, 112, 73, 65, 100, 100, 47, 116, 114, 47, 105, 105, 47, 47, 48, 47, 56]⟩),
  (130, ⟨#[79, 112, 73, 83, 117, 98, 47, 116, 114, 47, 105, 105, 47, 47, 48, 47, 56]⟩),
  (132, ⟨#[79, 112, 73, 77, 117, 108, 47, 116, 114, 47, 105, 105, 47, 47, 48, 47, 56]⟩),
  (134, ⟨#[79, 112, 85, 68, 105, 118, 47, 116, 114, 47, 105, 105, 47, 47, 48, 47, 56]⟩),
  (135, ⟨#[79, 112, 83, 68, 105, 118, 47, 116, 114, 47, 105, 105, 47, 47, 48, 47, 56]⟩),
  (137, ⟨#[79, 112, 85, 77, 111, 100, 47, 116, 114, 47, 105, 105, 47, 47, 48, 47, 56]⟩),
  (138, ⟨#[79, 112, 83, 82, 101, 109, 47, 116, 114, 47, 105, 105, 47, 47, 48, 47, 56]⟩),
  (139, ⟨#[79, 112, 83, 77, 111, 100, 47, 116, 114, 47, 105, 105, 47, 47, 48, 47, 56]⟩),
  (149, ⟨#[79, 112, 73, 65, 100, 100, 67, 97, 114, 114, 121, 47, 116, 114, 47, 105, 105, 47, 47, 48, 47, 56]⟩),
  (150, ⟨#[79, 112, 73, 83, 117, 98, 66, 111, 114, 114, 111, 119, 47, 116, 114, 47, 105, 105, 47, 47, 48, 47, 56]⟩),
  (151, ⟨#[79, 112, 85, 77, 117, 108, 69, 120, 116, 101, 110, 100, 101, 100, 47, 116, 114, 47, 105, 105, 47, 47, 48, 47, 56]⟩),
  (152, ⟨#[79, 112, 83, 77, 117, 108, 69, 120, 116, 101, 110, 100, 101, 100, 47, 116, 114, 47, 105, 105, 47, 47, 48, 47, 56]⟩),
  (154, ⟨#[79, 112, 65, 110, 121, 47, 116, 114, 47, 105, 47, 47, 48, 47, 56]⟩),
  (155, ⟨#[79, 112, 65, 108, 108, 47, 116, 114, 47, 105, 47, 47, 48, 47, 56]⟩)]

def comparingT : List (Int × ByteArray) := [
  (164, ⟨#[79, 112, 76, 111, 103, 105, 99, 97, 108, 69, 113, 117, 97, 108, 47, 116, 114, 47, 105, 105, 47, 47, 48, 47, 56]⟩),
  (165, ⟨#[79, 112, 76, 111, 103, 105, 99, 97, 108, 78, 111, 116, 69, 113, 117, 97, 108, 47, 116, 114, 47, 105, 105, 47, 47, 48, 47, 56]⟩),
  (166, ⟨#[79, 112, 76, 111, 103, 105, 99, 97, 108, 79, 114, 47, 116, 114, 47, 105, 105, 47, 47, 48, 47, 56]⟩),
  (167, ⟨#[79, 112, 76, 111, 103, 105, 99, 97, 108, 65, 110, 100, 47, 116, 114, 47, 105, 105, 47, 47, 48, 47, 56]⟩),
  (168, ⟨#[79, 112, 76, 111, 103, 105, 99, 97, 108, 78, 111, 116, 47, 116, 114, 47, 105, 47, 47, 48, 47, 56]⟩),
  (169, ⟨#[79, 112, 83, 101, 108, 101, 99, 116, 47, 116, 114, 47, 105, 105, 105, 47, 47, 48, 47, 56]⟩),
  (170, ⟨#[79, 112, 73, 69, 113, 117, 97, 108, 47, 116, 114, 47, 105, 105, 47, 47, 48, 47, 56]⟩),
  (171, ⟨#[79, 112, 73, 78, 111, 116, 69, 113, 117, 97, 108, 47, 116, 114, 47, 105, 105, 47, 47, 48, 47, 56]⟩),
  (172, ⟨#[79, 112, 85, 71, 114, 101, 97, 116, 101, 114, 84, 104, 97, 110, 47, 116, 114, 47, 105, 105, 47, 47, 48, 47, 56]⟩),
  (173, ⟨#[79, 112, 83, 71, 114, 101, 97, 116, 101, 114, 84, 104, 97, 110, 47, 116, 114, 47, 105, 105, 47, 47, 48, 47, 56]⟩),
  (174, ⟨#[79, 112, 85, 71, 114, 101, 97, 116, 101, 114, 84, 104, 97, 110, 69, 113, 117, 97, 108, 47, 116, 114, 47, 105, 105, 47, 47, 48, 47, 56]⟩),
  (175, ⟨#[79, 112, 83, 71, 114, 101, 97, 116, 101, 114, 84, 104, 97, 110, 69, 113, 117, 97, 108, 47, 116, 114, 47, 105, 105, 47, 47, 48, 47, 56]⟩),
  (176, ⟨#[79, 112, 85, 76, 101, 115, 115, 84, 104, 97, 110, 47, 116, 114, 47, 105, 105, 47, 47, 48, 47, 56]⟩),
  (177, ⟨#[79, 112, 83, 76, 101, 115, 115, 84, 104, 97, 110, 47, 116, 114, 47, 105, 105, 47, 47, 48, 47, 56]⟩),
  (178, ⟨#[79, 112, 85, 76, 101, 115, 115, 84, 104, 97, 110, 69, 113, 117, 97, 108, 47, 116, 114, 47, 105, 105, 47, 47, 48, 47, 56]⟩),
  (179, ⟨#[79, 112, 83, 76, 101, 115, 115, 84, 104, 97, 110, 69, 113, 117, 97, 108, 47, 116, 114, 47, 105, 105, 47, 47, 48, 47, 56]⟩)]

def bitT : List (Int × ByteArray) := [
  (194, ⟨#[79, 112, 83, 104, 105, 102, 116, 82, 105, 103, 104, 116, 76, 111, 103, 105, 99, 97, 108, 47, 116, 114, 47, 105, 105, 47, 47, 48, 47, 56]⟩),
  (195, ⟨#[79, 112, 83, 104, 105, 102, 116, 82, 105, 103, 104, 116, 65, 114, 105, 116, 104, 109, 101, 116, 105, 99, 47, 116, 114, 47, 105, 105, 47, 47, 48, 47, 56]⟩),
  (196, ⟨#[79, 112, 83, 104, 105, 102, 116, 76, 101, 102, 116, 76, 111, 103, 105, 99, 97, 108, 47, 116, 114, 47, 105, 105, 47, 47, 48, 47, 56]⟩),
  (197, ⟨#[79, 112, 66, 105, 116, 119, 105, 115, 101, 79, 114, 47, 116, 114, 47, 105, 105, 47, 47, 48, 47, 56]⟩),
  (198, ⟨#[79, 112, 66, 105, 116, 119, 105, 115, 101, 88, 111, 114, 47, 116, 114, 47, 105, 105, 47, 47, 48, 47, 56]⟩),
  (199, ⟨#[79, 112, 66, 105, 116, 119, 105, 115, 101, 65, 110, 100, 47, 116, 114, 47, 105, 105, 47, 47, 48, 47, 56]⟩),
  (200, ⟨#[79, 112, 78, 111, 116, 47, 116, 114, 47, 105, 47, 47, 48, 47, 56]⟩),
  (201, ⟨#[79, 112, 66, 105, 116, 70, 105, 101, 108, 100, 73, 110, 115, 101, 114, 116, 47, 116, 114, 47, 105, 105, 105, 105, 47, 47, 48, 47, 56]⟩),
  (202, ⟨#[79, 112, 66, 105, 116, 70, 105, 101, 108, 100, 83, 69, 120, 116, 114, 97, 99, 116, 47, 116, 114, 47, 105, 105, 105, 47, 47, 48, 47, 56]⟩),
  (203, ⟨#[79, 112, 66, 105, 116, 70, 105, 101, 108, 100, 85, 69, 120, 116, 114, 97, 99, 116, 47, 116, 114, 47, 105, 105, 105, 47, 47, 48, 47, 56]⟩),
  (204, ⟨#[79, 112, 66, 105, 116, 82, 101, 118, 101, 114, 115, 101, 47, 116, 114, 47, 105, 47, 47, 48, 47, 56]⟩),
  (205, ⟨#[79, 112, 66, 105, 116, 67, 111, 117, 110, 116, 47, 116, 114, 47, 105, 47, 47, 48, 47, 56]⟩)]

def flowT : List (Int × ByteArray) := [
  (245, ⟨#[79, 112, 80, 104, 105, 47, 116, 114, 47, 47, 105, 105, 47, 48, 47, 56]⟩),
  (246, ⟨#[79, 112, 76, 111, 111, 112, 77, 101, 114, 103, 101, 47, 47, 105, 105, 103, 47, 47, 48, 47, 56]⟩),
  (247, ⟨#[79, 112, 83, 101, 108, 101, 99, 116, 105, 111, 110, 77, 101, 114, 103, 101, 47, 47, 105, 104, 47, 47, 48, 47, 56]⟩),
  (248, ⟨#[79, 112, 76, 97, 98, 101, 108, 47, 114, 47, 47, 47, 48, 47, 56]⟩),
  (249, ⟨#[79, 112, 66, 114, 97, 110, 99, 104, 47, 47, 105, 47, 47, 48, 47, 56]⟩),
  (250, ⟨#[79, 112, 66, 114, 97, 110, 99, 104, 67, 111, 110, 100, 105, 116, 105, 111, 110, 97, 108, 47, 47, 105, 105, 105, 47, 47, 48, 47, 56]⟩),
  (251, ⟨#[79, 112, 83, 119, 105, 116, 99, 104, 47, 47, 105, 105, 47, 110, 105, 47, 48, 47, 56]⟩),
  (252, ⟨#[79, 112, 75, 105, 108, 108, 47, 47, 47, 47, 48, 47, 56]⟩),
  (253, ⟨#[79, 112, 82, 101, 116, 117, 114, 110, 47, 47, 47, 47, 48, 47, 56]⟩),
  (254, ⟨#[79, 112, 82, 101, 116, 117, 114, 110, 86, 97, 108, 117, 101, 47, 47, 105, 47, 47, 48, 47, 56]⟩),
  (255, ⟨#[79, 112, 85, 110, 114, 101, 97, 99, 104, 97, 98, 108, 101, 47, 47, 47, 47, 48, 47, 56]⟩)]

def enumT : List (Int × ByteArray) := [
  (107, ⟨#[48, 58, 77, 97, 116, 114, 105, 120, 59, 49, 58, 83, 104, 97, 100, 101, 114, 59]⟩),
  (97, ⟨#[48, 58, 76, 111, 103, 105, 99, 97, 108, 59]⟩),
  (109, ⟨#[48, 58, 83, 105, 109, 112, 108, 101, 59, 49, 58, 71, 76, 83, 76, 52, 53, 48, 59]⟩),
  (101, ⟨#[48, 58, 86, 101, 114, 116, 101, 120, 59, 52, 58, 70, 114, 97, 103, 109, 101, 110, 116, 59]⟩),
  (120, ⟨#[55, 58, 79, 114, 105, 103, 105, 110, 85, 112, 112, 101, 114, 76, 101, 102, 116, 59]⟩),
  (108, ⟨#[48, 58, 85, 110, 107, 110, 111, 119, 110, 59, 49, 58, 69, 83, 83, 76, 59, 50, 58, 71, 76, 83, 76, 59]⟩),
  (99, ⟨#[49, 58, 73, 110, 112, 117, 116, 59, 51, 58, 79, 117, 116, 112, 117, 116, 59, 54, 58, 80, 114, 105, 118, 97, 116, 101, 59, 55, 58, 70, 117, 110, 99, 116, 105, 111, 110, 59]⟩),
  (100, ⟨#[48, 58, 82, 101, 108, 97, 120, 101, 100, 80, 114, 101, 99, 105, 115, 105, 111, 110, 59, 49, 49, 58, 66, 117, 105, 108, 116, 73, 110, 59, 49, 52, 58, 70, 108, 97, 116, 59, 51, 48, 58, 76, 111, 99, 97, 116, 105, 111, 110, 59]⟩),
  (102, ⟨#[48, 58, 78, 111, 110, 101, 59, 49, 58, 73, 110, 108, 105, 110, 101, 59, 50, 58, 68, 111, 110, 116, 73, 110, 108, 105, 110, 101, 59, 52, 58, 80, 117, 114, 101, 59, 56, 58, 67, 111, 110, 115, 116, 59]⟩),
  (104, ⟨#[48, 58, 78, 111, 110, 101, 59, 49, 58, 70, 108, 97, 116, 116, 101, 110, 59, 50, 58, 68, 111, 110, 116, 70, 108, 97, 116, 116, 101, 110, 59]⟩),
  (103, ⟨#[48, 58, 78, 111, 110, 101, 59, 49, 58, 85, 110, 114, 111, 108, 108, 59, 50, 58, 68, 111, 110, 116, 85, 110, 114, 111, 108, 108, 59]⟩)]

/-- A form but for its operation: its name, whether it has a type and a result, Fixed, Rest, Most, Part. -/
abbrev Frm := ByteArray × Bool × Bool × ByteArray × ByteArray × Int × Int

def refT : List (Int × Frm) := [
  (1, ⟨#[79, 112, 85, 110, 100, 101, 102]⟩, true, true, ⟨#[]⟩, ⟨#[]⟩, 0, 7),
  (3, ⟨#[79, 112, 83, 111, 117, 114, 99, 101]⟩, false, false, ⟨#[108, 110]⟩, ⟨#[]⟩, 0, 4),
  (5, ⟨#[79, 112, 78, 97, 109, 101]⟩, false, false, ⟨#[105, 115]⟩, ⟨#[]⟩, 0, 5),
  (6, ⟨#[79, 112, 77, 101, 109, 98, 101, 114, 78, 97, 109, 101]⟩, false, false, ⟨#[105, 110, 115]⟩, ⟨#[]⟩, 0, 5),
  (7, ⟨#[79, 112, 83, 116, 114, 105, 110, 103]⟩, false, true, ⟨#[115]⟩, ⟨#[]⟩, 0, 4),
  (14, ⟨#[79, 112, 77, 101, 109, 111, 114, 121, 77, 111, 100, 101, 108]⟩, false, false, ⟨#[97, 109]⟩, ⟨#[]⟩, 0, 1),
  (15, ⟨#[79, 112, 69, 110, 116, 114, 121, 80, 111, 105, 110, 116]⟩, false, false, ⟨#[101, 105, 115]⟩, ⟨#[105]⟩, 0, 2),
  (16, ⟨#[79, 112, 69, 120, 101, 99, 117, 116, 105, 111, 110, 77, 111, 100, 101]⟩, false, false, ⟨#[105, 120]⟩, ⟨#[]⟩, 0, 3),
  (17, ⟨#[79, 112, 67, 97, 112, 97, 98, 105, 108, 105, 116, 121]⟩, false, false, ⟨#[107]⟩, ⟨#[]⟩, 0, 0),
  (19, ⟨#[79, 112, 84, 121, 112, 101, 86, 111, 105, 100]⟩, false, true, ⟨#[]⟩, ⟨#[]⟩, 0, 7),
  (20, ⟨#[79, 112, 84, 121, 112, 101, 66, 111, 111, 108]⟩, false, true, ⟨#[]⟩, ⟨#[]⟩, 0, 7),
  (21, ⟨#[79, 112, 84, 121, 112, 101, 73, 110, 116]⟩, false, true, ⟨#[110, 110]⟩, ⟨#[]⟩, 0, 7),
  (23, ⟨#[79, 112, 84, 121, 112, 101, 86, 101, 99, 116, 111, 114]⟩, false, true, ⟨#[105, 110]⟩, ⟨#[]⟩, 0, 7),
  (28, ⟨#[79, 112, 84, 121, 112, 101, 65, 114, 114, 97, 121]⟩, false, true, ⟨#[105, 105]⟩, ⟨#[]⟩, 0, 7),
  (30, ⟨#[79, 112, 84, 121, 112, 101, 83, 116, 114, 117, 99, 116]⟩, false, true, ⟨#[]⟩, ⟨#[105]⟩, 0, 7),
  (32, ⟨#[79, 112, 84, 121, 112, 101, 80, 111, 105, 110, 116, 101, 114]⟩, false, true, ⟨#[99, 105]⟩, ⟨#[]⟩, 0, 7),
  (33, ⟨#[79, 112, 84, 121, 112, 101, 70, 117, 110, 99, 116, 105, 111, 110]⟩, false, true, ⟨#[105]⟩, ⟨#[105]⟩, 0, 7),
  (41, ⟨#[79, 112, 67, 111, 110, 115, 116, 97, 110, 116, 84, 114, 117, 101]⟩, true, true, ⟨#[]⟩, ⟨#[]⟩, 0, 7),
  (42, ⟨#[79, 112, 67, 111, 110, 115, 116, 97, 110, 116, 70, 97, 108, 115, 101]⟩, true, true, ⟨#[]⟩, ⟨#[]⟩, 0, 7),
  (43, ⟨#[79, 112, 67, 111, 110, 115, 116, 97, 110, 116]⟩, true, true, ⟨#[110]⟩, ⟨#[]⟩, 0, 7),
  (44, ⟨#[79, 112, 67, 111, 110, 115, 116, 97, 110, 116, 67, 111, 109, 112, 111, 115, 105, 116, 101]⟩, true, true, ⟨#[]⟩, ⟨#[105]⟩, 0, 7),
  (46, ⟨#[79, 112, 67, 111, 110, 115, 116, 97, 110, 116, 78, 117, 108, 108]⟩, true, true, ⟨#[]⟩, ⟨#[]⟩, 0, 7),
  (54, ⟨#[79, 112, 70, 117, 110, 99, 116, 105, 111, 110]⟩, true, true, ⟨#[102, 105]⟩, ⟨#[]⟩, 0, 8),
  (55, ⟨#[79, 112, 70, 117, 110, 99, 116, 105, 111, 110, 80, 97, 114, 97, 109, 101, 116, 101, 114]⟩, true, true, ⟨#[]⟩, ⟨#[]⟩, 0, 8),
  (56, ⟨#[79, 112, 70, 117, 110, 99, 116, 105, 111, 110, 69, 110, 100]⟩, false, false, ⟨#[]⟩, ⟨#[]⟩, 0, 8),
  (57, ⟨#[79, 112, 70, 117, 110, 99, 116, 105, 111, 110, 67, 97, 108, 108]⟩, true, true, ⟨#[105]⟩, ⟨#[105]⟩, 0, 8),
  (59, ⟨#[79, 112, 86, 97, 114, 105, 97, 98, 108, 101]⟩, true, true, ⟨#[99]⟩, ⟨#[105]⟩, 1, 7),
  (61, ⟨#[79, 112, 76, 111, 97, 100]⟩, true, true, ⟨#[105]⟩, ⟨#[]⟩, 0, 8),
  (62, ⟨#[79, 112, 83, 116, 111, 114, 101]⟩, false, false, ⟨#[105, 105]⟩, ⟨#[]⟩, 0, 8),
  (65, ⟨#[79, 112, 65, 99, 99, 101, 115, 115, 67, 104, 97, 105, 110]⟩, true, true, ⟨#[105]⟩, ⟨#[105]⟩, 0, 8),
  (71, ⟨#[79, 112, 68, 101, 99, 111, 114, 97, 116, 101]⟩, false, false, ⟨#[105, 100]⟩, ⟨#[110]⟩, 0, 6),
  (77, ⟨#[79, 112, 86, 101, 99, 116, 111, 114, 69, 120, 116, 114, 97, 99, 116, 68, 121, 110, 97, 109, 105, 99]⟩, true, true, ⟨#[105, 105]⟩, ⟨#[]⟩, 0, 8),
  (78, ⟨#[79, 112, 86, 101, 99, 116, 111, 114, 73, 110, 115, 101, 114, 116, 68, 121, 110, 97, 109, 105, 99]⟩, true, true, ⟨#[105, 105, 105]⟩, ⟨#[]⟩, 0, 8),
  (79, ⟨#[79, 112, 86, 101, 99, 116, 111, 114, 83, 104, 117, 102, 102, 108, 101]⟩, true, true, ⟨#[105, 105]⟩, ⟨#[110]⟩, 0, 8),
  (80, ⟨#[79, 112, 67, 111, 109, 112, 111, 115, 105, 116, 101, 67, 111, 110, 115, 116, 114, 117, 99, 116]⟩, true, true, ⟨#[]⟩, ⟨#[105]⟩, 0, 8),
  (81, ⟨#[79, 112, 67, 111, 109, 112, 111, 115, 105, 116, 101, 69, 120, 116, 114, 97, 99, 116]⟩, true, true, ⟨#[105]⟩, ⟨#[110]⟩, 0, 8),
  (82, ⟨#[79, 112, 67, 111, 109, 112, 111, 115, 105, 116, 101, 73, 110, 115, 101, 114, 116]⟩, true, true, ⟨#[105, 105]⟩, ⟨#[110]⟩, 0, 8),
  (83, ⟨#[79, 112, 67, 111, 112, 121, 79, 98, 106, 101, 99, 116]⟩, true, true, ⟨#[105]⟩, ⟨#[]⟩, 0, 8),
  (124, ⟨#[79, 112, 66, 105, 116, 99, 97, 115, 116]⟩, true, true, ⟨#[105]⟩, ⟨#[]⟩, 0, 8),
  (126, ⟨#[79, 112, 83, 78, 101, 103, 97, 116, 101]⟩, true, true, ⟨#[105]⟩, ⟨#[]⟩, 0, 8),
  (128, ⟨#[79, 112, 73, 65, 100, 100]⟩, true, true, ⟨#[105, 105]⟩, ⟨#[]⟩, 0, 8),
  (130, ⟨#[79, 112, 73, 83, 117, 98]⟩, true, true, ⟨#[105, 105]⟩, ⟨#[]⟩, 0, 8),
  (132, ⟨#[79, 112, 73, 77, 117, 108]⟩, true, true, ⟨#[105, 105]⟩, ⟨#[]⟩, 0, 8),
  (134, ⟨#[79, 112, 85, 68, 105, 118]⟩, true, true, ⟨#[105, 105]⟩, ⟨#[]⟩, 0, 8),
  (135, ⟨#[79, 112, 83, 68, 105, 118]⟩, true, true, ⟨#[105, 105]⟩, ⟨#[]⟩, 0, 8),
  (137, ⟨#[79, 112, 85, 77, 111, 100]⟩, true, true, ⟨#[105, 105]⟩, ⟨#[]⟩, 0, 8),
  (138, ⟨#[79, 112, 83, 82, 101, 109]⟩, true, true, ⟨#[105, 105]⟩, ⟨#[]⟩, 0, 8),
  (139, ⟨#[79, 112, 83, 77, 111, 100]⟩, true, true, ⟨#[105, 105]⟩, ⟨#[]⟩, 0, 8),
  (149, ⟨#[79, 112, 73, 65, 100, 100, 67, 97, 114, 114, 121]⟩, true, true, ⟨#[105, 105]⟩, ⟨#[]⟩, 0, 8),
  (150, ⟨#[79, 112, 73, 83, 117, 98, 66, 111, 114, 114, 111, 119]⟩, true, true, ⟨#[105, 105]⟩, ⟨#[]⟩, 0, 8),
  (151, ⟨#[79, 112, 85, 77, 117, 108, 69, 120, 116, 101, 110, 100, 101, 100]⟩, true, true, ⟨#[105, 105]⟩, ⟨#[]⟩, 0, 8),
  (152, ⟨#[79, 112, 83, 77, 117, 108, 69, 120, 116, 101, 110, 100, 101, 100]⟩, true, true, ⟨#[105, 105]⟩, ⟨#[]⟩, 0, 8),
  (154, ⟨#[79, 112, 65, 110, 121]⟩, true, true, ⟨#[105]⟩, ⟨#[]⟩, 0, 8),
  (155, ⟨#[79, 112, 65, 108, 108]⟩, true, true, ⟨#[105]⟩, ⟨#[]⟩, 0, 8),
  (164, ⟨#[79, 112, 76, 111, 103, 105, 99, 97, 108, 69, 113, 117, 97, 108]⟩, true, true, ⟨#[105, 105]⟩, ⟨#[]⟩, 0, 8),
  (165, ⟨#[79, 112, 76, 111, 103, 105, 99, 97, 108, 78, 111, 116, 69, 113, 117, 97, 108]⟩, true, true, ⟨#[105, 105]⟩, ⟨#[]⟩, 0, 8),
  (166, ⟨#[79, 112, 76, 111, 103, 105, 99, 97, 108, 79, 114]⟩, true, true, ⟨#[105, 105]⟩, ⟨#[]⟩, 0, 8),
  (167, ⟨#[79, 112, 76, 111, 103, 105, 99, 97, 108, 65, 110, 100]⟩, true, true, ⟨#[105, 105]⟩, ⟨#[]⟩, 0, 8),
  (168, ⟨#[79, 112, 76, 111, 103, 105, 99, 97, 108, 78, 111, 116]⟩, true, true, ⟨#[105]⟩, ⟨#[]⟩, 0, 8),
  (169, ⟨#[79, 112, 83, 101, 108, 101, 99, 116]⟩, true, true, ⟨#[105, 105, 105]⟩, ⟨#[]⟩, 0, 8),
  (170, ⟨#[79, 112, 73, 69, 113, 117, 97, 108]⟩, true, true, ⟨#[105, 105]⟩, ⟨#[]⟩, 0, 8),
  (171, ⟨#[79, 112, 73, 78, 111, 116, 69, 113, 117, 97, 108]⟩, true, true, ⟨#[105, 105]⟩, ⟨#[]⟩, 0, 8),
  (172, ⟨#[79, 112, 85, 71, 114, 101, 97, 116, 101, 114, 84, 104, 97, 110]⟩, true, true, ⟨#[105, 105]⟩, ⟨#[]⟩, 0, 8),
  (173, ⟨#[79, 112, 83, 71, 114, 101, 97, 116, 101, 114, 84, 104, 97, 110]⟩, true, true, ⟨#[105, 105]⟩, ⟨#[]⟩, 0, 8),
  (174, ⟨#[79, 112, 85, 71, 114, 101, 97, 116, 101, 114, 84, 104, 97, 110, 69, 113, 117, 97, 108]⟩, true, true, ⟨#[105, 105]⟩, ⟨#[]⟩, 0, 8),
  (175, ⟨#[79, 112, 83, 71, 114, 101, 97, 116, 101, 114, 84, 104, 97, 110, 69, 113, 117, 97, 108]⟩, true, true, ⟨#[105, 105]⟩, ⟨#[]⟩, 0, 8),
  (176, ⟨#[79, 112, 85, 76, 101, 115, 115, 84, 104, 97, 110]⟩, true, true, ⟨#[105, 105]⟩, ⟨#[]⟩, 0, 8),
  (177, ⟨#[79, 112, 83, 76, 101, 115, 115, 84, 104, 97, 110]⟩, true, true, ⟨#[105, 105]⟩, ⟨#[]⟩, 0, 8),
  (178, ⟨#[79, 112, 85, 76, 101, 115, 115, 84, 104, 97, 110, 69, 113, 117, 97, 108]⟩, true, true, ⟨#[105, 105]⟩, ⟨#[]⟩, 0, 8),
  (179, ⟨#[79, 112, 83, 76, 101, 115, 115, 84, 104, 97, 110, 69, 113, 117, 97, 108]⟩, true, true, ⟨#[105, 105]⟩, ⟨#[]⟩, 0, 8),
  (194, ⟨#[79, 112, 83, 104, 105, 102, 116, 82, 105, 103, 104, 116, 76, 111, 103, 105, 99, 97, 108]⟩, true, true, ⟨#[105, 105]⟩, ⟨#[]⟩, 0, 8),
  (195, ⟨#[79, 112, 83, 104, 105, 102, 116, 82, 105, 103, 104, 116, 65, 114, 105, 116, 104, 109, 101, 116, 105, 99]⟩, true, true, ⟨#[105, 105]⟩, ⟨#[]⟩, 0, 8),
  (196, ⟨#[79, 112, 83, 104, 105, 102, 116, 76, 101, 102, 116, 76, 111, 103, 105, 99, 97, 108]⟩, true, true, ⟨#[105, 105]⟩, ⟨#[]⟩, 0, 8),
  (197, ⟨#[79, 112, 66, 105, 116, 119, 105, 115, 101, 79, 114]⟩, true, true, ⟨#[105, 105]⟩, ⟨#[]⟩, 0, 8),
  (198, ⟨#[79, 112, 66, 105, 116, 119, 105, 115, 101, 88, 111, 114]⟩, true, true, ⟨#[105, 105]⟩, ⟨#[]⟩, 0, 8),
  (199, ⟨#[79, 112, 66, 105, 116, 119, 105, 115, 101, 65, 110, 100]⟩, true, true, ⟨#[105, 105]⟩, ⟨#[]⟩, 0, 8),
  (200, ⟨#[79, 112, 78, 111, 116]⟩, true, true, ⟨#[105]⟩, ⟨#[]⟩, 0, 8),
  (201, ⟨#[79, 112, 66, 105, 116, 70, 105, 101, 108, 100, 73, 110, 115, 101, 114, 116]⟩, true, true, ⟨#[105, 105, 105, 105]⟩, ⟨#[]⟩, 0, 8),
  (202, ⟨#[79, 112, 66, 105, 116, 70, 105, 101, 108, 100, 83, 69, 120, 116, 114, 97, 99, 116]⟩, true, true, ⟨#[105, 105, 105]⟩, ⟨#[]⟩, 0, 8),
  (203, ⟨#[79, 112, 66, 105, 116, 70, 105, 101, 108, 100, 85, 69, 120, 116, 114, 97, 99, 116]⟩, true, true, ⟨#[105, 105, 105]⟩, ⟨#[]⟩, 0, 8),
  (204, ⟨#[79, 112, 66, 105, 116, 82, 101, 118, 101, 114, 115, 101]⟩, true, true, ⟨#[105]⟩, ⟨#[]⟩, 0, 8),
  (205, ⟨#[79, 112, 66, 105, 116, 67, 111, 117, 110, 116]⟩, true, true, ⟨#[105]⟩, ⟨#[]⟩, 0, 8),
  (245, ⟨#[79, 112, 80, 104, 105]⟩, true, true, ⟨#[]⟩, ⟨#[105, 105]⟩, 0, 8),
  (246, ⟨#[79, 112, 76, 111, 111, 112, 77, 101, 114, 103, 101]⟩, false, false, ⟨#[105, 105, 103]⟩, ⟨#[]⟩, 0, 8),
  (247, ⟨#[79, 112, 83, 101, 108, 101, 99, 116, 105, 111, 110, 77, 101, 114, 103, 101]⟩, false, false, ⟨#[105, 104]⟩, ⟨#[]⟩, 0, 8),
  (248, ⟨#[79, 112, 76, 97, 98, 101, 108]⟩, false, true, ⟨#[]⟩, ⟨#[]⟩, 0, 8),
  (249, ⟨#[79, 112, 66, 114, 97, 110, 99, 104]⟩, false, false, ⟨#[105]⟩, ⟨#[]⟩, 0, 8),
  (250, ⟨#[79, 112, 66, 114, 97, 110, 99, 104, 67, 111, 110, 100, 105, 116, 105, 111, 110, 97, 108]⟩, false, false, ⟨#[105, 105, 105]⟩, ⟨#[]⟩, 0, 8),
  (251, ⟨#[79, 112, 83, 119, 105, 116, 99, 104]⟩, false, false, ⟨#[105, 105]⟩, ⟨#[110, 105]⟩, 0, 8),
  (252, ⟨#[79, 112, 75, 105, 108, 108]⟩, false, false, ⟨#[]⟩, ⟨#[]⟩, 0, 8),
  (253, ⟨#[79, 112, 82, 101, 116, 117, 114, 110]⟩, false, false, ⟨#[]⟩, ⟨#[]⟩, 0, 8),
  (254, ⟨#[79, 112, 82, 101, 116, 117, 114, 110, 86, 97, 108, 117, 101]⟩, false, false, ⟨#[105]⟩, ⟨#[]⟩, 0, 8),
  (255, ⟨#[79, 112, 85, 110, 114, 101, 97, 99, 104, 97, 98, 108, 101]⟩, false, false, ⟨#[]⟩, ⟨#[]⟩, 0, 8)]

/-- The enumerants: letter, number, name. -/
def namesT : List (Int × Int × ByteArray) := [
  (107, 0, ⟨#[77, 97, 116, 114, 105, 120]⟩),
  (107, 1, ⟨#[83, 104, 97, 100, 101, 114]⟩),
  (97, 0, ⟨#[76, 111, 103, 105, 99, 97, 108]⟩),
  (109, 0, ⟨#[83, 105, 109, 112, 108, 101]⟩),
  (109, 1, ⟨#[71, 76, 83, 76, 52, 53, 48]⟩),
  (101, 0, ⟨#[86, 101, 114, 116, 101, 120]⟩),
  (101, 4, ⟨#[70, 114, 97, 103, 109, 101, 110, 116]⟩),
  (120, 7, ⟨#[79, 114, 105, 103, 105, 110, 85, 112, 112, 101, 114, 76, 101, 102, 116]⟩),
  (108, 0, ⟨#[85, 110, 107, 110, 111, 119, 110]⟩),
  (108, 1, ⟨#[69, 83, 83, 76]⟩),
  (108, 2, ⟨#[71, 76, 83, 76]⟩),
  (99, 1, ⟨#[73, 110, 112, 117, 116]⟩),
  (99, 3, ⟨#[79, 117, 116, 112, 117, 116]⟩),
  (99, 6, ⟨#[80, 114, 105, 118, 97, 116, 101]⟩),
  (99, 7, ⟨#[70, 117, 110, 99, 116, 105, 111, 110]⟩),
  (100, 0, ⟨#[82, 101, 108, 97, 120, 101, 100, 80, 114, 101, 99, 105, 115, 105, 111, 110]⟩),
  (100, 11, ⟨#[66, 117, 105, 108, 116, 73, 110]⟩),
  (100, 14, ⟨#[70, 108, 97, 116]⟩),
  (100, 30, ⟨#[76, 111, 99, 97, 116, 105, 111, 110]⟩),
  (102, 0, ⟨#[78, 111, 110, 101]⟩),
  (102, 1, ⟨#[73, 110, 108, 105, 110, 101]⟩),
  (102, 2, ⟨#[68, 111, 110, 116, 73, 110, 108, 105, 110, 101]⟩),
  (102, 4, ⟨#[80, 117, 114, 101]⟩),
  (102, 8, ⟨#[67, 111, 110, 115, 116]⟩),
  (104, 0, ⟨#[78, 111, 110, 101]⟩),
  (104, 1, ⟨#[70, 108, 97, 116, 116, 101, 110]⟩),
  (104, 2, ⟨#[68, 111, 110, 116, 70, 108, 97, 116, 116, 101, 110]⟩),
  (103, 0, ⟨#[78, 111, 110, 101]⟩),
  (103, 1, ⟨#[85, 110, 114, 111, 108, 108]⟩),
  (103, 2, ⟨#[68, 111, 110, 116, 85, 110, 114, 111, 108, 108]⟩)]

end Go.Proofs.YtonhnflilfjkbaaGreatDoor

/-
  How the text of a form is read, sign by sign: plain mathematics, and that each text of the table reads as the form of the document's table.
-/
namespace Go.Proofs.YtonhnflilfjkbaaGreatDoor
open Go.RowKit

/-- The sign at a place. -/
def sgn (s : ByteArray) (k : Nat) : Int := ((s.data.toList.getD k 0).toNat : Int)

theorem sgn_at (s : ByteArray) (k : Nat) (h : k < s.size) : ((s[k]'h).toNat : Int) = sgn s k := by
  have h' : k < s.data.toList.length := by simpa using h
  unfold sgn
  rw [List.getD_eq_getElem?_getD, List.getElem?_eq_getElem h']
  rfl

/-- What has been read: which column, where it began, and the form so far. -/
abbrev RdSt := Int × Int × Frm

def rdStep (s : ByteArray) (k : Nat) (c : Int) (x : RdSt) : RdSt :=
  match x with
  | (col, fr, nm, t, r, fx, rs, mo, pa) =>
    if c = 47 then (col + 1, k + 1, nm, t, r, fx, rs, mo, pa)
    else if col = 0 then (col, fr, s.extract fr.toNat (k + 1), t, r, fx, rs, mo, pa)
    else if col = 1 then (col, fr, nm, t || (c == 116), r || (c == 114), fx, rs, mo, pa)
    else if col = 2 then (col, fr, nm, t, r, s.extract fr.toNat (k + 1), rs, mo, pa)
    else if col = 3 then (col, fr, nm, t, r, fx, s.extract fr.toNat (k + 1), mo, pa)
    else if col = 4 then (col, fr, nm, t, r, fx, rs, 10 * mo + (c - 48), pa)
    else (col, fr, nm, t, r, fx, rs, mo, c - 48)

def rdTo (s : ByteArray) : Nat → RdSt
  | 0 => (0, 0, ⟨#[]⟩, false, false, ⟨#[]⟩, ⟨#[]⟩, 0, 0)
  | k + 1 => rdStep s k (sgn s k) (rdTo s k)

/-- A state, and a sign, that the reading of a good text meets. -/
def rdOk (k : Nat) (c : Int) (x : RdSt) : Bool :=
  decide (c < 128 ∧ 0 ≤ c ∧ 0 ≤ x.1 ∧ x.1 ≤ 5 ∧ 0 ≤ x.2.1 ∧ x.2.1 ≤ k ∧ 0 ≤ x.2.2.2.2.2.2.2.1 ∧ x.2.2.2.2.2.2.2.1 ≤ 1000 ∧ (x.1 = 4 → c ≠ 47 → 48 ≤ c) ∧ (x.1 = 5 → c ≠ 47 → 48 ≤ c))
def goodT (s : ByteArray) : Bool := (List.range s.size).all fun k => rdOk k (sgn s k) (rdTo s k)
theorem goodT_at {s : ByteArray} (h : goodT s = true) {k : Nat} (hk : k < s.size) : rdOk k (sgn s k) (rdTo s k) = true := List.all_eq_true.1 h k (List.mem_range.2 hk)

/-- The form that a text tells. -/
def rdF (s : ByteArray) : Frm := (rdTo s s.size).2.2

/-- The text of an operation's form. -/
def ftxt (n : Int) : ByteArray := if n < 41 then lookT namingT n else if n < 124 then lookT makingT n else if n < 164 then lookT countingT n else if n < 194 then lookT comparingT n else if n < 245 then lookT bitT n else lookT flowT n

end Go.Proofs.YtonhnflilfjkbaaGreatDoor

/-
  What form of the document's answer returns: a form of just these fields.
-/
namespace Go.Proofs.YtonhnflilfjkbaaGreatDoor
open Go.RowKit
set_option maxRecDepth 10000

/-- A form as a value. -/
def formV (op : Int) (f : Frm) : Value := .agg #[.int .u16 op, .string f.1, .bool f.2.1, .bool f.2.2.1, .string f.2.2.2.1, .string f.2.2.2.2.1, .int .i64 f.2.2.2.2.2.1, .int .u8 f.2.2.2.2.2.2]
/-- No form. -/
def noFrm : Frm := (⟨#[]⟩, false, false, ⟨#[]⟩, ⟨#[]⟩, 0, 0)

theorem form_any (n : Int) (nm : ByteArray) (t r : Bool) (fx rs : ByteArray) (mo pa : Int) (w : World) :
    Calls Tryz.prog 68 #[.int .u16 n, .string nm, .bool t, .bool r, .string fx, .string rs, .int .i64 mo, .int .u8 pa] w fun e w' => e = .returned (.agg #[.int .u16 n, .string nm, .bool t, .bool r, .string fx, .string rs, .int .i64 mo, .int .u8 pa]) ∧ Below w.heap.size w w' := by
  go_enter Tryz.func68, Tryz.ntmps68
  go_wp2
  go_goals
  exact bodyPost_ret (v := .agg #[.int .u16 n, .string nm, .bool t, .bool r, .string fx, .string rs, .int .i64 mo, .int .u8 pa]) (by simp [results, Tryz.results68, go_sem]) rfl ⟨rfl, (Below.refl _ _).alloc (Nat.le_refl _) _⟩

end Go.Proofs.YtonhnflilfjkbaaGreatDoor

/-
  What Of of the document's answer returns, for every operation: the form of its table, or none.
-/
namespace Go.Proofs.YtonhnflilfjkbaaGreatDoor
open Go.RowKit
set_option maxRecDepth 10000
set_option linter.unusedVariables false
set_option linter.unusedSimpArgs false

theorem one_block {w : World} {B T : Nat} {cs : Array Value} (h : w.heap[B]? = some (.cells cs T (0, 0))) : (∀ i, w.cell? ⟨B, i, none⟩ = cs[i]?) ∧ (∀ i, w.frozen? ⟨B, i, none⟩ = false) := by
  refine ⟨fun i => ?_, fun i => ?_⟩
  · simp [World.cell?, h]
  · simp [World.frozen?, h]
theorem alloc_new (w : World) (cs : Array Value) (T : Nat) : (w.alloc (.cells cs T)).heap[w.heap.size]? = some (.cells cs T (0, 0)) := heap_alloc_new w _

theorem eight_set {w : World} {B T : Nat} {z0 z1 z2 z3 z4 z5 z6 z7 : Value} (h : w.heap[B]? = some (.cells #[z0, z1, z2, z3, z4, z5, z6, z7] T (0, 0))) (u0 u1 u2 u3 u4 u5 u6 u7 : Value) :
    ((((((((w.setCell ⟨B, 0, none⟩ u0).setCell ⟨B, 1, none⟩ u1).setCell ⟨B, 2, none⟩ u2).setCell ⟨B, 3, none⟩ u3).setCell ⟨B, 4, none⟩ u4).setCell ⟨B, 5, none⟩ u5).setCell ⟨B, 6, none⟩ u6).setCell ⟨B, 7, none⟩ u7).heap[B]? = some (.cells #[u0, u1, u2, u3, u4, u5, u6, u7] T (0, 0)) := by
  simp only [World.setCell, Array.getElem?_modify, h]; simp
theorem eight_below (w : World) (B : Nat) (u0 u1 u2 u3 u4 u5 u6 u7 : Value) :
    Below B w ((((((((w.setCell ⟨B, 0, none⟩ u0).setCell ⟨B, 1, none⟩ u1).setCell ⟨B, 2, none⟩ u2).setCell ⟨B, 3, none⟩ u3).setCell ⟨B, 4, none⟩ u4).setCell ⟨B, 5, none⟩ u5).setCell ⟨B, 6, none⟩ u6).setCell ⟨B, 7, none⟩ u7) :=
  ((((((((Below.refl B w).setCell (Nat.le_refl _) _).setCell (Nat.le_refl _) _).setCell (Nat.le_refl _) _).setCell (Nat.le_refl _) _).setCell (Nat.le_refl _) _).setCell (Nat.le_refl _) _).setCell (Nat.le_refl _) _).setCell (Nat.le_refl _) _

/-- A form as its cells. -/
def frmCells (n : Int) (f : Frm) : Array Value := #[.int .u16 n, .string f.1, .bool f.2.1, .bool f.2.2.1, .string f.2.2.2.1, .string f.2.2.2.2.1, .int .i64 f.2.2.2.2.2.1, .int .u8 f.2.2.2.2.2.2]

/-- A form in a block: its cells. -/
theorem frm_cells {w : World} {B T : Nat} {n : Int} {f : Frm} (h : w.heap[B]? = some (.cells (frmCells n f) T (0, 0))) :
    w.cell? ⟨B, 0, none⟩ = some (.int .u16 n) ∧ w.cell? ⟨B, 1, none⟩ = some (.string f.1) ∧ w.cell? ⟨B, 2, none⟩ = some (.bool f.2.1) ∧ w.cell? ⟨B, 3, none⟩ = some (.bool f.2.2.1) ∧ w.cell? ⟨B, 4, none⟩ = some (.string f.2.2.2.1) ∧ w.cell? ⟨B, 5, none⟩ = some (.string f.2.2.2.2.1) ∧ w.cell? ⟨B, 6, none⟩ = some (.int .i64 f.2.2.2.2.2.1) ∧ w.cell? ⟨B, 7, none⟩ = some (.int .u8 f.2.2.2.2.2.2) ∧ ∀ i, w.frozen? ⟨B, i, none⟩ = false := by
  obtain ⟨hc, hf⟩ := one_block h
  exact ⟨hc 0, hc 1, hc 2, hc 3, hc 4, hc 5, hc 6, hc 7, hf⟩

theorem store_frm (w : World) (B : Nat) (z0 z1 z2 z3 z4 z5 z6 z7 : Value) (h : w.heap[B]? = some (.cells #[z0, z1, z2, z3, z4, z5, z6, z7] 66 (0, 0))) (a : Act) (r : Nat) (n : Int) (f : Frm) (h2 : a.tmps[2]?.getD undef = .pointer (some ⟨B, 0, none⟩)) (hr : a.tmps[r]?.getD undef = formV n f) (ty : TypeId) (pos : String) (af : Array Edge) :
    ∃ w', (execOp a.eval ⟨none, .store 66 (.tmp 2) (.tmp r), ty, pos, af, none⟩).run Tryz.prog w = .ok .skip w' ∧ w'.heap[B]? = some (.cells (frmCells n f) 66 (0, 0)) ∧ Below B w w' := by
  obtain ⟨hc, hf⟩ := one_block h
  have c0 := hc 0
  have c1 := hc 1
  have c2 := hc 2
  have c3 := hc 3
  have c4 := hc 4
  have c5 := hc 5
  have c6 := hc 6
  have c7 := hc 7
  unfold formV at hr
  refine ⟨_, ?_, eight_set h _ _ _ _ _ _ _ _, eight_below _ _ _ _ _ _ _ _ _ _⟩
  clear h
  simp [execOp, go_sem, h2, hr, hf, c0, c1, c2, c3, c4, c5, c6, c7]

theorem op_skip {P : Program} {o : Oper} {a : Act} {w w' : World} {K : Act → World → Prop} {Q : Exit → Act → World → Prop} (h : (execOp a.eval o).run P w = .ok .skip w') (hK : K (a.put o.dst undef) w') : o.wp P a w K Q := by
  unfold Oper.wp; rw [h]; exact hK
theorem op_new {P : Program} {o : Oper} {a : Act} {w w' : World} {K : Act → World → Prop} {Q : Exit → Act → World → Prop} {v : Value} (h : (execOp a.eval o).run P w = .ok (.value v) w') (hK : K (a.put o.dst v) w') : o.wp P a w K Q := by
  unfold Oper.wp; rw [h]; exact hK
theorem op_enter {P : Program} {o : Oper} {a : Act} {w : World} {K : Act → World → Prop} {Q : Exit → Act → World → Prop} {f : FuncId} {args : Array Value} (h : (execOp a.eval o).run P w = .ok (.enter f args) w) {v : Value} {R : World → Prop} (hc : Calls P f args w fun e w' => e = .returned v ∧ R w')
    (hK : ∀ w', R w' → K (a.put o.dst v) w') : o.wp P a w K Q := by
  unfold Oper.wp; rw [h]
  refine hc.mono ?_
  rintro e w' ⟨rfl, hr⟩
  exact hK w' hr

/-- The form that an arm answers. -/
def armForm (g T top : Nat) : Code → Option Frm
  | .seq (.region _ ops false) .ret =>
    match ops.toList with
    | [⟨some m, .move (.tmp 0), _, _, _, none⟩, ⟨some r, .call ⟨.value (.func g'), args, _⟩, _, _, _, none⟩, ⟨none, .store T' (.tmp 2) (.tmp r'), _, _, _, none⟩, ⟨some 3, .assign (.const (.bool true)), _, _, _, none⟩] =>
      match args.toList with
      | [.tmp m', .const (.string nm), .const (.bool t), .const (.bool rr), .const (.string fx), .const (.string rs), .const (.int .i64 mo), .const (.int .u8 pa)] =>
        if g' = g ∧ T' = T ∧ m' = m ∧ r' = r ∧ 5 ≤ m ∧ 5 ≤ r ∧ m < top ∧ r < top ∧ m ≠ r then some (nm, t, rr, fx, rs, mo, pa) else none
      | _ => none
    | _ => none
  | _ => none

theorem wp_armForm {top : Nat} {c : Code} {f : Frm} (h : armForm 68 66 top c = some f) {a : Act} {w : World} {B : Nat} {n : Int} {fn : Func} {R : Ending → World → Prop} (hfn : fn.results = #[.cell 2 66, .tmp 3]) (h5 : 5 ≤ top)
    (hs : a.tmps.size = top) (hd : a.defers = []) (h0 : a.tmps.getD 0 undef = .int .u16 n) (h2 : a.tmps.getD 2 undef = .pointer (some ⟨B, 0, none⟩)) {z0 z1 z2 z3 z4 z5 z6 z7 : Value} (hB : w.heap[B]? = some (.cells #[z0, z1, z2, z3, z4, z5, z6, z7] 66 (0, 0)))
    (hR : ∀ w', Below B w w' → R (.returned (.tuple #[formV n f, .bool true])) w') {Q : Exit → Act → World → Prop} (hQ : ∀ a' w', bodyPost Tryz.prog fn R .ret a' w' → Q .ret a' w') : c.wp Tryz.prog Q a w := by
  unfold armForm at h
  split at h
  case h_2 => cases h
  rename_i id ops
  split at h
  case h_2 => cases h
  rename_i m y1 y2 y3 r g' args y4 y5 y6 y7 T' r' y8 y9 y10 y11 y12 y13 hl
  split at h
  case h_2 => cases h
  rename_i m' nm t rr fx rs mo pa hargs
  split at h
  case isFalse => cases h
  rename_i hh
  obtain ⟨rfl, rfl, rfl, rfl, k1, k2, k3, k4, k5⟩ := hh
  have q1 : ∀ i : Nat, i < 5 → ∀ s : Nat, ¬ (m' = i ∧ i < s) := fun i hi s h => absurd (Nat.lt_of_lt_of_le hi k1) (by rw [h.1]; exact Nat.lt_irrefl _)
  have q2 : ∀ i : Nat, i < 5 → ∀ s : Nat, ¬ (r' = i ∧ i < s) := fun i hi s h => absurd (Nat.lt_of_lt_of_le hi k2) (by rw [h.1]; exact Nat.lt_irrefl _)
  cases h
  obtain ⟨args⟩ := args
  simp only at hargs
  subst hargs
  refine wp_seq (wp_region_list ?_)
  rw [hl]
  have hBs : B < w.heap.size := (Array.getElem?_eq_some_iff.1 hB).1
  have e0 : a.tmps[0]?.getD undef = .int .u16 n := by rw [← Array.getD_eq_getD_getElem?]; exact h0
  refine wpList_plain rfl fun K hK => op_value (v := .int .u16 n) (by simp [execOp, go_sem, e0]) (hK _ _ ?_)
  clear hK K
  generalize ha1 : a.put (some m') (.int .u16 n) = a1
  have e1 : a1.tmps[m']?.getD undef = .int .u16 n := by rw [← Array.getD_eq_getD_getElem?, ← ha1, getD_put, if_pos ⟨rfl, by rw [hs]; exact k3⟩]
  refine wpList_plain rfl fun K hK => op_enter (f := 68) (by simp [execOp, go_sem, e1]) (form_any n nm t rr fx rs mo pa w) (fun w1 hb1 => hK _ _ ?_)
  clear hK K
  have hB1 := (hb1.block B hBs).trans hB
  generalize ha2 : a1.put (some r') _ = a2
  have e2 : a2.tmps[2]?.getD undef = .pointer (some ⟨B, 0, none⟩) := by rw [← Array.getD_eq_getD_getElem?, ← ha2, getD_put, if_neg (q2 2 (by decide) _), ← ha1, getD_put, if_neg (q1 2 (by decide) _)]; exact h2
  have e3 : a2.tmps[r']?.getD undef = formV n (nm, t, rr, fx, rs, mo, pa) := by rw [← Array.getD_eq_getD_getElem?, ← ha2, getD_put, if_pos ⟨rfl, by rw [← ha1]; simp [Act.put]; rw [hs]; exact k4⟩]; rfl
  obtain ⟨w2, hrun, hB2, hb2⟩ := store_frm w1 B z0 z1 z2 z3 z4 z5 z6 z7 hB1 a2 r' n (nm, t, rr, fx, rs, mo, pa) e2 e3 y8 y9 y10
  refine wpList_plain rfl fun K hK => op_skip hrun (hK _ _ ?_)
  clear hK K
  refine wpList_plain rfl fun K hK => op_value (v := .bool true) (by simp [execOp, go_sem]) (hK _ _ ?_)
  clear hK K
  refine wpList_nil (wp_ret (hQ _ _ ?_))
  have sz : (a2.put none undef).tmps.size = top := by rw [← ha2, ← ha1]; simp [Act.put, hs]
  refine ⟨by rw [← ha2, ← ha1]; simp [Act.put, hd], .tuple #[formV n (nm, t, rr, fx, rs, mo, pa), .bool true], ?_, hR w2 ((hb1.mono (Nat.le_of_lt hBs)).trans hb2)⟩
  generalize ha3 : (a2.put none undef).put (some 3) (.bool true) = a3
  have e4 : a3.tmps[2]?.getD undef = .pointer (some ⟨B, 0, none⟩) := by rw [← Array.getD_eq_getD_getElem?, ← ha3, getD_put, if_neg (by omega), Array.getD_eq_getD_getElem?]; exact e2
  have e5 : a3.tmps[3]?.getD undef = .bool true := by rw [← Array.getD_eq_getD_getElem?, ← ha3, getD_put, if_pos ⟨rfl, by rw [sz]; omega⟩]
  obtain ⟨hc, hf⟩ := one_block hB2
  have c0 := hc 0
  have c1 := hc 1
  have c2 := hc 2
  have c3 := hc 3
  have c4 := hc 4
  have c5 := hc 5
  have c6 := hc 6
  have c7 := hc 7
  unfold frmCells at c0 c1 c2 c3 c4 c5 c6 c7
  simp [results, hfn, go_sem, e4, e5, formV, c0, c1, c2, c3, c4, c5, c6, c7]

/-- A list of arms, each a form. -/
def formsOf (g T top : Nat) : List (Int × Code) → Option (List (Int × Frm))
  | [] => some []
  | (k, c) :: l => match armForm g T top c, formsOf g T top l with
    | some s, some t => some ((k, s) :: t)
    | _, _ => none
theorem formsOf_mem {g T top : Nat} : ∀ {l : List (Int × Code)} {t : List (Int × Frm)}, formsOf g T top l = some t → ∀ k c, (k, c) ∈ l → ∃ s, armForm g T top c = some s ∧ (k, s) ∈ t
  | [], _, _, _, _, hm => by cases hm
  | (k', c') :: l, t, h, k, c, hm => by
    rw [formsOf] at h
    split at h
    case h_2 => cases h
    rename_i s t' h1 h2
    cases h
    rcases List.mem_cons.1 hm with e | hm
    · cases e; exact ⟨s, h1, List.mem_cons_self⟩
    · obtain ⟨s2, h3, h4⟩ := formsOf_mem h2 k c hm
      exact ⟨s2, h3, List.mem_cons_of_mem _ h4⟩
theorem formsOf_keys {g T top : Nat} : ∀ {l : List (Int × Code)} {t : List (Int × Frm)}, formsOf g T top l = some t → ∀ k s, (k, s) ∈ t → ∃ c, (k, c) ∈ l
  | [], _, h, _, _, hm => by rw [formsOf] at h; cases h; cases hm
  | (k', c') :: l, t, h, k, s, hm => by
    rw [formsOf] at h
    split at h
    case h_2 => cases h
    rename_i s' t' h1 h2
    cases h
    rcases List.mem_cons.1 hm with e | hm
    · cases e; exact ⟨c', List.mem_cons_self⟩
    · obtain ⟨c2, h3⟩ := formsOf_keys h2 k s hm
      exact ⟨c2, List.mem_cons_of_mem _ h3⟩

/-- The form of an operation, and whether there is one. -/
def lookF : List (Int × Frm) → Int → Frm × Bool
  | [], _ => (noFrm, false)
  | (k, s) :: l, n => if n = k then (s, true) else lookF l n
def oneEachF (l : List (Int × Frm)) : Bool := match l with
  | [] => true
  | (k, _) :: l => (l.all fun p => decide (p.1 ≠ k)) && oneEachF l
theorem lookF_mem : ∀ {l : List (Int × Frm)}, oneEachF l = true → ∀ k s, (k, s) ∈ l → lookF l k = (s, true)
  | [], _, _, _, h => by cases h
  | (k', s') :: l, h1, k, s, hm => by
    rw [oneEachF, Bool.and_eq_true] at h1
    rcases List.mem_cons.1 hm with e | hm
    · cases e; simp [lookF]
    · have := List.all_eq_true.1 h1.1 (k, s) hm
      simp only [ne_eq, decide_not, Bool.not_eq_true', decide_eq_false_iff_not] at this
      rw [lookF, if_neg this]
      exact lookF_mem h1.2 k s hm
theorem lookF_none : ∀ {l : List (Int × Frm)} {n : Int}, (∀ k s, (k, s) ∈ l → n ≠ k) → lookF l n = (noFrm, false)
  | [], _, _ => rfl
  | (k', s') :: l, n, h => by
    rw [lookF, if_neg (h k' s' List.mem_cons_self)]
    exact lookF_none fun k s hm => h k s (List.mem_cons_of_mem _ hm)

/-- What is answered of an operation: its number and form, or zeros. -/
def ofV (n : Int) : Value := if (lookF refT n).2 then formV n (lookF refT n).1 else formV 0 noFrm

theorem wp_noForm {top m : Nat} {a : Act} {w : World} {B : Nat} {fn : Func} {R : Ending → World → Prop} {y1 y2 y3 y4 y5 y6 y7 y8 y9 id} (hfn : fn.results = #[.cell 2 66, .tmp 3]) (h5 : 5 ≤ top) (hm : m < top) (hm5 : 5 ≤ m)
    (hs : a.tmps.size = top) (hd : a.defers = []) (h2 : a.tmps.getD 2 undef = .pointer (some ⟨B, 0, none⟩)) {z0 z1 z2 z3 z4 z5 z6 z7 : Value} (hB : w.heap[B]? = some (.cells #[z0, z1, z2, z3, z4, z5, z6, z7] 66 (0, 0)))
    (hR : ∀ w', Below B w w' → R (.returned (.tuple #[formV 0 noFrm, .bool false])) w') :
    (Code.seq (.region id #[⟨some m, .build 66 #[], y1, y2, y3, none⟩, ⟨none, .store 66 (.tmp 2) (.tmp m), y4, y5, y6, none⟩, ⟨some 3, .assign (.const (.bool false)), y7, y8, y9, none⟩] false) .ret).wp Tryz.prog (bodyPost Tryz.prog fn R) a w := by
  refine wp_seq (wp_region_lit ?_)
  refine wpList_plain rfl fun K hK => op_value (v := formV 0 noFrm) (by simp [execOp, go_sem, formV, noFrm]) (hK _ _ ?_)
  clear hK K
  generalize ha2 : a.put (some m) _ = a2
  have e2 : a2.tmps[2]?.getD undef = .pointer (some ⟨B, 0, none⟩) := by rw [← Array.getD_eq_getD_getElem?, ← ha2, getD_put, if_neg (by omega)]; exact h2
  have e3 : a2.tmps[m]?.getD undef = formV 0 noFrm := by rw [← Array.getD_eq_getD_getElem?, ← ha2, getD_put, if_pos ⟨rfl, by rw [hs]; exact hm⟩]
  obtain ⟨w2, hrun, hB2, hb2⟩ := store_frm w B z0 z1 z2 z3 z4 z5 z6 z7 hB a2 m 0 noFrm e2 e3 y4 y5 y6
  refine wpList_plain rfl fun K hK => op_skip hrun (hK _ _ ?_)
  clear hK K
  refine wpList_plain rfl fun K hK => op_value (v := .bool false) (by simp [execOp, go_sem]) (hK _ _ ?_)
  clear hK K
  refine wpList_nil (wp_ret ?_)
  have sz : (a2.put none undef).tmps.size = top := by rw [← ha2]; simp [Act.put, hs]
  refine ⟨by rw [← ha2]; simp [Act.put, hd], .tuple #[formV 0 noFrm, .bool false], ?_, hR w2 hb2⟩
  generalize ha3 : (a2.put none undef).put (some 3) (.bool false) = a3
  have e4 : a3.tmps[2]?.getD undef = .pointer (some ⟨B, 0, none⟩) := by rw [← Array.getD_eq_getD_getElem?, ← ha3, getD_put, if_neg (by omega), Array.getD_eq_getD_getElem?]; exact e2
  have e5 : a3.tmps[3]?.getD undef = .bool false := by rw [← Array.getD_eq_getD_getElem?, ← ha3, getD_put, if_pos ⟨rfl, by rw [sz]; omega⟩]
  obtain ⟨hc, hf⟩ := one_block hB2
  have c0 := hc 0
  have c1 := hc 1
  have c2 := hc 2
  have c3 := hc 3
  have c4 := hc 4
  have c5 := hc 5
  have c6 := hc 6
  have c7 := hc 7
  unfold frmCells noFrm at c0 c1 c2 c3 c4 c5 c6 c7
  simp [results, hfn, go_sem, e4, e5, formV, noFrm, c0, c1, c2, c3, c4, c5, c6, c7]

/-- The switch, off the code. -/
def formSwitch (g T top : Nat) (c : Code) : Option (List (Int × Frm)) := match armsOf 4 5 top .u16 200 c with
  | some l => formsOf g T top l
  | none => none

set_option maxRecDepth 10000 in
theorem refOf_any (n : Int) (w : World) : Calls Tryz.prog 33 #[.int .u16 n] w fun e w' => e = .returned (.tuple #[ofV n, .bool (lookF refT n).2]) ∧ Below w.heap.size w w' := by
  refine calls_of_wp Tryz.func33 rfl ?_
  generalize ha : ({ tmps := #[.int .u16 n] ++ Array.replicate (Tryz.f33.ntmps - (#[Value.int .u16 n] : Array Value).size) undef, defers := [] } : Act) = a
  have hsz : a.tmps.size = Tryz.f33.ntmps := by rw [← ha]; simp
  have ha0 : a.tmps.getD 0 undef = .int .u16 n := by rw [← ha]; rw [Array.getD_eq_getD_getElem?, Array.getElem?_append_left (by simp)]; rfl
  have had : a.defers = [] := by rw [← ha]
  have h1 : oneEachF refT = true := by decide +kernel
  clear ha
  refine wp_seq (wp_region_lit ?_)
  refine wpList_plain rfl fun K hK => op_new (v := .pointer (some ⟨w.heap.size, 0, none⟩)) (w' := w.alloc (.cells (frmCells 0 noFrm) 66)) (by simp [execOp, go_sem, frmCells, noFrm]) (hK _ _ ?_)
  clear hK K
  refine wpList_plain rfl fun K hK => op_value (v := .bool false) (by simp [execOp, go_sem]) (hK _ _ (wpList_nil ?_))
  clear hK K
  refine wp_seq (wp_seq (wp_region_lit ?_))
  generalize hA : (a.put (some 2) (.pointer (some ⟨w.heap.size, 0, none⟩))).put (some 3) (.bool false) = A
  have sA : A.tmps.size = Tryz.f33.ntmps := by rw [← hA]; simp [Act.put, hsz]
  have dA : A.defers = [] := by rw [← hA]; simp [Act.put, had]
  have A0 : A.tmps.getD 0 undef = .int .u16 n := by rw [← hA, getD_put, if_neg (by omega), getD_put, if_neg (by omega)]; exact ha0
  have A2 : A.tmps.getD 2 undef = .pointer (some ⟨w.heap.size, 0, none⟩) := by rw [← hA, getD_put, if_neg (by omega), getD_put, if_pos ⟨rfl, by rw [hsz]; decide⟩]
  clear hA
  have A0' : A.tmps[0]?.getD undef = .int .u16 n := by rw [← Array.getD_eq_getD_getElem?]; exact A0
  refine wpList_plain rfl fun K hK => op_value (v := .int .u16 n) (by simp [execOp, go_sem, A0']) (hK _ _ (wpList_nil (wp_block ?_)))
  clear hK K
  generalize hX : A.put (some 4) (.int .u16 n) = X
  have sX : X.tmps.size = Tryz.f33.ntmps := by rw [← hX]; simp [Act.put, sA]
  have dX : X.defers = [] := by rw [← hX]; simp [Act.put, dA]
  have X0 : X.tmps.getD 0 undef = .int .u16 n := by rw [← hX, getD_put, if_neg (by omega)]; exact A0
  have X2 : X.tmps.getD 2 undef = .pointer (some ⟨w.heap.size, 0, none⟩) := by rw [← hX, getD_put, if_neg (by omega)]; exact A2
  have X4 : X.tmps.getD 4 undef = .int .u16 n := by rw [← hX, getD_put, if_pos ⟨rfl, by rw [sA]; decide⟩]
  clear hX A0 A0' A2 dA sA
  have hB : (w.alloc (.cells (frmCells 0 noFrm) 66)).heap[w.heap.size]? = some (.cells (frmCells 0 noFrm) 66 (0, 0)) := alloc_new w _ _
  have hbel : Below w.heap.size w (w.alloc (.cells (frmCells 0 noFrm) 66)) := (Below.refl _ w).alloc (Nat.le_refl _) _
  generalize w.alloc (.cells (frmCells 0 noFrm) 66) = W at *
  have sw : ∀ c, formSwitch 68 66 Tryz.f33.ntmps c = some refT → ∀ Q, (∀ a' (d : Code) f, Agree 5 X a' → armForm 68 66 Tryz.f33.ntmps d = some f → lookF refT n = (f, true) → d.wp Tryz.prog Q a' W) → (∀ a', Agree 5 X a' → lookF refT n = (noFrm, false) → Q .normal a' W) → c.wp Tryz.prog Q X W := by
    intro c hc Q harm hno
    unfold formSwitch at hc
    split at hc
    case h_2 => cases hc
    rename_i l hl
    refine wp_arms (x := 4) (lo := 5) (n := n) (by omega) 200 c l X W hl sX X4 (fun a' k d hag hm e => ?_) (fun a' hag hn => ?_)
    · obtain ⟨f, h3, h5⟩ := formsOf_mem hc k d hm
      exact harm a' d f hag h3 (by rw [e]; exact lookF_mem h1 k f h5)
    · exact hno a' hag (lookF_none fun k s hm => by obtain ⟨c, hc⟩ := formsOf_keys hc k s hm; exact hn k c hc)
  refine sw _ (by kernel_rfl) _ (fun a' d f hag h3 h4 => ?_) (fun a' hag h4 => ?_)
  · exact wp_armForm (B := w.heap.size) (n := n) (fn := Tryz.f33) (R := fun e w' => e = .returned (.tuple #[ofV n, .bool (lookF refT n).2]) ∧ Below w.heap.size w w') h3 rfl (by decide) (hag.1.trans sX) (hag.2.1.trans dX) ((hag.2.2 0 (by omega)).trans X0) ((hag.2.2 2 (by omega)).trans X2) hB (fun w' hb => ⟨by rw [ofV, h4]; rfl, hbel.trans hb⟩) (fun a' w' h => h)
  · exact wp_noForm (top := Tryz.f33.ntmps) (B := w.heap.size) (fn := Tryz.f33) (R := fun e w' => e = .returned (.tuple #[ofV n, .bool (lookF refT n).2]) ∧ Below w.heap.size w w') rfl (by decide) (by decide) (by decide) (hag.1.trans sX) (hag.2.1.trans dX) ((hag.2.2 2 (by omega)).trans X2) hB (fun w' hb => ⟨by rw [ofV, h4]; rfl, hbel.trans hb⟩)

end Go.Proofs.YtonhnflilfjkbaaGreatDoor

/-
  What the switches over texts of the layer grammar answer: the text of the number, for every number.
-/
namespace Go.Proofs.YtonhnflilfjkbaaGreatDoor
open Go.RowKit
set_option maxRecDepth 10000

theorem namingText_any (n : Int) (w : World) : Calls Tryz.prog 119 #[.int .u16 n] w fun e w' => e = .returned (.string (lookT namingT n)) ∧ w = w' :=
  calls_textSwitch Tryz.func119 rfl rfl (by decide) rfl (by kernel_rfl) (by decide +kernel) n w

theorem makingText_any (n : Int) (w : World) : Calls Tryz.prog 120 #[.int .u16 n] w fun e w' => e = .returned (.string (lookT makingT n)) ∧ w = w' :=
  calls_textSwitch Tryz.func120 rfl rfl (by decide) rfl (by kernel_rfl) (by decide +kernel) n w

theorem countingText_any (n : Int) (w : World) : Calls Tryz.prog 121 #[.int .u16 n] w fun e w' => e = .returned (.string (lookT countingT n)) ∧ w = w' :=
  calls_textSwitch Tryz.func121 rfl rfl (by decide) rfl (by kernel_rfl) (by decide +kernel) n w

theorem comparingText_any (n : Int) (w : World) : Calls Tryz.prog 122 #[.int .u16 n] w fun e w' => e = .returned (.string (lookT comparingT n)) ∧ w = w' :=
  calls_textSwitch Tryz.func122 rfl rfl (by decide) rfl (by kernel_rfl) (by decide +kernel) n w

theorem bitText_any (n : Int) (w : World) : Calls Tryz.prog 123 #[.int .u16 n] w fun e w' => e = .returned (.string (lookT bitT n)) ∧ w = w' :=
  calls_textSwitch Tryz.func123 rfl rfl (by decide) rfl (by kernel_rfl) (by decide +kernel) n w

theorem flowText_any (n : Int) (w : World) : Calls Tryz.prog 124 #[.int .u16 n] w fun e w' => e = .returned (.string (lookT flowT n)) ∧ w = w' :=
  calls_textSwitch Tryz.func124 rfl rfl (by decide) rfl (by kernel_rfl) (by decide +kernel) n w

theorem enumText_any (n : Int) (w : World) : Calls Tryz.prog 151 #[.int .u8 n] w fun e w' => e = .returned (.string (lookT enumT n)) ∧ w = w' :=
  calls_textSwitch Tryz.func151 rfl rfl (by decide) rfl (by kernel_rfl) (by decide +kernel) n w

end Go.Proofs.YtonhnflilfjkbaaGreatDoor
